/- A drawn row: bits and as many chances. -/
import Derived.Test.YtahknoeloclofaaDraw
import Derived.Test.YtahknoeloclofaaBk
import Derived.Test.YtahknoeloclofaaMk
namespace Go.Proofs.Ytahknoeloclofaa
open Go.RowKit
set_option linter.unusedVariables false

/-- What an append leaves. -/
def AppP (w : World) (base : Nat) (v : Value) (zs : List Int) (v' : Value) (w' : World) : Prop :=
  Own w' base 3 .i64 v' zs ∧ w.grownBy w' v.ownBlock ∧ (v'.ownBlock = v.ownBlock ∨ v'.ownBlock = some w.heap.size)
theorem AppP.below {w w' : World} {base : Nat} {v v' : Value} {zs xs : List Int} (h : AppP w base v zs v' w') (ho : Own w base 3 .i64 v xs) : Below base w w' :=
  (Below.refl base w).grown h.2.1 ho.1 (fun g hg => (ho.2.lt g hg).1)
theorem run_app (P : Program) (w : World) (base : Nat) (t ty : TypeId) (i : TypeInfo) (ht : P.underlying t = some (.slice 3)) (hi : P.info? 3 = some i) (hz : i.zero = some (.int .i64 0)) (hsize : i.size = 1) (hby : i.bytes = 8)
    (g n cap : Nat) (xs : List Int) (hn : n = xs.length) (hown : Own w base 3 .i64 (.slice (some ⟨g, 0, none⟩) n cap) xs) (yb : Nat) (y : Value) (ys : List Int) (hy : Own w yb 3 .i64 y ys) (hlen : xs.length + ys.length < 1000000000000) :
    ∃ v' w', (Builtin.append_ #[t, t] ty #[.slice (some ⟨g, 0, none⟩) n cap, y]).run P w = .ok v' w' ∧ AppP w base (.slice (some ⟨g, 0, none⟩) n cap) (xs ++ ys) v' w' := by
  subst hn
  rcases hy.2.2 with ⟨rfl, h0⟩ | ⟨gy, cy, cury, rfl, _⟩
  · have : ys = [] := List.length_eq_zero_iff.1 h0
    subst this
    refine ⟨_, w, run_append_owned_none (P := P) (w := w) base t ty 3 i 1 ht hi _ xs.length _ hown.2, by simpa using hown, World.grownBy.refl w _, .inl rfl⟩
  · have hcell : ∀ j u, (ys.map (Value.int .i64))[j]? = some u → w.cell? ((⟨gy, 0, none⟩ : Addr).add j) = some u := by
      intro j u hj
      have hjl : j < ys.length := by have := (List.getElem?_eq_some_iff.1 hj).1; simpa using this
      rw [hy.cell rfl j hjl]
      simp [hjl] at hj
      rw [← hj]
      simp [List.getD, hjl]
    have hone : ∀ u ∈ ys.map (Value.int .i64), u.oneCell' = true := by
      intro u hu
      simp at hu
      obtain ⟨q, _, rfl⟩ := hu
      rfl
    have h63 : xs.length + ys.length ≤ maxLen := by unfold maxLen; omega
    have hbytes : (xs.length + ys.length) * 8 ≤ 140737488355328 := by omega
    obtain ⟨v', w', hr, h2, h3, _⟩ := run_append_own (P := P) w base t ty 3 i (.int .i64 0) 1 8 ht hi hz hsize hby rfl (by decide) _ xs.length _ hown.2 ⟨gy, 0, none⟩ ys.length cy (ys.map (Value.int .i64)) (by simp) hcell hone h63 hbytes hown.1
    refine ⟨v', w', hr, ⟨Nat.le_trans hown.1 h3.size, by simpa using h2⟩, h3, ?_⟩
    rcases hown.2.2 with ⟨h', _⟩ | ⟨g', cap', cur, h', hbg, hg, hnc, hcm, hcs, htake⟩
    · simp at h'
    · simp only [Value.slice.injEq, Option.some.injEq, Addr.mk.injEq, and_true, true_and] at h'
      obtain ⟨rfl, rfl⟩ := h'
      by_cases hroom : xs.length + ys.length ≤ cap
      · have hr2 := run_append_room (P := P) w t ty 3 i ht hi g xs.length cap cur hg ⟨gy, 0, none⟩ ys.length cy (ys.map (Value.int .i64)) (by simp [hsize]) hcell hone hroom (by rw [hsize, List.length_map]; omega)
        rw [hr2] at hr
        cases hr
        exact .inl rfl
      · have holds := hown.2.cells (g := g) rfl
        have hr2 := run_append_grow (P := P) w t ty 3 i (.int .i64 0) ht hi hz ⟨g, 0, none⟩ xs.length cap (xs.map (Value.int .i64)) (by simp [hsize]) holds ⟨gy, 0, none⟩ ys.length cy (ys.map (Value.int .i64)) (by simp [hsize]) hcell (by omega) (by unfold maxLen at h63; omega) (growslice_fits (by unfold maxLen at h63; omega) (by rw [hby]; exact hbytes))
        rw [hr2] at hr
        cases hr
        exact .inr rfl
theorem AppP.some {w w' : World} {base g n c : Nat} {v' : Value} {zs : List Int} (h : AppP w base (.slice (some ⟨g, 0, none⟩) n c) zs v' w') : ∃ g' c', v' = .slice (some ⟨g', 0, none⟩) zs.length c' := by
  rcases h.1.2.2 with ⟨rfl, _⟩ | ⟨g', c', cur, rfl, _⟩
  · rcases h.2.2 with h | h <;> simp [Value.ownBlock] at h
  · exact ⟨g', c', rfl⟩

theorem wpList_appX {P : Program} {ops : Array Oper} {rest : List Oper} {o : Oper} {a : Act} {Q : Exit → Act → World → Prop} (w : World) (hgd : o.guard = none) (s x : Operand) (t : TypeId)
    (ho : o.op = .call { callee := .builtin .append, args := #[s, x], argTypes := #[t, t] })
    (base : Nat) (ht : P.underlying t = some (.slice 3)) (hinfo : (P.info? 3).map (fun i => (i.zero, i.size, i.bytes)) = some (some (.int .i64 0), 1, 8))
    (g n c : Nat) (xs : List Int) (hs : a.eval s = .slice (some ⟨g, 0, none⟩) n c) (hown : Own w base 3 .i64 (.slice (some ⟨g, 0, none⟩) n c) xs) (yb : Nat) (y : Value) (ys : List Int) (hx : a.eval x = y) (hy : Own w yb 3 .i64 y ys)
    (hlen : xs.length + ys.length < 1000000000000) (h : ∀ v' w', AppP w base (.slice (some ⟨g, 0, none⟩) n c) (xs ++ ys) v' w' → wpList P ops Q rest (a.put o.dst v') w') : wpList P ops Q (o :: rest) a w := by
  refine wpList_plain hgd fun K hK => ?_
  obtain ⟨i, hi, hz0, hz1, hz2⟩ := info_parts hinfo
  have hn : n = xs.length := by
    obtain ⟨_, _, e⟩ := hown.shape
    cases e
    rfl
  obtain ⟨v', w', hr, hp⟩ := run_app P w base t o.type i ht hi hz0 hz1 hz2 g n c xs hn hown yb y ys hy hlen
  unfold Oper.wp execOp
  simp only [ho, resolve, invoke, builtin, Sem.run_bind, Sem.run_pure, Result.andThen_ok, List.map_toArray, List.map_cons, List.map_nil, hs, hx, hr]
  exact hK _ _ (h v' w' hp)
theorem Own.one (w : World) (y : Int) : Own (w.alloc (.cells #[.int .i64 y] 3)) w.heap.size 3 .i64 (.slice (some ⟨w.heap.size, 0, none⟩) 1 1) [y] :=
  ⟨by simp, by simp, .inr ⟨w.heap.size, 1, _, rfl, Nat.le_refl _, heap_alloc_new w _, Nat.le_refl _, by unfold maxLen; omega, by simp, by simp⟩⟩
theorem Own.grown {w w' : World} {base g n c g' : Nat} {xs : List Int} (h : Own w base 3 .i64 (.slice (some ⟨g, 0, none⟩) n c) xs) (hg : w.grownBy w' (some g')) (hne : g ≠ g') : Own w' base 3 .i64 (.slice (some ⟨g, 0, none⟩) n c) xs := by
  refine ⟨Nat.le_trans h.1 hg.size, h.2.1, ?_⟩
  rcases h.2.2 with h0 | ⟨k, cap, cur, hv, hk, hh, r⟩
  · exact .inl h0
  · simp only [Value.slice.injEq, Option.some.injEq, Addr.mk.injEq, and_true] at hv
    refine .inr ⟨k, cap, cur, by rw [hv.1, hv.2.1, hv.2.2], hk, (hg.block k (Array.getElem?_eq_some_iff.1 hh).1 (fun e => hne ?_)).trans hh, r⟩
    have := Option.some.inj e
    omega
theorem Cur.low {w0 w w' : World} {ao : Option Addr} {n cap C B : Nat} (h : Cur w0 ao n cap C w) (hb : Below B w w') (hC : C < B) : Cur w0 ao n cap C w' := by
  obtain ⟨h1, h2, i, x, hi, hh⟩ := h
  exact ⟨h1, h2.trans (hb.mono (by omega)), i, x, hi, (hb.block C hC).trans hh⟩

/-- Two own slices, apart from each other. -/
def Two (w : World) (base : Nat) (v u : Value) (bs ps : List Int) : Prop := ∃ g c g' c', v = .slice (some ⟨g, 0, none⟩) bs.length c ∧ u = .slice (some ⟨g', 0, none⟩) ps.length c' ∧ g ≠ g' ∧ Own w base 3 .i64 v bs ∧ Own w base 3 .i64 u ps
theorem bool_any (b : Bool) (w : World) : Calls Try.prog 63 #[.bool b] w fun e w' => e = .returned (.int .i64 (if b = true then 1 else 0)) ∧ w = w' := by
  cases b
  all_goals
    go_enter Try.func63, Try.ntmps63
    go_wp2
    go_ret
    exact ⟨rfl, rfl⟩
def pickCh : List Int := [1, 4095, 4000, 50]
theorem pickCh_ok (j : Nat) (hj : j < 4) : isCh (pickCh.getD j 0) = true := by
  obtain rfl | rfl | rfl | rfl : j = 0 ∨ j = 1 ∨ j = 2 ∨ j = 3 := by omega
  all_goals decide
theorem bitsOk_push {bs : List Int} {x : Int} (h : bitsOk bs) (hx : 0 ≤ x ∧ x ≤ 1) : bitsOk (bs ++ [x]) := by
  intro y hy
  rcases List.mem_append.1 hy with h1 | h1
  · exact h y h1
  · simp at h1
    rw [h1]
    exact hx
theorem chsOk_push {ps : List Int} {x : Int} (h : chsOk ps) (hx : isCh x = true) : chsOk (ps ++ [x]) := by
  intro y hy
  rcases List.mem_append.1 hy with h1 | h1
  · exact h y h1
  · simp at h1
    rw [h1]
    exact hx

set_option maxRecDepth 100000 in
set_option maxHeartbeats 3200000 in
theorem row_any (w0 : World) (ao : Option Addr) (n cap C : Nat) (zs : List Int) (m : Nat) (w : World) (hm : m ≤ 200) (hcode : Code w0 ao n zs) (hcur : Cur w0 ao n cap C w) :
    Calls Try.prog 35 #[.pointer (some ⟨C, 0, none⟩), .int .i64 m] w fun e w' => ∃ v u bs ps, e = .returned (.tuple #[v, u]) ∧ Rowy bs ps m ∧ Own w' w.heap.size 3 .i64 v bs ∧ Own w' w.heap.size 3 .i64 u ps ∧ Below C w w' := by
  have HC := hid hcode
  have hlt := hcur.lt
  have HU := hid hcur
  have T0 : Hid (Two ((w.alloc (.cells #[] 3)).alloc (.cells #[] 3)) w.heap.size (.slice (some ⟨w.heap.size, 0, none⟩) 0 0) (.slice (some ⟨w.heap.size + 1, 0, none⟩) 0 0) [] []) := by
    refine ⟨w.heap.size, 0, w.heap.size + 1, 0, rfl, rfl, by omega, ?_, ?_⟩
    · exact (Own.empty w 3 .i64 w.heap.size (Nat.le_refl _)).alloc _
    · have := Own.empty (w.alloc (.cells #[] 3)) 3 .i64 w.heap.size (by simp)
      rw [World.size_alloc] at this
      exact this
  have B0 := hid (((Below.refl w.heap.size w).alloc (Nat.le_refl _) (.cells #[] 3)).alloc (by simp) (.cells #[] 3))
  have C0 := hid (HU.out.below B0.out)
  clear hcode hcur HU
  go_enter Try.func35, Try.ntmps35
  go_wp2_with fail
  generalize (w.alloc (.cells #[] 3)).alloc (.cells #[] 3) = W1 at *
  go_loopw [6, 7, 8, 9] (fun v u p i wr => ∃ (k : Nat) (bs ps : List Int) (p0 : Int), k ≤ m ∧ i = .int .i64 k ∧ p = .int .i64 p0 ∧ Hid (bs.length = k ∧ ps.length = k ∧ bitsOk bs ∧ chsOk ps) ∧ Two wr w.heap.size v u bs ps ∧ Cur w0 ao n cap C wr ∧ Below C w wr) (fun _ _ _ i _ => m - (intOf i).toNat)
  case atStart => exact ⟨0, [], [], 2048, by omega, rfl, rfl, ⟨rfl, rfl, fun x hx => by simp at hx, fun x hx => by simp at hx⟩, T0.out, C0.out, B0.out.mono (Nat.le_of_lt hlt)⟩
  case round =>
    obtain ⟨k, bs, ps, p0, hk, rfl, rfl, hrec, hT, hCr, hBr⟩ := hrel
    clear T0 B0 C0
    have HT := hid hT
    have HCr := hid hCr
    have HBr := hid hBr
    obtain ⟨g, c, g', c', rfl, rfl, hgg, ho, ho'⟩ := hT
    have ho9 := hid ho
    have ho9' := hid ho'
    clear hCr hBr ho ho'
    by_cases hlt2 : k < m
    · have hlt' : (k : Int) < (m : Int) := by omega
      go_wp2_with fail
      refine (below_any w0 ao n cap C zs 4095 wr HC.out HCr.out).mono ?_
      rintro e w1 ⟨x, rfl, ⟨hx0, hx1⟩, hc1, he1⟩
      have hx2 : x < 4095 := by omega
      have HC1 := hid hc1
      have HE1 := hid he1
      clear hc1 he1 hx1
      go_wp2_with fail
      refine (once_any w0 ao n cap C zs 3 w1 HC.out HC1.out).mono ?_
      rintro e w2 ⟨bb, rfl, hc2, he2⟩
      have HC2 := hid hc2
      have HE2 := hid (HE1.out.trans he2)
      clear hc2 he2 HC1 HE1
      cases bb with
      | true =>
        go_wp2_with fail
        refine (pick_any w0 ao n cap C zs w2.heap.size 4 _ pickCh _ HC.out (HC2.out.below ((Below.refl _ _).alloc (Nat.le_refl _) _)) (by decide) rfl (by decide) HC2.out.lt ?_).mono ?_
        · intro j hj
          obtain rfl | rfl | rfl | rfl : j = 0 ∨ j = 1 ∨ j = 2 ∨ j = 3 := by omega
          all_goals simp [pickCh]
        · rintro e w3 ⟨j, hj, rfl, hc3, he3⟩
          have hY := hid (pickCh_ok j hj)
          generalize pickCh.getD j 0 = Y at *
          have HC3 := hid hc3
          have HE3 := hid ((HE2.out.alloc _).trans he3)
          clear hc3 he3 HC2 HE2
          have OB3 := hid (Eff.own ho9.out HE3.out hlt)
          have OP3 := hid (Eff.own ho9'.out HE3.out hlt)
          have BC3 := hid (HBr.out.trans (HE3.out.below (Nat.le_of_lt (Nat.lt_of_lt_of_le hlt ho9.out.1))))
          clear HE3
          go_wp2_with (at_builtin; refine wpList_appX (w3.alloc (.cells #[.int .i64 Y] 3)) rfl _ _ 24 rfl w.heap.size Try.underlying24 Try.info3 g' ps.length c' ps rfl (OP3.out.alloc _) w3.heap.size _ [Y] rfl (Own.one w3 Y) (by have := hrec.out.2.1; simp; omega) ?_)
          intro v4 w4 hA
          obtain ⟨g2, c2, rfl⟩ := hA.some
          have OB4 := hid ((OB3.out.alloc (.cells #[.int .i64 Y] 3)).grown hA.2.1 hgg)
          have OP4 := hid hA.1
          have hg2 : g ≠ g2 := by
            have h1 := (OB3.out.alloc (.cells #[.int .i64 Y] 3)).ge.2
            have h1' : g < (w3.alloc (.cells #[.int .i64 Y] 3)).heap.size := h1
            rcases hA.2.2 with h2 | h2
            · simp [Value.ownBlock] at h2; omega
            · simp only [Value.ownBlock, Option.some.injEq] at h2; omega
          have hbA := hA.below (OP3.out.alloc (.cells #[.int .i64 Y] 3))
          have C4 := hid ((HC3.out.below ((Below.refl _ _).alloc (Nat.le_refl _) (.cells #[.int .i64 Y] 3))).low hbA hlt)
          have B4 := hid ((BC3.out.trans (((Below.refl w3.heap.size w3).alloc (Nat.le_refl _) (.cells #[.int .i64 Y] 3)).mono (Nat.le_of_lt HC3.out.lt))).trans (hbA.mono (Nat.le_of_lt hlt)))
          clear hA hbA OB3 OP3 BC3 HC3
          go_wp2_with fail
          refine (below_any w0 ao n cap C zs 4096 w4 HC.out C4.out).mono ?_
          rintro e w5 ⟨x5, rfl, hx5, hc5, he5⟩
          have HC5 := hid hc5
          have OB5 := hid (Eff.own OB4.out he5 hlt)
          have OP5 := hid (Eff.own OP4.out he5 hlt)
          have BC5 := hid (B4.out.trans (he5.below (Nat.le_of_lt C4.out.lt)))
          have HBO := hid (bool_any (decide (x5 < Y)) w5)
          have HZ : Hid (0 ≤ (if decide (x5 < Y) = true then (1 : Int) else 0) ∧ (if decide (x5 < Y) = true then (1 : Int) else 0) ≤ 1) := by
            show _ ∧ _
            split <;> omega
          generalize (if decide (x5 < Y) = true then (1 : Int) else 0) = Z at *
          clear hc5 he5 hx5 OB4 OP4 B4 C4
          go_wp2_with fail
          refine HBO.out.mono ?_
          rintro e w6 ⟨rfl, rfl⟩
          go_wp2_with (at_builtin; refine wpList_appX (w5.alloc (.cells #[.int .i64 Z] 3)) rfl _ _ 24 rfl w.heap.size Try.underlying24 Try.info3 g bs.length c bs rfl (OB5.out.alloc _) w5.heap.size _ [Z] rfl (Own.one w5 Z) (by have := hrec.out.1; simp; omega) ?_)
          intro v7 w7 hA
          obtain ⟨g3, c3, rfl⟩ := hA.some
          have OP7 := hid ((OP5.out.alloc (.cells #[.int .i64 Z] 3)).grown hA.2.1 (fun e => hg2 e.symm))
          have OB7 := hid hA.1
          have hg3 : g3 ≠ g2 := by
            have h1 := (OP5.out.alloc (.cells #[.int .i64 Z] 3)).ge.2
            have h1' : g2 < (w5.alloc (.cells #[.int .i64 Z] 3)).heap.size := h1
            rcases hA.2.2 with h2 | h2
            · simp [Value.ownBlock] at h2; omega
            · simp only [Value.ownBlock, Option.some.injEq] at h2; omega
          have hbA := hA.below (OB5.out.alloc (.cells #[.int .i64 Z] 3))
          have C7 := hid ((HC5.out.below ((Below.refl _ _).alloc (Nat.le_refl _) (.cells #[.int .i64 Z] 3))).low hbA hlt)
          have B7 := hid ((BC5.out.trans (((Below.refl w5.heap.size w5).alloc (Nat.le_refl _) (.cells #[.int .i64 Z] 3)).mono (Nat.le_of_lt HC5.out.lt))).trans (hbA.mono (Nat.le_of_lt hlt)))
          have T7 : Hid (Two w7 w.heap.size (.slice (some ⟨g3, 0, none⟩) (bs ++ [Z]).length c3) (.slice (some ⟨g2, 0, none⟩) (ps.length + 1) c2) (bs ++ [Z]) (ps ++ [Y])) := ⟨g3, c3, g2, c2, rfl, by simp, hg3, OB7.out, by simpa using OP7.out⟩
          have HR7 : Hid ((bs ++ [Z]).length = k + 1 ∧ (ps ++ [Y]).length = k + 1 ∧ bitsOk (bs ++ [Z]) ∧ chsOk (ps ++ [Y])) := ⟨by simp [hrec.out.1], by simp [hrec.out.2.1], bitsOk_push hrec.out.2.2.1 HZ.out, chsOk_push hrec.out.2.2.2 hY.out⟩
          clear hA hbA OB5 OP5 BC5 HC5 OB7 OP7
          go_wp2_with fail
          go_roundw
          case rel => exact ⟨k + 1, _, _, Y, by omega, by go_num, rfl, HR7.out, T7.out, C7.out, B7.out⟩
          case measure => simp [intOf]; omega
      | false =>
        obtain ⟨Y, hYe⟩ : ∃ Y, 1 + x = Y := ⟨_, rfl⟩
        have hY : Hid (isCh Y = true) := (isCh_iff Y).2 ⟨by omega, by omega⟩
        rw [hYe]
        clear hYe
        have HC3 := hid HC2.out
        have HE3 := hid HE2.out
        clear HC2 HE2
        have OB3 := hid (Eff.own ho9.out HE3.out hlt)
        have OP3 := hid (Eff.own ho9'.out HE3.out hlt)
        have BC3 := hid (HBr.out.trans (HE3.out.below (Nat.le_of_lt (Nat.lt_of_lt_of_le hlt ho9.out.1))))
        clear HE3
        go_wp2_with (at_builtin; refine wpList_appX (w2.alloc (.cells #[.int .i64 Y] 3)) rfl _ _ 24 rfl w.heap.size Try.underlying24 Try.info3 g' ps.length c' ps rfl (OP3.out.alloc _) w2.heap.size _ [Y] rfl (Own.one w2 Y) (by have := hrec.out.2.1; simp; omega) ?_)
        intro v4 w4 hA
        obtain ⟨g2, c2, rfl⟩ := hA.some
        have OB4 := hid ((OB3.out.alloc (.cells #[.int .i64 Y] 3)).grown hA.2.1 hgg)
        have OP4 := hid hA.1
        have hg2 : g ≠ g2 := by
          have h1 := (OB3.out.alloc (.cells #[.int .i64 Y] 3)).ge.2
          have h1' : g < (w2.alloc (.cells #[.int .i64 Y] 3)).heap.size := h1
          rcases hA.2.2 with h2 | h2
          · simp [Value.ownBlock] at h2; omega
          · simp only [Value.ownBlock, Option.some.injEq] at h2; omega
        have hbA := hA.below (OP3.out.alloc (.cells #[.int .i64 Y] 3))
        have C4 := hid ((HC3.out.below ((Below.refl _ _).alloc (Nat.le_refl _) (.cells #[.int .i64 Y] 3))).low hbA hlt)
        have B4 := hid ((BC3.out.trans (((Below.refl w2.heap.size w2).alloc (Nat.le_refl _) (.cells #[.int .i64 Y] 3)).mono (Nat.le_of_lt HC3.out.lt))).trans (hbA.mono (Nat.le_of_lt hlt)))
        clear hA hbA OB3 OP3 BC3 HC3
        go_wp2_with fail
        refine (below_any w0 ao n cap C zs 4096 w4 HC.out C4.out).mono ?_
        rintro e w5 ⟨x5, rfl, hx5, hc5, he5⟩
        have HC5 := hid hc5
        have OB5 := hid (Eff.own OB4.out he5 hlt)
        have OP5 := hid (Eff.own OP4.out he5 hlt)
        have BC5 := hid (B4.out.trans (he5.below (Nat.le_of_lt C4.out.lt)))
        have HBO := hid (bool_any (decide (x5 < Y)) w5)
        have HZ : Hid (0 ≤ (if decide (x5 < Y) = true then (1 : Int) else 0) ∧ (if decide (x5 < Y) = true then (1 : Int) else 0) ≤ 1) := by
          show _ ∧ _
          split <;> omega
        generalize (if decide (x5 < Y) = true then (1 : Int) else 0) = Z at *
        clear hc5 he5 hx5 OB4 OP4 B4 C4
        go_wp2_with fail
        refine HBO.out.mono ?_
        rintro e w6 ⟨rfl, rfl⟩
        go_wp2_with (at_builtin; refine wpList_appX (w5.alloc (.cells #[.int .i64 Z] 3)) rfl _ _ 24 rfl w.heap.size Try.underlying24 Try.info3 g bs.length c bs rfl (OB5.out.alloc _) w5.heap.size _ [Z] rfl (Own.one w5 Z) (by have := hrec.out.1; simp; omega) ?_)
        intro v7 w7 hA
        obtain ⟨g3, c3, rfl⟩ := hA.some
        have OP7 := hid ((OP5.out.alloc (.cells #[.int .i64 Z] 3)).grown hA.2.1 (fun e => hg2 e.symm))
        have OB7 := hid hA.1
        have hg3 : g3 ≠ g2 := by
          have h1 := (OP5.out.alloc (.cells #[.int .i64 Z] 3)).ge.2
          have h1' : g2 < (w5.alloc (.cells #[.int .i64 Z] 3)).heap.size := h1
          rcases hA.2.2 with h2 | h2
          · simp [Value.ownBlock] at h2; omega
          · simp only [Value.ownBlock, Option.some.injEq] at h2; omega
        have hbA := hA.below (OB5.out.alloc (.cells #[.int .i64 Z] 3))
        have C7 := hid ((HC5.out.below ((Below.refl _ _).alloc (Nat.le_refl _) (.cells #[.int .i64 Z] 3))).low hbA hlt)
        have B7 := hid ((BC5.out.trans (((Below.refl w5.heap.size w5).alloc (Nat.le_refl _) (.cells #[.int .i64 Z] 3)).mono (Nat.le_of_lt HC5.out.lt))).trans (hbA.mono (Nat.le_of_lt hlt)))
        have T7 : Hid (Two w7 w.heap.size (.slice (some ⟨g3, 0, none⟩) (bs ++ [Z]).length c3) (.slice (some ⟨g2, 0, none⟩) (ps.length + 1) c2) (bs ++ [Z]) (ps ++ [Y])) := ⟨g3, c3, g2, c2, rfl, by simp, hg3, OB7.out, by simpa using OP7.out⟩
        have HR7 : Hid ((bs ++ [Z]).length = k + 1 ∧ (ps ++ [Y]).length = k + 1 ∧ bitsOk (bs ++ [Z]) ∧ chsOk (ps ++ [Y])) := ⟨by simp [hrec.out.1], by simp [hrec.out.2.1], bitsOk_push hrec.out.2.2.1 HZ.out, chsOk_push hrec.out.2.2.2 hY.out⟩
        clear hA hbA OB5 OP5 BC5 HC5 OB7 OP7
        go_wp2_with fail
        go_roundw
        case rel => exact ⟨k + 1, _, _, Y, by omega, by go_num, rfl, HR7.out, T7.out, C7.out, B7.out⟩
        case measure => simp [intOf]; omega
    · obtain rfl : k = m := by omega
      clear hlt2
      have OB := hid HT.out
      go_wp2_with fail
      go_ret2
      obtain ⟨g1, c1, g1', c1', e1, e2, _, o1, o2⟩ := OB.out
      exact ⟨_, _, bs, ps, rfl, ⟨hrec.out.1, hrec.out.2.1, by omega, hrec.out.2.2.1, hrec.out.2.2.2⟩, o1, o2, HBr.out⟩
end Go.Proofs.Ytahknoeloclofaa
