/- The contract of the specification's ReadAll. -/
import Derived.Test.YtahknoeloclofaaRm
import Derived.Deep.CutRange
namespace Go.Proofs.Ytahknoeloclofaa
open Go.RowKit
set_option linter.unusedVariables false

theorem ownBlock_ne {w : World} {base G : Nat} {v : Value} {xs : List Int} {l : List Value} {t : TypeId} (h : Own w base 3 .i64 v xs) (hB : Blk w G l t) (ht : t ≠ 3) : v.ownBlock ≠ some G := by
  rcases h.2.2 with ⟨rfl, _⟩ | ⟨g, cap, cur, rfl, hg, hh, r⟩
  · simp [Value.ownBlock]
  · intro e
    simp [Value.ownBlock] at e
    subst e
    unfold Blk at hB
    rw [hB] at hh
    simp at hh
    exact ht hh.2
theorem Own.set_other {w : World} {base G i : Nat} {v u : Value} {xs : List Int} {l : List Value} {t : TypeId} (h : Own w base 3 .i64 v xs) (hB : Blk w G l t) (ht : t ≠ 3) : Own (w.setCell ⟨G, i, none⟩ u) base 3 .i64 v xs := by
  have hne := ownBlock_ne h hB ht
  refine ⟨by have := h.1; simpa [World.setCell] using this, h.2.1, ?_⟩
  rcases h.2.2 with h0 | ⟨g, cap, cur, rfl, hg, hh, r⟩
  · exact .inl h0
  · refine .inr ⟨g, cap, cur, rfl, hg, (heap_setCell_other w ⟨G, i, none⟩ g u (fun e => hne ?_)).trans hh, r⟩
    simp [Value.ownBlock]
    exact e
/-- 'append(out, y)' where other rows, of another type, stay. -/
theorem wpList_pushk {P : Program} {ops : Array Oper} {rest : List Oper} {o : Oper} {a : Act} {Q : Exit → Act → World → Prop} (w : World) (g : Nat) (hgs : w.heap.size = g) (hgd : o.guard = none) (s x : Operand) (t : TypeId)
    (ho : o.op = .call { callee := .builtin .append, args := #[s, x], argTypes := #[t, t] })
    (base : Nat) (z : Int) (bytes : Nat) (ht : P.underlying t = some (.slice 3)) (hinfo : (P.info? 3).map (fun i => (i.zero, i.size, i.bytes)) = some (some (.int .i64 z), 1, bytes))
    (v : Value) (xs : List Int) (hs : a.eval s = v) (hown : Own w base 3 .i64 v xs) (y : Int) (hx : a.eval x = .slice (some ⟨g, 0, none⟩) 1 1)
    (hlen : xs.length < 1000000000000) (hbytes : bytes ≤ 8)
    (h : ∀ v' w', Own w' base 3 .i64 v' (xs ++ [y]) → Below base w w' → (∀ G l t, t ≠ 3 → Blk w G l t → Blk w' G l t) → wpList P ops Q rest (a.put o.dst v') w') : wpList P ops Q (o :: rest) a (w.alloc (.cells #[.int .i64 y] 3)) := by
  subst hgs
  obtain ⟨i, hi, hz0, hz1, hz2⟩ := info_parts hinfo
  have hb := hown.1
  have hlt := hown.2.lt
  have hmul : (xs.length + 1) * bytes ≤ (xs.length + 1) * 8 := Nat.mul_le_mul_left _ hbytes
  refine wpList_append_own _ hgd s x t ho base 3 i (.int .i64 z) 1 bytes ht hi hz0 hz1 hz2 rfl (by decide) v xs.length _ hs (hown.2.alloc _) ⟨w.heap.size, 0, none⟩ 1 1 [.int .i64 y] hx rfl ?_ ?_ (by unfold maxLen; omega) (by omega) (Nat.le_trans hb (by simp)) ?_
  · intro j u hj
    match j, hj with
    | 0, hj => simp at hj; subst hj; simp [Addr.add]
  · intro u hu; simp at hu; subst hu; rfl
  · intro v' w' hown' hgrow _
    refine h v' w' ⟨Nat.le_trans hb (Nat.le_trans (by simp) hgrow.size), ?_⟩ ?_ ?_
    · simpa using hown'
    · exact ((Below.refl base w).alloc hb _).grown hgrow (Nat.le_trans hb (by simp)) (fun g hg => (hlt g hg).1)
    · intro G l t ht hB
      have hB1 := hB.below ((Below.refl w.heap.size w).alloc (Nat.le_refl _) (.cells #[.int .i64 y] 3)) hB.lt
      exact (hgrow.block G hB1.lt (fun e => ownBlock_ne hown hB ht e.symm)).trans hB1

set_option maxRecDepth 100000 in
set_option maxHeartbeats 3200000 in
theorem spec_read_yes (s : ByteArray) (bo : Option Addr) (cap n : Nat) (ps : List Int) (w : World) (hs : s.size ≤ 1048576) (hn : n ≤ 480000) (hu : View .i64 w bo n ps) :
    Calls Try.prog 31 #[.string s, .slice bo n cap] w fun e w' => ∃ v, e = .returned (.tuple #[v, .bool (readY (rAt s ps n)).2]) ∧ Own w' w.heap.size 3 .i64 v (readY (rAt s ps n)).1 ∧ Below w.heap.size w w' := by
  have HS := hid (fun q => spec_rstart s q hs)
  have HU := hid hu
  have h1 : ¬ (480000 : Int) < (n : Int) := by omega
  have HN := hid hn
  have H8 := hid hs
  obtain ⟨R, hR⟩ : ∃ R, readY (rAt s ps n) = R := ⟨_, rfl⟩
  have HR := hid hR
  rw [hR]
  obtain ⟨RL, RB⟩ := R
  have HZ := hid (RI.zero s ps)
  generalize code0 s = C0 at *
  clear hu hn hR hs
  unfold rV at HS
  go_enter Try.func31, Try.ntmps31
  have HOE := hid (Own.empty w 3 .i64 w.heap.size (Nat.le_refl _))
  have HBE := hid ((Below.refl w.heap.size w).alloc (Nat.le_refl _) (.cells #[] 3))
  go_wp2_with fail
  refine (HS.out _).mono ?_
  generalize w.alloc (.cells #[] 3) = W0 at *
  rintro e w1 ⟨rfl, hb1⟩
  have hz := hid ((Below.refl w1.heap.size w1).alloc (Nat.le_refl _) (.cells #[.int .u32 0, .int .u32 4294967295, .int .u32 C0, .string s, .int .i64 4] 48))
  have B1 := hid ((HBE.out.trans (hb1.mono HBE.out.size)).trans (hz.out.mono (Nat.le_trans HBE.out.size hb1.size)))
  have R1 := hid (Blk.new w1 [.int .u32 0, .int .u32 4294967295, .int .u32 C0, .string s, .int .i64 4] 48)
  have O1 := hid ((HOE.out.below hb1).below hz.out)
  have hG := hid (Nat.le_trans HBE.out.size hb1.size)
  have TG : Hid (∃ tt, (w1.alloc (.cells #[.int .u32 0, .int .u32 4294967295, .int .u32 C0, .string s, .int .i64 4] 48)).heap.size = tt) := ⟨_, rfl⟩
  clear hb1 hz HS HOE HBE
  go_wp2_with fail
  generalize w1.alloc (.cells #[.int .u32 0, .int .u32 4294967295, .int .u32 C0, .string s, .int .i64 4] 48) = W1 at *
  generalize w1.heap.size = G at *
  go_loopw [6, 8] (fun v i wr => ∃ (k : Nat) (o : List Int) (r : RSt), k ≤ n ∧ i = .int .i64 k ∧ Hid (RI s ps k o r) ∧ Blk wr G (rCs r.lo r.hi r.co s r.at') 48 ∧ Own wr w.heap.size 3 .i64 v o ∧ Below w.heap.size w wr) (fun _ i _ => n - (intOf i).toNat)
  case atStart => exact ⟨0, [], _, by omega, rfl, HZ.out, R1.out, O1.out, B1.out⟩
  case round =>
    obtain ⟨k, o, r, hk, rfl, hrec, hBk, hOw, hBe⟩ := hrel
    clear R1 O1 B1 HZ TG
    have HBk := hid hBk
    have HOw := hid hOw
    have HBr := hid hBe
    obtain ⟨vo, vc, rfl⟩ := hOw.shape
    have p0 : wr.cell? ⟨G, 0, none⟩ = some (.int .u32 r.lo) := hBk.cell rfl
    have p1 : wr.cell? ⟨G, 1, none⟩ = some (.int .u32 r.hi) := hBk.cell rfl
    have p2 : wr.cell? ⟨G, 2, none⟩ = some (.int .u32 r.co) := hBk.cell rfl
    have p3 : wr.cell? ⟨G, 3, none⟩ = some (.string s) := hBk.cell rfl
    have p4 : wr.cell? ⟨G, 4, none⟩ = some (.int .i64 r.at') := hBk.cell rfl
    have hltG : G < wr.heap.size := hBk.lt
    have hneG : ¬ G = wr.heap.size := Nat.ne_of_lt hBk.lt
    have hol : o.length < 1000000000000 := by have := hrec.out.2.2; have := HN.out; omega
    clear hBk hOw hBe
    by_cases hlt : k < n
    · have hlt' : (k : Int) < (n : Int) := by omega
      obtain ⟨b', off', rfl, hc'⟩ := HU.out.2 k hlt
      have hcr' : wr.cell? ⟨b', off' + k, none⟩ = some (.int .i64 (ps.getD k 0)) := (HBr.out.cell (p := ⟨b', off' + k, none⟩) (World.block_lt_of_cell? w _ hc')).trans hc'
      have hltb : b' < wr.heap.size := World.block_lt_of_cell? wr _ hcr'
      have hneb : ¬ b' = wr.heap.size := Nat.ne_of_lt hltb
      have HGE := hid (fun q => spec_get r.lo r.hi r.co s r.at' (ps.getD k 0) q hrec.out.2.1.1 hrec.out.2.1.2.1 hrec.out.2.1.2.2 H8.out)
      clear hc'
      obtain ⟨X, hX⟩ : ∃ X, rRes r.lo r.hi r.co s r.at' (ps.getD k 0) = X := ⟨_, rfl⟩
      obtain ⟨x, y, z, t, j, kk, hXX⟩ : ∃ x y z t j kk, X = .tuple #[rV x y z t j, .int .i64 kk] := by
        rw [← hX]
        unfold rRes
        split
        · exact ⟨_, _, _, _, _, _, rfl⟩
        · exact ⟨_, _, _, _, _, _, rfl⟩
      subst hXX
      have HX := hid hX
      rw [hX] at HGE
      clear hX
      obtain ⟨Y, hY⟩ : ∃ Y, ps.getD k 0 = Y := ⟨_, rfl⟩
      have HY := hid hY
      rw [hY] at HGE hcr' HX
      clear hY
      unfold rV at HGE HX
      go_wp2_with fail
      have HZ0 : Hid (Blk (wr.alloc (.cells #[.int .u32 0, .int .u32 0, .int .u32 0, .string ⟨#[]⟩, .int .i64 0] 48)).drew wr.heap.size [.int .u32 0, .int .u32 0, .int .u32 0, .string ⟨#[]⟩, .int .i64 0] 48) := Blk.new wr [.int .u32 0, .int .u32 0, .int .u32 0, .string ⟨#[]⟩, .int .i64 0] 48
      have HZB : Hid (Below wr.heap.size wr (wr.alloc (.cells #[.int .u32 0, .int .u32 0, .int .u32 0, .string ⟨#[]⟩, .int .i64 0] 48)).drew) := belowN ((Below.refl wr.heap.size wr).alloc (Nat.le_refl _) _) 1
      go_cut [9, 10] from 18 to 40 (fun p q wx => ∃ N, p = .pointer (some ⟨N, 0, none⟩) ∧ q = .int .i64 kk ∧ Blk wx N [.int .u32 x, .int .u32 y, .int .u32 z, .string t, .int .i64 j] 48 ∧ N ≠ G ∧ Below wr.heap.size wr wx)
      case first =>
        go_region_with (first
          | (go_at_call 25; refine (HGE.out ((wr.alloc (.cells #[.int .u32 0, .int .u32 0, .int .u32 0, .string ⟨#[]⟩, .int .i64 0] 48)).drew)).mono ?_; rintro e w2 ⟨rfl, hb2⟩; have HZ2 := hid (HZ0.out.below hb2 HZ0.out.lt); have c0 := HZ2.out.cell (i := 0) rfl; have c1 := HZ2.out.cell (i := 1) rfl; have c2 := HZ2.out.cell (i := 2) rfl; have c3 := HZ2.out.cell (i := 3) rfl; have c4 := HZ2.out.cell (i := 4) rfl; have f0 := HZ2.out.free 0; have f1 := HZ2.out.free 1; have f2 := HZ2.out.free 2; have f3 := HZ2.out.free 3; have f4 := HZ2.out.free 4; have hb3 := HZB.out.trans (hb2.mono HZB.out.size))
          | (go_at_call 25; refine (HGE.out wr.drew).mono ?_; rintro e w2 ⟨rfl, hb2⟩; have hb3 := (belowN (Below.refl wr.heap.size wr) 1).trans hb2))
        all_goals
          go_wp2_with fail
          go_meet
          have hsz := hb3.size
          first
            | (refine ⟨w2.heap.size, ?_, ?_⟩
               · rfl
               · exact ⟨rfl, Blk.new w2 [.int .u32 x, .int .u32 y, .int .u32 z, .string t, .int .i64 j] 48, (by omega), hb3.alloc hsz _⟩)
            | (refine ⟨wr.heap.size, ?_, ?_⟩
               · rfl
               · exact ⟨rfl, ((((HZ2.out.set 0 _).set 1 _).set 2 _).set 3 _).set 4 _, (fun e => hneG e.symm), ((((hb3.setCell (p := ⟨wr.heap.size, 0, none⟩) (Nat.le_refl _) _).setCell (p := ⟨wr.heap.size, 1, none⟩) (Nat.le_refl _) _).setCell (p := ⟨wr.heap.size, 2, none⟩) (Nat.le_refl _) _).setCell (p := ⟨wr.heap.size, 3, none⟩) (Nat.le_refl _) _).setCell (p := ⟨wr.heap.size, 4, none⟩) (Nat.le_refl _) _⟩)
      case rest =>
        obtain ⟨N, rfl, rfl, hN, hNG, hbx⟩ := hcut
        have HB2 := hid (HBr.out.trans (hbx.mono HBr.out.size))
        have HK2 := hid (HBk.out.below hbx HBk.out.lt)
        have HO2 := hid (HOw.out.below hbx)
        have c0 := hN.cell (i := 0) rfl
        have c1 := hN.cell (i := 1) rfl
        have c2 := hN.cell (i := 2) rfl
        have c3 := hN.cell (i := 3) rfl
        have c4 := hN.cell (i := 4) rfl
        have r0 := HK2.out.cell (i := 0) rfl
        have r1 := HK2.out.cell (i := 1) rfl
        have r2 := HK2.out.cell (i := 2) rfl
        have r3 := HK2.out.cell (i := 3) rfl
        have r4 := HK2.out.cell (i := 4) rfl
        have y0 := HK2.out.free 0
        have y1 := HK2.out.free 1
        have y2 := HK2.out.free 2
        have y3 := HK2.out.free 3
        have y4 := HK2.out.free 4
        generalize hwc : wc = w2 at *
        clear hwc hN hbx p0 p1 p2 p3 p4 hcr' HGE HZ0 HZB hltG hneG hltb hneb
        cases hg : okG r Y with
        | true =>
          have e1 := HX.out
          rw [rRes_yes hg] at e1
          unfold rV at e1
          simp only [Value.tuple.injEq, Array.mk.injEq, List.cons.injEq, Value.agg.injEq, Value.int.injEq, Value.string.injEq, true_and, and_true] at e1
          obtain ⟨⟨rfl, rfl, rfl, rfl, rfl⟩, rfl⟩ := e1
          have HNX := hid (hrec.out.next (by rw [HY.out]; exact hg))
          rw [HY.out] at HNX
          have hbb : ¬ rBit r.lo r.hi r.co Y < 0 := by rcases rBit_in r.lo r.hi r.co Y with h | h <;> omega
          clear hg
          generalize rBit r.lo r.hi r.co Y = BB at *
          generalize rNext s r Y = rn at *
          have b0 := HK2.out.set 0 (.int .u32 rn.lo)
          have b1 := b0.set 1 (.int .u32 rn.hi)
          have b2 := b1.set 2 (.int .u32 rn.co)
          have b3 := b2.set 3 (.string s)
          have HK3 := hid (b3.set 4 (.int .i64 rn.at'))
          have HO3 := hid (((((HO2.out.set_other (i := 0) (u := .int .u32 rn.lo) HK2.out (by decide)).set_other (i := 1) (u := .int .u32 rn.hi) b0 (by decide)).set_other (i := 2) (u := .int .u32 rn.co) b1 (by decide)).set_other (i := 3) (u := .string s) b2 (by decide)).set_other (i := 4) (u := .int .i64 rn.at') b3 (by decide))
          have HB3 := hid (((((HB2.out.setCell (p := ⟨G, 0, none⟩) hG.out (.int .u32 rn.lo)).setCell (p := ⟨G, 1, none⟩) hG.out (.int .u32 rn.hi)).setCell (p := ⟨G, 2, none⟩) hG.out (.int .u32 rn.co)).setCell (p := ⟨G, 3, none⟩) hG.out (.string s)).setCell (p := ⟨G, 4, none⟩) hG.out (.int .i64 rn.at'))
          clear b0 b1 b2 b3
          go_wp2_with (at_builtin; refine wpList_pushk _ w2.heap.size (by simp) rfl _ _ 24 rfl w.heap.size 0 8 Try.underlying24 Try.info3 _ o rfl HO3.out BB rfl hol (by decide) ?_)
          intro v3 w3 hO4 hb4 hkeep
          have HO4 := hid hO4
          have HK4 := hid (hkeep _ _ _ (by decide) HK3.out)
          have HB4 := hid (HB3.out.trans hb4)
          clear hO4 hb4 hkeep
          go_wp2_with fail
          go_roundw
          case rel => exact ⟨k + 1, _, rn, by omega, by go_num, HNX.out, HK4.out, HO4.out, HB4.out⟩
          case measure => simp [intOf]; omega
        | false =>
          have e1 := HX.out
          rw [rRes_no hg] at e1
          unfold rV at e1
          simp only [Value.tuple.injEq, Array.mk.injEq, List.cons.injEq, Value.agg.injEq, Value.int.injEq, Value.string.injEq, true_and, and_true] at e1
          obtain ⟨⟨rfl, rfl, rfl, rfl, rfl⟩, rfl⟩ := e1
          have HE : Hid (RL = [] ∧ RB = false) := by
            have h1 := rAt_none (rAt_stop hrec.out.1 (by rw [HY.out]; exact hg)) (n - (k + 1))
            rw [show k + 1 + (n - (k + 1)) = n by omega] at h1
            have h2 := HR.out
            rw [h1] at h2
            cases h2
            exact ⟨rfl, rfl⟩
          obtain ⟨rfl, rfl⟩ := HE.out
          clear hg HE
          go_wp2_with fail
          go_ret2
          exact ⟨_, rfl, Own.empty w2 3 .i64 w.heap.size HB2.out.size, HB2.out.alloc HB2.out.size _⟩
    · obtain rfl : k = n := by omega
      have HE : Hid (RL = o ∧ RB = true) := by
        have h2 := HR.out
        rw [hrec.out.1] at h2
        cases h2
        exact ⟨rfl, rfl⟩
      obtain ⟨rfl, rfl⟩ := HE.out
      clear HE hlt hk
      go_wp2_with fail
      go_ret2
      exact ⟨_, rfl, HOw.out, HBr.out⟩

theorem spec_read (s : ByteArray) (bo : Option Addr) (cap : Nat) (ps : List Int) (w : World) (hs : s.size ≤ 1048576) (hu : View .i64 w bo ps.length ps) :
    Calls Try.prog 31 #[.string s, .slice bo ps.length cap] w fun e w' => ∃ v, e = .returned (.tuple #[v, .bool (readR s ps).2]) ∧ Own w' w.heap.size 3 .i64 v (readR s ps).1 ∧ Below w.heap.size w w' := by
  unfold readR
  by_cases h : 480000 < ps.length
  · rw [if_pos h]
    have h1 : (480000 : Int) < (ps.length : Int) := by omega
    clear h hu hs
    generalize ps.length = n at *
    go_enter Try.func31, Try.ntmps31
    go_wp2_with fail
    go_ret2
    exact ⟨_, rfl, Own.empty w 3 .i64 w.heap.size (Nat.le_refl _), (Below.refl _ _).alloc (Nat.le_refl _) _⟩
  · rw [if_neg h]
    exact spec_read_yes s bo cap ps.length ps w hs (by omega) hu
end Go.Proofs.Ytahknoeloclofaa
