/- Drawn codes. -/
import Derived.Test.YtmdmolofiblbmaaDk
namespace Go.Proofs.Ytmdmolofiblbmaa
open Go.RowKit
set_option linter.unusedVariables false

theorem step_pushA {P : Program} {ops : Array Oper} {o : Oper} {a : Act} {K : Act → World → Prop} {Q : Exit → Act → World → Prop} {X : Prop} (w : World) (hgd : o.guard = none) (s x : Operand) (t : TypeId)
    (ho : o.op = .call { callee := .builtin .append, args := #[s, x], argTypes := #[t, t] })
    (base : Nat) (e : TypeId) (k : IntKind) (z : Int) (bytes : Nat) (ht : P.underlying t = some (.slice e)) (hinfo : (P.info? e).map (fun i => (i.zero, i.size, i.bytes)) = some (some (.int k z), 1, bytes))
    (v : Value) (xs : List Int) (hs : a.eval s = v) (hown : Own w base e k v xs) (y : Int) (hx : a.eval x = .slice (some ⟨w.heap.size, 0, none⟩) 1 1)
    (hlen : xs.length < 1000000000000) (hbytes : bytes ≤ 8)
    (h : ∀ v' w', Own w' base e k v' (xs ++ [y]) → Below base w w' → (∀ g, g < w.heap.size → some g ≠ v.ownBlock → w'.heap[g]? = w.heap[g]?) → (v'.ownBlock = v.ownBlock ∨ ∃ g, v'.ownBlock = some g ∧ w.heap.size ≤ g) → K (a.put o.dst v') w') :
    if Region.wanted o (yielded ops a.tmps) = true then Oper.wp P o a (w.alloc (.cells #[.int k y] e)) K Q else X := by
  have hw : Region.wanted o (yielded ops a.tmps) = true := by simp [Region.wanted, hgd]
  rw [if_pos hw]
  obtain ⟨i, hi, hz0, hz1, hz2⟩ := info_parts hinfo
  have hb := hown.1
  have hlt := hown.2.lt
  have hmul : (xs.length + 1) * bytes ≤ (xs.length + 1) * 8 := Nat.mul_le_mul_left _ hbytes
  obtain ⟨v', w', hr, hown', hgrow, _, hat⟩ := run_append_own_at (P := P) (w.alloc (.cells #[.int k y] e)) base t o.type e i (.int k z) 1 bytes ht hi hz0 hz1 hz2 rfl (by decide) v xs.length _ (hown.2.alloc _) ⟨w.heap.size, 0, none⟩ 1 1 [.int k y] rfl (by
    intro j u hj
    match j, hj with
    | 0, hj => simp at hj; subst hj; simp [Addr.add]) (by intro u hu; simp at hu; subst hu; rfl) (by unfold maxLen; omega) (by omega) (Nat.le_trans hb (by simp))
  unfold Oper.wp execOp
  simp only [ho, resolve, invoke, builtin, Sem.run_bind, Sem.run_pure, Result.andThen_ok, List.map_toArray, List.map_cons, List.map_nil, hs, hx, hr]
  refine h v' w' ⟨Nat.le_trans hb (Nat.le_trans (by simp) hgrow.size), ?_⟩ ?_ ?_ ?_
  · simpa using hown'
  · exact ((Below.refl base w).alloc hb _).grown hgrow (Nat.le_trans hb (by simp)) (fun g hg => (hlt g hg).1)
  · intro g hg hne
    exact (hgrow.block g (Nat.lt_trans hg (by simp)) hne).trans (((Below.refl w.heap.size w).alloc (Nat.le_refl _) _).block g hg)
  · rcases hat with h1 | h1
    · exact .inl h1
    · exact .inr ⟨_, h1, by simp⟩
theorem pick_blk (w0 : World) (ao : Option Addr) (n cap C : Nat) (zs : List Int) (b k : Nat) (ys : List Int) (w : World) (hcode : Code w0 ao n zs) (hcur : Cur w0 ao n cap C w) (hk : 0 < k) (hkl : ys.length = k) (hk2 : k ≤ 1000) (hb : C < b) (h : Blk w b (ys.map (Value.int .i64)) 3) :
    Calls Try.prog 49 #[.pointer (some ⟨C, 0, none⟩), .slice (some ⟨b, 0, none⟩) k k] w fun e w' => ∃ y, e = .returned (.int .i64 y) ∧ Cur w0 ao n cap C w' ∧ Eff C w w' :=
  (pick_any w0 ao n cap C zs b k k ys w hcode hcur hk hkl hk2 hb (fun j hj => h.cell (by simp [List.getD, show j < ys.length by omega]))).mono fun e w' ⟨j, _, h1, h2, h3⟩ => ⟨_, h1, h2, h3⟩
set_option maxRecDepth 20000 in
set_option maxHeartbeats 1600000 in
theorem draw_codes (w0 : World) (ao : Option Addr) (n cap C : Nat) (zs : List Int) (w : World) (hcode : Code w0 ao n zs) (hcur : Cur w0 ao n cap C w) :
    Calls Try.prog 48 #[.pointer (some ⟨C, 0, none⟩)] w fun e w' => ∃ v cs ss, e = .returned v ∧ BO w' w.heap.size v cs ss ∧ cs.length ≤ 16 ∧ ss.length ≤ 4097 ∧ Cur w0 ao n cap C w' ∧ Eff C w w' := by
  have HCo := hid hcode
  have hCw := hcur.lt
  have hA0 := (Below.refl w.heap.size w).alloc (Nat.le_refl _) (.cells #[.slice none 0 0, .slice none 0 0] 26)
  have HT0 := hid (Two.new w (.slice none 0 0) (.slice none 0 0) 26)
  have HE0 := hid (show Eff C w (w.alloc (.cells #[.slice none 0 0, .slice none 0 0] 26)) from ⟨hA0.os, hA0.tape, hA0.output, hA0.size, fun j hj _ => hA0.block j hj⟩)
  have HD := hid (draw_freqs w0 ao n cap C zs (w.alloc (.cells #[.slice none 0 0, .slice none 0 0] 26)) hcode (hcur.below hA0))
  have HS0 := hid (show (w.alloc (.cells #[.slice none 0 0, .slice none 0 0] 26)).heap.size = w.heap.size + 1 from by simp)
  clear hcode hcur hA0
  go_enter Try.func48, Try.ntmps48
  go_wp2_with (first | (go_at_call 32; fail) | fail)
  refine HD.out.mono ?_
  rintro e w1 ⟨v1, fs, s, rfl, ho1, hd1, hs1, hc1, he1⟩
  obtain ⟨a1, c1, e1, vw1⟩ := ho1.view
  rw [hd1.1] at e1 vw1
  subst e1
  have hbb := hd1.good hs1
  have HSB := hid (spec_best a1 256 c1 fs w1 (by decide) vw1)
  rw [hbb] at HSB
  have HBC := hid (show (bC fs).length = 16 ∧ (bS fs).length ≤ 4096 from ⟨by unfold bC; rw [if_pos hbb, cntsTo_len], bS_len fs⟩)
  have HC1 := hid hc1
  have HE1 := hid (HE0.out.trans he1)
  have HT1 := hid (show Two w1 w.heap.size (.slice none 0 0) (.slice none 0 0) 26 from (he1.block _ HT0.out.lt (fun e => by have := Option.some.inj e; omega)).trans HT0.out)
  have HS1 := hid (show w.heap.size + 1 ≤ w1.heap.size from by have := he1.size; rw [HS0.out] at this; exact this)
  clear ho1 hd1 hs1 hc1 he1 vw1 hbb HD HE0 HT0 HS0
  generalize bC fs = CS at *
  generalize bS fs = SS at *
  go_wp2_with (first | (go_at_call 17; fail) | fail)
  refine HSB.out.mono ?_
  rintro e w2 ⟨v2, rfl, bo2, hb2⟩
  obtain ⟨cv, sv, rfl, o1, o2, ap⟩ := bo2
  obtain ⟨ag, cc, rfl⟩ := o1.shape
  obtain ⟨ah, sc, rfl⟩ := o2.shape
  obtain ⟨g, rfl⟩ := o1.some_of (fun e => by have := HBC.out.1; rw [e] at this; cases this)
  have hA2 := (Below.refl w2.heap.size w2).alloc (Nat.le_refl _) (.cells #[.slice (some ⟨g, 0, none⟩) CS.length cc, .slice ah SS.length sc] 26)
  have HK := hid (show Kst w0 w (w2.alloc (.cells #[.slice (some ⟨g, 0, none⟩) CS.length cc, .slice ah SS.length sc] 26)) ao n cap C w2.heap.size (.slice (some ⟨g, 0, none⟩) CS.length cc) (.slice ah SS.length sc) CS SS from by
    have h1 := HS1.out
    have h2 := hb2.size
    exact ⟨(HT1.out.below hb2 HT1.out.lt).below hA2 (HT1.out.below hb2 HT1.out.lt).lt, Two.new w2 _ _ 26, by omega, (o1.mono h1).below hA2, (o2.mono h1).below hA2, ap, (HC1.out.below hb2).below hA2, (HE1.out.ofBelow (hb2.mono (by omega))).alloc _, hCw⟩)
  rw [HBC.out.1] at HK ⊢
  obtain ⟨q0, q1, q2, q3⟩ := HK.out.two.cells
  have HD := hid (below_any w0 ao n cap C zs 12 _ HCo.out HK.out.cur)
  have HFIN : Hid (∀ wz cv sv cs ss, Kst w0 w wz ao n cap C w2.heap.size cv sv cs ss → wz.cell? ⟨w2.heap.size, 0, none⟩ = some cv ∧ wz.cell? ⟨w2.heap.size, 1, none⟩ = some sv ∧ wz.frozen? ⟨w2.heap.size, 0, none⟩ = false ∧ wz.frozen? ⟨w2.heap.size, 1, none⟩ = false ∧ wz.cell? ⟨w.heap.size, 0, none⟩ = some (.slice none 0 0) ∧ wz.cell? ⟨w.heap.size, 1, none⟩ = some (.slice none 0 0) ∧ wz.frozen? ⟨w.heap.size, 0, none⟩ = false ∧ wz.frozen? ⟨w.heap.size, 1, none⟩ = false) := hid (fun wz cv sv cs ss h => by
    obtain ⟨r0, r1, r2, r3⟩ := h.two.cells
    obtain ⟨s0, s1, s2, s3⟩ := h.box.cells
    exact ⟨r0, r1, r2, r3, s0, s1, s2, s3⟩)
  clear o1 o2 ap hb2 hA2 HSB HC1 HE1 HT1
  go_wp2_with (first | (go_at_call 47; fail) | fail)
  refine HD.out.mono ?_
  generalize w2.alloc (.cells #[.slice (some ⟨g, 0, none⟩) 16 cc, .slice ah SS.length sc] 26) = w3 at *
  generalize w2.heap.size = K at *
  rintro e w4 ⟨x, rfl, hx, hc4, he4⟩
  have HK4 := hid (HK.out.turn hc4 he4)
  clear HK HD hx hc4 he4 q0 q1 q2 q3
  obtain ⟨q0, q1, q2, q3, r0, r1, r2, r3⟩ := HFIN.out _ _ _ _ _ HK4.out
  by_cases hx0 : x = 0
  · subst hx0
    have HB16 := hid (fun q (h : Kst w0 w q ao n cap C K (.slice (some ⟨g, 0, none⟩) 16 cc) (.slice ah SS.length sc) CS SS) => below_any w0 ao n cap C zs 16 q HCo.out h.cur)
    have cA : Hid (Kst w0 w w4.drew ao n cap C K (.slice (some ⟨g, 0, none⟩) 16 cc) (.slice ah SS.length sc) CS SS) := hid (HK4.out.below (below_drewN w4 1))
    have cB : Hid (Kst w0 w (w4.drew.alloc (.cells #[.int .i64 (-1), .int .i64 1, .int .i64 3, .int .i64 300] 3)) ao n cap C K (.slice (some ⟨g, 0, none⟩) 16 cc) (.slice ah SS.length sc) CS SS) := hid (cA.out.below ((Below.refl _ _).alloc (Nat.le_refl _) _))
    have bB : Hid (Blk (w4.drew.alloc (.cells #[.int .i64 (-1), .int .i64 1, .int .i64 3, .int .i64 300] 3)) w4.heap.size ([-1, 1, 3, 300].map (Value.int .i64)) 3) := hid (blk_new w4.drew _ _)
    have hlt4 : C < w4.heap.size := HK4.out.cur.lt
    have h51000 : 5 ≤ 1001 := by decide
    have zlt : ∀ {z : Nat}, (0 ≤ (z : Int) ∧ ((z : Int) < 16 ∨ (z : Int) = 0)) → (z : Int) < 16 := fun h => by omega
    have belA : ∀ q : World, Below q.heap.size q (q.alloc (.cells #[.int .i64 (-1), .int .i64 1, .int .i64 3, .int .i64 300] 3)) := fun q => (Below.refl _ _).alloc (Nat.le_refl _) _
    go_wp2_with fail
    go_region_held3 (fun q => q.cell? ⟨K, 0, none⟩ = some (.slice (some ⟨g, 0, none⟩) 16 cc)) (go_keep) (first
      | (go_at_call 47; refine (HB16.out w4.drew cA.out).mono ?_; rintro e w5 ⟨y, rfl, hy, hc5, he5⟩; obtain ⟨z, rfl⟩ := Int.eq_ofNat_of_zero_le hy.1; have hzl := zlt hy; have HK5 := hid (Kst.below (cA.out.turn hc5 he5) (belA w5)); have P5 := hid (pick_blk w0 ao n cap C zs w5.heap.size 4 [-1, 1, 3, 300] (w5.alloc (.cells #[.int .i64 (-1), .int .i64 1, .int .i64 3, .int .i64 300] 3)) HCo.out HK5.out.cur (Nat.succ_pos 3) rfl (Nat.le_of_lt_succ (Nat.lt_of_lt_of_le (Nat.lt_succ_self 4) h51000)) (Nat.lt_of_lt_of_le hlt4 he5.size) (blk_new w5 _ _)); obtain ⟨t0, t1, t2, t3⟩ := HK5.out.two.cells; obtain ⟨u0, u1, u2, u3⟩ := (cA.out.turn hc5 he5).two.cells; clear hy hc5 he5)
      | (go_at_call 47; refine (HB16.out (w4.drew.alloc (.cells #[.int .i64 (-1), .int .i64 1, .int .i64 3, .int .i64 300] 3)) cB.out).mono ?_; rintro e w5 ⟨y, rfl, hy, hc5, he5⟩; obtain ⟨z, rfl⟩ := Int.eq_ofNat_of_zero_le hy.1; have hzl := zlt hy; have HK5 := hid (cB.out.turn hc5 he5); have P5 := hid (pick_blk w0 ao n cap C zs w4.heap.size 4 [-1, 1, 3, 300] w5 HCo.out HK5.out.cur (Nat.succ_pos 3) rfl (Nat.le_of_lt_succ (Nat.lt_of_lt_of_le (Nat.lt_succ_self 4) h51000)) hlt4 (bB.out.ef he5 (Nat.ne_of_gt hlt4))); obtain ⟨t0, t1, t2, t3⟩ := HK5.out.two.cells; clear hy hc5 he5)
      | (go_at_call 49; refine P5.out.mono ?_; rintro e w6 ⟨y, rfl, hc6, he6⟩; have HK6 := hid (HK5.out.turn hc6 he6); have hcl := HK6.out.a.at z (Nat.lt_of_lt_of_eq (Int.ofNat_lt.1 hzl) HBC.out.1.symm); have hfr := HK6.out.a.free z; have HP6 := hid (HK6.out.put z y); obtain ⟨v0, v1, v2, v3⟩ := HK6.out.two.cells; obtain ⟨y0, y1, y2, y3, z0, z1, z2, z3⟩ := HFIN.out _ _ _ _ _ HP6.out; have HEND := hid HP6.out.end; clear hc6 he6))
    all_goals (go_wp2_with fail; exact bodyPost_ret (v := .agg #[.slice (some ⟨g, 0, none⟩) 16 cc, .slice ah SS.length sc]) (by simp [results, Try.results48, go_sem, z0, z1]) rfl ⟨_, _, _, rfl, HEND.out.1, by rw [List.length_set, HBC.out.1]; decide, by have := HBC.out.2; omega, HEND.out.2.1, HEND.out.2.2⟩)
  · have e0 : (x == 0) = false := by simpa using hx0
    by_cases hx1 : x = 1
    · subst hx1
      have bB : Hid (Blk (w4.drew.alloc (.cells #[.int .i64 (-1), .int .i64 7, .int .i64 256] 3)) w4.heap.size ([-1, 7, 256].map (Value.int .i64)) 3) := hid (blk_new w4.drew _ _)
      have cB : Hid (Kst w0 w (w4.drew.alloc (.cells #[.int .i64 (-1), .int .i64 7, .int .i64 256] 3)) ao n cap C K (.slice (some ⟨g, 0, none⟩) 16 cc) (.slice ah SS.length sc) CS SS) := hid ((HK4.out.below (below_drewN w4 1)).below ((Below.refl _ _).alloc (Nat.le_refl _) _))
      have hlt4 : C < w4.heap.size := HK4.out.cur.lt
      have h5 : 0 < 3 := by decide
      have h6 : 3 ≤ 1000 := by decide
      have P5 := hid (pick_blk w0 ao n cap C zs w4.heap.size 3 [-1, 7, 256] _ HCo.out cB.out.cur h5 rfl h6 hlt4 bB.out)
      obtain ⟨t0, t1, t2, t3⟩ := cB.out.two.cells
      have t1' : (w4.alloc (.cells #[.int .i64 (-1), .int .i64 7, .int .i64 256] 3)).cell? ⟨K, 1, none⟩ = some (.slice ah SS.length sc) := t1
      have hln : SS.length < 1000000000000 := by have := HBC.out.2; omega
      have h8 : 8 ≤ 8 := by decide
      go_wp2_with fail
      go_region_law (first
        | (go_simp; go_at_call 49; refine P5.out.mono ?_; rintro e w6 ⟨y, rfl, hc6, he6⟩; have HK6 := hid (cB.out.turn hc6 he6); obtain ⟨v0, v1, v2, v3⟩ := HK6.out.two.cells; have v9 : ∀ y2, (w6.alloc (.cells #[.int .i64 y2] 3)).cell? ⟨K, 1, none⟩ = some (.slice ah SS.length sc) := fun y2 => (HK6.out.below ((Below.refl _ _).alloc (Nat.le_refl _) _)).two.cells.2.1; clear hc6 he6)
        | (refine step_pushA w6 rfl (.tmp 26) (.tmp 30) 24 rfl (w.heap.size + 1) 3 .i64 0 8 Try.underlying24 Try.info3 (.slice ah SS.length sc) SS rfl HK6.out.b y rfl hln h8 ?_; rintro v7 w7 ho hb hk hat; obtain ⟨aV, cV, hv⟩ := ho.shape; rw [List.length_append, List.length_singleton] at hv; subst hv; have HX := hid (HK6.out.sym ho hb hk hat); obtain ⟨x0, x1, x2, x3⟩ := HX.out.1.cells; obtain ⟨y0, y1, y2, y3, z0, z1, z2, z3⟩ := HFIN.out _ _ _ _ _ HX.out.2; have HEND := hid HX.out.2.end; clear ho hb hk hat))
      all_goals (go_wp2_with fail; exact bodyPost_ret (v := .agg #[.slice (some ⟨g, 0, none⟩) 16 cc, .slice aV (SS.length + 1) cV]) (by simp [results, Try.results48, go_sem, z0, z1]) rfl ⟨_, _, _, rfl, HEND.out.1, by rw [HBC.out.1]; decide, by have := HBC.out.2; rw [List.length_append, List.length_singleton]; omega, HEND.out.2.1, HEND.out.2.2⟩)
    · have e1 : (x == 1) = false := by simpa using hx1
      by_cases hx2 : x = 2
      · subst hx2
        clear hx0 hx1
        obtain ⟨hc16, ho15⟩ : 16 ≤ cc ∧ Own w4 (w.heap.size + 1) 3 .i64 (.slice (some ⟨g, 0, none⟩) 15 cc) (CS.take 15) := by
          obtain ⟨h1, h2, h3⟩ := HK4.out.a
          rcases h3 with ⟨h0, _⟩ | ⟨g', cap', cur', hv, hg, hh, hn, hm, hs, ht⟩
          · cases h0
          · simp at hv
            obtain ⟨rfl, _, rfl⟩ := hv
            rw [HBC.out.1] at hn ht
            have hl15 : (CS.take 15).length = 15 := by rw [List.length_take, HBC.out.1]; rfl
            refine ⟨hn, h1, by rw [List.length_map, hl15], .inr ⟨g, cc, cur', by rw [hl15], hg, hh, by rw [hl15]; omega, hm, hs, ?_⟩⟩
            rw [hl15, List.map_take, ← ht, List.take_take]
            rfl
        have HK5 := hid (HK4.out.head _ ho15)
        obtain ⟨y0, y1, y2, y3, z0, z1, z2, z3⟩ := HFIN.out _ _ _ _ _ HK5.out
        have HEND := hid HK5.out.end
        have hcc : (16 : Int) ≤ (cc : Int) := by omega
        clear ho15
        go_wp2_with fail; exact bodyPost_ret (v := .agg #[.slice (some ⟨g, 0, none⟩) 15 cc, .slice ah SS.length sc]) (by simp [results, Try.results48, go_sem, z0, z1]) rfl ⟨_, _, _, rfl, HEND.out.1, by rw [List.length_take, HBC.out.1]; decide, by have := HBC.out.2; omega, HEND.out.2.1, HEND.out.2.2⟩
      · have e2 : (x == 2) = false := by simpa using hx2
        have HEND := hid HK4.out.end
        clear hx0 hx1 hx2
        go_wp2_with fail
        exact bodyPost_ret (v := .agg #[.slice (some ⟨g, 0, none⟩) 16 cc, .slice ah SS.length sc]) (by simp [results, Try.results48, go_sem, r0, r1]) rfl ⟨_, _, _, rfl, HEND.out.1, by rw [HBC.out.1]; decide, by have := HBC.out.2; omega, HEND.out.2.1, HEND.out.2.2⟩
end Go.Proofs.Ytmdmolofiblbmaa
