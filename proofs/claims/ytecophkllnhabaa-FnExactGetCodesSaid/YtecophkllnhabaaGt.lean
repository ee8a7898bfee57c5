/- The contract of the specification's GetCodes. -/
import Derived.Test.YtecophkllnhabaaGs
namespace Go.Proofs.Ytecophkllnhabaa
open Go.RowKit
set_option linter.unusedVariables false

theorem COwn.setCell_below {w : World} {base : Nat} {v : Value} {cs ss : List Int} (h : COwn w base v cs ss) {a : Addr} (ha : a.block < base) (u : Value) : COwn (w.setCell a u) base v cs ss := by
  obtain ⟨va, vb, m, rfl, hm, h0, h1, h2⟩ := h
  exact ⟨va, vb, m, rfl, hm, h0.setCell_below ha u, h1.setCell_below (by omega) u, h2⟩
theorem COwn.lower {w : World} {base base' : Nat} {v : Value} {cs ss : List Int} (h : COwn w base v cs ss) (hb : base' ≤ base) : COwn w base' v cs ss := by
  obtain ⟨va, vb, m, rfl, hm, h0, h1, h2⟩ := h
  exact ⟨va, vb, m, rfl, by omega, h0.lower hb, h1, h2⟩
theorem COwn.shape {w : World} {base : Nat} {v : Value} {cs ss : List Int} (h : COwn w base v cs ss) : ∃ a0 c0 a1 c1, v = .agg #[.slice a0 cs.length c0, .slice a1 ss.length c1] := by
  obtain ⟨a0, c0, a1, c1, rfl, _, _⟩ := h.cv
  exact ⟨_, _, _, _, rfl⟩

theorem right_good {cs ss : List Int} (h : rightC cs ss = true) : goodC cs = true := by
  obtain ⟨h1, _⟩ := (right_iff cs ss).1 h
  exact (goodC_iff cs).2 h1
theorem code_raw (s : ByteArray) (i : Nat) (h : i + 16 ≤ s.size) : cdR s i = match rawR s i with | some r => if rightC r.1 r.2 = true then some r else none | none => none := by
  unfold cdR rawR
  by_cases hf : told (bts s i 16) 16 ≤ 255 ∧ (i : Int) + 16 + told (bts s i 16) 16 ≤ s.size
  · rw [if_pos hf]
    by_cases hr : rightC (bts s i 16) (bts s (i + 16) (told (bts s i 16) 16).toNat) = true
    · rw [if_pos ⟨h, right_good hr, hf.2, hr⟩]
      exact (if_pos hr).symm
    · rw [if_neg (fun hh => hr hh.2.2.2)]
      exact (if_neg hr).symm
  · rw [if_neg hf, if_neg]
    intro hh
    obtain ⟨h1, _⟩ := (right_iff _ _).1 hh.2.2.2
    exact hf ⟨h1.2.2.1.2, hh.2.2.1⟩
theorem raw_some (s : ByteArray) (i : Nat) (cs ss : List Int) (h : i + 16 ≤ s.size) (hr : rawR s i = some (cs, ss)) : cs.length = 16 ∧ ss.length ≤ 255 ∧ i + 16 + ss.length ≤ s.size ∧ strOfNums (cs ++ ss) = s.extract i (i + 16 + ss.length) := by
  unfold rawR at hr
  split at hr
  · rename_i hh
    cases hr
    have hb := told_bd s i 16 (by omega)
    have e : (bts s (i + 16) (told (bts s i 16) 16).toNat).length = (told (bts s i 16) 16).toNat := bts_length _ _ _
    refine ⟨bts_length _ _ _, by rw [e]; omega, by rw [e]; omega, ?_⟩
    rw [e, bts_append, str_bts s i _ (by omega), Nat.add_assoc]
  · cases hr

set_option maxHeartbeats 800000 in
theorem spec_get_out (s : ByteArray) (i : Int) (w : World) (hs : s.size ≤ 1048576) (h : ¬ (0 ≤ i ∧ i ≤ (s.size : Int))) :
    Calls Try.prog 18 #[.string s, .int .i64 i] w fun e w' => e = .returned (.tuple #[.agg #[.slice none 0 0, .slice none 0 0], .int .i64 (-1)]) ∧ Below w.heap.size w w' := by
  have HT := hid (Two.new w (.slice none 0 0) (.slice none 0 0) 32)
  have HB := hid ((Below.refl w.heap.size w).alloc (Nat.le_refl _) (.cells #[.slice none 0 0, .slice none 0 0] 32))
  obtain ⟨q0, q1, q2, q3⟩ := HT.out.cells
  have hin := in_no h
  clear h
  go_enter Try.func18, Try.ntmps18
  go_wp2_with (go_at_call 41; refine (spec_in _ _ _ _).mono ?_; rw [hin]; rintro e w' ⟨rfl, rfl⟩)
  refine bodyPost_ret (v := .tuple #[.agg #[.slice none 0 0, .slice none 0 0], .int .i64 (-1)]) (by simp [results, Try.results18, go_sem, q0, q1]) rfl ⟨rfl, HB.out⟩

set_option maxRecDepth 100000 in
set_option maxHeartbeats 800000 in
/-- Where l05Codes finds none. -/
theorem spec_get_none (s : ByteArray) (i : Nat) (w : World) (hs : s.size ≤ 1048576) (h : i ≤ s.size)
    (hc : ∀ q, Calls Try.prog 42 #[.string s, .int .i64 (i : Int)] q fun e w' => ∃ a0 c0 a1 c1 n0 n1, e = .returned (.tuple #[.agg #[.slice a0 n0 c0, .slice a1 n1 c1], .int .i64 (-1)]) ∧ Below q.heap.size q w') :
    Calls Try.prog 18 #[.string s, .int .i64 (i : Int)] w fun e w' => e = .returned (.tuple #[.agg #[.slice none 0 0, .slice none 0 0], .int .i64 (-1)]) ∧ Below w.heap.size w w' := by
  have HT := hid (Two.new w (.slice none 0 0) (.slice none 0 0) 32)
  have HB := hid ((Below.refl w.heap.size w).alloc (Nat.le_refl _) (.cells #[.slice none 0 0, .slice none 0 0] 32))
  have hin := in_yes (x := (i : Int)) (a := 0) (b := (s.size : Int)) (by omega)
  have HC := hid hc
  clear hc
  go_enter Try.func18, Try.ntmps18
  go_wp2_with (go_at_call 41; refine (spec_in _ _ _ _).mono ?_; rw [hin]; rintro e w' ⟨rfl, rfl⟩)
  generalize w.alloc (.cells #[.slice none 0 0, .slice none 0 0] 32) = wa at *
  clear hin
  refine (HC.out _).mono ?_
  rintro e w1 ⟨a0, c0, a1, c1, n0, n1, rfl, hb1⟩
  have B1 := hid (HB.out.trans (hb1.mono HB.out.size))
  have T1 := hid (HT.out.below hb1 HT.out.lt)
  have hb2 := (Below.refl w1.heap.size w1).alloc (Nat.le_refl _) (.cells #[.slice a0 n0 c0, .slice a1 n1 c1] 32)
  have B2 := hid (B1.out.trans (hb2.mono B1.out.size))
  have T2 := hid (T1.out.below hb2 T1.out.lt)
  obtain ⟨q0, q1, q2, q3⟩ := T2.out.cells
  obtain ⟨p0, p1, p2, p3⟩ := (Two.new w1 (.slice a0 n0 c0) (.slice a1 n1 c1) 32).cells
  have T6 := hid ((T2.out.set0 (.slice none 0 0)).set1 (.slice none 0 0))
  obtain ⟨r0, r1, r2, r3⟩ := T6.out.cells
  have B6 := hid ((B2.out.setCell (p := ⟨w.heap.size, 0, none⟩) (Nat.le_refl _) (.slice none 0 0)).setCell (p := ⟨w.heap.size, 1, none⟩) (Nat.le_refl _) (.slice none 0 0))
  clear hb1 hb2 HB HT
  go_wp2_with fail
  go_region
  all_goals
    go_wp2
    refine bodyPost_ret (v := .tuple #[.agg #[.slice none 0 0, .slice none 0 0], .int .i64 (-1)]) (by simp [results, Try.results18, go_sem, r0, r1]) rfl ⟨rfl, by first | exact B6.out | exact B6.out.drew | exact belowN B6.out _⟩

set_option maxRecDepth 100000 in
set_option maxHeartbeats 1600000 in
/-- Where l05Codes finds some. -/
theorem spec_get_some (s : ByteArray) (i : Nat) (w : World) (hs : s.size ≤ 1048576) (h : i + 16 ≤ s.size) (cs ss : List Int) (hR : rawR s i = some (cs, ss)) :
    Calls Try.prog 18 #[.string s, .int .i64 (i : Int)] w (GcP w i (if rightC cs ss = true then some (cs, ss) else none)) := by
  obtain ⟨QQ, hQ1, HQ⟩ : ∃ QQ : Ending → World → Prop, QQ = GcP w i (if rightC cs ss = true then some (cs, ss) else none) ∧ Hid (∀ e w', GcP w i (if rightC cs ss = true then some (cs, ss) else none) e w' → QQ e w') := ⟨_, rfl, fun _ _ h => h⟩
  rw [← hQ1]
  clear hQ1
  have HC := hid (fun q => raw_at s i q hs h)
  rw [hR] at HC
  obtain ⟨l0, l1, l2, l3⟩ := raw_some s i cs ss h hR
  have HL0 := hid l0
  have HK := hid (fun q v hq => spec_ok v cs ss q (by omega) (by omega) hq)
  have HP := hid (fun q v hq => spec_putCodes v cs ss q (by omega) (by omega) hq)
  rw [l3] at HP
  obtain ⟨T, hT⟩ : ∃ T, T = ss.length := ⟨_, rfl⟩
  have HL1 := hid hT
  rw [← hT] at HP l1 l2
  have HT := hid (Two.new w (.slice none 0 0) (.slice none 0 0) 32)
  have HB := hid ((Below.refl w.heap.size w).alloc (Nat.le_refl _) (.cells #[.slice none 0 0, .slice none 0 0] 32))
  have hin := in_yes (x := (i : Int)) (a := 0) (b := (s.size : Int)) (by omega)
  clear hR l0 hT l3
  go_enter Try.func18, Try.ntmps18
  go_wp2_with (go_at_call 41; refine (spec_in _ _ _ _).mono ?_; rw [hin]; rintro e w' ⟨rfl, rfl⟩)
  have hsw : w.heap.size < (w.alloc (.cells #[.slice none 0 0, .slice none 0 0] 32)).heap.size := HT.out.lt
  generalize w.alloc (.cells #[.slice none 0 0, .slice none 0 0] 32) = wa at *
  clear hin
  refine (HC.out _).mono ?_
  rintro e w1 ⟨v1, rfl, ho1, hb1⟩
  simp only at ho1
  have B1 := hid (HB.out.trans (hb1.mono HB.out.size))
  have T1 := hid (HT.out.below hb1 HT.out.lt)
  have HO1 := hid ho1
  obtain ⟨a0, c0, a1, c1, rfl⟩ := ho1.shape
  simp only [HL0.out, ← HL1.out] at HO1 ⊢
  have hb2 := (Below.refl w1.heap.size w1).alloc (Nat.le_refl _) (.cells #[.slice a0 16 c0, .slice a1 T c1] 32)
  have B2 := hid (B1.out.trans (hb2.mono B1.out.size))
  have T2 := hid (T1.out.below hb2 T1.out.lt)
  have D2 := hid (Two.new w1 (.slice a0 16 c0) (.slice a1 T c1) 32)
  have HO2 := hid (HO1.out.below hb2)
  clear hb1 hb2 HB HT HC ho1 HO1 B1 T1
  obtain ⟨q0, q1, q2, q3⟩ := T2.out.cells
  obtain ⟨p0, p1, p2, p3⟩ := D2.out.cells
  have hat0 : (0 : Int) ≤ (i : Int) + 16 + (T : Int) := by omega
  have hat1 : (i : Int) + 16 + (T : Int) ≤ (s.size : Int) := by omega
  have hat2 : (i : Int) ≤ (i : Int) + 16 + (T : Int) := by omega
  have hat3 : ((i : Int) + 16 + (T : Int)).toNat = i + 16 + T := by omega
  have HDC := hid (fun q (hq : Below (w1.alloc (.cells #[.slice a0 16 c0, .slice a1 T c1] 32)).heap.size (w1.alloc (.cells #[.slice a0 16 c0, .slice a1 T c1] 32)) q) => (D2.out.below hq D2.out.lt).cells)
  have HTC := hid (fun q (hq : Below (w1.alloc (.cells #[.slice a0 16 c0, .slice a1 T c1] 32)).heap.size (w1.alloc (.cells #[.slice a0 16 c0, .slice a1 T c1] 32)) q) => T2.out.below hq T2.out.lt)
  by_cases hr : rightC cs ss = true
  · rw [if_pos hr] at HQ
    rw [hr] at HK
    rw [if_pos hr] at HP
    clear hr
    have T6 := hid (fun q (hq : Two q w.heap.size (.slice none 0 0) (.slice none 0 0) 32) => ((hq.set0 (.slice a0 16 c0)).set1 (.slice a1 T c1)).cells)
    go_wp2_with fail
    generalize w1.alloc (.cells #[.slice a0 16 c0, .slice a1 T c1] 32) = w2 at *
    go_region_held3 (fun q => q.cell? ⟨w1.heap.size, 0, none⟩ = some (.slice a0 16 c0) ∧ q.cell? ⟨w1.heap.size, 1, none⟩ = some (.slice a1 T c1)) (go_keep) (first
      | (go_at_call 36; refine (HK.out _ _ ?_).mono ?_; · first | exact HO2.out.cv | exact HO2.out.cv.below (Below.refl _ _).drew
         rintro e w3 ⟨rfl, hb3⟩
         have hcA : Below w2.heap.size w2 w3 := by first | exact hb3 | exact Below.trans (Below.refl _ _).drew hb3
         obtain ⟨e0, e1, e2, e3⟩ := HDC.out _ hcA)
      | (go_at_call 14; refine (HP.out _ _ ?_).mono ?_; · first | exact HO2.out.cv.below hcA | exact (HO2.out.cv.below hcA).below (Below.refl _ _).drew
         rintro e w4 ⟨rfl, hb4⟩
         have hcB : Below w2.heap.size w2 w4 := by first | exact hcA.trans (hb4.mono hcA.size) | exact hcA.trans ((Below.trans (Below.refl _ _).drew hb4).mono hcA.size)
         obtain ⟨f0, f1, f2, f3⟩ := HDC.out _ hcB))
    all_goals
      have T7 := hid (HTC.out _ hcB)
      obtain ⟨g0, g1, g2, g3⟩ := T7.out.cells
      obtain ⟨r0, r1, r2, r3⟩ := T6.out _ T7.out
      have B6 := hid (((B2.out.trans (hcB.mono B2.out.size)).setCell (p := ⟨w.heap.size, 0, none⟩) (Nat.le_refl _) (.slice a0 16 c0)).setCell (p := ⟨w.heap.size, 1, none⟩) (Nat.le_refl _) (.slice a1 T c1))
      have HO6 := hid ((((HO2.out.below hcB).setCell_below (a := ⟨w.heap.size, 0, none⟩) hsw (.slice a0 16 c0)).setCell_below (a := ⟨w.heap.size, 1, none⟩) hsw (.slice a1 T c1)).lower (by omega : w.heap.size ≤ wa.heap.size))
      clear hcA hcB hb3 hb4
      go_wp2_with fail
      refine bodyPost_ret (v := .tuple #[.agg #[.slice a0 16 c0, .slice a1 T c1], .int .i64 ((i : Int) + 16 + (T : Int))]) (by simp [results, Try.results18, go_sem, r0, r1]) rfl ?_
      refine HQ.out _ _ ⟨.agg #[.slice a0 16 c0, .slice a1 T c1], ?_, ?_, ?_⟩
      · show _ = Ending.returned (.tuple #[_, .int .i64 ((i : Int) + 16 + (ss.length : Int))])
        rw [← HL1.out]
      · first | exact HO6.out | exact HO6.out.below (Below.refl _ _).drew
      · first | exact B6.out | exact B6.out.drew | exact belowN B6.out _
  · have hr' : rightC cs ss = false := by simpa using hr
    rw [if_neg hr] at HQ
    rw [hr'] at HK
    clear hr hr' HP
    have T6 := hid (fun q (hq : Two q w.heap.size (.slice none 0 0) (.slice none 0 0) 32) => ((hq.set0 (.slice none 0 0)).set1 (.slice none 0 0)).cells)
    go_wp2_with fail
    generalize w1.alloc (.cells #[.slice a0 16 c0, .slice a1 T c1] 32) = w2 at *
    go_cut [34] from 20 to 38 (fun x wx => x = .bool false ∧ Below w2.heap.size w2 wx)
    case first =>
      first | go_region_with (first
        | (go_at_call 36; refine (HK.out _ _ ?_).mono ?_; · first | exact HO2.out.cv | exact HO2.out.cv.below (Below.refl _ _).drew
           rintro e w3 ⟨rfl, hb3⟩
           have hcB : Below w2.heap.size w2 w3 := by first | exact hb3 | exact Below.trans (Below.refl _ _).drew hb3
           obtain ⟨e0, e1, e2, e3⟩ := HDC.out _ hcB)) | fail
      all_goals
        go_wp2_with fail
        go_meet
        exact ⟨rfl, hcB⟩
    case rest =>
      obtain ⟨rfl, hcB⟩ := hcut
      have T7 := hid (HTC.out _ hcB)
      obtain ⟨g0, g1, g2, g3⟩ := T7.out.cells
      obtain ⟨r0, r1, r2, r3⟩ := T6.out _ T7.out
      have B6 := hid (((B2.out.trans (hcB.mono B2.out.size)).setCell (p := ⟨w.heap.size, 0, none⟩) (Nat.le_refl _) (.slice none 0 0)).setCell (p := ⟨w.heap.size, 1, none⟩) (Nat.le_refl _) (.slice none 0 0))
      clear hcB
      go_wp2_with fail
      refine bodyPost_ret (v := .tuple #[.agg #[.slice none 0 0, .slice none 0 0], .int .i64 (-1)]) (by simp [results, Try.results18, go_sem, r0, r1]) rfl ?_
      refine HQ.out _ _ ⟨.agg #[.slice none 0 0, .slice none 0 0], rfl, COwn.nil _ _ ?_, ?_⟩
      · first | exact B6.out.size | exact B6.out.drew.size
      · first | exact B6.out | exact B6.out.drew | exact belowN B6.out _

/-- The specification's GetCodes, at every text and place. -/
theorem spec_getCodes (s : ByteArray) (i : Int) (w : World) (hs : s.size ≤ 1048576) :
    Calls Try.prog 18 #[.string s, .int .i64 i] w (GcP w i (getR s i)) := by
  by_cases h : 0 ≤ i ∧ i ≤ (s.size : Int)
  · obtain ⟨n, rfl⟩ : ∃ n : Nat, i = (n : Int) := ⟨i.toNat, by omega⟩
    by_cases h2 : n + 16 ≤ s.size
    · rw [getR_at, code_raw s n h2]
      cases hR : rawR s n with
      | none =>
        refine (spec_get_none s n w hs (by omega) fun q => ?_).mono fun e w' ⟨he, hb⟩ => ⟨_, he, COwn.nil _ _ hb.size, hb⟩
        have hc := raw_at s n q hs h2
        rw [hR] at hc
        refine hc.mono fun e w' ⟨v, he, ho, hb⟩ => ?_
        obtain ⟨a0, c0, a1, c1, rfl⟩ := ho.shape
        exact ⟨_, _, _, _, _, _, he, hb⟩
      | some r => exact spec_get_some s n w hs h2 r.1 r.2 hR
    · rw [getR_short s n (by omega)]
      exact (spec_get_none s n w hs (by omega) fun q => (raw_short s n q hs (by omega) (by omega)).mono fun e w' ⟨he, hb⟩ => ⟨_, _, _, _, _, _, he, hb⟩).mono fun e w' ⟨he, hb⟩ => ⟨_, he, COwn.nil _ _ hb.size, hb⟩
  · have hR : getR s i = none := by
      unfold getR
      split
      · unfold cdR
        rw [if_neg]
        intro hh
        have := hh.1
        omega
      · rfl
    rw [hR]
    exact (spec_get_out s i w hs h).mono fun e w' ⟨he, hb⟩ => ⟨_, he, COwn.nil _ _ hb.size, hb⟩
end Go.Proofs.Ytecophkllnhabaa
