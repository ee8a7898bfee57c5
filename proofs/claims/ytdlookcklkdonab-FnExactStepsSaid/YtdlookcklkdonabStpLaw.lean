/- The walk of the law FnExactSteps. -/
import Derived.Test.YtdlookcklkdonabStpS
import Derived.Test.YtdlookcklkdonabStpM
namespace Go.Proofs.Ytdlookcklkdonab
open Go.RowKit
set_option linter.unusedVariables false

theorem IsRow.bv {w : World} {d : Int} {a0 : Option Addr} {n0 c0 : Nat} {z0 : List Int} (h0 : IsRow .i64 w a0 n0 c0 z0) : BV w (.agg #[.int .i64 d, .slice a0 n0 c0]) d (z0.take n0) := by
  have v0 := h0.view
  have e0 := v0.1
  exact ⟨a0, c0, by rw [e0], by rw [e0]; exact v0⟩

/-- A slice that reads as the steps S. -/
def SVw (w : World) (v : Value) (S : List (Int × Int × List Int)) : Prop := ∃ ao cap, v = .slice ao S.length cap ∧ SRow w ao S
theorem SVw.below {w w' : World} {v : Value} {S : List (Int × Int × List Int)} (h : SVw w v S) (hb : Below w.heap.size w w') : SVw w' v S := by
  obtain ⟨ao, c, hv, hw⟩ := h
  exact ⟨ao, c, hv, hw.below hb⟩
theorem OwnT.svw {w : World} {base : Nat} {v : Value} {S : List (Int × Int × List Int)} {vs : List Value} (h : OwnT w base v S vs) : SVw w v S := by
  obtain ⟨ao, c, rfl⟩ := h.shape
  exact ⟨ao, c, rfl, h.srow⟩
theorem eqS_vw (w : World) (v v' : Value) (S : List (Int × Int × List Int)) (hn : S.length ≤ 64) (hs : ∀ s ∈ S, s.2.2.length ≤ 11) (h : SVw w v S) (h' : SVw w v' S) :
    Calls Try.prog 23 #[v, v'] w fun e w' => e = .returned (.bool true) ∧ Below w.heap.size w w' := by
  obtain ⟨ao, c, rfl, hv⟩ := h
  obtain ⟨bo, d, rfl, hv'⟩ := h'
  exact eqStepS_same ao bo c d S w (by omega) hs hv hv'
theorem heldS_vw (w : World) (v : Value) (S : List (Int × Int × List Int)) (hn : S.length ≤ 64) (hs : ∀ s ∈ S, s.2.2.length ≤ 11) (h : SVw w v (mkTo S S.length)) :
    Calls Try.prog 27 #[v, .int .i64 1] w fun e w' => e = .returned (.int .i64 (stM S S.length)) ∧ w = w' := by
  obtain ⟨ao, c, rfl, hv⟩ := h
  rw [mkTo_len]
  exact heldStepS ao c S w hn hs hv
/-- Steps whose rows have not turned. -/
theorem OwnT.kept {w w' : World} {base : Nat} {v : Value} {S : List (Int × Int × List Int)} {vs : List Value} (h : OwnT w base v S vs) (hq : ∀ m, base ≤ m → m < w.heap.size → w'.heap[m]? = w.heap[m]?) (hz : w.heap.size ≤ w'.heap.size) : OwnT w' base v S vs := by
  obtain ⟨h1, h2, h3, h4, h5⟩ := h
  have hk : ∀ (m : Nat) (o : Obj), base ≤ m → w.heap[m]? = some o → w'.heap[m]? = some o := fun m o hm ho => (hq m hm (Array.getElem?_eq_some_iff.1 ho).1).trans ho
  refine ⟨Nat.le_trans h1 hz, h2, ⟨h3.1, ?_⟩, fun j hj => ?_, h5⟩
  · rcases h3.2 with h0 | ⟨g, cap, cur, hv, hg, hh, r⟩
    · exact .inl h0
    · exact .inr ⟨g, cap, cur, hv, hg, hk g _ hg hh, r⟩
  · have ho := h4 j hj
    refine ⟨Nat.le_trans ho.1 hz, ho.2.1, ?_⟩
    rcases ho.2.2 with h0 | ⟨g, cap, cur, hv, hg, hh, r⟩
    · exact .inl h0
    · exact .inr ⟨g, cap, cur, hv, hg, hk g _ hg hh, r⟩

set_option maxRecDepth 100000 in
set_option maxHeartbeats 6400000 in
theorem law_steps (d : Int) (a0 : Option Addr) (n0 c0 : Nat) (z0 : List Int) (w : World) (hr0 : IsRow .i64 w a0 n0 c0 z0) :
    Calls Try.prog 6 #[.agg #[.int .i64 d, .slice a0 n0 c0]] w fun e w' => e = .returned (.bool true) ∧ Below w.heap.size w w' := by
  have HCV := hid (hr0.bv (d := d))
  have hl0 := hr0.len.1
  have e0 := hr0.view.1
  have HSZ := hid (fun q : World => szBlock d a0 n0 c0 1048576 q hl0 (by decide) (by decide))
  have HTA := hid (Two.new w (.int .i64 d) (.slice a0 n0 c0) 33)
  have HB := hid ((Below.refl w.heap.size w).alloc (Nat.le_refl _) (.cells #[.int .i64 d, .slice a0 n0 c0] 33))
  generalize z0.take n0 = xs at *
  clear hr0
  subst e0
  go_enter Try.func6, Try.ntmps6
  go_wp2_with fail
  refine (HSZ.out _).mono ?_
  generalize w.alloc (.cells #[.int .i64 d, .slice a0 xs.length c0] 33) = wa at *
  rintro e w1 ⟨rfl, hb1⟩
  have B1 := hid (HB.out.trans (hb1.mono HB.out.size))
  have T1 := hid (HTA.out.below hb1 HTA.out.lt)
  clear hb1 HTA HSZ
  by_cases k0 : xs.length ≤ 1048576
  · have hlf : lft 1048576 xs.length = 1048576 - xs.length := by unfold lft; rw [if_neg (by omega)]
    rw [hlf]
    have hd : decide ((1048576 : Int) - xs.length < 0) = false := by simp; omega
    clear hlf
    obtain ⟨q1, q2, q3, q4⟩ := T1.out.cells
    have T1lt := T1.out.lt
    have HSL := hid (stepsR_len d xs)
    have HSS := hid (stepsR_short d xs)
    have HSP := hid (fun v q hq => spec_steps v d xs q k0 hq)
    have HIM := hid (fun v q hq => impl_steps v d xs q k0 hq)
    generalize stepsR d xs = S at *
    go_wp2_with fail
    refine (toBlock _ d xs _ k0 (HCV.out.below B1.out)).mono ?_
    rintro e w2 ⟨v1, rfl, hown1, hb2⟩
    have B2 := hid (B1.out.trans (hb2.mono B1.out.size))
    have T2 := hid (T1.out.below hb2 T1lt)
    have HV1 := hid hown1.bv
    clear hb2 hown1 q1 q2 q3 q4 T1
    go_wp2_with fail
    refine (HSP.out _ _ HV1.out).mono ?_
    rintro e w3 ⟨y0, rfl, ⟨us0, hy0⟩, hb3⟩
    have B3 := hid (B2.out.trans (hb3.mono B2.out.size))
    have T3 := hid (T2.out.below hb3 T2.out.lt)
    have HY3 := hid hy0.svw
    clear hb3 HSP T2 hy0
    obtain ⟨q1, q2, q3, q4⟩ := T3.out.cells
    have T3lt := T3.out.lt
    go_wp2_with fail
    refine (toBlock _ d xs _ k0 (HCV.out.below B3.out)).mono ?_
    rintro e w4 ⟨v2, rfl, hown2, hb4⟩
    have Y4 := hid hb4
    have B4 := hid (B3.out.trans (hb4.mono B3.out.size))
    have T4 := hid (T3.out.below hb4 T3lt)
    obtain ⟨va, rfl, hva⟩ := hown2
    obtain ⟨b0, d0, rfl⟩ := hva.shape
    have HVA := hid hva
    have h34 : w3.heap.size ≤ w4.heap.size := hb4.size
    clear hb4 hva q1 q2 q3 q4 T3
    obtain ⟨q1, q2, q3, q4⟩ := T4.out.cells
    have T4lt := T4.out.lt
    have HB5 := hid ((Below.refl w4.heap.size w4).alloc (Nat.le_refl _) (.cells #[.int .i64 d, .slice b0 xs.length d0] 37))
    have T5 := hid (T4.out.below HB5.out T4lt)
    have X5 := hid (Two.new w4 (.int .i64 d) (.slice b0 xs.length d0) 37)
    have Y5 := hid (Y4.out.trans (HB5.out.mono h34))
    have B5 := hid (B4.out.trans (HB5.out.mono B4.out.size))
    have HVA5 := hid (HVA.out.below HB5.out)
    have h45 : w4.heap.size < (w4.alloc (.cells #[.int .i64 d, .slice b0 xs.length d0] 37)).heap.size := by simp
    have HBV5 := hid (show BV (w4.alloc (.cells #[.int .i64 d, .slice b0 xs.length d0] 37)) (.agg #[.int .i64 d, .slice b0 xs.length d0]) d xs from BOwn.bv ⟨_, rfl, HVA5.out⟩)
    have HVB := hid (fun m (e : (Value.slice b0 xs.length d0).ownBlock = some m) => HVA.out.2.lt m e)
    go_wp2_with fail
    refine (HIM.out _ _ HBV5.out).mono ?_
    generalize w4.alloc (.cells #[.int .i64 d, .slice b0 xs.length d0] 37) = w5 at *
    rintro e w6 ⟨g0, rfl, ⟨us, hg0⟩, hb6⟩
    have Y6 := hid (Y5.out.trans (hb6.mono Y5.out.size))
    have T6 := hid (T5.out.below hb6 T5.out.lt)
    have X6 := hid (X5.out.below hb6 X5.out.lt)
    have HG6 := hid hg0
    have HVA6 := hid (HVA5.out.below hb6)
    clear hb6 hg0 q1 q2 q3 q4 T4 T5 X5 HBV5 HVA5 HVA
    go_wp2_with fail
    refine (eqS_vw w6 g0 y0 S HSL.out HSS.out HG6.out.svw (HY3.out.below Y6.out)).mono ?_
    rintro e w7 ⟨rfl, hb7⟩
    have Y7 := hid (Y6.out.trans (hb7.mono Y6.out.size))
    have T7 := hid (T6.out.below hb7 T6.out.lt)
    have X7 := hid (X6.out.below hb7 X6.out.lt)
    have HG7 := hid (HG6.out.below hb7)
    have HVA7 := hid (HVA6.out.below hb7)
    clear hb7 T6 X6 HG6 HVA6
    obtain ⟨q1, q2, q3, q4⟩ := T7.out.cells
    obtain ⟨q5, q6, q7, q8⟩ := X7.out.cells
    have B7 := hid (B3.out.trans (Y7.out.mono B3.out.size))
    have HTO := hid (fun q hq => toBlock (.agg #[.int .i64 d, .slice a0 xs.length c0]) d xs q k0 (HCV.out.below (B7.out.trans ((show Below w7.heap.size w7 q from hq).mono B7.out.size))))
    have HX7 := hid (show BV w7 (.agg #[.int .i64 d, .slice b0 xs.length d0]) d xs from BOwn.bv ⟨_, rfl, HVA7.out⟩)
    have X7lt := X7.out.lt
    go_wp2_with fail
    go_cut [31] from 27 to 31 (fun s wx => s = .bool false ∧ Below w7.heap.size w7 wx)
    case first =>
      go_region_with (first
        | (go_at_call 21; refine (HTO.out _ ?_).mono ?_; · first | exact Below.refl _ _ | exact (Below.refl _ _).drew | exact (Below.refl _ _).drew.drew
           rintro e w8 ⟨v3, rfl, hown3, hb8⟩
           have hc8 : Below w7.heap.size w7 w8 := by first | exact hb8 | exact Below.trans (Below.refl _ _).drew hb8 | exact Below.trans (Below.refl _ _).drew.drew hb8
           obtain ⟨r1, r2, r3, r4⟩ := (X7.out.below hc8 X7lt).cells)
        | (go_at_call 24; refine (eqBlock_same _ v3 d xs _ k0 ?_ ?_).mono ?_; · first | exact HX7.out.below hc8 | exact (HX7.out.below hc8).below (Below.refl _ _).drew
           · first | exact hown3.bv | exact hown3.bv.below (Below.refl _ _).drew
           rintro e w9 ⟨rfl, hb9⟩))
      all_goals
        have hb10 := hc8.trans (hb9.mono hc8.size)
        go_wp2_with fail
        go_meet
        exact ⟨rfl, hb10⟩
    case rest =>
      obtain ⟨rfl, hb8⟩ := hcut
      generalize hwc : wc = w8 at *
      clear hwc
      have Y8 := hid (Y7.out.trans (hb8.mono Y7.out.size))
      have T8 := hid (T7.out.below hb8 T7.out.lt)
      have X8 := hid (X7.out.below hb8 X7.out.lt)
      have HG8 := hid (HG7.out.below hb8)
      have HVA8 := hid (HVA7.out.below hb8)
      clear hb8 T7 X7 HG7 HVA7 HX7 HTO B7 q1 q2 q3 q4 q5 q6 q7 q8
      obtain ⟨q1, q2, q3, q4⟩ := T8.out.cells
      obtain ⟨q5, q6, q7, q8⟩ := X8.out.cells
      go_wp2_with fail
      refine (markBlock w3.heap.size d _ xs w8 k0 HVA8.out).mono ?_
      rintro e w9 ⟨⟨r9, rfl, hr9⟩, hq9, hz9, hb9⟩
      have Y9 := hid (Y8.out.trans hb9)
      have T9 := hid (T8.out.below hb9 T3lt)
      have HG9 := hid (HG8.out.kept (fun m hm hm2 => hq9 m (fun e => by have := (HVB.out m e).2; omega) hm2) hz9)
      have hd9 : decide (r9 < 0) = false := by simp; omega
      clear hq9 hz9 hb9 T8 X8 HG8 HVA8 q1 q2 q3 q4 q5 q6 q7 q8
      go_wp2_with fail
      refine (eqS_vw w9 g0 y0 S HSL.out HSS.out HG9.out.svw (HY3.out.below Y9.out)).mono ?_
      rintro e w10 ⟨rfl, hb10⟩
      have Y10 := hid (Y9.out.trans (hb10.mono Y9.out.size))
      have T10 := hid (T9.out.below hb10 T9.out.lt)
      have HG10 := hid (HG9.out.below hb10)
      have hLE := (stM_le S (fun k hk => HSS.out _ (nthS_mem S k hk)) S.length (Nat.le_refl _)).1
      clear hb10 T9 HG9
      go_wp2_with fail
      refine (markStepS _ g0 S us w10 HSL.out HSS.out HG10.out).mono ?_
      rintro e w11 ⟨rfl, hg11, hb11⟩
      have Y11 := hid (Y10.out.trans (hb11.mono (by omega)))
      have T11 := hid (T10.out.below hb11 (by omega))
      have HG11 := hid hg11
      clear hb11 hg11 HG10 T10
      have HHELD := hid (fun q hq => heldS_vw q g0 S HSL.out HSS.out hq)
      generalize stM S S.length = M at *
      have hMM : (M != M) = false := by simp
      have hM0 : ¬ M < 0 := by omega
      go_wp2_with fail
      refine (HHELD.out w11 HG11.out.svw).mono ?_
      rintro e w12 ⟨rfl, rfl⟩
      have B11 := hid (B3.out.trans (Y11.out.mono B3.out.size))
      obtain ⟨q1, q2, q3, q4⟩ := T11.out.cells
      go_wp2_with fail
      refine (toBlock _ d xs _ k0 (HCV.out.below B11.out)).mono ?_
      rintro e w12 ⟨v3, rfl, hown3, hb12⟩
      have Y12 := hid (Y11.out.trans (hb12.mono Y11.out.size))
      have HG12 := hid (HG11.out.below hb12)
      have HV3 := hid hown3.bv
      clear hb12 hown3 HG11 q1 q2 q3 q4 T11
      go_wp2_with fail
      refine (HIM.out _ _ HV3.out).mono ?_
      rintro e w13 ⟨h0, rfl, ⟨us2, hh0⟩, hb13⟩
      have Y13 := hid (Y12.out.trans (hb13.mono Y12.out.size))
      have HG13 := hid (HG12.out.below hb13)
      have HH13 := hid hh0
      clear hb13 hh0 HG12
      go_wp2_with fail
      refine (eqS_vw w13 h0 y0 S HSL.out HSS.out HH13.out.svw (HY3.out.below Y13.out)).mono ?_
      rintro e w14 ⟨rfl, hb14⟩
      have Y14 := hid (Y13.out.trans (hb14.mono Y13.out.size))
      have HG14 := hid (HG13.out.below hb14)
      clear hb14 HG13 HH13
      go_wp2_with fail
      refine (HHELD.out w14 HG14.out.svw).mono ?_
      rintro e w15 ⟨rfl, rfl⟩
      have B14 := hid (B3.out.trans (Y14.out.mono B3.out.size))
      go_wp2
      go_ret
      exact ⟨rfl, B14.out⟩
  · have hlf : lft 1048576 xs.length = -1 := by unfold lft; rw [if_pos (by omega)]
    rw [hlf]
    obtain ⟨q1, q2, q3, q4⟩ := T1.out.cells
    go_wp2
    go_ret
    exact ⟨rfl, B1.out⟩
end Go.Proofs.Ytdlookcklkdonab
