/- The walk of the law FnExactPutCodes. -/
import Derived.Test.YtecophkllnhabaaPc
import Derived.Test.YtecophkllnhabaaOkLaw
namespace Go.Proofs.Ytecophkllnhabaa
open Go.RowKit
set_option linter.unusedVariables false

set_option maxRecDepth 100000 in
set_option maxHeartbeats 3200000 in
theorem law_putCodes (a0 a1 : Option Addr) (n0 n1 c0 c1 : Nat) (z0 z1 : List Int) (w : World) (hr0 : IsRow .i64 w a0 n0 c0 z0) (hr1 : IsRow .i64 w a1 n1 c1 z1) :
    Calls Try.prog 4 #[.agg #[.slice a0 n0 c0, .slice a1 n1 c1]] w fun e w' => e = .returned (.bool true) ∧ Below w.heap.size w w' := by
  have HCV := hid (hr0.cv hr1)
  have hl0 := hr0.len.1
  have hl1 := hr1.len.1
  have e0 := hr0.view.1
  have e1 := hr1.view.1
  have HSZ := hid (fun q : World => szCodes a0 a1 n0 n1 c0 c1 q hl0 hl1)
  have HTA := hid (Two.new w (.slice a0 n0 c0) (.slice a1 n1 c1) 24)
  have HB := hid ((Below.refl w.heap.size w).alloc (Nat.le_refl _) (.cells #[.slice a0 n0 c0, .slice a1 n1 c1] 24))
  generalize z0.take n0 = cs at *
  generalize z1.take n1 = ss at *
  clear hr0 hr1
  subst e0
  subst e1
  go_enter Try.func4, Try.ntmps4
  go_wp2_with fail
  refine (HSZ.out _).mono ?_
  generalize w.alloc (.cells #[.slice a0 cs.length c0, .slice a1 ss.length c1] 24) = wa at *
  rintro e w1 ⟨r, rfl, hr, hb1⟩
  have B1 := hid (HB.out.trans (hb1.mono HB.out.size))
  have T1 := hid (HTA.out.below hb1 HTA.out.lt)
  clear hb1 HTA HSZ
  rcases hr with ⟨hr0, hsum, hr1⟩ | ⟨rfl, hbig⟩
  · have hd : decide (r < 0) = false := by simp; omega
    have k0 : cs.length ≤ 1048576 := by omega
    have k1 : ss.length ≤ 1048576 := by omega
    obtain ⟨q1, q2, q3, q4⟩ := T1.out.cells
    have T1lt := T1.out.lt
    go_wp2_with fail
    refine (toCodes _ cs ss _ k0 k1 (HCV.out.below B1.out)).mono ?_
    rintro e w2 ⟨v1, rfl, hown1, hb2⟩
    have B2 := hid (B1.out.trans (hb2.mono B1.out.size))
    have T2 := hid (T1.out.below hb2 T1lt)
    have HS := hid (spec_putCodes v1 cs ss w2 k0 k1 hown1.cv)
    have HI := hid (fun v q hq => impl_putCodes v cs ss q k0 k1 hq)
    generalize (if rightC cs ss = true then strOfNums (cs ++ ss) else ⟨#[]⟩) = R at *
    clear hb2 hown1 q1 q2 q3 q4 T1
    go_wp2_with fail
    refine HS.out.mono ?_
    rintro e w3 ⟨rfl, hb3⟩
    have B3 := hid (B2.out.trans (hb3.mono B2.out.size))
    have T3 := hid (T2.out.below hb3 T2.out.lt)
    clear hb3 HS T2
    obtain ⟨q1, q2, q3, q4⟩ := T3.out.cells
    go_wp2_with fail
    refine (toCodes _ cs ss _ k0 k1 (HCV.out.below B3.out)).mono ?_
    rintro e w4 ⟨v2, rfl, hown2, hb4⟩
    have B4 := hid (B3.out.trans (hb4.mono B3.out.size))
    have T4 := hid (T3.out.below hb4 T3.out.lt)
    obtain ⟨b0, d0, b1, d1, rfl, y0, y1⟩ := hown2.cv
    have HX := hid hown2.cv
    clear hb4 hown2 q1 q2 q3 q4 T3 y0 y1
    obtain ⟨q1, q2, q3, q4⟩ := T4.out.cells
    have T4lt := T4.out.lt
    have HB5 := hid ((Below.refl w4.heap.size w4).alloc (Nat.le_refl _) (.cells #[.slice b0 cs.length d0, .slice b1 ss.length d1] 32))
    have T5 := hid (T4.out.below HB5.out T4lt)
    have X5 := hid (Two.new w4 (.slice b0 cs.length d0) (.slice b1 ss.length d1) 32)
    have B5 := hid (B4.out.trans (HB5.out.mono B4.out.size))
    have HX5 := hid (HX.out.below HB5.out)
    go_wp2_with fail
    refine (HI.out _ _ HX5.out).mono ?_
    generalize w4.alloc (.cells #[.slice b0 cs.length d0, .slice b1 ss.length d1] 32) = w5 at *
    rintro e w6 ⟨rfl, hb6⟩
    have B6 := hid (B5.out.trans (hb6.mono B5.out.size))
    have T6 := hid (T5.out.below hb6 T5.out.lt)
    have X6 := hid (X5.out.below hb6 X5.out.lt)
    have HX6 := hid (HX5.out.below hb6)
    clear hb6 q1 q2 q3 q4 T4 T5 X5 HX5 HX HB5 HI
    obtain ⟨q1, q2, q3, q4⟩ := T6.out.cells
    obtain ⟨q5, q6, q7, q8⟩ := X6.out.cells
    go_wp2_with fail
    have HTO := hid (fun q hq => toCodes (.agg #[.slice a0 cs.length c0, .slice a1 ss.length c1]) cs ss q k0 k1 (HCV.out.below (B6.out.trans ((show Below w6.heap.size w6 q from hq).mono B6.out.size))))
    have X6lt := X6.out.lt
    go_region_with (first
      | (go_at_call 15; refine (HTO.out _ ?_).mono ?_; · first | exact Below.refl _ _ | exact (Below.refl _ _).drew | exact (Below.refl _ _).drew.drew
         rintro e w7 ⟨v3, rfl, hown3, hb7⟩
         have hc7 : Below w6.heap.size w6 w7 := by first | exact hb7 | exact Below.trans (Below.refl _ _).drew hb7 | exact Below.trans (Below.refl _ _).drew.drew hb7
         obtain ⟨r1, r2, r3, r4⟩ := (X6.out.below hc7 X6lt).cells)
      | (go_at_call 17; refine (eqCodes_same _ v3 cs ss _ k0 k1 ?_ ?_).mono ?_; · first | exact HX6.out.below hc7 | exact (HX6.out.below hc7).below (Below.refl _ _).drew
         · first | exact hown3.cv | exact hown3.cv.below (Below.refl _ _).drew
         rintro e w8 ⟨rfl, hb8⟩))
    all_goals
      have hb9 := hc7.trans (hb8.mono hc7.size)
      go_wp2
      go_ret
      exact ⟨rfl, B6.out.trans (hb9.mono B6.out.size)⟩
  · obtain ⟨q1, q2, q3, q4⟩ := T1.out.cells
    go_wp2
    go_ret
    exact ⟨rfl, B1.out⟩
end Go.Proofs.Ytecophkllnhabaa
