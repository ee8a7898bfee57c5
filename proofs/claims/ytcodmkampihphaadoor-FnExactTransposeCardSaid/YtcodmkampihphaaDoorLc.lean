/- The walk of the law FnExactCell. -/
import Derived.Test.YtcodmkampihphaaDoorSl
import Derived.Deep.RegionWith
namespace Go.Proofs.YtcodmkampihphaaDoor
open Go.RowKit
set_option linter.unusedVariables false

theorem IsRow.bv {w : World} {d : Int} {a0 : Option Addr} {n0 c0 : Nat} {z0 : List Int} (h0 : IsRow .i64 w a0 n0 c0 z0) : BV w (.agg #[.int .i64 d, .slice a0 n0 c0]) d (z0.take n0) := by
  have v0 := h0.view
  have e0 := v0.1
  exact ⟨a0, c0, by rw [e0], by rw [e0]; exact v0⟩

set_option maxRecDepth 100000 in
set_option maxHeartbeats 3200000 in
theorem law_cell (d : Int) (a0 : Option Addr) (n0 c0 : Nat) (z0 : List Int) (r c : Int) (w : World) (hr0 : IsRow .i64 w a0 n0 c0 z0) (hw : WayAt w) :
    Calls Tryd.prog 4 #[.agg #[.int .i64 d, .slice a0 n0 c0], .int .i64 r, .int .i64 c] w fun e w' => e = .returned (.bool true) ∧ Below w.heap.size w w' := by
  have HW := hid hw
  clear hw
  have HCV := hid (hr0.bv (d := d))
  have hl0 := hr0.len.1
  have e0 := hr0.view.1
  have HSZ := hid (fun q : World => szBlock d a0 n0 c0 1048576 q hl0 (by decide) (by decide))
  have HTA := hid (Two.new w (.int .i64 d) (.slice a0 n0 c0) 35)
  have HB := hid ((Below.refl w.heap.size w).alloc (Nat.le_refl _) (.cells #[.int .i64 d, .slice a0 n0 c0] 35))
  generalize z0.take n0 = xs at *
  clear hr0
  subst e0
  go_enter Tryd.func4, Tryd.ntmps4
  go_wp2_with fail
  refine (HSZ.out _).mono ?_
  generalize w.alloc (.cells #[.int .i64 d, .slice a0 xs.length c0] 35) = wa at *
  rintro e w1 ⟨rfl, hb1⟩
  have B1 := hid (HB.out.trans (hb1.mono HB.out.size))
  have T1 := hid (HTA.out.below hb1 HTA.out.lt)
  clear hb1 HTA HSZ
  by_cases k0 : xs.length ≤ 1048576
  · have hlf : lft 1048576 xs.length = 1048576 - xs.length := by unfold lft; rw [if_neg (by omega)]
    rw [hlf]
    have hd : decide ((1048576 : Int) - xs.length < 0) = false := by simp; omega
    clear hlf
    obtain ⟨q1, q2, q3, q4⟩ := T1.out.cells
    have T1lt := T1.out.lt
    go_wp2_with fail
    refine (toBlock _ d xs _ k0 (HCV.out.below B1.out)).mono ?_
    rintro e w2 ⟨v1, rfl, hown1, hb2⟩
    have B2 := hid (B1.out.trans (hb2.mono B1.out.size))
    have T2 := hid (T1.out.below hb2 T1lt)
    have HS := hid (spec_cell v1 d xs r c w2 k0 hown1.bv)
    have HI := hid (fun v q hq (hb : Below w.heap.size w q) => impl_cell v d xs r c q k0 hq (HW.out.below hb))
    generalize cellV d xs r c = R at *
    clear hb2 hown1 q1 q2 q3 q4 T1
    go_wp2_with fail
    refine HS.out.mono ?_
    rintro e w3 ⟨rfl, hb3⟩
    have B3 := hid (B2.out.trans (hb3.mono B2.out.size))
    have T3 := hid (T2.out.below hb3 T2.out.lt)
    clear hb3 HS T2
    obtain ⟨q1, q2, q3, q4⟩ := T3.out.cells
    go_wp2_with fail
    refine (toBlock _ d xs _ k0 (HCV.out.below B3.out)).mono ?_
    rintro e w4 ⟨v2, rfl, hown2, hb4⟩
    have B4 := hid (B3.out.trans (hb4.mono B3.out.size))
    have T4 := hid (T3.out.below hb4 T3.out.lt)
    obtain ⟨b0, d0, rfl, y0⟩ := hown2.bv
    have HX := hid hown2.bv
    clear hb4 hown2 q1 q2 q3 q4 T3 y0
    obtain ⟨q1, q2, q3, q4⟩ := T4.out.cells
    have T4lt := T4.out.lt
    have HB5 := hid ((Below.refl w4.heap.size w4).alloc (Nat.le_refl _) (.cells #[.int .i64 d, .slice b0 xs.length d0] 28))
    have T5 := hid (T4.out.below HB5.out T4lt)
    have X5 := hid (Two.new w4 (.int .i64 d) (.slice b0 xs.length d0) 28)
    have B5 := hid (B4.out.trans (HB5.out.mono B4.out.size))
    have HX5 := hid (HX.out.below HB5.out)
    go_wp2_with fail
    refine (HI.out _ _ HX5.out B5.out).mono ?_
    generalize w4.alloc (.cells #[.int .i64 d, .slice b0 xs.length d0] 28) = w5 at *
    rintro e w6 ⟨rfl, hb6⟩
    have B6 := hid (B5.out.trans (hb6.mono B5.out.size))
    have T6 := hid (T5.out.below hb6 T5.out.lt)
    have X6 := hid (X5.out.below hb6 X5.out.lt)
    have HX6 := hid (HX5.out.below hb6)
    clear hb6 q1 q2 q3 q4 T4 T5 X5 HX5 HX HB5 HI
    obtain ⟨q1, q2, q3, q4⟩ := T6.out.cells
    obtain ⟨q5, q6, q7, q8⟩ := X6.out.cells
    have hRR : (R != R) = false := by simp
    go_wp2_with fail
    have HTO := hid (fun q hq => toBlock (.agg #[.int .i64 d, .slice a0 xs.length c0]) d xs q k0 (HCV.out.below (B6.out.trans ((show Below w6.heap.size w6 q from hq).mono B6.out.size))))
    have X6lt := X6.out.lt
    go_region_with (first
      | (go_at_call 17; refine (HTO.out _ ?_).mono ?_; · first | exact Below.refl _ _ | exact (Below.refl _ _).drew | exact (Below.refl _ _).drew.drew
         rintro e w7 ⟨v3, rfl, hown3, hb7⟩
         have hc7 : Below w6.heap.size w6 w7 := by first | exact hb7 | exact Below.trans (Below.refl _ _).drew hb7 | exact Below.trans (Below.refl _ _).drew.drew hb7
         obtain ⟨r1, r2, r3, r4⟩ := (X6.out.below hc7 X6lt).cells)
      | (go_at_call 18; refine (eqBlock_same _ v3 d xs _ k0 ?_ ?_).mono ?_; · first | exact HX6.out.below hc7 | exact (HX6.out.below hc7).below (Below.refl _ _).drew
         · first | exact hown3.bv | exact hown3.bv.below (Below.refl _ _).drew
         rintro e w8 ⟨rfl, hb8⟩))
    all_goals
      have hb9 := hc7.trans (hb8.mono hc7.size)
      go_wp2
      go_ret
      exact ⟨rfl, B6.out.trans (hb9.mono B6.out.size)⟩
  · have hlf : lft 1048576 xs.length = -1 := by unfold lft; rw [if_pos (by omega)]
    rw [hlf]
    obtain ⟨q1, q2, q3, q4⟩ := T1.out.cells
    go_wp2
    go_ret
    exact ⟨rfl, B1.out⟩
end Go.Proofs.YtcodmkampihphaaDoor
