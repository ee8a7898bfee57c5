/- The walks of the laws FnExactSumConst and FnExactSumStart. -/
import Derived.Test.YtldjipofkjicfaaDoorKt
namespace Go.Proofs.YtldjipofkjicfaaDoor
open Go.RowKit
set_option linter.unusedVariables false

theorem law_const (i : Int) (w : World) (hw : ConstsAt w) :
    Calls Tryd.prog 3 #[.int .i64 i] w fun e w' => e = .returned (.bool true) ∧ Below w.heap.size w w' := by
  have HW := hid hw
  clear hw
  go_enter Tryd.func3, Tryd.ntmps3
  go_wp2_with fail
  refine (spec_const _ _).mono ?_
  rintro e w1 ⟨rfl, hb1⟩
  go_wp2_with fail
  refine (impl_const _ _ (HW.out.below (Nat.le_refl _) hb1)).mono ?_
  rintro e w2 ⟨rfl, rfl⟩
  go_wp2
  go_ret
  exact ⟨rfl, hb1⟩
theorem law_start (i : Int) (w : World) (hw : StartsAt w) :
    Calls Tryd.prog 4 #[.int .i64 i] w fun e w' => e = .returned (.bool true) ∧ Below w.heap.size w w' := by
  have HW := hid hw
  clear hw
  go_enter Tryd.func4, Tryd.ntmps4
  go_wp2_with fail
  refine (spec_start _ _).mono ?_
  rintro e w1 ⟨rfl, hb1⟩
  go_wp2_with fail
  refine (impl_start _ _ (HW.out.below (Nat.le_refl _) hb1)).mono ?_
  rintro e w2 ⟨rfl, rfl⟩
  go_wp2
  go_ret
  exact ⟨rfl, hb1⟩
end Go.Proofs.YtldjipofkjicfaaDoor
