/- SumPad of both sides at every text. -/
import Derived.Test.YtkeabkedbbjccaaDoorPi
import Derived.Test.YtkeabkedbbjccaaDoorPt
namespace Go.Proofs.YtkeabkedbbjccaaDoor
open Go.RowKit
set_option linter.unusedVariables false

theorem impl_pad (s : ByteArray) (w : World) (hm : s.size ≤ 9223372036854775807) :
    Calls Tryd.prog 9 #[.string s] w fun e w' => e = .returned (.string (padR s)) ∧ Below w.heap.size w w' := by
  unfold padR
  by_cases h : s.size ≤ 60000
  · rw [if_pos h]
    exact impl_pad_yes s h w
  · rw [if_neg h]
    have hd : decide ((60000 : Int) < (s.size : Int)) = true := decide_eq_true (by omega)
    clear h hm
    go_enter Tryd.func9, Tryd.ntmps9
    go_wp2_with fail
    go_ret
    exact ⟨rfl, Below.refl _ _⟩
theorem spec_pad (s : ByteArray) (w : World) (hm : s.size ≤ 9223372036854775807) :
    Calls Tryd.prog 30 #[.string s] w fun e w' => e = .returned (.string (padR s)) ∧ Below w.heap.size w w' := by
  unfold padR
  by_cases h : s.size ≤ 60000
  · rw [if_pos h]
    exact spec_pad_yes s h w
  · rw [if_neg h]
    have hd : decide ((60000 : Int) < (s.size : Int)) = true := decide_eq_true (by omega)
    clear h hm
    go_enter Tryd.func30, Tryd.ntmps30
    go_wp2_with fail
    go_ret
    exact ⟨rfl, Below.refl _ _⟩
end Go.Proofs.YtkeabkedbbjccaaDoor
