/- SumPad of both sides at every text. -/
import Derived.Test.YtkeabkedbbjccaaPi
import Derived.Test.YtkeabkedbbjccaaPt
namespace Go.Proofs.Ytkeabkedbbjccaa
open Go.RowKit
set_option linter.unusedVariables false

theorem impl_pad (s : ByteArray) (w : World) (hm : s.size ≤ 9223372036854775807) :
    Calls Try.prog 11 #[.string s] w fun e w' => e = .returned (.string (padR s)) ∧ Below w.heap.size w w' := by
  unfold padR
  by_cases h : s.size ≤ 60000
  · rw [if_pos h]
    exact impl_pad_yes s h w
  · rw [if_neg h]
    have hd : decide ((60000 : Int) < (s.size : Int)) = true := decide_eq_true (by omega)
    clear h hm
    go_enter Try.func11, Try.ntmps11
    go_wp2_with fail
    go_ret
    exact ⟨rfl, Below.refl _ _⟩
theorem spec_pad (s : ByteArray) (w : World) (hm : s.size ≤ 9223372036854775807) :
    Calls Try.prog 10 #[.string s] w fun e w' => e = .returned (.string (padR s)) ∧ Below w.heap.size w w' := by
  unfold padR
  by_cases h : s.size ≤ 60000
  · rw [if_pos h]
    exact spec_pad_yes s h w
  · rw [if_neg h]
    have hd : decide ((60000 : Int) < (s.size : Int)) = true := decide_eq_true (by omega)
    clear h hm
    go_enter Try.func10, Try.ntmps10
    go_wp2_with fail
    go_ret
    exact ⟨rfl, Below.refl _ _⟩
end Go.Proofs.Ytkeabkedbbjccaa
