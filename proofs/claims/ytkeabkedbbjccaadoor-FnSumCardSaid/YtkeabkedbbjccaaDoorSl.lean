/- Sum of both sides at every text; the law FnExactSum walked. -/
import Derived.Test.YtkeabkedbbjccaaDoorSi
import Derived.Test.YtkeabkedbbjccaaDoorSs
namespace Go.Proofs.YtkeabkedbbjccaaDoor
open Go.RowKit
set_option linter.unusedVariables false

theorem impl_sum (s : ByteArray) (w : World) (hm : s.size ≤ 9223372036854775807) (hw : ConstsAt w) (hw2 : StartsAt w) :
    Calls Tryd.prog 14 #[.string s] w fun e w' => e = .returned (.string (sumR s)) ∧ Below w.heap.size w w' := by
  unfold sumR
  by_cases h : s.size ≤ 60000
  · rw [if_pos h]
    exact impl_sum_yes s h w hw hw2
  · rw [if_neg h]
    have hd : decide ((60000 : Int) < (s.size : Int)) = true := decide_eq_true (by omega)
    clear h hm
    go_enter Tryd.func14, Tryd.ntmps14
    go_wp2_with fail
    go_ret
    exact ⟨rfl, Below.refl _ _⟩
theorem spec_sum (s : ByteArray) (w : World) (hm : s.size ≤ 9223372036854775807) :
    Calls Tryd.prog 15 #[.string s] w fun e w' => e = .returned (.string (sumR s)) ∧ Below w.heap.size w w' := by
  unfold sumR
  by_cases h : s.size ≤ 60000
  · rw [if_pos h]
    exact spec_sum_yes s h w
  · rw [if_neg h]
    have hd : decide ((60000 : Int) < (s.size : Int)) = true := decide_eq_true (by omega)
    clear h hm
    go_enter Tryd.func15, Tryd.ntmps15
    go_wp2_with fail
    go_ret
    exact ⟨rfl, Below.refl _ _⟩
theorem law_sum (s : ByteArray) (w : World) (hm : s.size ≤ 9223372036854775807) (hw : ConstsAt w) (hw2 : StartsAt w) :
    Calls Tryd.prog 6 #[.string s] w fun e w' => e = .returned (.bool true) ∧ Below w.heap.size w w' := by
  by_cases hl : (1048576 : Int) < (s.size : Int)
  · clear hm hw hw2
    go_enter Tryd.func6, Tryd.ntmps6
    go_wp2_with fail
    go_ret
    exact ⟨rfl, Below.refl _ _⟩
  · have hd : decide ((1048576 : Int) < (s.size : Int)) = false := decide_eq_false hl
    have HI := hid (fun q (hq : Below w.heap.size w q) => impl_sum s q hm (hw.below (Nat.le_refl _) hq) (hw2.below (Nat.le_refl _) hq))
    have HS := hid (fun q => spec_sum s q hm)
    generalize sumR s = R at *
    clear hl hm hw hw2
    go_enter Tryd.func6, Tryd.ntmps6
    go_wp2_with fail
    refine (HS.out _).mono ?_
    rintro e w1 ⟨rfl, hb1⟩
    have B1 := hid hb1
    clear hb1
    go_wp2_with fail
    refine (HI.out _ B1.out).mono ?_
    rintro e w2 ⟨rfl, hb2⟩
    have B2 := hid (B1.out.trans (hb2.mono B1.out.size))
    clear hb2
    go_wp2_with fail
    go_ret
    exact ⟨rfl, B2.out⟩
end Go.Proofs.YtkeabkedbbjccaaDoor
