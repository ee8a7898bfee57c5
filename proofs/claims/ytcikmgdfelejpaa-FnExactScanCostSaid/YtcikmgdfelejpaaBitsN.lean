/- The contract of BitsNum of the program. -/
import Derived.Test.YtcikmgdfelejpaaPut
namespace Go.Proofs.Ytcikmgdfelejpaa
open Go.RowKit
set_option linter.unusedVariables false

theorem Inv.start (b : Nat → Int) (w : World) : Inv b (w.alloc (.cells #[.int .u32 0, .int .i64 0, .slice none 0 0] 132)) w.heap.size 0 :=
  ⟨0, 0, .slice none 0 0, rfl, by decide, .inl rfl, heap_alloc_new w _, Own.nil _ _ _ _ (by simp)⟩

set_option maxHeartbeats 800000 in
theorem impl_bitsNum (ao : Option Addr) (n cap : Nat) (xs : List Int) (w : World) (hn : n ≤ 32) (hv : View .i64 w ao n xs) (hall : ∀ j, j < n → Bit (xs.getD j 0)) :
    Calls Try.prog 114 #[.slice ao n cap] w fun e w' => e = .returned (.int .i64 (num (pad xs) 0 n)) ∧ Below w.heap.size w w' := by
  have HC := hid (areBits_yes ao n cap xs w (by omega) hv hall)
  have hl : decide ((32 : Int) < (n : Int)) = false := by simp; omega
  have HP := hid (putAll_any ao n cap xs w.heap.size w _ (by omega) hv hall (Nat.le_refl _) ((Below.refl _ _).alloc (Nat.le_refl _) _) (Inv.start (pad xs) w))
  have HB := hid (pad_bit xs (by rw [hv.1]; exact hall))
  clear hv hall
  go_enter Try.func114, Try.ntmps114
  go_wp2_with (go_at_call 54; refine HC.out.mono ?_; rintro e w' ⟨rfl, rfl⟩)
  refine HP.out.mono ?_
  rintro e w1 ⟨rfl, ⟨J, h, v, hm, h32, hJ, hw, ho⟩, hb1⟩
  obtain rfl : J = 0 := by omega
  obtain rfl : h = n := by omega
  obtain ⟨d0, d1, d2, g0, g1, g2⟩ := hw.cells
  have x0 := (num_bd (pad xs) HB.out (8 * 0) h).1
  have x1 := num_le (pad xs) HB.out (8 * 0) h 32 h32
  simp only [Nat.mul_zero] at d0 x0 x1
  generalize hX : num (pad xs) 0 h = X at *
  have HX := hid hX
  clear hm hw hX
  go_wp2
  go_ret
  exact ⟨ret_int HX.out.symm, ((Below.refl _ _).alloc (Nat.le_refl _) _).trans hb1⟩

set_option maxHeartbeats 800000 in
theorem impl_bitsNum_no (ao : Option Addr) (n cap : Nat) (xs : List Int) (w : World) (hn : n ≤ 1048576) (hv : View .i64 w ao n xs) (hbad : 32 < n ∨ ¬ ∀ j, j < n → Bit (xs.getD j 0)) :
    Calls Try.prog 114 #[.slice ao n cap] w fun e w' => e = .returned (.int .i64 (-1)) ∧ Below w.heap.size w w' := by
  by_cases h : (32 : Int) < (n : Int)
  · clear hbad
    go_enter Try.func114, Try.ntmps114
    go_wp2
    go_ret
    exact ⟨rfl, Below.refl _ _⟩
  · have HC := hid (areBits_no ao n cap xs w hn hv (by rcases hbad with h2 | h2; omega; exact h2))
    have hl : decide ((32 : Int) < (n : Int)) = false := by simp; omega
    clear hbad hv
    go_enter Try.func114, Try.ntmps114
    go_wp2_with (go_at_call 54; refine HC.out.mono ?_; rintro e w' ⟨rfl, rfl⟩)
    go_ret
    exact ⟨rfl, Below.refl _ _⟩

end Go.Proofs.Ytcikmgdfelejpaa
