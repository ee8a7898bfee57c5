/- slices.Max of numbers. -/
import Derived.Test.YtmdmolofiblbmaaInts
namespace Go.Proofs.Ytmdmolofiblbmaa
open Go.RowKit
set_option linter.unusedVariables false

def maxTo (xs : List Int) : Nat → Int
  | 0 => xs.getD 0 0
  | k + 1 => max (maxTo xs k) (xs.getD (k + 1) 0)
theorem maxTo_gt (xs : List Int) (b : Int) : ∀ k, b < maxTo xs k ↔ ∃ j, j ≤ k ∧ b < xs.getD j 0
  | 0 => ⟨fun h => ⟨0, Nat.le_refl _, h⟩, fun ⟨j, hj, h⟩ => by
    obtain rfl : j = 0 := Nat.le_zero.1 hj
    exact h⟩
  | k + 1 => by
    have ih := maxTo_gt xs b k
    rw [maxTo]
    constructor
    · intro h
      by_cases h1 : b < maxTo xs k
      · obtain ⟨j, hj, h2⟩ := ih.1 h1
        exact ⟨j, by omega, h2⟩
      · exact ⟨k + 1, Nat.le_refl _, by omega⟩
    · rintro ⟨j, hj, h⟩
      by_cases e : j = k + 1
      · subst e; omega
      · have := ih.2 ⟨j, by omega, h⟩
        omega

set_option maxHeartbeats 800000 in
theorem max_any (ao : Option Addr) (m cap : Nat) (xs : List Int) (w : World) (hn : m ≤ 1048576) (hv : View .i64 w ao (m + 1) xs) :
    Calls Try.prog 42 #[.slice ao (m + 1) cap] w fun e w' => e = .returned (.int .i64 (maxTo xs m)) ∧ w' = w := by
  obtain ⟨b, off, rfl, hc0⟩ := hv.2 0 (by omega)
  have HV := hid hv
  have hm0 := hid (show maxTo xs 0 = xs.getD 0 0 from rfl)
  rw [Nat.add_zero] at hc0
  clear hv
  have hb : (m : Int) ≤ 1048576 := by omega
  generalize hX0 : xs.getD 0 0 = X0 at hc0 hm0
  clear hX0
  have hlt : decide (((m + 1 : Nat) : Int) < 1) = false := by simp; omega
  go_enter Try.func42, Try.ntmps42
  go_wp2
  go_loop [3, 4] (fun z i => ∃ k : Nat, k ≤ m ∧ i = .int .i64 ((k : Int) + 1) ∧ z = .int .i64 (maxTo xs k)) (fun _ i => m + 1 - (intOf i).toNat)
  case atStart => exact ⟨0, by omega, rfl, by rw [hm0.out]⟩
  case round =>
    obtain ⟨k, hk, rfl, rfl⟩ := hrel
    by_cases hlt : k < m
    · obtain ⟨b', off', hab, hc⟩ := HV.out.2 (k + 1) (by omega)
      cases hab
      have HST := hid (show maxTo xs (k + 1) = max (maxTo xs k) (xs.getD (k + 1) 0) from rfl)
      have e1 : ((off + (k + 1) : Nat)) = off + (k + 1) := rfl
      have hk1 : ((k : Int) + 1) < ((m + 1 : Nat) : Int) := by omega
      have hk2 : ((k : Int) + 1).toNat = k + 1 := by omega
      generalize xs.getD (k + 1) 0 = X at *
      generalize maxTo xs k = Y at *
      go_wp2
      go_round
      case rel => exact ⟨k + 1, by omega, val_int (by omega), by rw [HST.out]; exact val_int (by split <;> omega)⟩
      case measure => simp [intOf]; omega
    · obtain rfl : k = m := by omega
      go_wp2
      go_ret
      exact ⟨rfl, rfl⟩
end Go.Proofs.Ytmdmolofiblbmaa
