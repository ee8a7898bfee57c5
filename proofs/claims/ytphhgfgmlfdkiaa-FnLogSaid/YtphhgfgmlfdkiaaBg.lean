/- The contracts of the laws' big and sameTexts. -/
import Derived.Test.YtphhgfgmlfdkiaaEq
import Derived.Test.YtphhgfgmlfdkiaaDra
namespace Go.Proofs.Ytphhgfgmlfdkiaa
open Go.RowKit
set_option linter.unusedVariables false

theorem big_any (ao : Option Addr) (n cap : Nat) (w : World) : Calls Try.prog 9 #[.slice ao n cap] w fun e w' => e = .returned (.bool (decide ((1048576 : Int) < (n : Int)))) ∧ w = w' := by
  go_enter Try.func9, Try.ntmps9
  go_wp2
  go_ret
  exact ⟨rfl, rfl⟩

set_option maxHeartbeats 800000 in
theorem same_texts (ao bo : Option Addr) (cap cap' : Nat) (S : List ByteArray) (w : World) (hn : S.length ≤ 4194304) (ha : Rw w ao (encS S)) (hb : Rw w bo (encS S)) :
    Calls Try.prog 15 #[.slice ao S.length cap, .slice bo S.length cap'] w fun e w' => e = .returned (.bool true) ∧ Below w.heap.size w w' := by
  have HA := hid ha
  have HB := hid hb
  clear ha hb
  generalize hN : S.length = n at *
  have HN := hid hN
  clear hN
  go_enter Try.func15, Try.ntmps15
  go_wp2
  go_loopw [5] (fun i wr => ∃ k : Nat, k ≤ n ∧ i = .int .i64 k ∧ ∃ q, wr = w.drewN q) (fun i _ => n - (intOf i).toNat)
  case atStart => exact ⟨0, by omega, rfl, 0, rfl⟩
  case round =>
    obtain ⟨k, hk, rfl, q, rfl⟩ := hrel
    by_cases hlt : k < n
    · obtain ⟨b, off, rfl, hc⟩ := HA.out.atS k (by rw [HN.out]; exact hlt)
      obtain ⟨b', off', rfl, hc'⟩ := HB.out.atS k (by rw [HN.out]; exact hlt)
      have hlt' : (k : Int) < (n : Int) := by omega
      generalize sAt S k = X at *
      go_wp2
      go_quiet (fail)
      go_wp2
      go_roundw
      case rel => exact ⟨k + 1, by omega, by go_num, _, rfl⟩
      case measure => simp [intOf]; omega
    · obtain rfl : k = n := by omega
      go_wp2
      go_ret
      exact ⟨rfl, belowN (Below.refl _ _) _⟩
end Go.Proofs.Ytphhgfgmlfdkiaa
