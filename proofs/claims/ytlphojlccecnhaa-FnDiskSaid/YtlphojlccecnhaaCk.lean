/- The walk of the law FnCrash. -/
import Derived.Test.YtlphojlccecnhaaDk
import Derived.Test.YtlphojlccecnhaaCr
import Derived.Test.YtlphojlccecnhaaEq
namespace Go.Proofs.Ytlphojlccecnhaa
open Go.RowKit
set_option linter.unusedVariables false

theorem big_any (ao : Option Addr) (n cap : Nat) (w : World) : Calls Try.prog 9 #[.slice ao n cap] w fun e w' => e = .returned (.bool (decide ((1048576 : Int) < (n : Int)))) ∧ w = w' := by
  go_enter Try.func9, Try.ntmps9
  go_wp2
  go_ret
  exact ⟨rfl, rfl⟩

set_option maxHeartbeats 800000 in
theorem same_texts (ao bo : Option Addr) (cap cap' : Nat) (S : List ByteArray) (w : World) (hn : S.length ≤ 4194304) (ha : Rw w ao (encS S)) (hb : Rw w bo (encS S)) :
    Calls Try.prog 21 #[.slice ao S.length cap, .slice bo S.length cap'] w fun e w' => e = .returned (.bool true) ∧ Below w.heap.size w w' := by
  have HA := hid ha
  have HB := hid hb
  clear ha hb
  generalize hN : S.length = n at *
  have HN := hid hN
  clear hN
  go_enter Try.func21, Try.ntmps21
  go_wp2
  go_loopw [5] (fun i wr => ∃ k : Nat, k ≤ n ∧ i = .int .i64 k ∧ ∃ q, wr = w.drewN q) (fun i _ => n - (intOf i).toNat)
  case atStart => exact ⟨0, by omega, rfl, 0, rfl⟩
  case round =>
    obtain ⟨k, hk, rfl, q, rfl⟩ := hrel
    by_cases hlt : k < n
    · obtain ⟨b, off, rfl, hc⟩ := HA.out.atS k (by rw [HN.out]; exact hlt)
      obtain ⟨b', off', rfl, hc'⟩ := HB.out.atS k (by rw [HN.out]; exact hlt)
      have hlt' : (k : Int) < (n : Int) := by omega
      generalize sAt S k = X at *
      go_wp2
      go_quiet (fail)
      go_wp2
      go_roundw
      case rel => exact ⟨k + 1, by omega, by go_num, _, rfl⟩
      case measure => simp [intOf]; omega
    · obtain rfl : k = n := by omega
      go_wp2
      go_ret
      exact ⟨rfl, belowN (Below.refl _ _) _⟩

/-- Behind a crash each sector is one of those that were safe there or written there. -/
theorem crTo_from (S : List ByteArray) (L : List (Int × ByteArray)) (kp : Nat → Bool) (hok : ∀ j, j < L.length → hasS S.length (lAt L j).1 = true) (i : Nat) (hi : i < S.length) : ∀ k, k ≤ L.length → sAt (crTo S L kp k) i = sAt S i ∨ ∃ j, j < k ∧ (lAt L j).1 = (i : Int) ∧ (lAt L j).2 = sAt (crTo S L kp k) i
  | 0, _ => .inl rfl
  | k + 1, h => by
    have ih := crTo_from S L kp hok i hi k (by omega)
    rw [crTo]
    split
    · obtain ⟨x, hx, hxn⟩ := hasS_nat2 (hok k (by omega))
      by_cases e : x = i
      · subst e
        refine .inr ⟨k, by omega, hx, ?_⟩
        rw [hx, Int.toNat_natCast, sAt_set_same _ _ _ (by rw [crTo_len]; exact hi)]
      · rw [hx, Int.toNat_natCast, sAt_set_ne _ _ _ _ e]
        rcases ih with h1 | ⟨j, h1, h2, h3⟩
        · exact .inl h1
        · exact .inr ⟨j, by omega, h2, h3⟩
    · rcases ih with h1 | ⟨j, h1, h2, h3⟩
      · exact .inl h1
      · exact .inr ⟨j, by omega, h2, h3⟩
theorem crTo_ok (S : List ByteArray) (L : List (Int × ByteArray)) (kp : Nat → Bool) (hok : DOk S L) : DOk (crTo S L kp L.length) [] := by
  refine ⟨⟨by rw [crTo_len]; exact hok.1.1, by simp⟩, fun j hj => ?_, fun j hj => by simp at hj⟩
  rw [crTo_len] at hj
  rcases crTo_from S L kp (fun j hj => (hok.2.2 j hj).1) j hj L.length (Nat.le_refl _) with h | ⟨q, h1, h2, h3⟩
  · rw [h]; exact hok.2.1 j hj
  · rw [← h3]; exact (hok.2.2 q h1).2
end Go.Proofs.Ytlphojlccecnhaa
