/- Contracts of DiskStart, of the program and of the specification. -/
import Derived.Test.YtphhgfgmlfdkiabOk
namespace Go.Proofs.Ytphhgfgmlfdkiab
open Go.RowKit
set_option linter.unusedVariables false

/-- What DiskStart answers. -/
def stR (n : Int) : List ByteArray × Bool := if 1 ≤ n ∧ n ≤ 1500 then (List.replicate n.toNat ByteArray.empty, true) else ([], false)
theorem stR_yes {n : Int} (h1 : 1 ≤ n) (h2 : n ≤ 1500) : stR n = (List.replicate n.toNat ByteArray.empty, true) := by unfold stR; rw [if_pos ⟨h1, h2⟩]
theorem stR_no {n : Int} (h : ¬ (1 ≤ n ∧ n ≤ 1500)) : stR n = ([], false) := by unfold stR; rw [if_neg h]
theorem stR_len (n : Int) : (stR n).1.length ≤ 1500 := by
  unfold stR
  split
  · simp; omega
  · simp
theorem OwG.cast {w : World} {base e sz : Nat} {v : Value} {n n' : Nat} {cs cs' : List Value} (h : OwG w base e sz v n cs) (hn : n = n') (hc : cs = cs') : OwG w base e sz v n' cs' := by subst hn; subst hc; exact h

theorem encS_rep (k : Nat) : encS (List.replicate k ByteArray.empty) ++ [.string (ByteArray.mk #[])] = encS (List.replicate (k + 1) ByteArray.empty) := by
  rw [List.replicate_succ', encS_app]
  rfl

end Go.Proofs.Ytphhgfgmlfdkiab
