/- Plain helper: the same row under another name. No statement is proved here. -/
import Derived.Test.YtlphojlccecnhabGr
namespace Go.Proofs.Ytlphojlccecnhab
open Go.RowKit
set_option linter.unusedVariables false
theorem OwG.cast {w : World} {base e sz : Nat} {v : Value} {n n' : Nat} {cs cs' : List Value} (h : OwG w base e sz v n cs) (hn : n = n') (hc : cs = cs') : OwG w base e sz v n' cs' := by subst hn; subst hc; exact h
end Go.Proofs.Ytlphojlccecnhab
