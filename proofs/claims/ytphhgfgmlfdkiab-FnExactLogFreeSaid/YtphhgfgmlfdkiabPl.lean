/- The walk of the law FnExactLogParts. -/
import Derived.Test.YtphhgfgmlfdkiabSpp
import Derived.Test.YtphhgfgmlfdkiabEq
import Derived.Test.YtphhgfgmlfdkiabMk
import Derived.Test.YtphhgfgmlfdkiabFr
namespace Go.Proofs.Ytphhgfgmlfdkiab
open Go.RowKit
set_option linter.unusedVariables false

theorem partsP_len (q : Int) (s : ByteArray) : (partsP q s).length ≤ 600 := by
  unfold partsP
  by_cases h : partOk q s = true
  · rw [if_pos h, partsTo_len]
    simp only [partOk, decide_eq_true_eq] at h
    unfold parts
    omega
  · rw [if_neg h]
    simp

end Go.Proofs.Ytphhgfgmlfdkiab
