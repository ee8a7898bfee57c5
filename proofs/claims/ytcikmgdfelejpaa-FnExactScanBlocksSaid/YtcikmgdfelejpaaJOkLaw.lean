/- The walk of the law FnExactCodesOk. -/
import Derived.Test.YtcikmgdfelejpaaJGf
namespace Go.Proofs.Ytcikmgdfelejpaa
open Go.RowKit
set_option linter.unusedVariables false

theorem IsRow.cv {w : World} {a0 a1 : Option Addr} {n0 n1 c0 c1 : Nat} {z0 z1 : List Int} (h0 : IsRow .i64 w a0 n0 c0 z0) (h1 : IsRow .i64 w a1 n1 c1 z1) : CV w (.agg #[.slice a0 n0 c0, .slice a1 n1 c1]) (z0.take n0) (z1.take n1) := by
  have v0 := h0.view
  have v1 := h1.view
  have e0 := v0.1
  have e1 := v1.1
  exact ⟨a0, c0, a1, c1, by rw [e0, e1], by rw [e0]; exact v0, by rw [e1]; exact v1⟩

end Go.Proofs.Ytcikmgdfelejpaa
