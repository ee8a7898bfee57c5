/- Two named variables, and the second of what a row lists. -/
import Derived.Test.YtkeabkedbbjccaaDoorKt
import Derived.OpenShut
import Derived.LaidMore
namespace Go.Proofs.YtkeabkedbbjccaaDoor
open Go.ChangeShapes Go.RowKit
set_option linter.unusedVariables false

theorem vars_two {H : Type} {enc : TypeId × Value → H} {P : Program} {w : World} {spare : Nat → Bool} {n0 n1 : String} {gs : List (DataW H)} {ps : List MemPlace} (h : DataW.TrodVars enc P w spare [n0, n1] gs ps) : ∃ d0 d1, gs = [d0, d1] := by
  obtain ⟨g0, t0, cs0, f0, d0, p0, g1, t1, cs1, f1, d1, p1, e, _⟩ := trodVars_two h
  exact ⟨d0, d1, e⟩
theorem laid_tail {P : Program} {W : World} {x : String × DataW Unit} {rest : List (String × DataW Unit)} (h : laidMet P (x :: rest) W) : laidMet P rest W := by
  obtain ⟨ps, ⟨g', t', cs, fuel, p, q, hg', ht', hvar, hd, hr, hps⟩, hnd, hc⟩ := h
  subst hps
  refine ⟨q, hr, (List.nodup_append.1 hnd).2.1, fun b off hm => hc b off (List.mem_append_right _ hm)⟩
end Go.Proofs.YtkeabkedbbjccaaDoor
