/- What a model that a law is given reads as. -/
import Derived.Test.YtimafabbepgifaaMc
import Derived.ProofKit
import Derived.OpenShut
import Derived.ShutString
import Derived.ChangeOld
import Derived.ChangeSame
import Derived.Deep.Strs
namespace Go.Proofs.Ytimafabbepgifaa
open Go.ChangeShapes Go.WideShapes Go.ChangeAt Go.RowKit Go.Deep
set_option linter.unusedVariables false

theorem cells37 : Try.prog.cellsOf 45 = 1 := by kernel_rfl
theorem cells25 : Try.prog.cellsOf 24 = 1 := by kernel_rfl
set_option maxRecDepth 100000 in
theorem model_of {H : Type} {enc : TypeId × Value → H} {W : World} {r : Reach} {b0 : Nat} {v : Value} {d : DataW H} {p : List MemPlace} (hok : Value.okWide Try.prog W r b0 45 v)
    (h : DataW.Trod enc Try.prog W 0 (fun _ => true) true 45 v d p) : ∃ ao len cap zs, v = .agg #[.slice ao len cap] ∧ IsRow .i64 W ao len cap zs := by
  obtain ⟨cs, rfl, hsz⟩ := okWide_struct Try.underlying45 hok
  rw [cells37] at hsz
  obtain ⟨fuel, hf⟩ := h
  obtain ⟨l⟩ := cs
  match l, hsz with
  | [x0], _ =>
    obtain ⟨y0, k, _, _, g0⟩ := trod_struct1 Try.underlying45 hf
    have g1 : DataW.trod enc Try.prog W 0 (fun _ => true) true k 24 [x0] = some y0 := by
      have := g0
      simpa [cells25, Value.cells] using this
    rcases open_ints Try.underlying24 Try.underlying3 (by kernel_rfl) g1 with ⟨hcs, _⟩ | ⟨x, l, c, zs, hcs, _, hl, hm, hz, _, hcell, hwz⟩
    · simp at hcs
      subst hcs
      exact ⟨none, 0, 0, [], rfl, .inl ⟨rfl, rfl, rfl, rfl⟩⟩
    · simp at hcs
      subst hcs
      exact ⟨some x, l, c, zs, rfl, .inr ⟨_, rfl, hl, hm, by simpa using hz, hcell, hwz⟩⟩
end Go.Proofs.Ytimafabbepgifaa
