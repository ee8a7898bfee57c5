/- What the parameters of these laws read as: a block, an array of 64 numbers; what the listed array holds. -/
import Derived.Test.YtcodmkampihphaaDoorSq
import Derived.ProofKit
import Derived.OpenShut
import Derived.ShutString
import Derived.ChangeOld
import Derived.Lib.SmallJoins
namespace Go.Proofs.YtcodmkampihphaaDoor
open Go.ChangeShapes Go.WideShapes Go.ChangeAt Go.RowKit
set_option linter.unusedVariables false

/-- A cell that reads at a slice of ints. -/
theorem row_of {H : Type} {enc : TypeId × Value → H} {W : World} {n : Nat} {v : Value} {y : DataW H × List MemPlace}
    (h : DataW.trod enc Tryd.prog W 0 (fun _ => true) true n 26 [v] = some y) : ∃ a l c zs, v = .slice a l c ∧ IsRow .i64 W a l c zs := by
  rcases open_ints Tryd.underlying26 Tryd.underlying3 (by kernel_rfl) h with ⟨hcs, _⟩ | ⟨x, l, c, zs, hcs, _, hl, hm, hz, _, hcell, hwz⟩
  · simp at hcs
    exact ⟨none, 0, 0, [], hcs, .inl ⟨rfl, rfl, rfl, rfl⟩⟩
  · simp at hcs
    exact ⟨some x, l, c, zs, hcs, .inr ⟨_, rfl, hl, hm, by simpa using hz, hcell, hwz⟩⟩
/-- A cell that reads at an int. -/
theorem int_of {H : Type} {enc : TypeId × Value → H} {W : World} {n : Nat} {v : Value} {y : DataW H × List MemPlace}
    (h : DataW.trod enc Tryd.prog W 0 (fun _ => true) true n 3 [v] = some y) : ∃ z, v = .int .i64 z ∧ (Lit.int .i64 z).wf = true := by
  obtain ⟨z, hz, _, hw⟩ := DataW.trod_int Tryd.underlying3 h
  simp at hz
  exact ⟨z, hz, hw⟩

theorem cells3 : Tryd.prog.cellsOf 3 = 1 := by kernel_rfl
theorem cells30 : Tryd.prog.cellsOf 30 = 64 := by kernel_rfl
/-- Cells that are numbers. -/
theorem ivs_of : ∀ (l : List Value), (∀ (i : Nat) (x : Value), l[i]? = some x → ∃ z, x = Value.int .i64 z) → ∃ S : List Int, l = ivs S
  | [], _ => ⟨[], rfl⟩
  | x :: l, h => by
    obtain ⟨z, rfl⟩ := h 0 x rfl
    obtain ⟨S, rfl⟩ := ivs_of l (fun i y hy => h (i + 1) y (by simpa using hy))
    exact ⟨z :: S, rfl⟩
set_option maxRecDepth 100000 in
theorem arr64_of {H : Type} {enc : TypeId × Value → H} {W : World} {r : Reach} {b0 : Nat} {v : Value} {d : DataW H} {p : List MemPlace} (hok : Value.okWide Tryd.prog W r b0 30 v)
    (h : DataW.Trod enc Tryd.prog W 0 (fun _ => true) true 30 v d p) : ∃ S : List Int, S.length = 64 ∧ v = .agg (ivs S).toArray := by
  obtain ⟨cs, rfl, hsz, _⟩ : ∃ cs, v = .agg cs ∧ cs.size = Tryd.prog.cellsOf 30 ∧ Row.okWide Tryd.prog W r b0 30 cs := by
    simpa [Value.okWide, Tryd.underlying30] using hok
  rw [cells30] at hsz
  obtain ⟨fuel, hf⟩ := h
  obtain ⟨l⟩ := cs
  have hl64 : l.length = 64 := by simpa using hsz
  obtain ⟨xs, m, _, _, hl, hlen, hg⟩ := DataW.trod_array Tryd.underlying30 hf
  have hone : ∀ (i : Nat) (x : Value), l[i]? = some x → ∃ z, x = Value.int .i64 z := by
    intro i x hx
    have hil : i < l.length := (List.getElem?_eq_some_iff.1 hx).1
    have h1 := hg i (by omega)
    rw [cells3] at h1
    have hxs : i < xs.length := by omega
    rw [List.getElem?_eq_getElem hxs] at h1
    have h2 : (l.drop (i * 1)).take 1 = [x] := by
      rw [Nat.mul_one]
      rw [List.drop_eq_getElem_cons hil, List.take_succ_cons, List.take_zero]
      rw [List.getElem?_eq_getElem hil] at hx
      cases hx
      rfl
    have h3 : DataW.trod enc Tryd.prog W 0 (fun _ => true) true m 3 ((l.drop (i * 1)).take 1) = some xs[i] := h1
    rw [h2] at h3
    obtain ⟨z, hz, _⟩ := int_of h3
    exact ⟨z, hz⟩
  obtain ⟨S, rfl⟩ := ivs_of l hone
  exact ⟨S, by rw [← ivs_len]; exact hl64, rfl⟩
end Go.Proofs.YtcodmkampihphaaDoor
