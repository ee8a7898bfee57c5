/- What an array of eight words that a law is given reads as. -/
import Derived.Test.YtojeggellccojaaDoorBk
import Derived.ProofKit
import Derived.OpenShut
import Derived.ShutString
import Derived.ChangeOld
namespace Go.Proofs.YtojeggellccojaaDoor
open Go.ChangeShapes Go.WideShapes Go.ChangeAt Go.RowKit
set_option linter.unusedVariables false

theorem cells26 : Tryd.prog.cellsOf 26 = 1 := by kernel_rfl
theorem cells28 : Tryd.prog.cellsOf 28 = 8 := by kernel_rfl
set_option maxRecDepth 100000 in
theorem arr8_of {H : Type} {enc : TypeId × Value → H} {W : World} {r : Reach} {b0 : Nat} {v : Value} {d : DataW H} {p : List MemPlace} (hok : Value.okWide Tryd.prog W r b0 28 v)
    (h : DataW.Trod enc Tryd.prog W 0 (fun _ => true) true 28 v d p) : ∃ S, St8 S ∧ v = arr S := by
  obtain ⟨cs, rfl, hsz, _⟩ : ∃ cs, v = .agg cs ∧ cs.size = Tryd.prog.cellsOf 28 ∧ Row.okWide Tryd.prog W r b0 28 cs := by
    simpa [Value.okWide, Tryd.underlying28] using hok
  rw [cells28] at hsz
  obtain ⟨fuel, hf⟩ := h
  obtain ⟨l⟩ := cs
  obtain ⟨xs, m, _, _, hl, hlen, hg⟩ := DataW.trod_array Tryd.underlying28 hf
  have hone : ∀ i x, l[i]? = some x → i < 8 → ∃ z, x = .int .u32 z ∧ W32 z := by
    intro i x hx hi
    have h1 := hg i hi
    rw [cells26] at h1
    have hxs : i < xs.length := by omega
    rw [List.getElem?_eq_getElem hxs] at h1
    have h2 : (l.drop (i * 1)).take 1 = [x] := by
      rw [Nat.mul_one]
      have hil : i < l.length := (List.getElem?_eq_some_iff.1 hx).1
      rw [List.drop_eq_getElem_cons hil, List.take_succ_cons, List.take_zero]
      rw [List.getElem?_eq_getElem hil] at hx
      cases hx
      rfl
    have h3 : DataW.trod enc Tryd.prog W 0 (fun _ => true) true m 26 ((l.drop (i * 1)).take 1) = some xs[i] := h1
    rw [h2] at h3
    obtain ⟨z, hz, _, hw⟩ := DataW.trod_int Tryd.underlying26 h3
    simp at hz
    obtain ⟨h0, h1⟩ := bounds_u32 hw
    exact ⟨z, hz, h0, by omega⟩
  clear hf hg hl hlen
  match l, hsz, hone with
  | [x0, x1, x2, x3, x4, x5, x6, x7], _, hone =>
    obtain ⟨a, rfl, ha⟩ := hone 0 _ rfl (by decide)
    obtain ⟨b, rfl, hb⟩ := hone 1 _ rfl (by decide)
    obtain ⟨c, rfl, hc⟩ := hone 2 _ rfl (by decide)
    obtain ⟨d, rfl, hd⟩ := hone 3 _ rfl (by decide)
    obtain ⟨e, rfl, he⟩ := hone 4 _ rfl (by decide)
    obtain ⟨f, rfl, hf⟩ := hone 5 _ rfl (by decide)
    obtain ⟨g, rfl, hg⟩ := hone 6 _ rfl (by decide)
    obtain ⟨h, rfl, hh⟩ := hone 7 _ rfl (by decide)
    exact ⟨[a, b, c, d, e, f, g, h], St8.mk8 ha hb hc hd he hf hg hh, rfl⟩
end Go.Proofs.YtojeggellccojaaDoor
