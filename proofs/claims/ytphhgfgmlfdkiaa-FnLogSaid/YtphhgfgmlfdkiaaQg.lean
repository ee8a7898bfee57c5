/- Regions whose order is left open, further: operations that load, several that may come up at once. Plain law over the model's regions. -/
import Derived.Test.YtphhgfgmlfdkiaaQf
namespace Go.Proofs.Ytphhgfgmlfdkiaa
open Go.RowKit
set_option linter.unusedVariables false

theorem cell_bw {w w' : World} {a : Addr} {v : Value} (h : w.cell? a = some v) (hb : Bw w w') : w'.cell? a = some v := by
  have hlt : a.block < w.heap.size := by
    apply Classical.byContradiction
    intro hn
    unfold World.cell? at h
    rw [Array.getElem?_eq_none (by omega)] at h
    simp at h
  unfold World.cell? at *
  rw [hb.block _ hlt]
  exact h

/-- An operation that yields one value, told. -/
theorem anyR_load {P : Program} {md : Region.Mode} {ops : Array Oper} {Q : Act → World → Prop} {fuel : Nat} {listed : Array Bool} {a : Act} {w : World} (i : Nat) {oi : Oper} (hi : ops[i]? = some oi) (hs : Region.noSelect ops = true) (hr : (Region.ready md ops listed).contains i = true) (hf : (Region.free md ops listed i && clB md ops listed) = true)
    (v : Value) (hw : Region.wanted oi (yielded ops a.tmps) = true) (hy : ∀ w1, Bw w w1 → oi.quietAt P a (Bw w1) w1 v)
    (h : ∀ K : Act → World → Prop, (∀ a', AnyR P md ops Q fuel (listed.setIfInBounds i true) a' w → K a' w) → K (a.put oi.dst v) w) : AnyR P md ops Q (fuel + 1) listed a w :=
  anyR_quiet i hi hs hr hf (fun K hK => by rw [if_pos hw]; exact ⟨v, hy, h K hK⟩)

/-- Operation i, if it comes up now. -/
def StepR (P : Program) (md : Region.Mode) (ops : Array Oper) (Q : Act → World → Prop) (fuel : Nat) (listed : Array Bool) (a : Act) (w : World) (i : Nat) : Prop :=
  ∀ w1, Bw w w1 → wpOpF P ops i (fun a' w' => if lastT md ops i = true then Q a' w' else (exB md ops i = true ∨ Bw w1 w') ∧ AnyR P md ops Q fuel (listed.setIfInBounds i true) a' w') a w1
theorem anyR_many {P : Program} {md : Region.Mode} {ops : Array Oper} {Q : Act → World → Prop} {fuel : Nat} {listed : Array Bool} {a : Act} {w : World} (l : List Nat) (hr : Region.ready md ops listed = l) (hne : l ≠ []) (h : ∀ i ∈ l, StepR P md ops Q fuel listed a w i) : AnyR P md ops Q (fuel + 1) listed a w :=
  fun w1 h1 => ⟨fun e => absurd (hr.symm.trans e) hne, fun i hi => h i (by rw [← hr]; exact hi) w1 h1⟩
theorem stepR_call {P : Program} {md : Region.Mode} {ops : Array Oper} {Q : Act → World → Prop} {fuel : Nat} {listed : Array Bool} {a : Act} {w : World} {i : Nat} {oi : Oper} (hi : ops[i]? = some oi) (hw : Region.wanted oi (yielded ops a.tmps) = true) (hT : lastT md ops i = false)
    (h : ∀ w1, Bw w w1 → ∀ K : Act → World → Prop, (∀ a' w', (exB md ops i = true ∨ Bw w1 w') → AnyR P md ops Q fuel (listed.setIfInBounds i true) a' w' → K a' w') → oi.wp P a w1 K (fun _ _ _ => False)) : StepR P md ops Q fuel listed a w i := by
  intro w1 h1
  unfold wpOpF
  simp only [hi, hT]
  rw [if_pos hw]
  exact h w1 h1 _ (fun a' w' hb hk => ⟨hb, hk⟩)
theorem anyR_callG {P : Program} {md : Region.Mode} {ops : Array Oper} {Q : Act → World → Prop} {fuel : Nat} {listed : Array Bool} {a : Act} {w : World} (i : Nat) {oi : Oper} (hi : ops[i]? = some oi) (hw : Region.wanted oi (yielded ops a.tmps) = true) (hr : Region.ready md ops listed = [i]) (hT : lastT md ops i = false)
    (h : ∀ w1, Bw w w1 → ∀ K : Act → World → Prop, (∀ a' w', (exB md ops i = true ∨ Bw w1 w') → AnyR P md ops Q fuel (listed.setIfInBounds i true) a' w' → K a' w') → oi.wp P a w1 K (fun _ _ _ => False)) : AnyR P md ops Q (fuel + 1) listed a w :=
  anyR_many [i] hr (by simp) (fun j hj => by
    obtain rfl : j = i := by simpa using hj
    exact stepR_call hi hw hT h)
end Go.Proofs.Ytphhgfgmlfdkiaa
