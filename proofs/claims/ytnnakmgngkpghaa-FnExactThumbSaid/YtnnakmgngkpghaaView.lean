/- Plain helpers of this seat's proofs: slices of ints that are read, wherever they lie. No statement is proved here. -/
import Derived.Test.YtnnakmgngkpghaaAid
namespace Go.Proofs.Ytnnakmgngkpghaa
open Go.RowKit
set_option linter.unusedVariables false

theorem val_int {k : IntKind} {a b : Int} (h : a = b) : Value.int k a = .int k b := by rw [h]

/-- What a walk is told of a slice of integers that came in: it is nil; or it leads to a row of 'cap' cells, the numbers 'zs'. -/
def IsRow (k : IntKind) (w : World) (a : Option Addr) (len cap : Nat) (zs : List Int) : Prop :=
  (a = none ∧ len = 0 ∧ cap = 0 ∧ zs = []) ∨
  ∃ x, a = some x ∧ len ≤ cap ∧ cap ≤ maxLen ∧ zs.length = cap ∧ (∀ i, i < zs.length → w.cell? (x.add i) = some (.int k (zs.getD i 0))) ∧ ∀ n ∈ zs, (Lit.int k n).wf = true

/-- The slice at 'ao', of n numbers, reads as xs. -/
def View (k : IntKind) (w : World) (ao : Option Addr) (n : Nat) (xs : List Int) : Prop :=
  xs.length = n ∧ ∀ i, i < n → ∃ b off, ao = some ⟨b, off, none⟩ ∧ w.cell? ⟨b, off + i, none⟩ = some (.int k (xs.getD i 0))

theorem IsRow.view {k : IntKind} {w : World} {a : Option Addr} {len cap : Nat} {zs : List Int} (h : IsRow k w a len cap zs) : View k w a len (zs.take len) := by
  rcases h with ⟨rfl, rfl, rfl, rfl⟩ | ⟨x, rfl, hl, hm, hz, hcell, hwz⟩
  · exact ⟨rfl, fun i hi => by omega⟩
  · refine ⟨by simp; omega, fun i hi => ?_⟩
    obtain ⟨b, off, spot⟩ := x
    have hc := hcell 0 (by omega)
    have hspot : spot = none := by simpa [Addr.add] using World.cell?_spot hc
    subst hspot
    refine ⟨b, off, rfl, ?_⟩
    have := hcell i (by omega)
    rw [Addr.add_lit] at this
    rw [this]
    simp [List.getD, hi]

theorem IsRow.wf {k : IntKind} {w : World} {a : Option Addr} {len cap : Nat} {zs : List Int} (h : IsRow k w a len cap zs) : ∀ n ∈ zs.take len, (Lit.int k n).wf = true := by
  rcases h with ⟨rfl, rfl, rfl, rfl⟩ | ⟨x, rfl, hl, hm, hz, hcell, hwz⟩
  · intro n hn; simp at hn
  · intro n hn; exact hwz n (List.mem_of_mem_take hn)

theorem IsRow.len {k : IntKind} {w : World} {a : Option Addr} {len cap : Nat} {zs : List Int} (h : IsRow k w a len cap zs) : len ≤ 9223372036854775807 ∧ (a = none → len = 0) := by
  rcases h with ⟨rfl, rfl, rfl, rfl⟩ | ⟨x, rfl, hl, hm, hz, hcell, hwz⟩
  · exact ⟨by decide, fun _ => rfl⟩
  · unfold maxLen at hm
    exact ⟨by omega, fun h => by cases h⟩

theorem View.below {k : IntKind} {w w' : World} {B : Nat} {ao : Option Addr} {n : Nat} {xs : List Int} (h : View k w ao n xs) (hB : w.heap.size ≤ B) (hb : Below B w w') : View k w' ao n xs := by
  refine ⟨h.1, fun i hi => ?_⟩
  obtain ⟨b, off, rfl, hc⟩ := h.2 i hi
  exact ⟨b, off, rfl, (hb.cell (p := ⟨b, off + i, none⟩) (Nat.lt_of_lt_of_le (World.block_lt_of_cell? w _ hc) hB)).trans hc⟩

theorem Own.view {k : IntKind} {w : World} {base : Nat} {e : TypeId} {v : Value} {xs : List Int} (h : Own w base e k v xs) : ∃ ao cap, v = .slice ao xs.length cap ∧ View k w ao xs.length xs := by
  obtain ⟨ao, cap, rfl⟩ := h.shape
  refine ⟨ao, cap, rfl, rfl, fun i hi => ?_⟩
  rcases h.2.2 with ⟨hn, h0⟩ | ⟨g, cap', cur, hv, _⟩
  · omega
  · have ha : ao = some ⟨g, 0, none⟩ := by cases hv; rfl
    subst ha
    refine ⟨g, 0, rfl, ?_⟩
    have := h.cell rfl i hi
    rw [Addr.add_lit] at this
    exact this

/-- A store into an own slice. -/
theorem Own.store {k : IntKind} {w : World} {base : Nat} {e : TypeId} {g n c : Nat} {ys : List Int} (h : Own w base e k (.slice (some ⟨g, 0, none⟩) n c) ys) (j : Nat) (x : Int) :
    Own (w.setCell ⟨g, j, none⟩ (.int k x)) base e k (.slice (some ⟨g, 0, none⟩) n c) (ys.set j x) := by
  have hl := h.len
  subst hl
  have := (h.2.stored j (.int k x)).1
  refine ⟨by have := h.1; simpa [World.setCell] using this, ?_⟩
  simpa using this

theorem Own.free {k : IntKind} {w : World} {base : Nat} {e : TypeId} {g n c : Nat} {ys : List Int} (h : Own w base e k (.slice (some ⟨g, 0, none⟩) n c) ys) (j : Nat) : w.frozen? ⟨g, j, none⟩ = false := by
  have hl := h.len
  subst hl
  exact h.2.frozenAt j

theorem Own.at {k : IntKind} {w : World} {base : Nat} {e : TypeId} {g n c : Nat} {ys : List Int} (h : Own w base e k (.slice (some ⟨g, 0, none⟩) n c) ys) (j : Nat) (hj : j < ys.length) : w.cell? ⟨g, j, none⟩ = some (.int k (ys.getD j 0)) := by
  have := h.cell rfl j hj
  rw [Addr.add_lit, Nat.zero_add] at this
  exact this

theorem Own.ge {k : IntKind} {w : World} {base : Nat} {e : TypeId} {a : Addr} {n c : Nat} {ys : List Int} (h : Own w base e k (.slice (some a) n c) ys) : base ≤ a.block ∧ a.block < w.heap.size :=
  h.2.lt a.block rfl

theorem list_eq_of_getD {xs ys : List Int} (hl : xs.length = ys.length) (h : ∀ i, i < xs.length → xs.getD i 0 = ys.getD i 0) : xs = ys := by
  apply List.ext_getElem hl
  intro i h1 h2
  have := h i h1
  simpa [List.getD, h1, h2] using this
end Go.Proofs.Ytnnakmgngkpghaa
