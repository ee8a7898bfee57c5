/- A block of a sum: the plain function that SumBlock of both sides comes to; SumBlock of the program. -/
import Derived.Test.YtkeabkedbbjccaaDoorRn
import Derived.Test.YtkeabkedbbjccaaDoorKt
import Derived.Test.YtkeabkedbbjccaaDoorWt
import Derived.Deep.CutRange
namespace Go.Proofs.YtkeabkedbbjccaaDoor
open Go.RowKit
set_option linter.unusedVariables false

/-- An array of words. -/
def arr (L : List Int) : Value := .agg (L.map (Value.int .u32)).toArray
/-- A round; the first k rounds over a block; what is behind them added to what was ahead, the first k words; a block. -/
def roundL (L : List Int) (x : Int) : List Int := match L with
  | [a, b, c, d, e, f, g, h] => [(rT e f g h x + rU a b c) % 4294967296, a, b, c, (d + rT e f g h x) % 4294967296, e, f, g]
  | _ => L
def rounds (S : List Int) (s : ByteArray) : Nat → List Int
  | 0 => S
  | k + 1 => roundL (rounds S s k) ((kc k + (ws s 64).getD k 0) % 4294967296)
def addTo (X Y : List Int) : Nat → List Int
  | 0 => X
  | k + 1 => (addTo X Y k).set k ((X.getD k 0 + Y.getD k 0) % 4294967296)
def blockR (S : List Int) (s : ByteArray) : List Int := if s.size = 64 then addTo (rounds S s 64) S 8 else S
/-- Eight words. -/
def St8 (L : List Int) : Prop := L.length = 8 ∧ ∀ x ∈ L, W32 x
theorem eight {L : List Int} (h : L.length = 8) : ∃ a b c d e f g h, L = [a, b, c, d, e, f, g, h] := by
  match L, h with
  | [a, b, c, d, e, f, g, h], _ => exact ⟨a, b, c, d, e, f, g, h, rfl⟩
theorem St8.words {a b c d e f g h : Int} (H : St8 [a, b, c, d, e, f, g, h]) : W32 a ∧ W32 b ∧ W32 c ∧ W32 d ∧ W32 e ∧ W32 f ∧ W32 g ∧ W32 h := by
  have q := H.2
  exact ⟨q _ (by simp), q _ (by simp), q _ (by simp), q _ (by simp), q _ (by simp), q _ (by simp), q _ (by simp), q _ (by simp)⟩
theorem St8.mk8 {a b c d e f g h : Int} (ha : W32 a) (hb : W32 b) (hc : W32 c) (hd : W32 d) (he : W32 e) (hf : W32 f) (hg : W32 g) (hh : W32 h) : St8 [a, b, c, d, e, f, g, h] := by
  refine ⟨rfl, fun x hx => ?_⟩
  simp at hx
  rcases hx with rfl | rfl | rfl | rfl | rfl | rfl | rfl | rfl <;> assumption
theorem St8.round {L : List Int} (H : St8 L) (x : Int) : St8 (roundL L x) := by
  obtain ⟨a, b, c, d, e, f, g, h, rfl⟩ := eight H.1
  obtain ⟨ha, hb, hc, hd, he, hf, hg, hh⟩ := H.words
  exact St8.mk8 (W32.mod _) ha hb hc (W32.mod _) he hf hg
theorem St8.rounds {S : List Int} (h : St8 S) (s : ByteArray) : ∀ k, St8 (rounds S s k)
  | 0 => h
  | k + 1 => (St8.rounds h s k).round _
theorem addTo_len (X Y : List Int) : ∀ k, (addTo X Y k).length = X.length
  | 0 => rfl
  | k + 1 => by rw [addTo, List.length_set, addTo_len X Y k]
theorem addTo_past (X Y : List Int) : ∀ k j, k ≤ j → (addTo X Y k).getD j 0 = X.getD j 0
  | 0, j, _ => rfl
  | k + 1, j, h => by
    rw [← addTo_past X Y k j (by omega), addTo]
    simp [List.getD, show k ≠ j by omega]
theorem mem_set_word {L : List Int} (h : ∀ x ∈ L, W32 x) (k : Nat) {y : Int} (hy : W32 y) : ∀ x ∈ L.set k y, W32 x := fun x hx => by
  rcases List.mem_or_eq_of_mem_set hx with h1 | rfl
  · exact h x h1
  · exact hy
theorem St8.addTo {X Y : List Int} (h : St8 X) : ∀ k, St8 (addTo X Y k)
  | 0 => h
  | k + 1 => ⟨by rw [addTo_len]; exact h.1, mem_set_word (St8.addTo h k).2 k (W32.mod _)⟩
theorem St8.block {S : List Int} (h : St8 S) (s : ByteArray) : St8 (blockR S s) := by
  unfold blockR
  split
  · exact (h.rounds s 64).addTo 8
  · exact h
theorem map_at {L : List Int} {k : Nat} (h : k < L.length) : (L.map (Value.int .u32))[k]? = some (.int .u32 (L.getD k 0)) := by
  simp [List.getD, h]
theorem kc_word (k : Nat) (h : k < 64) : W32 (kc k) := by
  rw [kc_nat k h]
  exact kt_bd ⟨k, h⟩
end Go.Proofs.YtkeabkedbbjccaaDoor
