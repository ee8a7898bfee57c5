/- Helpers of the laws that mark: slices that read as numbers, rows of blocks whose numbers may be whatever. -/
import Derived.Test.YtcikmgdfelejpaaJTbX
namespace Go.Proofs.Ytcikmgdfelejpaa
open Go.RowKit
set_option linter.unusedVariables false

theorem RowM.below {B m : Nat} {w w' : World} {g n : Nat} {ys : Nat → Value} {ns : Nat → Nat} (h : RowM B m w g n ys ns) (hb : Below w.heap.size w w') : RowM B m w' g n ys ns := by
  obtain ⟨arr, h1, h2⟩ := h
  refine ⟨arr, h1.below hb h1.lt, fun j hj => ?_⟩
  obtain ⟨k1, k2, k3⟩ := h2 j hj
  refine ⟨k1, k2, ?_⟩
  rcases k3 with k3 | ⟨b, cap, cur, q1, q2, q3, q4, q5⟩
  · exact .inl k3
  · exact .inr ⟨b, cap, cur, q1, q2, q3, q4.below hb q4.lt, q5⟩
theorem IntB.below {B m : Nat} {w w' : World} {y : Value} {n : Nat} (h : IntB B m w y n) (hb : Below w.heap.size w w') : IntB B m w' y n := by
  rcases h with k3 | ⟨b, cap, cur, q1, q2, q3, q4, q5⟩
  · exact .inl k3
  · exact .inr ⟨b, cap, cur, q1, q2, q3, q4.below hb q4.lt, q5⟩
theorem IntB.wider {B B' m m' : Nat} {w : World} {y : Value} {n : Nat} (h : IntB B m w y n) (hB : B' ≤ B) (hm : m ≤ m') : IntB B' m' w y n := by
  rcases h with k3 | ⟨b, cap, cur, q1, q2, q3, q4, q5⟩
  · exact .inl k3
  · exact .inr ⟨b, cap, cur, q1, by omega, by omega, q4, q5⟩
theorem RowM.wider {B B' m m' : Nat} {w : World} {g n : Nat} {ys : Nat → Value} {ns : Nat → Nat} (h : RowM B m w g n ys ns) (hB : B' ≤ B) (hm : m ≤ m') : RowM B' m' w g n ys ns := by
  obtain ⟨arr, h1, h2⟩ := h
  refine ⟨arr, h1, fun j hj => ?_⟩
  obtain ⟨k1, k2, k3⟩ := h2 j hj
  exact ⟨k1, k2, k3.wider hB hm⟩
theorem BSTo.rowM {w : World} {g : Nat} {L : List (Int × List Int)} {n : Nat} (h : BSTo w g L n n) : ∃ ys, RowM g w.heap.size w g n ys (fun j => (nth L j).2.length) := by
  obtain ⟨arr, h1, h2, h3⟩ := h
  refine ⟨fun j => (arr[j * 2 + 1]?).getD (.bool false), arr, h1, fun j hj => ?_⟩
  obtain ⟨e1, y, e2, e3⟩ := h3 j hj
  refine ⟨⟨_, e1⟩, by simp [e2], ?_⟩
  have : (arr[j * 2 + 1]?).getD (.bool false) = y := by simp [e2]
  show IntB g w.heap.size w ((arr[j * 2 + 1]?).getD (.bool false)) (nth L j).2.length
  rw [this]
  exact e3.intB (by omega) (fun a k c h => by subst h; exact e3.ge.2)

/-- A slice that reads as xs. -/
def Vw (w : World) (v : Value) (xs : List Int) : Prop := ∃ ao cap, v = .slice ao xs.length cap ∧ View .i64 w ao xs.length xs
theorem Vw.below {w w' : World} {v : Value} {xs : List Int} (h : Vw w v xs) (hb : Below w.heap.size w w') : Vw w' v xs := by
  obtain ⟨ao, c, hv, hw⟩ := h
  exact ⟨ao, c, hv, hw.below (Nat.le_refl _) hb⟩
theorem eq_vw (w : World) (v v' : Value) (xs : List Int) (hl : xs.length ≤ 4194304) (h : Vw w v xs) (h' : Vw w v' xs) :
    Calls Try.prog 15 #[v, v'] w fun e w' => e = .returned (.bool true) ∧ Below w.heap.size w w' := by
  obtain ⟨ao, c, rfl, hv⟩ := h
  obtain ⟨bo, d, rfl, hv'⟩ := h'
  exact eqInts_same ao bo xs.length c d xs w hl hv hv'
theorem held_vw (w : World) (v : Value) (n : Nat) (hn : n ≤ 1000000000) (h : Vw w v (marks n)) :
    Calls Try.prog 21 #[v, .int .i64 1] w fun e w' => e = .returned (.int .i64 ((n : Int) + 1)) ∧ w = w' := by
  obtain ⟨ao, c, rfl, hv⟩ := h
  rw [marks_length] at hv ⊢
  exact held_any ao n c w hn hv
end Go.Proofs.Ytcikmgdfelejpaa
