/- Contracts of the program's walk over a row, NextSlot and PlanNum. -/
import Derived.Test.YtimafabbepgifaaWt
namespace Go.Proofs.Ytimafabbepgifaa
open Go.RowKit
set_option linter.unusedVariables false

theorem over_take {s : Wk} {l : List Int} {k : Nat} (hk : k < l.length) : ∀ {t : Wk}, wkOver s (l.take k) = some t → wkOver s (l.take (k + 1)) = if isBi (l.getD k 0) = true ∧ t.part ≠ 4 then some (wkTake t (l.getD k 0)) else none := by
  induction k generalizing s l with
  | zero =>
    intro t ht
    cases l with
    | nil => simp at hk
    | cons b l =>
      simp only [List.take_zero, wkOver, Option.some.injEq] at ht
      subst ht
      simp [wkOver]
  | succ k ih =>
    intro t ht
    cases l with
    | nil => simp at hk
    | cons b l =>
      simp only [List.length_cons] at hk
      rw [List.take_succ_cons, wkOver] at ht ⊢
      by_cases h : isBi b = true ∧ s.part ≠ 4
      · rw [if_pos h] at ht ⊢
        rw [ih (by omega) ht]
        simp
      · rw [if_neg h] at ht
        cases ht
theorem over_stop {s : Wk} {l : List Int} {k : Nat} (h : wkOver s (l.take k) = none) : wkOver s l = none := by
  induction k generalizing s l with
  | zero => simp [wkOver] at h
  | succ k ih =>
    cases l with
    | nil => simp [wkOver] at h
    | cons b l =>
      rw [List.take_succ_cons, wkOver] at h
      rw [wkOver]
      by_cases c : isBi b = true ∧ s.part ≠ 4
      · rw [if_pos c] at h ⊢
        exact ih h
      · rw [if_neg c]
theorem over_ok {l : List Int} : ∀ {s : Wk}, WkOk s → ∀ t, wkOver s l = some t → WkOk t := by
  induction l with
  | nil =>
    intro s hs t ht
    rw [wkOver] at ht
    cases ht
    exact hs
  | cons b l ih =>
    intro s hs t ht
    rw [wkOver] at ht
    by_cases c : isBi b = true ∧ s.part ≠ 4
    · rw [if_pos c] at ht
      exact ih (hs.take ((isBi_iff b).1 c.1)) t ht
    · rw [if_neg c] at ht
      cases ht
/-- What the walk over a row leaves. -/
def ovV (o : Option Wk) : Value := match o with
  | some s => .tuple #[wkV s, .bool true]
  | none => .tuple #[wkV wk0, .bool false]

theorem below5 {w q : World} (h : Below w.heap.size w q) (a b c d e : Value) : Below w.heap.size w (((((q.setCell ⟨w.heap.size, 0, none⟩ a).setCell ⟨w.heap.size, 1, none⟩ b).setCell ⟨w.heap.size, 2, none⟩ c).setCell ⟨w.heap.size, 3, none⟩ d).setCell ⟨w.heap.size, 4, none⟩ e) :=
  ((((h.setCell (p := ⟨w.heap.size, 0, none⟩) (Nat.le_refl _) _).setCell (p := ⟨w.heap.size, 1, none⟩) (Nat.le_refl _) _).setCell (p := ⟨w.heap.size, 2, none⟩) (Nat.le_refl _) _).setCell (p := ⟨w.heap.size, 3, none⟩) (Nat.le_refl _) _).setCell (p := ⟨w.heap.size, 4, none⟩) (Nat.le_refl _) _

/-- What PlanNum answers. -/
def pnV (l : List Int) : Value := if (nextS l).1 = -1 then .tuple #[.int .i64 (nextS l).2, .bool true] else .tuple #[.int .i64 0, .bool false]

end Go.Proofs.Ytimafabbepgifaa
