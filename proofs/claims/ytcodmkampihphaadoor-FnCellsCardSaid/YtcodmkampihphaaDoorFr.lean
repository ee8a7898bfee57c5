/- Two statements of the law FnCells whose order is open. -/
import Derived.Test.YtcodmkampihphaaDoorRi
import Derived.Test.YtcodmkampihphaaDoorSn
import Derived.Deep.CutRange
namespace Go.Proofs.YtcodmkampihphaaDoor
open Go.RowKit
set_option linter.unusedVariables false

theorem own_ne {w : World} {base N : Nat} {v : Value} {xs : List Int} {l : List Value} {t : TypeId} (h : Own w base 3 .i64 v xs) (hB : Blk w N l t) (ht : t ≠ 3) : v.ownBlock ≠ some N := by
  intro e
  rcases h.2.2 with ⟨rfl, _⟩ | ⟨g, cap, cur, rfl, _, hh, _⟩
  · cases e
  · have : g = N := by simpa [Value.ownBlock] using e
    subst this
    have := Option.some.inj (hh.symm.trans hB)
    cases this
    exact ht rfl
theorem own_far {w : World} {base N i : Nat} {v u : Value} {xs : List Int} (h : Own w base 3 .i64 v xs) (hne : v.ownBlock ≠ some N) : Own (w.setCell ⟨N, i, none⟩ u) base 3 .i64 v xs :=
  h.keptAt (fun m e => heap_setCell_other w ⟨N, i, none⟩ m u (fun e2 => hne (by rw [e, e2]))) (by simp)

/-- What the two turned blocks come to. -/
def VT (M : Nat) (d a1 : Int) (x : Value) (xs1 : List Int) (d2 : Int) (xs2 : List Int) : Nat → Value → World → Prop
  | 0, v, _ => v = x
  | 1, v, w => ∃ va, v = .agg #[.int .i64 a1, va] ∧ Own w M 3 .i64 va xs1
  | 2, v, _ => v = x
  | 3, v, w => ∃ va, v = .agg #[.int .i64 d2, va] ∧ Own w M 3 .i64 va xs2
  | 4, v, w => ∃ N p q, v = .pointer (some ⟨N, 0, none⟩) ∧ M ≤ N ∧ Blk w N [p, q] 28
  | 5, v, w => ∃ N p q, v = .pointer (some ⟨N, 0, none⟩) ∧ M ≤ N ∧ Blk w N [p, q] 28
  | 6, v, w => ∃ N va, v = .pointer (some ⟨N, 0, none⟩) ∧ M ≤ N ∧ Blk w N [.int .i64 a1, va] 28 ∧ Own w M 3 .i64 va xs1
  | _, v, w => ∃ N va, v = .pointer (some ⟨N, 0, none⟩) ∧ M ≤ N ∧ Blk w N [.int .i64 d2, va] 28 ∧ Own w M 3 .i64 va xs2
def DT (j : Nat) : Nat := [20, 21, 22, 23, 5, 6, 5, 6].getD j 0
theorem VT.below {M : Nat} {x : Value} {d a1 d2 : Int} {xs1 xs2 : List Int} {w w' : World} (hb : Below w.heap.size w w') : ∀ j v, VT M d a1 x xs1 d2 xs2 j v w → VT M d a1 x xs1 d2 xs2 j v w'
  | 0, _, h => h
  | 1, _, ⟨va, e, h⟩ => ⟨va, e, h.below hb⟩
  | 2, _, h => h
  | 3, _, ⟨va, e, h⟩ => ⟨va, e, h.below hb⟩
  | 4, _, ⟨N, p, q, e, h1, h2⟩ => ⟨N, p, q, e, h1, h2.below hb h2.lt⟩
  | 5, _, ⟨N, p, q, e, h1, h2⟩ => ⟨N, p, q, e, h1, h2.below hb h2.lt⟩
  | 6, _, ⟨N, va, e, h1, h2, h3⟩ => ⟨N, va, e, h1, h2.below hb h2.lt, h3.below hb⟩
  | _ + 7, _, ⟨N, va, e, h1, h2, h3⟩ => ⟨N, va, e, h1, h2.below hb h2.lt, h3.below hb⟩
theorem DT_ne : ∀ i j : Fin 8, i ≠ j → i.val ≠ 4 → i.val ≠ 5 → i.val ≠ 6 → i.val ≠ 7 → DT j.val ≠ DT i.val := by decide
end Go.Proofs.YtcodmkampihphaaDoor
