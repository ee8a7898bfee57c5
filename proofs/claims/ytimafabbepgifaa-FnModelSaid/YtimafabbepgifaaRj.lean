/- What the operations of 'a, b, c := ModelPut(..)' leave, whatever their order: what stays what it is where a block is made or stored into. -/
import Derived.Test.YtimafabbepgifaaIm
import Derived.Test.YtimafabbepgifaaRi
namespace Go.Proofs.Ytimafabbepgifaa
open Go.RowKit
set_option linter.unusedVariables false

theorem Blk.apart {w : World} {A C : Nat} {l m : List Value} {t u : TypeId} (h : Blk w A l t) (k : Blk w C m u) (ht : t ≠ u) : A ≠ C := by
  intro e
  subst e
  unfold Blk at h k
  rw [h] at k
  simp only [Option.some.injEq, Obj.cells.injEq] at k
  exact ht k.2.1
theorem Own.typed {w : World} {base A i : Nat} {v : Value} {xs : List Int} {l : List Value} {t : TypeId} (h : Own w base 3 .i64 v xs) (hB : Blk w A l t) (ht : t ≠ 3) (u : Value) : Own (w.setCell ⟨A, i, none⟩ u) base 3 .i64 v xs := by
  refine ⟨by have := h.1; simpa [World.setCell] using this, h.2.1, ?_⟩
  rcases h.2.2 with h0 | ⟨g', cap, cur, e, hg, hh, r⟩
  · exact .inl h0
  · refine .inr ⟨g', cap, cur, e, hg, ?_, r⟩
    refine (heap_setCell_other w ⟨A, i, none⟩ g' u ?_).trans hh
    show g' ≠ A
    have hB2 : Blk w g' cur.toList 3 := by unfold Blk; simpa using hh
    exact fun e => hB2.apart hB (fun h => ht h.symm) e

/-- What an operation of the kind k leaves. -/
def VM (lo hi : Int) (s : ByteArray) (mv vx : Value) (B x lo' hi' : Int) (s' : ByteArray) (rb : Bool) (ch ch2 : List Int) (M : Nat) : Nat → Value → World → Prop
  | 0, v, _ => v = .agg #[.int .u32 lo, .int .u32 hi, .string s]
  | 1, v, _ => v = .agg #[.int .u32 lo, .int .u32 hi, .string s]
  | 2, v, _ => v = mv
  | 3, v, w => ∃ y, v = .agg #[y] ∧ Own w M 3 .i64 y ch
  | 4, v, _ => v = .int .i64 B
  | 5, v, _ => v = .int .i64 x
  | 6, v, w => ∃ y, v = .tuple #[.agg #[.int .u32 lo', .int .u32 hi', .string s'], .agg #[y], .bool rb] ∧ Own w M 3 .i64 y ch2
  | 7, v, w => ∃ y, v = .tuple #[.agg #[.int .u32 lo', .int .u32 hi', .string s'], .agg #[y], .bool rb] ∧ Own w M 3 .i64 y ch2
  | 8, v, _ => v = .agg #[.int .u32 lo', .int .u32 hi', .string s']
  | 9, v, w => ∃ y, v = .agg #[y] ∧ Own w M 3 .i64 y ch2
  | 10, v, _ => v = .bool rb
  | 11, v, w => ∃ A a b c, v = .pointer (some ⟨A, 0, none⟩) ∧ M ≤ A ∧ Blk w A [a, b, c] 32
  | 12, v, w => ∃ A a, v = .pointer (some ⟨A, 0, none⟩) ∧ M ≤ A ∧ Blk w A [a] 27
  | 13, v, w => ∃ A, v = .pointer (some ⟨A, 0, none⟩) ∧ M ≤ A ∧ Blk w A [.int .u32 lo', .int .u32 hi', .string s'] 32
  | 14, v, w => ∃ A y, v = .pointer (some ⟨A, 0, none⟩) ∧ M ≤ A ∧ Blk w A [y] 27 ∧ Own w M 3 .i64 y ch2
  | 15, v, _ => v = .bool rb
  | 16, v, _ => v = vx
  | _, _, _ => False

theorem VM.below {lo hi : Int} {s : ByteArray} {mv vx : Value} {B x lo' hi' : Int} {s' : ByteArray} {rb : Bool} {ch ch2 : List Int} {M : Nat} {w w' : World} (hb : Below w.heap.size w w') (k : Nat) (v : Value) (h : VM lo hi s mv vx B x lo' hi' s' rb ch ch2 M k v w) : VM lo hi s mv vx B x lo' hi' s' rb ch ch2 M k v w' := by
  unfold VM at h
  split at h
  all_goals first
    | exact h.elim
    | exact h
    | (obtain ⟨y, e, o⟩ := h; exact ⟨y, e, o.below hb⟩)
    | (obtain ⟨A, a, b, c, e, m, o⟩ := h; exact ⟨A, a, b, c, e, m, o.below hb o.lt⟩)
    | (obtain ⟨A, a, e, m, o⟩ := h; exact ⟨A, a, e, m, o.below hb o.lt⟩)
    | (obtain ⟨A, e, m, o⟩ := h; exact ⟨A, e, m, o.below hb o.lt⟩)
    | (obtain ⟨A, y, e, m, o, q⟩ := h; exact ⟨A, y, e, m, o.below hb o.lt, q.below hb⟩)
    | exact h.elim

/-- A coder is stored. -/
theorem VM.st32 {lo hi : Int} {s : ByteArray} {mv vx : Value} {B x lo' hi' : Int} {s' : ByteArray} {rb : Bool} {ch ch2 : List Int} {M : Nat} {w : World} {A : Nat} {a b c : Value} (hA : Blk w A [a, b, c] 32) (k : Nat) (v : Value) (h : VM lo hi s mv vx B x lo' hi' s' rb ch ch2 M k v w) :
    VM lo hi s mv vx B x lo' hi' s' rb ch ch2 M k v (((w.setCell ⟨A, 0, none⟩ (.int .u32 lo')).setCell ⟨A, 1, none⟩ (.int .u32 hi')).setCell ⟨A, 2, none⟩ (.string s')) := by
  have h1 := hA.set 0 (.int .u32 lo')
  have h2 := h1.set 1 (.int .u32 hi')
  have h3 := h2.set 2 (.string s')
  simp only [List.set_cons_zero, List.set_cons_succ] at h1 h2 h3
  have own : ∀ y xs, Own w M 3 .i64 y xs → Own (((w.setCell ⟨A, 0, none⟩ (.int .u32 lo')).setCell ⟨A, 1, none⟩ (.int .u32 hi')).setCell ⟨A, 2, none⟩ (.string s')) M 3 .i64 y xs := fun y xs o =>
    ((o.typed hA (by decide) _).typed h1 (by decide) _).typed h2 (by decide) _
  have oth : ∀ C l t, C ≠ A → Blk w C l t → Blk (((w.setCell ⟨A, 0, none⟩ (.int .u32 lo')).setCell ⟨A, 1, none⟩ (.int .u32 hi')).setCell ⟨A, 2, none⟩ (.string s')) C l t := fun C l t hne o =>
    ((o.other (a := ⟨A, 0, none⟩) hne _).other (a := ⟨A, 1, none⟩) hne _).other (a := ⟨A, 2, none⟩) hne _
  unfold VM at h
  split at h
  · exact h
  · exact h
  · exact h
  · obtain ⟨y, e, o⟩ := h; exact ⟨y, e, own _ _ o⟩
  · exact h
  · exact h
  · obtain ⟨y, e, o⟩ := h; exact ⟨y, e, own _ _ o⟩
  · obtain ⟨y, e, o⟩ := h; exact ⟨y, e, own _ _ o⟩
  · exact h
  · obtain ⟨y, e, o⟩ := h; exact ⟨y, e, own _ _ o⟩
  · exact h
  · obtain ⟨C, p, q, r, e, m, o⟩ := h
    by_cases ec : C = A
    · subst ec
      show ∃ A a b c, v = .pointer (some ⟨A, 0, none⟩) ∧ M ≤ A ∧ Blk _ A [a, b, c] 32
      exact ⟨C, _, _, _, e, m, h3⟩
    · exact ⟨C, p, q, r, e, m, oth _ _ _ ec o⟩
  · obtain ⟨C, p, e, m, o⟩ := h
    exact ⟨C, p, e, m, oth _ _ _ (o.apart hA (by decide)) o⟩
  · obtain ⟨C, e, m, o⟩ := h
    by_cases ec : C = A
    · subst ec
      show ∃ A, v = .pointer (some ⟨A, 0, none⟩) ∧ M ≤ A ∧ Blk _ A [.int .u32 lo', .int .u32 hi', .string s'] 32
      exact ⟨C, e, m, h3⟩
    · exact ⟨C, e, m, oth _ _ _ ec o⟩
  · obtain ⟨C, y, e, m, o, q⟩ := h
    exact ⟨C, y, e, m, oth _ _ _ (o.apart hA (by decide)) o, own _ _ q⟩
  · exact h
  · exact h
  · exact h.elim

/-- A model is stored. -/
theorem VM.st27 {lo hi : Int} {s : ByteArray} {mv vx : Value} {B x lo' hi' : Int} {s' : ByteArray} {rb : Bool} {ch ch2 : List Int} {M : Nat} {w : World} {A : Nat} {a z : Value} (hA : Blk w A [a] 27) (hz : Own w M 3 .i64 z ch2) (k : Nat) (v : Value) (h : VM lo hi s mv vx B x lo' hi' s' rb ch ch2 M k v w) :
    VM lo hi s mv vx B x lo' hi' s' rb ch ch2 M k v (w.setCell ⟨A, 0, none⟩ z) := by
  have h3 := hA.set 0 z
  simp only [List.set_cons_zero] at h3
  have own : ∀ y xs, Own w M 3 .i64 y xs → Own (w.setCell ⟨A, 0, none⟩ z) M 3 .i64 y xs := fun y xs o => o.typed hA (by decide) _
  have oth : ∀ C l t, C ≠ A → Blk w C l t → Blk (w.setCell ⟨A, 0, none⟩ z) C l t := fun C l t hne o => o.other (a := ⟨A, 0, none⟩) hne _
  unfold VM at h
  split at h
  · exact h
  · exact h
  · exact h
  · obtain ⟨y, e, o⟩ := h; exact ⟨y, e, own _ _ o⟩
  · exact h
  · exact h
  · obtain ⟨y, e, o⟩ := h; exact ⟨y, e, own _ _ o⟩
  · obtain ⟨y, e, o⟩ := h; exact ⟨y, e, own _ _ o⟩
  · exact h
  · obtain ⟨y, e, o⟩ := h; exact ⟨y, e, own _ _ o⟩
  · exact h
  · obtain ⟨C, p, q, r, e, m, o⟩ := h
    exact ⟨C, p, q, r, e, m, oth _ _ _ (o.apart hA (by decide)) o⟩
  · obtain ⟨C, p, e, m, o⟩ := h
    by_cases ec : C = A
    · subst ec; exact ⟨C, _, e, m, h3⟩
    · exact ⟨C, p, e, m, oth _ _ _ ec o⟩
  · obtain ⟨C, e, m, o⟩ := h
    exact ⟨C, e, m, oth _ _ _ (o.apart hA (by decide)) o⟩
  · obtain ⟨C, y, e, m, o, q⟩ := h
    by_cases ec : C = A
    · subst ec; exact ⟨C, z, e, m, h3, own _ _ hz⟩
    · exact ⟨C, y, e, m, oth _ _ _ ec o, own _ _ q⟩
  · exact h
  · exact h
  · exact h.elim
end Go.Proofs.Ytimafabbepgifaa
