/- What the operations of 'a, b, c, d := ModelGet(..)' leave, whatever their order. -/
import Derived.Test.YtimafabbepgifaaRj
namespace Go.Proofs.Ytimafabbepgifaa
open Go.RowKit
set_option linter.unusedVariables false

/-- What an operation of the kind k leaves. -/
def VG (lo hi co i : Int) (t : ByteArray) (mv vx : Value) (B lo' hi' co' i' nn : Int) (rb : Bool) (ch ch2 : List Int) (M : Nat) : Nat → Value → World → Prop
  | 0, v, _ => v = .agg #[.int .u32 lo, .int .u32 hi, .int .u32 co, .string t, .int .i64 i]
  | 1, v, _ => v = .agg #[.int .u32 lo, .int .u32 hi, .int .u32 co, .string t, .int .i64 i]
  | 2, v, _ => v = mv
  | 3, v, w => ∃ y, v = .agg #[y] ∧ Own w M 3 .i64 y ch
  | 4, v, _ => v = .int .i64 B
  | 5, v, _ => v = .int .i64 nn
  | 6, v, w => ∃ y, v = .tuple #[.agg #[.int .u32 lo', .int .u32 hi', .int .u32 co', .string t, .int .i64 i'], .agg #[y], .int .i64 nn, .bool rb] ∧ Own w M 3 .i64 y ch2
  | 7, v, w => ∃ y, v = .tuple #[.agg #[.int .u32 lo', .int .u32 hi', .int .u32 co', .string t, .int .i64 i'], .agg #[y], .int .i64 nn, .bool rb] ∧ Own w M 3 .i64 y ch2
  | 8, v, _ => v = .agg #[.int .u32 lo', .int .u32 hi', .int .u32 co', .string t, .int .i64 i']
  | 9, v, w => ∃ y, v = .agg #[y] ∧ Own w M 3 .i64 y ch2
  | 10, v, _ => v = .bool rb
  | 11, v, w => ∃ A a b c d e, v = .pointer (some ⟨A, 0, none⟩) ∧ M ≤ A ∧ Blk w A [a, b, c, d, e] 38
  | 12, v, w => ∃ A a, v = .pointer (some ⟨A, 0, none⟩) ∧ M ≤ A ∧ Blk w A [a] 27
  | 13, v, w => ∃ A, v = .pointer (some ⟨A, 0, none⟩) ∧ M ≤ A ∧ Blk w A [.int .u32 lo', .int .u32 hi', .int .u32 co', .string t, .int .i64 i'] 38
  | 14, v, w => ∃ A y, v = .pointer (some ⟨A, 0, none⟩) ∧ M ≤ A ∧ Blk w A [y] 27 ∧ Own w M 3 .i64 y ch2
  | 15, v, _ => v = .bool rb
  | 16, v, _ => v = vx
  | 17, v, _ => v = .int .i64 nn
  | _, _, _ => False

theorem VG.below {lo hi co i : Int} {t : ByteArray} {mv vx : Value} {B lo' hi' co' i' nn : Int} {rb : Bool} {ch ch2 : List Int} {M : Nat} {w w' : World} (hb : Below w.heap.size w w') (k : Nat) (v : Value) (h : VG lo hi co i t mv vx B lo' hi' co' i' nn rb ch ch2 M k v w) : VG lo hi co i t mv vx B lo' hi' co' i' nn rb ch ch2 M k v w' := by
  unfold VG at h
  split at h
  all_goals first
    | exact h.elim
    | exact h
    | (obtain ⟨y, e, o⟩ := h; exact ⟨y, e, o.below hb⟩)
    | (obtain ⟨A, a, b, c, d, f, e, m, o⟩ := h; exact ⟨A, a, b, c, d, f, e, m, o.below hb o.lt⟩)
    | (obtain ⟨A, a, e, m, o⟩ := h; exact ⟨A, a, e, m, o.below hb o.lt⟩)
    | (obtain ⟨A, e, m, o⟩ := h; exact ⟨A, e, m, o.below hb o.lt⟩)
    | (obtain ⟨A, y, e, m, o, q⟩ := h; exact ⟨A, y, e, m, o.below hb o.lt, q.below hb⟩)

/-- A reader is stored. -/
theorem VG.st38 {lo hi co i : Int} {t : ByteArray} {mv vx : Value} {B lo' hi' co' i' nn : Int} {rb : Bool} {ch ch2 : List Int} {M : Nat} {w : World} {A : Nat} {a b c d e : Value} (hA : Blk w A [a, b, c, d, e] 38) (k : Nat) (v : Value) (h : VG lo hi co i t mv vx B lo' hi' co' i' nn rb ch ch2 M k v w) :
    VG lo hi co i t mv vx B lo' hi' co' i' nn rb ch ch2 M k v (((((w.setCell ⟨A, 0, none⟩ (.int .u32 lo')).setCell ⟨A, 1, none⟩ (.int .u32 hi')).setCell ⟨A, 2, none⟩ (.int .u32 co')).setCell ⟨A, 3, none⟩ (.string t)).setCell ⟨A, 4, none⟩ (.int .i64 i')) := by
  have h1 := hA.set 0 (.int .u32 lo')
  have h2 := h1.set 1 (.int .u32 hi')
  have h3 := h2.set 2 (.int .u32 co')
  have h4 := h3.set 3 (.string t)
  have h5 := h4.set 4 (.int .i64 i')
  simp only [List.set_cons_zero, List.set_cons_succ] at h1 h2 h3 h4 h5
  have own : ∀ y xs, Own w M 3 .i64 y xs → Own (((((w.setCell ⟨A, 0, none⟩ (.int .u32 lo')).setCell ⟨A, 1, none⟩ (.int .u32 hi')).setCell ⟨A, 2, none⟩ (.int .u32 co')).setCell ⟨A, 3, none⟩ (.string t)).setCell ⟨A, 4, none⟩ (.int .i64 i')) M 3 .i64 y xs := fun y xs o =>
    ((((o.typed hA (by decide) _).typed h1 (by decide) _).typed h2 (by decide) _).typed h3 (by decide) _).typed h4 (by decide) _
  have oth : ∀ C l u, C ≠ A → Blk w C l u → Blk (((((w.setCell ⟨A, 0, none⟩ (.int .u32 lo')).setCell ⟨A, 1, none⟩ (.int .u32 hi')).setCell ⟨A, 2, none⟩ (.int .u32 co')).setCell ⟨A, 3, none⟩ (.string t)).setCell ⟨A, 4, none⟩ (.int .i64 i')) C l u := fun C l u hne o =>
    ((((o.other (a := ⟨A, 0, none⟩) hne _).other (a := ⟨A, 1, none⟩) hne _).other (a := ⟨A, 2, none⟩) hne _).other (a := ⟨A, 3, none⟩) hne _).other (a := ⟨A, 4, none⟩) hne _
  unfold VG at h
  split at h
  · exact h
  · exact h
  · exact h
  · obtain ⟨y, e, o⟩ := h; exact ⟨y, e, own _ _ o⟩
  · exact h
  · exact h
  · obtain ⟨y, e, o⟩ := h; exact ⟨y, e, own _ _ o⟩
  · obtain ⟨y, e, o⟩ := h; exact ⟨y, e, own _ _ o⟩
  · exact h
  · obtain ⟨y, e, o⟩ := h; exact ⟨y, e, own _ _ o⟩
  · exact h
  · obtain ⟨C, p, q, r, s, f, e, m, o⟩ := h
    by_cases ec : C = A
    · subst ec
      show ∃ A a b c d e, v = .pointer (some ⟨A, 0, none⟩) ∧ M ≤ A ∧ Blk _ A [a, b, c, d, e] 38
      exact ⟨C, _, _, _, _, _, e, m, h5⟩
    · exact ⟨C, p, q, r, s, f, e, m, oth _ _ _ ec o⟩
  · obtain ⟨C, p, e, m, o⟩ := h
    exact ⟨C, p, e, m, oth _ _ _ (o.apart hA (by decide)) o⟩
  · obtain ⟨C, e, m, o⟩ := h
    by_cases ec : C = A
    · subst ec
      show ∃ A, v = .pointer (some ⟨A, 0, none⟩) ∧ M ≤ A ∧ Blk _ A [.int .u32 lo', .int .u32 hi', .int .u32 co', .string t, .int .i64 i'] 38
      exact ⟨C, e, m, h5⟩
    · exact ⟨C, e, m, oth _ _ _ ec o⟩
  · obtain ⟨C, y, e, m, o, q⟩ := h
    exact ⟨C, y, e, m, oth _ _ _ (o.apart hA (by decide)) o, own _ _ q⟩
  · exact h
  · exact h
  · exact h
  · exact h.elim

/-- A model is stored. -/
theorem VG.st27 {lo hi co i : Int} {t : ByteArray} {mv vx : Value} {B lo' hi' co' i' nn : Int} {rb : Bool} {ch ch2 : List Int} {M : Nat} {w : World} {A : Nat} {a z : Value} (hA : Blk w A [a] 27) (hz : Own w M 3 .i64 z ch2) (k : Nat) (v : Value) (h : VG lo hi co i t mv vx B lo' hi' co' i' nn rb ch ch2 M k v w) :
    VG lo hi co i t mv vx B lo' hi' co' i' nn rb ch ch2 M k v (w.setCell ⟨A, 0, none⟩ z) := by
  have h3 := hA.set 0 z
  simp only [List.set_cons_zero] at h3
  have own : ∀ y xs, Own w M 3 .i64 y xs → Own (w.setCell ⟨A, 0, none⟩ z) M 3 .i64 y xs := fun y xs o => o.typed hA (by decide) _
  have oth : ∀ C l t, C ≠ A → Blk w C l t → Blk (w.setCell ⟨A, 0, none⟩ z) C l t := fun C l t hne o => o.other (a := ⟨A, 0, none⟩) hne _
  unfold VG at h
  split at h
  · exact h
  · exact h
  · exact h
  · obtain ⟨y, e, o⟩ := h; exact ⟨y, e, own _ _ o⟩
  · exact h
  · exact h
  · obtain ⟨y, e, o⟩ := h; exact ⟨y, e, own _ _ o⟩
  · obtain ⟨y, e, o⟩ := h; exact ⟨y, e, own _ _ o⟩
  · exact h
  · obtain ⟨y, e, o⟩ := h; exact ⟨y, e, own _ _ o⟩
  · exact h
  · obtain ⟨C, p, q, r, s, f, e, m, o⟩ := h
    exact ⟨C, p, q, r, s, f, e, m, oth _ _ _ (o.apart hA (by decide)) o⟩
  · obtain ⟨C, p, e, m, o⟩ := h
    by_cases ec : C = A
    · subst ec; exact ⟨C, _, e, m, h3⟩
    · exact ⟨C, p, e, m, oth _ _ _ ec o⟩
  · obtain ⟨C, e, m, o⟩ := h
    exact ⟨C, e, m, oth _ _ _ (o.apart hA (by decide)) o⟩
  · obtain ⟨C, y, e, m, o, q⟩ := h
    by_cases ec : C = A
    · subst ec; exact ⟨C, z, e, m, h3, own _ _ hz⟩
    · exact ⟨C, y, e, m, oth _ _ _ ec o, own _ _ q⟩
  · exact h
  · exact h
  · exact h
  · exact h.elim
end Go.Proofs.Ytimafabbepgifaa
