/- The contract of FromSteps of the program. -/
import Derived.Test.YtmjgkgboceblbaaStpT
namespace Go.Proofs.Ytmjgkgboceblbaa
open Go.RowKit
set_option linter.unusedVariables false

theorem readTo_none (L : List (Int × Int × List Int)) (k : Nat) (h : readTo L k = none) : ∀ n, k ≤ n → readTo L n = none
  | 0, hn => by have : k = 0 := by omega
                subst this; exact h
  | n + 1, hn => by
    by_cases e : k = n + 1
    · rw [← e]; exact h
    · rw [readTo, readTo_none L k h n (by omega)]; rfl
theorem readTo_len {L : List (Int × Int × List Int)} {k : Nat} {ac : List Int} {sk : Bool} (hk : k ≤ L.length) (h : readTo L k = some (ac, sk)) : ac.length ≤ 63 := by
  rcases take_inv L k ac sk hk h with h1 | h1
  · exact h1.2.1
  · exact Nat.le_of_eq h1.1
theorem fromR_no {dc : Int} {L : List (Int × Int × List Int)} (h : inC dc = false) : fromR dc L = none := by unfold fromR; rw [if_neg (by simp [h])]
theorem fromR_stop {dc : Int} {L : List (Int × Int × List Int)} (h : readTo L L.length = none) : fromR dc L = none := by
  unfold fromR; rw [h]; split <;> rfl
theorem fromR_end {dc : Int} {L : List (Int × Int × List Int)} {ac : List Int} {sk : Bool} (hd : inC dc = true) (h : readTo L L.length = some (ac, sk)) : fromR dc L = if ac.length = 63 then some ac else none := by
  unfold fromR; rw [h, if_pos hd]; rfl

/-- What FromSteps answers. -/
def FrP (R : Option (List Int)) (dc : Int) (w : World) (e : Ending) (w' : World) : Prop :=
  Below w.heap.size w w' ∧ ∃ v, e = .returned (.tuple #[.agg #[.int .i64 (if R.isSome then dc else 0), v], .bool R.isSome]) ∧ Own w' w.heap.size 3 .i64 v (R.getD [])

set_option maxHeartbeats 800000 in
theorem newAc_any (w : World) : Calls Try.prog 84 #[] w fun e w' => ∃ v, e = .returned (.agg #[v, .int .i64 0]) ∧ Own w' w.heap.size 3 .i64 v [] ∧ Below w.heap.size w w' := by
  have HT := hid (Two.new w (.slice none 0 0) (.int .i64 0) 123)
  have HB := hid ((Below.refl w.heap.size w).alloc (Nat.le_refl _) (.cells #[.slice none 0 0, .int .i64 0] 123))
  have hlt : w.heap.size < (w.alloc (.cells #[.slice none 0 0, .int .i64 0] 123)).heap.size := by simp
  go_enter Try.func84, Try.ntmps84
  go_wp2_with (at_make; refine wpList_mk0 _ rfl _ _ 22 rfl (w.heap.size + 1) 3 .i64 0 8 Try.underlying22 Try.info3 _ _ 63 rfl rfl (by decide) (by decide) hlt ?_)
  generalize w.alloc (.cells #[.slice none 0 0, .int .i64 0] 123) = wa at *
  intro w1 ho1 hb1
  have T1 := hid (HT.out.below hb1 (by omega))
  obtain ⟨q1, q2, q3, q4⟩ := T1.out.cells
  have B1 := hid (HB.out.trans (hb1.mono (by omega)))
  have HO := hid ho1
  clear ho1 hb1
  go_wp2_with fail
  have c0 := (T1.out.set0 (.slice (some ⟨w.heap.size + 1, 0, none⟩) 0 63)).set1 (.int .i64 0)
  obtain ⟨p1, p2, p3, p4⟩ := c0.cells
  refine bodyPost_ret (v := .agg #[.slice (some ⟨w.heap.size + 1, 0, none⟩) 0 63, .int .i64 0]) (by simp [results, Try.results84, go_sem, p1, p2]) rfl ⟨_, rfl, ?_, ?_⟩
  · exact ((HO.out.setCell_below (a := ⟨w.heap.size, 0, none⟩) (by show w.heap.size < w.heap.size + 1; omega) _).setCell_below (a := ⟨w.heap.size, 1, none⟩) (by show w.heap.size < w.heap.size + 1; omega) _).mono (by omega)
  · exact (B1.out.setCell (p := ⟨w.heap.size, 0, none⟩) (Nat.le_refl _) _).setCell (p := ⟨w.heap.size, 1, none⟩) (Nat.le_refl _) _

/-- The end of FromSteps that says no. -/
theorem FrP.no {dc : Int} {w w' : World} {b : Nat} (h : Two w' b (.int .i64 0) (.slice none 0 0) 71) (hb : Below w.heap.size w w') : FrP none dc w (.returned (.tuple #[.agg #[.int .i64 0, .slice none 0 0], .bool false])) w' :=
  ⟨hb, _, rfl, Own.nil w' 3 .i64 w.heap.size hb.size⟩

end Go.Proofs.Ytmjgkgboceblbaa
