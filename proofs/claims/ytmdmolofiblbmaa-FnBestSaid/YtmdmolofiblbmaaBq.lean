/- Plain: which symbols have a length. -/
import Derived.Test.YtmdmolofiblbmaaBp
namespace Go.Proofs.Ytmdmolofiblbmaa
open Go.RowKit
set_option linter.unusedVariables false

theorem bump_off (l syms : List Int) (j : Nat) (hs : ∀ s ∈ syms, 0 ≤ s ∧ s ≠ (j : Int)) : ∀ k, k ≤ syms.length → (bumpTo l syms k).getD j 0 = l.getD j 0
  | 0, _ => rfl
  | k + 1, hk => by
    have h1 := hs (syms.getD k 0) (by simp [List.getD, show k < syms.length by omega])
    rw [bumpTo, getD_set_off _ _ _ _ (by omega)]
    exact bump_off l syms j hs k (by omega)
theorem bump_on (l syms : List Int) (j : Nat) (hj : j < l.length) : ∀ k, k ≤ syms.length → (∃ i, i < k ∧ syms.getD i 0 = (j : Int)) → l.getD j 0 < (bumpTo l syms k).getD j 0
  | 0, _, ⟨i, hi, _⟩ => by omega
  | k + 1, hk, ⟨i, hi, e⟩ => by
    have hb := (bumpTo_bd l syms j k).1
    rw [bumpTo]
    by_cases h : syms.getD k 0 = (j : Int)
    · have e1 : (syms.getD k 0).toNat = j := by omega
      rw [e1]
      have : ((bumpTo l syms k).set j ((bumpTo l syms k).getD j 0 + 1)).getD j 0 = (bumpTo l syms k).getD j 0 + 1 := by
        simp [List.getD, bumpTo_len, hj]
      rw [this]
      omega
    · have hi2 : i < k := by
        by_cases e2 : i = k
        · subst e2; exact absurd e h
        · omega
      have ih := bump_on l syms j hj k (by omega) ⟨i, hi2, e⟩
      by_cases e3 : (syms.getD k 0).toNat = j
      · rw [e3]
        have : ((bumpTo l syms k).set j ((bumpTo l syms k).getD j 0 + 1)).getD j 0 = (bumpTo l syms k).getD j 0 + 1 := by
          simp [List.getD, bumpTo_len, hj]
        rw [this]
        omega
      · rw [getD_set_off _ _ _ _ e3]
        exact ih
theorem run_mono (j : Nat) : ∀ (f : Nat) (S : List PT) (l : List Int), l.getD j 0 ≤ (runP f S l).getD j 0
  | 0, _, _ => Int.le_refl _
  | f + 1, S, l => by
    rw [runP]
    split
    · exact Int.le_trans (bumpTo_bd l _ j _).1 (run_mono j f _ _)
    · exact Int.le_refl _
theorem step_mem {S : List PT} (h : 1 < S.length) {x : PT} (hx : x ∈ (stepP S).1) : x ∈ S := List.mem_of_mem_eraseIdx (List.mem_of_mem_eraseIdx hx)
theorem step_two {S : List PT} (h : 1 < S.length) : nthP S (leastP S) ∈ S ∧ nthP (S.eraseIdx (leastP S)) (leastP (S.eraseIdx (leastP S))) ∈ S ∧ (stepP S).2.2.2 = (nthP S (leastP S)).2.2 ++ (nthP (S.eraseIdx (leastP S)) (leastP (S.eraseIdx (leastP S)))).2.2 ∧
    (∀ x ∈ S, x = nthP S (leastP S) ∨ x = nthP (S.eraseIdx (leastP S)) (leastP (S.eraseIdx (leastP S))) ∨ x ∈ (stepP S).1) ∧ ((stepP S).1 ++ [(stepP S).2]).length = S.length - 1 := by
  have hb1 := (least_best (S := S) (by omega)).1
  have l1 : (S.eraseIdx (leastP S)).length = S.length - 1 := by rw [List.length_eraseIdx, if_pos hb1]
  have hb2 := (least_best (S := S.eraseIdx (leastP S)) (by omega)).1
  refine ⟨nth_mem hb1, List.mem_of_mem_eraseIdx (nth_mem hb2), rfl, fun x hx => ?_, ?_⟩
  · have p1 := (erase_perm hb1).mem_iff.1 hx
    rcases List.mem_cons.1 p1 with h1 | h1
    · exact .inl h1
    · have p2 := (erase_perm hb2).mem_iff.1 h1
      rcases List.mem_cons.1 p2 with h2 | h2
      · exact .inr (.inl h2)
      · exact .inr (.inr h2)
  · rw [List.length_append, List.length_singleton]
    have : (stepP S).1.length = S.length - 2 := by
      show ((S.eraseIdx (leastP S)).eraseIdx _).length = _
      rw [List.length_eraseIdx, if_pos hb2, l1]
      omega
    omega
theorem run_off (j : Nat) : ∀ (f : Nat) (S : List PT) (l : List Int), (∀ x ∈ S, ∀ s ∈ x.2.2, 0 ≤ s ∧ s ≠ (j : Int)) → (runP f S l).getD j 0 = l.getD j 0
  | 0, _, _, _ => rfl
  | f + 1, S, l, h => by
    rw [runP]
    split
    · rename_i h1
      obtain ⟨m1, m2, e, _, _⟩ := step_two h1
      have hs : ∀ s ∈ (stepP S).2.2.2, 0 ≤ s ∧ s ≠ (j : Int) := fun s hs => by
        rw [e] at hs
        rcases List.mem_append.1 hs with h2 | h2
        · exact h _ m1 s h2
        · exact h _ m2 s h2
      rw [run_off j f _ _ (fun x hx s hs2 => ?_), bump_off l _ j hs _ (Nat.le_refl _)]
      rcases List.mem_append.1 hx with h2 | h2
      · exact h x (step_mem h1 h2) s hs2
      · rw [List.mem_singleton.1 h2] at hs2
        exact hs s hs2
    · rfl
theorem run_on (j : Nat) : ∀ (f : Nat) (S : List PT) (l : List Int), S.length ≤ f → 1 < S.length → j < l.length → ∀ x ∈ S, (j : Int) ∈ x.2.2 → l.getD j 0 < (runP f S l).getD j 0
  | 0, S, _, hf, h1, _, _, _, _ => by omega
  | f + 1, S, l, hf, h1, hj, x, hx, hm => by
    rw [runP, if_pos h1]
    obtain ⟨m1, m2, e, hc, hl⟩ := step_two h1
    have hin : (j : Int) ∈ (stepP S).2.2.2 → l.getD j 0 < (runP f ((stepP S).1 ++ [(stepP S).2]) (bumpTo l (stepP S).2.2.2 (stepP S).2.2.2.length)).getD j 0 := fun hm => by
      obtain ⟨i, hi, e⟩ := List.getElem_of_mem hm
      exact Int.lt_of_lt_of_le (bump_on l _ j hj _ (Nat.le_refl _) ⟨i, hi, by simp [List.getD, hi, e]⟩) (run_mono j f _ _)
    rcases hc x hx with h2 | h2 | h2
    · exact hin (by rw [e, ← h2]; exact List.mem_append_left _ hm)
    · exact hin (by rw [e, ← h2]; exact List.mem_append_right _ hm)
    · have hne : 0 < (stepP S).1.length := List.length_pos_of_mem h2
      exact Int.lt_of_le_of_lt (bumpTo_bd l _ j _).1 (run_on j f _ _ (by omega) (by rw [List.length_append, List.length_singleton]; omega) (by rw [bumpTo_len]; exact hj) x (List.mem_append_left _ h2) hm)
theorem initP_mem (fs : List Int) (s : Nat) (h : 0 < fs.getD s 0) : ∀ k, s < k → (fs.getD s 0, (s : Int), [(s : Int)]) ∈ initP fs k
  | 0, hk => by omega
  | k + 1, hk => by
    rw [initP]
    by_cases e : s = k
    · subst e
      rw [if_pos h]
      exact List.mem_append_right _ (List.mem_singleton.2 rfl)
    · have := initP_mem fs s h k (by omega)
      split
      · exact List.mem_append_left _ this
      · exact this
theorem initP_inv (fs : List Int) : ∀ k, ∀ x ∈ initP fs k, ∃ s, s < k ∧ 0 < fs.getD s 0 ∧ x = (fs.getD s 0, (s : Int), [(s : Int)])
  | 0, x, hx => by cases hx
  | k + 1, x, hx => by
    rw [initP] at hx
    split at hx
    · rename_i h
      rcases List.mem_append.1 hx with h1 | h1
      · obtain ⟨s, h2, h3⟩ := initP_inv fs k x h1
        exact ⟨s, by omega, h3⟩
      · exact ⟨k, by omega, h, List.mem_singleton.1 h1⟩
    · obtain ⟨s, h2, h3⟩ := initP_inv fs k x hx
      exact ⟨s, by omega, h3⟩
theorem z257_at (j : Nat) : z257.getD j 0 = 0 := by
  simp only [z257, List.getD, List.getElem?_replicate]
  split <;> rfl
/-- The symbols that stand somewhere have a length, and no others. -/
theorem lens_pos (fs : List Int) (s : Nat) (hs : s < 256) : 0 < (lensP fs).getD s 0 ↔ 0 < fs.getD s 0 := by
  constructor
  · intro h
    by_cases hf : 0 < fs.getD s 0
    · exact hf
    · have := run_off s 257 (initP fs 256 ++ [(0, 256, [256])]) z257 (fun x hx y hy => by
        rcases List.mem_append.1 hx with h1 | h1
        · obtain ⟨t, h2, h3, rfl⟩ := initP_inv fs 256 x h1
          simp at hy
          subst hy
          refine ⟨by omega, fun e => ?_⟩
          have : t = s := by omega
          subst this
          exact hf h3
        · rw [List.mem_singleton.1 h1] at hy
          simp at hy
          subst hy
          exact ⟨by decide, by omega⟩)
      have e : (lensP fs).getD s 0 = z257.getD s 0 := this
      rw [e, z257_at] at h
      omega
  · intro h
    have hm := initP_mem fs s h 256 hs
    have hl := initP_len fs 256
    have hp := List.length_pos_of_mem hm
    have := run_on s 257 (initP fs 256 ++ [(0, 256, [256])]) z257 (by rw [List.length_append]; simp; omega) (by rw [List.length_append]; simp; omega) (by rw [z257_len]; omega) _ (List.mem_append_left _ hm) (List.mem_singleton.2 rfl)
    rw [z257_at] at this
    exact this
/-- How many of the first k have a length. -/
def posTo (R : List Int) : Nat → Nat
  | 0 => 0
  | k + 1 => if 0 < R.getD k 0 then posTo R k + 1 else posTo R k
theorem posTo_le (R : List Int) : ∀ k, posTo R k ≤ k
  | 0 => Nat.le_refl _
  | k + 1 => by
    have := posTo_le R k
    rw [posTo]
    split <;> omega
theorem posTo_np (fs : List Int) : ∀ k, k ≤ 256 → posTo (lensP fs) k = (initP fs k).length
  | 0, _ => rfl
  | k + 1, h => by
    have h1 := lens_pos fs k (by omega)
    have h2 := posTo_np fs k (by omega)
    rw [posTo, initP]
    by_cases hf : 0 < fs.getD k 0
    · rw [if_pos (h1.2 hf), if_pos hf, h2, List.length_append]
      rfl
    · rw [if_neg (fun e => hf (h1.1 e)), if_neg hf, h2]
/-- Is one of the first k lengths too great? -/
def deepTo (R : List Int) : Nat → Bool
  | 0 => false
  | k + 1 => if 16 < R.getD k 0 then true else deepTo R k
theorem deepTo_max (R : List Int) : ∀ k, deepTo R (k + 1) = decide (16 < maxTo R k)
  | 0 => by
    show (if 16 < R.getD 0 0 then true else false) = decide (16 < R.getD 0 0)
    split
    · rename_i h; exact (decide_eq_true h).symm
    · rename_i h; exact (decide_eq_false h).symm
  | k + 1 => by
    rw [deepTo, deepTo_max R k, maxTo]
    by_cases h : 16 < R.getD (k + 1) 0
    · rw [if_pos h]
      exact (decide_eq_true (by omega)).symm
    · rw [if_neg h]
      by_cases h2 : 16 < maxTo R k
      · rw [decide_eq_true h2]
        exact (decide_eq_true (by omega)).symm
      · rw [decide_eq_false h2]
        exact (decide_eq_false (by omega)).symm
end Go.Proofs.Ytmdmolofiblbmaa
