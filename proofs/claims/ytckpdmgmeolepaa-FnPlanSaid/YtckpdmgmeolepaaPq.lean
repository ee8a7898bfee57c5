/- Plain facts: what the walk says of a number's decisions and of their beginnings. No machine in it. -/
import Derived.Test.YtckpdmgmeolepaaNs
import Derived.Test.YtckpdmgmeolepaaPa
import Derived.Test.YtckpdmgmeolepaaWo
namespace Go.Proofs.Ytckpdmgmeolepaa
open Go.RowKit
set_option linter.unusedVariables false

theorem sb_at (n : Int) (c k : Nat) (h : k < c) : (sb n c).getD k 0 = bI (decide ((k : Int) + 1 < n)) := by
  unfold sb
  rw [List.getD_eq_getElem?_getD, List.getElem?_map, List.getElem?_range h]
  rfl
theorem sb_drop (n : Nat) (c k : Nat) (h : k < c) : (sb n c).drop k = bI (decide ((k : Int) + 1 < (n : Int))) :: (sb n c).drop (k + 1) := by
  rw [drop_cons _ k (by rw [sb_length]; exact h), sb_at _ _ _ h]
theorem size_full (s : Int) (R : List Int) (n : Nat) (hn : n ≤ 11) : ∀ d m, m + d = n → 1 ≤ m → sizeS s (11 - m) m ((sb n (min n 10)).drop (m - 1) ++ R) = restS s n R
  | 0, m, h, h1 => by
    obtain rfl : m = n := by omega
    by_cases h10 : m ≤ 10
    · obtain ⟨f, hf⟩ : ∃ f, 11 - m = f + 1 := ⟨10 - m, by omega⟩
      rw [hf, show min m 10 = m by omega, sb_drop m m (m - 1) (by omega), decide_eq_false (by omega), show m - 1 + 1 = m by omega, List.drop_of_length_le (by rw [sb_length]; exact Nat.le_refl _)]
      rw [List.cons_append, sizeS]
      simp [bI]
    · obtain rfl : m = 11 := by omega
      show sizeS s 0 11 _ = _
      rw [sizeS, List.drop_of_length_le (by rw [sb_length]; decide)]
      rfl
  | d + 1, m, h, h1 => by
    have hm : m ≤ 10 := by omega
    obtain ⟨f, hf⟩ : ∃ f, 11 - m = f + 1 := ⟨10 - m, by omega⟩
    rw [hf, sb_drop n (min n 10) (m - 1) (by omega), decide_eq_true (by omega), List.cons_append, sizeS]
    have ih := size_full s R n hn d (m + 1) (by omega) (by omega)
    rw [show 11 - (m + 1) = f by omega, show m + 1 - 1 = m - 1 + 1 by omega] at ih
    rw [if_neg (by simp [bI])]
    exact ih
theorem rest_part (s : Int) (R : List Int) (n j : Nat) (hR : R.length = n - 1) (hj : j < n - 1) : (restS s n (R.take j)).1 = 12 + (j : Int) := by
  have hl : (R.take j).length = j := by rw [List.length_take]; omega
  unfold restS
  rw [hl, if_neg (by omega), if_pos hj]
theorem size_part (s : Int) (R : List Int) (n : Nat) (hn : n ≤ 11) (hR : R.length = n - 1) : ∀ d m, m + d = n → 1 ≤ m → ∀ j, j < ((sb n (min n 10)).drop (m - 1) ++ R).length → 0 ≤ (sizeS s (11 - m) m (((sb n (min n 10)).drop (m - 1) ++ R).take j)).1
  | 0, m, h, h1, j, hj => by
    obtain rfl : m = n := by omega
    by_cases h10 : m ≤ 10
    · obtain ⟨f, hf⟩ : ∃ f, 11 - m = f + 1 := ⟨10 - m, by omega⟩
      rw [show min m 10 = m by omega, sb_drop m m (m - 1) (by omega), decide_eq_false (by omega), show m - 1 + 1 = m by omega, List.drop_of_length_le (by rw [sb_length]; exact Nat.le_refl _)] at hj ⊢
      rw [hf]
      cases j with
      | zero => simp [sizeS]; omega
      | succ j =>
        simp only [List.length_append, List.length_cons, List.length_nil] at hj
        rw [List.cons_append, List.take_succ_cons, sizeS, if_pos (by simp [bI]), List.nil_append, rest_part s R m j hR (by omega)]
        omega
    · obtain rfl : m = 11 := by omega
      have e0 : (sb ((11 : Nat) : Int) (min 11 10)).drop (11 - 1) = [] := List.drop_of_length_le (by rw [sb_length]; decide)
      rw [e0, List.nil_append] at hj ⊢
      show 0 ≤ (sizeS s 0 11 _).1
      rw [sizeS, rest_part s R 11 j hR (by omega)]
      omega
  | d + 1, m, h, h1, j, hj => by
    have hm : m ≤ 10 := by omega
    obtain ⟨f, hf⟩ : ∃ f, 11 - m = f + 1 := ⟨10 - m, by omega⟩
    rw [sb_drop n (min n 10) (m - 1) (by omega), decide_eq_true (by omega), List.cons_append] at hj ⊢
    rw [hf]
    cases j with
    | zero => simp [sizeS]; omega
    | succ j =>
      have ih := size_part s R n hn hR d (m + 1) (by omega) (by omega) j (by
        rw [show m + 1 - 1 = m - 1 + 1 by omega]
        simp only [List.length_cons] at hj
        omega)
      rw [show 11 - (m + 1) = f by omega, show m + 1 - 1 = m - 1 + 1 by omega] at ih
      rw [List.take_succ_cons, sizeS, if_neg (by simp [bI])]
      exact ih
theorem bl_bnum (rb : Nat → Int) : ∀ k, bnum (bl rb k) 0 = num rb 0 k
  | 0 => rfl
  | k + 1 => by
    rw [bl, bnum_snoc, bl_bnum rb k, num, Nat.zero_add]
    omega
theorem bI_bit (b : Bool) : isBi (bI b) = true := by cases b <;> decide
theorem bl_bits (rb : Nat → Int) (h : ∀ j, Bit (rb j)) : ∀ k, ∀ x ∈ bl rb k, isBi x = true
  | 0, x, hx => by simp [bl] at hx
  | k + 1, x, hx => by
    rw [bl, List.mem_append] at hx
    rcases hx with hx | hx
    · exact bl_bits rb h k x hx
    · simp at hx
      subst hx
      exact (isBi_iff _).2 (h k)
/-- The decisions of a number that is not 0. -/
theorem plan_form {x : Int} {n : Nat} (hn : sz x = (n : Int)) (h1 : 1 ≤ n) : planP x = 0 :: bI (decide (x < 0)) :: ((sb n (min n 10)).drop (1 - 1) ++ bl (rbX ((x.natAbs : Int) - 2 ^ (n - 1)) (n - 1)) (n - 1)) := by
  unfold planP
  rw [if_neg (by omega), if_neg (by omega), hn, Int.toNat_natCast]
  rfl
theorem plan_bits (x : Int) : ∀ y ∈ planP x, isBi y = true := by
  intro y hy
  unfold planP at hy
  split at hy
  · simp at hy
  · split at hy
    · simp at hy
      subst hy
      decide
    · simp only [List.mem_cons, List.mem_append] at hy
      rcases hy with rfl | rfl | hy | hy
      · decide
      · exact bI_bit _
      · unfold sb at hy
        simp only [List.mem_map] at hy
        obtain ⟨_, _, rfl⟩ := hy
        exact bI_bit _
      · exact bl_bits _ (rbX_bit _ _) _ y hy
theorem plan_next (x : Int) (hx : 0 ≤ sz x) : nextS (planP x) = (-1, x) := by
  have hb := plan_bits x
  by_cases h0 : sz x = 0
  · have e : planP x = [1] := by unfold planP; rw [if_neg (by omega), if_pos h0]
    rw [e]
    have hx0 : x = 0 := by
      by_cases hr : -2047 ≤ x ∧ x ≤ 2047
      · rw [sz_in hr] at h0
        have h2 := (bitLen_at x.natAbs 0 (by omega) (by omega)).1
        have : ¬ 2 ^ 0 ≤ x.natAbs := fun k => by have := h2.1 k; omega
        simp at this
        exact this
      · rw [sz_out hr] at h0
        omega
    subst hx0
    rfl
  · obtain ⟨n, hn⟩ : ∃ n : Nat, sz x = (n : Int) := ⟨(sz x).toNat, by omega⟩
    have h1 : 1 ≤ n := by omega
    obtain ⟨p1, p2, p3, p4, p5⟩ := sz_pow hn h1
    have hpw : (2 : Int) ^ n = 2 ^ (n - 1) * 2 := by
      rw [← Int.pow_succ]
      congr 1
      omega
    rw [plan_form hn h1] at hb ⊢
    unfold nextS
    rw [if_pos hb]
    simp only [show ¬ ((0 : Int) = 1) by decide, if_false]
    rw [show sizeS (bI (decide (x < 0))) 10 1 _ = sizeS (bI (decide (x < 0))) (11 - 1) 1 _ from rfl, size_full _ _ n p3 (n - 1) 1 (by omega) (by omega)]
    unfold restS
    rw [bl_length, if_neg (by omega), if_neg (by omega), bl_bnum, rbX_num _ _ (by omega) (by omega) _ (Nat.le_refl _), Nat.sub_self]
    by_cases hneg : x < 0
    · rw [decide_eq_true hneg, if_pos (by simp [bI])]
      simp
      omega
    · rw [decide_eq_false hneg, if_neg (by simp [bI])]
      simp
      omega
theorem plan_part (x : Int) (i : Nat) (hi : i < (planP x).length) : 0 ≤ (nextS ((planP x).take i)).1 := by
  have hb : ∀ y ∈ (planP x).take i, isBi y = true := fun y hy => plan_bits x y (List.mem_of_mem_take hy)
  by_cases hneg : sz x < 0
  · have e : planP x = [] := by unfold planP; rw [if_pos hneg]
    rw [e] at hi
    simp at hi
  · by_cases h0 : sz x = 0
    · have e : planP x = [1] := by unfold planP; rw [if_neg (by omega), if_pos h0]
      rw [e] at hi ⊢
      simp at hi
      subst hi
      decide
    · obtain ⟨n, hn⟩ : ∃ n : Nat, sz x = (n : Int) := ⟨(sz x).toNat, by omega⟩
      have h1 : 1 ≤ n := by omega
      obtain ⟨p1, p2, p3, p4, p5⟩ := sz_pow hn h1
      rw [plan_form hn h1] at hb hi ⊢
      match i, hi, hb with
      | 0, _, _ =>
        rw [List.take_zero]
        decide
      | 1, _, hb =>
        rw [List.take_succ_cons, List.take_zero] at hb ⊢
        unfold nextS
        rw [if_pos hb]
        decide
      | i + 2, hi, hb =>
        rw [List.take_succ_cons, List.take_succ_cons] at hb ⊢
        unfold nextS
        rw [if_pos hb]
        simp only [show ¬ ((0 : Int) = 1) by decide, if_false]
        exact size_part _ _ n p3 (bl_length _ _) (n - 1) 1 (by omega) (by omega) i (by simp only [List.length_cons] at hi; omega)
/-- A beginning of a number's decisions: where the walk then is. -/
theorem walk_part (x : Int) (i : Nat) (hi : i < (planP x).length) : ∃ s, wkOver wk0 ((planP x).take i) = some s ∧ WkOk s ∧ s.part ≠ 4 ∧ wkSlot s = (nextS ((planP x).take i)).1 ∧ 0 ≤ wkSlot s ∧ wkSlot s ≤ 23 := by
  have h0 := plan_part x i hi
  have he : outI (wkOver wk0 ((planP x).take i)) = nextS ((planP x).take i) := next_eq _
  have hok := over_ok (l := (planP x).take i) WkOk.zero
  rw [← he] at h0 ⊢
  generalize wkOver wk0 ((planP x).take i) = R at *
  cases R with
  | none => exact absurd (show (0 : Int) ≤ -2 from h0) (by decide)
  | some s =>
    have ho := hok s rfl
    by_cases h4 : s.part = 4
    · simp only [outI, h4, if_true] at h0
      exact absurd (show (0 : Int) ≤ -1 from h0) (by decide)
    · simp only [outI, h4, if_false] at h0 ⊢
      refine ⟨s, rfl, ho, h4, rfl, h0, ?_⟩
      unfold wkSlot
      rcases ho with ⟨a1, rfl⟩ | ⟨a1, a2, a3, a5⟩ | ⟨a1, a2, a3, a5, a6⟩ | ⟨a1, a2, a3, a5, a6, a7, a8⟩ | ⟨a1, a2, a3⟩
      · decide
      · rw [if_neg (by omega), if_pos a1]; decide
      · rw [if_neg (by omega), if_neg (by omega), if_pos a1]; omega
      · rw [if_neg (by omega), if_neg (by omega), if_neg (by omega)]; omega
      · exact absurd a1 h4
theorem walk_whole (x : Int) (hx : 0 ≤ sz x) : ∃ s, wkOver wk0 (planP x) = some s ∧ WkOk s ∧ s.part = 4 ∧ wkNum s = x := by
  have he : outI (wkOver wk0 (planP x)) = (-1, x) := (next_eq _).trans (plan_next x hx)
  have hok := over_ok (l := planP x) WkOk.zero
  generalize wkOver wk0 (planP x) = R at *
  cases R with
  | none =>
    have := congrArg Prod.fst he
    exact absurd (show (-2 : Int) = -1 from this) (by decide)
  | some s =>
    have ho := hok s rfl
    by_cases h4 : s.part = 4
    · simp only [outI, h4, if_true] at he
      exact ⟨s, rfl, ho, h4, (congrArg Prod.snd he)⟩
    · simp only [outI, h4, if_false] at he
      have h1 : wkSlot s = -1 := congrArg Prod.fst he
      have := ho.bounds h4
      unfold wkSlot at h1
      split at h1
      · omega
      · split at h1
        · omega
        · split at h1 <;> omega
end Go.Proofs.Ytckpdmgmeolepaa
