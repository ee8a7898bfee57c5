/- Plain: the best codes are right. -/
import Derived.Test.YtmdmolofiblbmaaKr
namespace Go.Proofs.Ytmdmolofiblbmaa
open Go.RowKit
set_option linter.unusedVariables false

theorem cntsTo_get (L : List Int) : ∀ n i, i < n → (cntsTo L n).getD i 0 = ((pickTo L ((i : Int) + 1) 256).length : Int)
  | n + 1, i, h => by
    rw [cntsTo]
    by_cases e : i = n
    · subst e
      simp only [List.getD]
      rw [List.getElem?_append_right (by rw [cntsTo_len]; exact Nat.le_refl _), cntsTo_len, Nat.sub_self]
      rfl
    · have := cntsTo_get L n i (by omega)
      simp only [List.getD] at this ⊢
      rw [List.getElem?_append_left (by rw [cntsTo_len]; omega)]
      exact this
/-- The room that the first k symbols take with codes of at most i bits; how many they are. -/
def rmT (L : List Int) (k : Nat) : Nat → Int
  | 0 => 0
  | i + 1 => rmT L k i + ((pickTo L ((i : Int) + 1) k).length : Int) * 2 ^ (15 - i)
def tlT (L : List Int) (k : Nat) : Nat → Int
  | 0 => 0
  | i + 1 => tlT L k i + ((pickTo L ((i : Int) + 1) k).length : Int)
theorem room_cnts (L : List Int) : ∀ i, i ≤ 16 → room (cntsTo L 16) i = rmT L 256 i
  | 0, _ => rfl
  | i + 1, h => by rw [room, rmT, room_cnts L i (by omega), cntsTo_get L 16 i (by omega)]
theorem told_cnts (L : List Int) : ∀ i, i ≤ 16 → told (cntsTo L 16) i = tlT L 256 i
  | 0, _ => rfl
  | i + 1, h => by rw [told, tlT, told_cnts L i (by omega), cntsTo_get L 16 i (by omega)]
theorem syms_tl (L : List Int) : ∀ i, ((symsTo L i).length : Int) = tlT L 256 i
  | 0 => rfl
  | i + 1 => by
    rw [symsTo, tlT, ← syms_tl L i, List.length_append]
    omega
theorem rmT_zero (L : List Int) : ∀ i, rmT L 0 i = 0
  | 0 => rfl
  | i + 1 => by rw [rmT, rmT_zero L i, pickTo]; simp
theorem tlT_zero (L : List Int) : ∀ i, tlT L 0 i = 0
  | 0 => rfl
  | i + 1 => by rw [tlT, tlT_zero L i, pickTo]; simp
theorem rmT_succ (L : List Int) (k : Nat) : ∀ i, i ≤ 16 → rmT L (k + 1) i = rmT L k i + (if 1 ≤ L.getD k 0 ∧ L.getD k 0 ≤ (i : Int) then 2 ^ (16 - (L.getD k 0).toNat) else 0)
  | 0, _ => by
    rw [rmT, rmT, if_neg (by omega)]
    rfl
  | i + 1, h => by
    rw [rmT, rmT, rmT_succ L k i (by omega), pickTo]
    by_cases e : L.getD k 0 = (i : Int) + 1
    · rw [if_pos e, if_neg (by omega), if_pos (by omega), List.length_append, List.length_singleton]
      have : 16 - (L.getD k 0).toNat = 15 - i := by omega
      rw [this, Int.natCast_add, Int.add_mul, Int.add_zero]
      simp only [Int.natCast_one, Int.one_mul, Int.add_assoc]
    · rw [if_neg e]
      by_cases h2 : 1 ≤ L.getD k 0 ∧ L.getD k 0 ≤ (i : Int)
      · rw [if_pos h2, if_pos (by omega)]
        omega
      · rw [if_neg h2, if_neg (by omega)]
        omega
theorem tlT_succ (L : List Int) (k : Nat) : ∀ i, tlT L (k + 1) i = tlT L k i + (if 1 ≤ L.getD k 0 ∧ L.getD k 0 ≤ (i : Int) then 1 else 0)
  | 0 => by
    rw [tlT, tlT, if_neg (by omega)]
    rfl
  | i + 1 => by
    rw [tlT, tlT, tlT_succ L k i, pickTo]
    by_cases e : L.getD k 0 = (i : Int) + 1
    · rw [if_pos e, if_neg (by omega), if_pos (by omega), List.length_append, List.length_singleton]
      omega
    · rw [if_neg e]
      by_cases h2 : 1 ≤ L.getD k 0 ∧ L.getD k 0 ≤ (i : Int)
      · rw [if_pos h2, if_pos (by omega)]
        omega
      · rw [if_neg h2, if_neg (by omega)]
        omega
theorem tl_pos (L : List Int) (h : ∀ s, s < 256 → L.getD s 0 ≤ 16) : ∀ k, k ≤ 256 → tlT L k 16 = (posTo L k : Int)
  | 0, _ => tlT_zero L 16
  | k + 1, hk => by
    have := h k (by omega)
    rw [tlT_succ, tl_pos L h k (by omega), posTo]
    by_cases h0 : 0 < L.getD k 0
    · rw [if_pos h0, if_pos (by omega)]
      omega
    · rw [if_neg h0, if_neg (by omega), Int.add_zero]
/-- What the symbols take of the whole is the room of their codes. -/
theorem kraft_room (fs : List Int) (h : ∀ s, s < 256 → (lensP fs).getD s 0 ≤ 16) : ∀ k, k ≤ 256 → ((kS (kw (lensP fs)) (posS fs k) : Nat) : Int) = 2 ^ 240 * rmT (lensP fs) k 16
  | 0, _ => by rw [rmT_zero, Int.mul_zero]; rfl
  | k + 1, hk => by
    have ih := kraft_room fs h k (by omega)
    have hp := lens_pos fs k (by omega)
    have hb := h k (by omega)
    rw [rmT_succ _ _ 16 (Nat.le_refl _), posS]
    by_cases hf : 0 < fs.getD k 0
    · have h1 := hp.2 hf
      rw [if_pos hf, if_pos (by omega), kS_append, Int.natCast_add, ih, Int.mul_add]
      congr 1
      show ((kw (lensP fs) (k : Int) + 0 : Nat) : Int) = _
      unfold kw
      rw [Nat.add_zero, show ((k : Int)).toNat = k by omega]
      have e : 256 - ((lensP fs).getD k 0).toNat = 240 + (16 - ((lensP fs).getD k 0).toNat) := by omega
      rw [e, Nat.pow_add, Int.natCast_mul, Int.natCast_pow, Int.natCast_pow]
      rfl
    · rw [if_neg hf, if_neg (fun e => hf (hp.1 (by omega))), Int.add_zero]
      exact ih
theorem kw_pos (l : List Int) (s : Int) : 0 < kw l s := Nat.pow_pos (by decide)
theorem even_at (R : List Int) (s : Nat) (hs : s < R.length) : ∀ k, (evenTo R k).getD s 0 = if s < k ∧ 0 < R.getD s 0 then 8 else R.getD s 0
  | 0 => by rw [evenTo, if_neg (by omega)]
  | k + 1 => by
    have ih := even_at R s hs k
    rw [evenTo]
    by_cases e : s = k
    · subst e
      by_cases h : 0 < R.getD s 0
      · rw [if_pos h, if_pos ⟨by omega, h⟩, setD_self (by rw [evenTo_len]; exact hs)]
      · rw [if_neg h, if_neg (fun e => h e.2), ih, if_neg (by omega)]
    · have e2 : (s < k + 1 ∧ 0 < R.getD s 0) ↔ (s < k ∧ 0 < R.getD s 0) := by omega
      have ih : (evenTo R k).getD s 0 = if s < k + 1 ∧ 0 < R.getD s 0 then 8 else R.getD s 0 := by
        rw [ih]
        by_cases h : s < k ∧ 0 < R.getD s 0
        · rw [if_pos h, if_pos (e2.2 h)]
        · rw [if_neg h, if_neg (fun q => h (e2.1 q))]
      split
      · rw [getD_set_off _ _ _ _ (fun e3 => e e3.symm)]
        exact ih
      · exact ih
theorem rm_even (R : List Int) (hR : R.length = 257) (h0 : ∀ s, s < 256 → 0 ≤ R.getD s 0) : ∀ k, k ≤ 256 → rmT (evenTo R 256) k 16 = 256 * (posTo R k : Int)
  | 0, _ => by rw [rmT_zero]; rfl
  | k + 1, hk => by
    have ih := rm_even R hR h0 k (by omega)
    have e := even_at R k (by omega) 256
    have hk0 := h0 k (by omega)
    rw [rmT_succ _ _ 16 (Nat.le_refl _), ih, posTo, e]
    by_cases h : 0 < R.getD k 0
    · rw [if_pos h, if_pos (show k < 256 ∧ 0 < R.getD k 0 from ⟨by omega, h⟩), if_pos (by decide)]
      have : (2 : Int) ^ (16 - (8 : Int).toNat) = 256 := by decide
      rw [this]
      omega
    · rw [if_neg h, if_neg (show ¬ (k < 256 ∧ 0 < R.getD k 0) from fun q => h q.2), if_neg (by omega), Int.add_zero]
theorem bestL_le (fs : List Int) (hl : (lensP fs).length = 257) : ∀ s, s < 256 → 0 ≤ (bestL (lensP fs)).getD s 0 ∧ (bestL (lensP fs)).getD s 0 ≤ 16 ∧ (0 < (bestL (lensP fs)).getD s 0 ↔ 0 < (lensP fs).getD s 0) := fun s hs => by
  have h0 := (best_kraft fs).2 s hs
  unfold bestL
  by_cases h : 16 < maxTo (lensP fs) 255
  · rw [if_pos h, even_at _ _ (by omega)]
    split
    · omega
    · exact ⟨h0, by omega, Iff.rfl⟩
  · rw [if_neg h]
    have : ¬ 16 < (lensP fs).getD s 0 := fun e => h ((maxTo_gt (lensP fs) 16 255).2 ⟨s, by omega, e⟩)
    exact ⟨h0, by omega, Iff.rfl⟩
theorem posTo_congr {A B : List Int} (h : ∀ s, s < 256 → (0 < A.getD s 0 ↔ 0 < B.getD s 0)) : ∀ k, k ≤ 256 → posTo A k = posTo B k
  | 0, _ => rfl
  | k + 1, hk => by
    have := h k (by omega)
    rw [posTo, posTo, posTo_congr h k (by omega)]
    by_cases e : 0 < A.getD k 0
    · rw [if_pos e, if_pos (this.1 e)]
    · rw [if_neg e, if_neg (fun q => e (this.2 q))]
theorem pickTo_mem (L : List Int) (l : Int) : ∀ k, (pickTo L l k).Nodup ∧ ∀ s ∈ pickTo L l k, 0 ≤ s ∧ s < k ∧ L.getD s.toNat 0 = l
  | 0 => ⟨by simp [pickTo], fun s hs => by cases hs⟩
  | k + 1 => by
    obtain ⟨h1, h2⟩ := pickTo_mem L l k
    rw [pickTo]
    split
    · rename_i hf
      refine ⟨?_, fun s hs => ?_⟩
      · rw [List.nodup_append]
        refine ⟨h1, by simp, fun a ha b hb e => ?_⟩
        rw [List.mem_singleton.1 hb] at e
        have := h2 a ha
        omega
      · rcases List.mem_append.1 hs with h | h
        · have := h2 s h
          exact ⟨this.1, by omega, this.2.2⟩
        · rw [List.mem_singleton.1 h]
          exact ⟨by omega, by omega, by simpa using hf⟩
    · exact ⟨h1, fun s hs => by have := h2 s hs; exact ⟨this.1, by omega, this.2.2⟩⟩
theorem symsTo_mem (L : List Int) : ∀ i, (symsTo L i).Nodup ∧ ∀ s ∈ symsTo L i, 0 ≤ s ∧ s < 256 ∧ 1 ≤ L.getD s.toNat 0 ∧ L.getD s.toNat 0 ≤ i
  | 0 => ⟨by simp [symsTo], fun s hs => by cases hs⟩
  | i + 1 => by
    obtain ⟨h1, h2⟩ := symsTo_mem L i
    obtain ⟨p1, p2⟩ := pickTo_mem L ((i : Int) + 1) 256
    rw [symsTo]
    refine ⟨?_, fun s hs => ?_⟩
    · rw [List.nodup_append]
      refine ⟨h1, p1, fun a ha b hb e => ?_⟩
      have q1 := h2 a ha
      have q2 := p2 b hb
      rw [← e] at q2
      omega
    · rcases List.mem_append.1 hs with h | h
      · have := h2 s h
        omega
      · have := p2 s h
        omega
theorem apart_of {xs : List Int} (hn : xs.Nodup) (hb : ∀ s ∈ xs, 0 ≤ s ∧ s < 256) : ∀ k, k ≤ xs.length → apartTo xs k = true
  | 0, _ => rfl
  | k + 1, hk => by
    have hm : xs.getD k 0 ∈ xs := by simp [List.getD, show k < xs.length by omega]
    rw [apartTo, apart_of hn hb k (by omega), Bool.true_and]
    have h1 : inB (xs.getD k 0) = true := decide_eq_true (by have := hb _ hm; omega)
    have h2 : hasTo xs k (xs.getD k 0) = false := by
      cases h : hasTo xs k (xs.getD k 0) with
      | false => rfl
      | true =>
        obtain ⟨j, hj, e⟩ := (hasTo_iff xs _ k).1 h
        have hj2 : j < xs.length := by omega
        have hk2 : k < xs.length := by omega
        have e2 : xs[j] = xs[k] := by simpa [List.getD, hj2, hk2] using e
        exact absurd e2 (List.pairwise_iff_getElem.1 hn j k hj2 hk2 hj)
    rw [h1, h2]
    rfl
end Go.Proofs.Ytmdmolofiblbmaa
