/- Plain facts: a number comes back from its size and its rest, and bits come back from the number that they are the rest of. -/
import Derived.Test.YtcikmgdfelejpaaFrom
namespace Go.Proofs.Ytcikmgdfelejpaa
open Go.RowKit
set_option linter.unusedVariables false

theorem num_congr (f g : Nat → Int) (s : Nat) : ∀ c, (∀ j, j < c → f (s + j) = g (s + j)) → num f s c = num g s c
  | 0, _ => rfl
  | c + 1, h => by rw [num, num, num_congr f g s c (fun j hj => h j (by omega)), h c (by omega)]
theorem num_back (x : Int) (k : Nat) (h0 : 0 ≤ x) (h1 : x < 2 ^ k) : num (pad (bl (rbX x k) k)) 0 k = x := by
  rw [num_congr _ (rbX x k) 0 k, rbX_num x k h0 h1 k (Nat.le_refl _), Nat.sub_self]
  · simp
  · intro j hj
    rw [Nat.zero_add, pad_in _ _ (by rw [bl_length]; exact hj), bl_get _ _ _ hj]
theorem bits_of_num (b : Nat → Int) (hb : ∀ j, Bit (b j)) (n j : Nat) (hj : j < n) : num b 0 n / 2 ^ (n - 1 - j) % 2 = b j := by
  have h := num_split b 0 (j + 1) (n - 1 - j)
  rw [show j + 1 + (n - 1 - j) = n by omega] at h
  have hbd := num_bd b hb (0 + (j + 1)) (n - 1 - j)
  have hp : (0 : Int) < 2 ^ (n - 1 - j) := Int.pow_pos (by decide)
  rw [h, Int.add_comm, Int.add_mul_ediv_right _ _ (by omega), Int.ediv_eq_zero_of_lt hbd.1 hbd.2, num, Nat.zero_add]
  have := hb j
  unfold Bit at this
  omega
theorem bitLen_is (m n : Nat) (hn : 1 ≤ n) (hn2 : n ≤ 11) (h0 : (2 : Int) ^ (n - 1) ≤ m) (h1 : (m : Int) < 2 ^ n) : Lib.bitLen m = n := by
  have hm : m ≤ 2047 := by
    have := (pow_small n hn2).2
    omega
  have a1 := (bitLen_at m (n - 1) hm (by omega)).1.1 (by exact_mod_cast h0)
  have a2 : ¬ n < Lib.bitLen m := fun e => by
    have h2 := (bitLen_at m n hm hn2).1.2 e
    have h3 : m < 2 ^ n := by exact_mod_cast h1
    omega
  omega
theorem pow_pred (n : Nat) (hn : 1 ≤ n) : (2 : Int) ^ n = 2 * 2 ^ (n - 1) := by
  obtain ⟨k, rfl⟩ : ∃ k, n = k + 1 := ⟨n - 1, by omega⟩
  rw [Int.pow_succ, Nat.add_sub_cancel]
  omega
theorem pad_bl (xs : List Int) : xs = bl (pad xs) xs.length := by
  refine list_eq_of_getD (by rw [bl_length]) fun i hi => ?_
  rw [bl_get _ _ _ hi, pad_in _ _ hi]
theorem bl_congr (f g : Nat → Int) : ∀ n, (∀ j, j < n → f j = g j) → bl f n = bl g n
  | 0, _ => rfl
  | n + 1, h => by rw [bl, bl, bl_congr f g n (fun j hj => h j (by omega)), h n (by omega)]
theorem bits_back (xs : List Int) (h : AllBits xs) : bl (rbX (num (pad xs) 0 xs.length) xs.length) xs.length = xs := by
  rw [bl_congr _ (pad xs) xs.length (fun j hj => by rw [rbX]; exact bits_of_num (pad xs) (pad_bit xs h) xs.length j hj)]
  exact (pad_bl xs).symm

/-- Bits that are a rest: the number has their size, and they are its rest. -/
theorem from_back (xs : List Int) (h : AllBits xs) (h1 : 1 ≤ xs.length) (h2 : xs.length ≤ 11) : (-2047 ≤ frv xs ∧ frv xs ≤ 2047) ∧ sz (frv xs) = xs.length ∧ restL (frv xs) = xs := by
  have hN := num_bd (pad xs) (pad_bit xs h) 0 xs.length
  have hf := bits_of_num (pad xs) (pad_bit xs h) xs.length 0 (by omega)
  rw [pad_in xs 0 (by omega), Nat.sub_zero] at hf
  have hbk := bits_back xs h
  have hps := pow_small xs.length h2
  have hpp := pow_pred xs.length h1
  have hp1 : (1 : Int) ≤ 2 ^ (xs.length - 1) := (pow_small (xs.length - 1) (by omega)).1
  have hbit := h 0 (by omega)
  have hB := fun m => bitLen_is m xs.length h1 h2
  by_cases hz : xs.getD 0 0 = 0
  · have hv := frv_low (xs := xs) ⟨by omega, hz⟩
    rw [hz] at hf
    have hlow : num (pad xs) 0 xs.length < 2 ^ (xs.length - 1) := by
      rw [hpp] at hN
      generalize num (pad xs) 0 xs.length = N at *
      generalize hP : (2 : Int) ^ (xs.length - 1) = P at *
      have hq : N / P < 2 := Int.ediv_lt_of_lt_mul (by omega) (by omega)
      have hq0 : 0 ≤ N / P := Int.ediv_nonneg hN.1 (by omega)
      have : N / P = 0 := by omega
      have hm := Int.emod_add_mul_ediv N P
      have hl := Int.emod_lt_of_pos N (show 0 < P by omega)
      rw [this] at hm
      omega
    have hlen : Lib.bitLen (frv xs).natAbs = xs.length := hB _ (by rw [hv]; omega) (by rw [hv]; omega)
    have hin : -2047 ≤ frv xs ∧ frv xs ≤ 2047 := by rw [hv]; omega
    refine ⟨hin, by rw [sz_in hin, hlen], ?_⟩
    rw [rest_in hin, hlen]
    have hr : restN (frv xs) = num (pad xs) 0 xs.length := by
      unfold restN
      rw [hlen, if_pos (by rw [hv]; omega), hv]
      omega
    rw [hr]
    exact hbk
  · have hv := frv_high (xs := xs) (fun e => hz e.2)
    have h1' : xs.getD 0 0 = 1 := hbit.resolve_left hz
    rw [h1'] at hf
    have hhigh : (2 : Int) ^ (xs.length - 1) ≤ num (pad xs) 0 xs.length := by
      generalize num (pad xs) 0 xs.length = N at *
      generalize hP : (2 : Int) ^ (xs.length - 1) = P at *
      by_cases hlt : N < P
      · rw [Int.ediv_eq_zero_of_lt hN.1 hlt] at hf
        omega
      · omega
    have hlen : Lib.bitLen (frv xs).natAbs = xs.length := hB _ (by rw [hv]; omega) (by rw [hv]; omega)
    have hin : -2047 ≤ frv xs ∧ frv xs ≤ 2047 := by rw [hv]; omega
    refine ⟨hin, by rw [sz_in hin, hlen], ?_⟩
    rw [rest_in hin, hlen]
    have hr : restN (frv xs) = num (pad xs) 0 xs.length := by
      unfold restN
      rw [if_neg (by rw [hv]; omega), hv]
    rw [hr]
    exact hbk

/-- The rest of a number is bits, as many as its size, and the number comes back. -/
theorem rest_back (x : Int) (h : -2047 ≤ x ∧ x ≤ 2047) : AllBits (restL x) ∧ ((restL x).length : Int) = sz x ∧ frv (restL x) = x := by
  have hl := (bitLen_at x.natAbs 0 (by omega) (by omega)).2
  have hb := restN_bd h
  have hall : AllBits (restL x) := by
    rw [rest_in h]
    intro j hj
    rw [bl_length] at hj
    rw [bl_get _ _ _ hj]
    exact rbX_bit _ _ _
  have hlen : (restL x).length = Lib.bitLen x.natAbs := by rw [rest_in h, bl_length]
  refine ⟨hall, by rw [hlen, sz_in h], ?_⟩
  have hnum : num (pad (restL x)) 0 (restL x).length = restN x := by
    rw [hlen, rest_in h]
    exact num_back _ _ hb.1 hb.2
  by_cases h0 : x = 0
  · subst h0
    rfl
  · have hbl := fun c hc => (bitLen_at x.natAbs c (by omega) hc).1
    have hn1 : 1 ≤ Lib.bitLen x.natAbs := by
      have := (hbl 0 (by omega)).1 (by simp; omega)
      omega
    have hge : (2 : Int) ^ (Lib.bitLen x.natAbs - 1) ≤ x.natAbs := by
      have := (hbl (Lib.bitLen x.natAbs - 1) (by omega)).2 (by omega)
      exact_mod_cast this
    have hpp := pow_pred (Lib.bitLen x.natAbs) hn1
    have hp1 : (1 : Int) ≤ 2 ^ (Lib.bitLen x.natAbs - 1) := (pow_small _ (by omega)).1
    have hfirst : (restL x).getD 0 0 = restN x / 2 ^ (Lib.bitLen x.natAbs - 1) % 2 := by
      rw [rest_in h, bl_get _ _ _ (by omega), rbX, Nat.sub_zero]
    by_cases hneg : x < 0
    · have hr : restN x = x + 2 ^ Lib.bitLen x.natAbs - 1 := by unfold restN; rw [if_pos hneg]
      have hz : (restL x).getD 0 0 = 0 := by
        rw [hfirst, Int.ediv_eq_zero_of_lt hb.1 (by rw [hr, hpp]; omega)]
        rfl
      rw [frv_low ⟨by omega, hz⟩, hnum, hr, hlen]
      omega
    · have hr : restN x = x := by unfold restN; rw [if_neg hneg]
      have hz : (restL x).getD 0 0 = 1 := by
        rw [hfirst, hr]
        rw [hr] at hb
        generalize hP : (2 : Int) ^ (Lib.bitLen x.natAbs - 1) = P at *
        have e1 : x / P = 1 := by
          have hq : x / P < 2 := Int.ediv_lt_of_lt_mul (by omega) (by omega)
          have hq2 : 1 ≤ x / P := (Int.le_ediv_iff_mul_le (by omega)).2 (by omega)
          omega
        rw [e1]
        rfl
      rw [frv_high (fun e => by rw [hz] at e; exact absurd e.2 (by decide)), hnum, hr]
theorem sz_neg (x : Int) (h : -2047 ≤ x ∧ x ≤ 2047) : sz (-x) = sz x := by
  rw [sz_in h, sz_in (by omega), show (-x).natAbs = x.natAbs by omega]
end Go.Proofs.Ytcikmgdfelejpaa
