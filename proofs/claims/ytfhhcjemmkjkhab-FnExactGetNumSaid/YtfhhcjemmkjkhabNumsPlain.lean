/- Plain facts on numbers written by seven bits each: no program is named here. -/
import Derived.Test.YtfhhcjemmkjkhabNum
namespace Go.Proofs.Ytfhhcjemmkjkhab
open Go.RowKit
set_option linter.unusedVariables false

/-- The byte at a place; 0 where there is none. -/
def bt (s : ByteArray) (j : Nat) : Int := if h : j < s.size then (s[j].toNat : Int) else 0
theorem bt_eq (s : ByteArray) (j : Nat) (h : j < s.size) : bt s j = (s[j].toNat : Int) := by simp [bt, h]
theorem bt_nonneg (s : ByteArray) (j : Nat) : 0 ≤ bt s j := by unfold bt; split <;> omega
theorem bt_lt (s : ByteArray) (j : Nat) : bt s j < 256 := by
  unfold bt
  split
  · exact byte_lt _
  · omega

/-- What c bytes from place j on tell. -/
def val (b : Nat → Int) : Nat → Nat → Int
  | _, 0 => 0
  | j, c + 1 => b j % 128 + 128 * val b (j + 1) c

theorem val_nonneg (b : Nat → Int) : ∀ c j, 0 ≤ val b j c
  | 0, j => by simp [val]
  | c + 1, j => by have := val_nonneg b c (j + 1); simp only [val]; omega

theorem val_lt (b : Nat → Int) : ∀ c j, val b j c < 128 ^ c
  | 0, j => by simp [val]
  | c + 1, j => by
    have := val_lt b c (j + 1)
    have e : (128 : Int) ^ (c + 1) = 128 * 128 ^ c := by rw [Int.pow_succ]; omega
    simp only [val]
    rw [e]
    omega

theorem pow_mono (t : Nat) : ∀ d, (128 : Int) ^ t ≤ 128 ^ (t + d)
  | 0 => Int.le_refl _
  | d + 1 => by
    have h := pow_mono t d
    have e : (128 : Int) ^ (t + (d + 1)) = 128 * 128 ^ (t + d) := by rw [← Nat.add_assoc, Int.pow_succ]; omega
    have p : (0 : Int) < 128 ^ t := Int.pow_pos (by decide)
    omega
theorem val_le5 (b : Nat → Int) (j t : Nat) (h : t ≤ 5) : val b j t ≤ 128 ^ 5 := by
  have h1 := val_lt b t j
  have h2 := pow_mono t (5 - t)
  rw [show t + (5 - t) = 5 by omega] at h2
  omega

theorem val_snoc (b : Nat → Int) : ∀ c j, val b j (c + 1) = val b j c + b (j + c) % 128 * 128 ^ c
  | 0, j => by simp [val]
  | c + 1, j => by
    have h := val_snoc b c (j + 1)
    have e : (128 : Int) ^ (c + 1) = 128 * 128 ^ c := by rw [Int.pow_succ]; omega
    have e2 : j + 1 + c = j + (c + 1) := by omega
    rw [val, h, e2, e]
    simp only [val]
    generalize (128 : Int) ^ c = p
    generalize b (j + (c + 1)) % 128 = q
    have e3 : q * (128 * p) = 128 * (q * p) := by rw [← Int.mul_assoc, Int.mul_comm q 128, Int.mul_assoc]
    rw [e3]
    omega

/-- The bytes themselves. -/
def row (b : Nat → Int) : Nat → Nat → List Int
  | _, 0 => []
  | j, c + 1 => b j :: row b (j + 1) c

theorem row_length (b : Nat → Int) : ∀ c j, (row b j c).length = c
  | 0, j => rfl
  | c + 1, j => by simp [row, row_length b c (j + 1)]

theorem row_get (b : Nat → Int) : ∀ c j k, k < c → (row b j c)[k]? = some (b (j + k))
  | c + 1, j, 0, _ => by simp [row]
  | c + 1, j, k + 1, h => by
    have := row_get b c (j + 1) k (by omega)
    simp only [row, List.getElem?_cons_succ, this]
    congr 2
    omega

/-- A number's own bytes are those that tell it, as soon as they are as many. -/
theorem nb_row (b : Nat → Int) (hb : ∀ j, 0 ≤ b j ∧ b j < 256) : ∀ (n j f : Nat), (∀ k, k < n → 128 ≤ b (j + k)) → b (j + n) < 128 → (val b j (n + 1)).toNat ≤ f →
    (nb f (val b j (n + 1))).length = n + 1 → nb f (val b j (n + 1)) = row b j (n + 1)
  | 0, j, f, _, h2, _, _ => by
    have := hb j
    have e : val b j 1 = b j := by simp only [val]; simp only [Nat.add_zero] at h2; omega
    rw [e, nb_small _ _ (by simpa using h2)]
    simp [row]
  | n + 1, j, f, h1, h2, hf, hl => by
    by_cases hs : val b j (n + 1 + 1) < 128
    · rw [nb_small _ _ hs] at hl
      simp at hl
    · obtain ⟨g, rfl, hg, hn⟩ := nb_big f _ hs hf
      have h0 := hb j
      have h10 := h1 0 (by omega)
      simp only [Nat.add_zero] at h10
      have ed : val b j (n + 1 + 1) / 128 = val b (j + 1) (n + 1) := by
        rw [val]; omega
      have em : val b j (n + 1 + 1) % 128 + 128 = b j := by
        rw [val]; omega
      rw [hn, em, ed] at hl ⊢
      rw [ed] at hg
      have := nb_row b hb n (j + 1) g (fun k hk => by have := h1 (k + 1) (by omega); rwa [show j + (k + 1) = j + 1 + k by omega] at this) (by rwa [show j + (n + 1) = j + 1 + n by omega] at h2) hg (by simpa using hl)
      rw [this]
      rfl

/-- The first byte below 128, if one comes ahead of place N. -/
theorem first_low (b : Nat → Int) (m : Nat) : ∀ N : Nat, (∀ j, j < N → j < m → 128 ≤ b j) ∨ ∃ n, n < N ∧ n < m ∧ (∀ j, j < n → 128 ≤ b j) ∧ b n < 128
  | 0 => .inl (fun j hj => by omega)
  | N + 1 => by
    rcases first_low b m N with h | ⟨n, h1, h2⟩
    · by_cases hm : N < m
      · by_cases hb : 128 ≤ b N
        · left
          intro j hj hjm
          by_cases e : j = N
          · subst e; exact hb
          · exact h j (by omega) hjm
        · right
          exact ⟨N, by omega, hm, fun j hj => h j hj (by omega), by omega⟩
      · left
        intro j hj hjm
        exact h j (by omega) hjm
    · exact .inr ⟨n, by omega, h2⟩

theorem nb_length_pos (f : Nat) (x : Int) : 1 ≤ (nb f x).length := by
  cases f with
  | zero => simp [nb]
  | succ f => simp only [nb]; split <;> simp

/-- A cut of a text, as numbers. -/
theorem cut_nums (s : ByteArray) (i c : Nat) (h : i + c ≤ s.size) : s.extract i (i + c) = strOfNums (row (bt s) i c) := by
  apply ByteArray.ext
  apply Array.ext'
  rw [strOfNums_data]
  rw [ByteArray.data_extract]
  apply List.ext_getElem?
  intro k
  rw [List.getElem?_map]
  by_cases hk : k < c
  · rw [row_get _ _ _ _ hk, Option.map_some, bt_eq s (i + k) (by omega)]
    have hi : i + k < s.data.size := by have : s.data.size = s.size := rfl; omega
    simp [hk]
    rw [Array.getElem?_eq_getElem hi]
    rfl
  · have e1 : (row (bt s) i c)[k]? = none := List.getElem?_eq_none (by rw [row_length]; omega)
    rw [e1, List.getElem?_eq_none (by simp; omega)]
    rfl
end Go.Proofs.Ytfhhcjemmkjkhab
