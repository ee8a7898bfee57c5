/- Plain facts on texts as numbers: no program is named here. -/
import Derived.Test.YtmcfhfieabnigaaDoorAid
namespace Go.Proofs.YtmcfhfieabnigaaDoor
open Go.RowKit
set_option linter.unusedVariables false

/-- The byte at a place; 0 where there is none. -/
def bt (s : ByteArray) (j : Nat) : Int := if h : j < s.size then (s[j].toNat : Int) else 0
theorem bt_eq (s : ByteArray) (j : Nat) (h : j < s.size) : bt s j = (s[j].toNat : Int) := by simp [bt, h]
theorem bt_nonneg (s : ByteArray) (j : Nat) : 0 ≤ bt s j := by unfold bt; split <;> omega
theorem bt_lt (s : ByteArray) (j : Nat) : bt s j < 256 := by
  unfold bt
  split
  · exact byte_lt _
  · omega

/-- The first k bytes, a byte 0 behind each byte 255. -/
def stuffTo (b : Nat → Int) : Nat → List Int
  | 0 => []
  | k + 1 => stuffTo b k ++ (if b k = 255 then [b k, 0] else [b k])

theorem stuffTo_length (b : Nat → Int) : ∀ k, k ≤ (stuffTo b k).length ∧ (stuffTo b k).length ≤ 2 * k
  | 0 => by simp [stuffTo]
  | k + 1 => by
    have := stuffTo_length b k
    simp only [stuffTo, List.length_append]
    split <;> simp <;> omega

/-- What the bytes from place i on, behind what has been taken, are the stuffing of. -/
def unst (b : Nat → Int) (n : Nat) : Nat → Nat → List Int → Option (List Int)
  | 0, _, xs => some xs
  | f + 1, i, xs => if n ≤ i then some xs else if b i = 255 then (if n ≤ i + 1 ∨ b (i + 1) ≠ 0 then none else unst b n f (i + 2) (xs ++ [b i])) else unst b n f (i + 1) (xs ++ [b i])

theorem unst_end (b : Nat → Int) (n f i : Nat) (xs : List Int) (h : n ≤ i) : unst b n f i xs = some xs := by
  cases f <;> simp [unst, h]

theorem unst_plain (b : Nat → Int) (n f i : Nat) (xs : List Int) (h : i < n) (hf : n - i ≤ f) (hb : b i ≠ 255) : ∃ g, n - (i + 1) ≤ g ∧ unst b n f i xs = unst b n g (i + 1) (xs ++ [b i]) := by
  obtain ⟨g, rfl⟩ : ∃ g, f = g + 1 := ⟨f - 1, by omega⟩
  exact ⟨g, by omega, by rw [unst, if_neg (by omega), if_neg hb]⟩

theorem unst_mark (b : Nat → Int) (n f i : Nat) (xs : List Int) (h : i + 1 < n) (hf : n - i ≤ f) (hb : b i = 255) (hb2 : b (i + 1) = 0) : ∃ g, n - (i + 2) ≤ g ∧ unst b n f i xs = unst b n g (i + 2) (xs ++ [b i]) := by
  obtain ⟨g, rfl⟩ : ∃ g, f = g + 1 := ⟨f - 1, by omega⟩
  exact ⟨g, by omega, by rw [unst, if_neg (by omega), if_pos hb, if_neg (by simp [hb2]; omega)]⟩

theorem unst_bad (b : Nat → Int) (n f i : Nat) (xs : List Int) (h : i < n) (hf : n - i ≤ f) (hb : b i = 255) (hb2 : n ≤ i + 1 ∨ b (i + 1) ≠ 0) : unst b n f i xs = none := by
  obtain ⟨g, rfl⟩ : ∃ g, f = g + 1 := ⟨f - 1, by omega⟩
  rw [unst, if_neg (by omega), if_pos hb, if_pos hb2]

/-- What is unstuffed has at least half as many bytes. -/
theorem unst_long (b : Nat → Int) (n : Nat) : ∀ f i xs ys, n - i ≤ f → unst b n f i xs = some ys → 2 * xs.length + (n - i) ≤ 2 * ys.length
  | 0, i, xs, ys, hf, h => by
    simp [unst] at h
    subst h
    omega
  | f + 1, i, xs, ys, hf, h => by
    rw [unst] at h
    split at h
    · cases h
      omega
    · split at h
      · split at h
        · cases h
        · have := unst_long b n f (i + 2) _ ys (by omega) h
          simp at this
          omega
      · have := unst_long b n f (i + 1) _ ys (by omega) h
        simp at this
        omega
end Go.Proofs.YtmcfhfieabnigaaDoor
