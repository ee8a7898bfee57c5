/- Plain facts: what is stuffed comes back, and nothing else is taken for it. No program is named here. -/
import Derived.Test.YtbipnafhahihfaaUnstuffWalk
import Derived.Test.YtbipnafhahihfaaDraw
namespace Go.Proofs.Ytbipnafhahihfaa
open Go.RowKit
set_option linter.unusedVariables false

/-- A byte 0 behind each byte 255. -/
def stuffL : List Int → List Int
  | [] => []
  | c :: r => (if c = 255 then [c, 0] else [c]) ++ stuffL r
theorem stuffL_append : ∀ xs ys : List Int, stuffL (xs ++ ys) = stuffL xs ++ stuffL ys
  | [], _ => rfl
  | c :: r, ys => by rw [List.cons_append, stuffL, stuffL, stuffL_append r ys, List.append_assoc]

/-- The first k numbers. -/
def bl (b : Nat → Int) : Nat → List Int
  | 0 => []
  | k + 1 => bl b k ++ [b k]
theorem bl_length (b : Nat → Int) : ∀ k, (bl b k).length = k
  | 0 => rfl
  | k + 1 => by simp [bl, bl_length b k]
theorem bl_get (b : Nat → Int) : ∀ k j, j < k → (bl b k).getD j 0 = b j
  | k + 1, j, h => by
    have hl := bl_length b k
    by_cases e : j = k
    · subst e
      simp [bl, List.getD, hl]
    · have := bl_get b k j (by omega)
      simp only [bl, List.getD] at this ⊢
      rw [List.getElem?_append_left (by omega)]
      exact this
theorem bl_list (xs : List Int) : bl (fun j => xs.getD j 0) xs.length = xs := by
  apply list_eq_of_getD (bl_length _ _)
  intro i hi
  rw [bl_length] at hi
  rw [bl_get _ _ _ hi]

theorem stuffTo_bl (b : Nat → Int) : ∀ k, stuffTo b k = stuffL (bl b k)
  | 0 => rfl
  | k + 1 => by rw [stuffTo, bl, stuffL_append, stuffTo_bl b k]; simp [stuffL]
theorem stuffTo_congr (f g : Nat → Int) : ∀ k, (∀ j, j < k → f j = g j) → stuffTo f k = stuffTo g k
  | 0, _ => rfl
  | k + 1, h => by rw [stuffTo, stuffTo, stuffTo_congr f g k (fun j hj => h j (by omega)), h k (by omega)]

theorem bt_nums (xs : List Int) (i : Nat) (h : i < xs.length) (h0 : 0 ≤ xs.getD i 0) (h1 : xs.getD i 0 < 256) : bt (strOfNums xs) i = xs.getD i 0 := by
  rw [bt_eq _ _ (by rw [strOfNums_size]; exact h)]
  have e : (strOfNums xs)[i]'(by rw [strOfNums_size]; exact h) = UInt8.ofNat (xs.getD i 0).toNat := by
    have : (strOfNums xs).data.toList[i]? = some (UInt8.ofNat (xs.getD i 0).toNat) := by
      rw [strOfNums_data, List.getElem?_map]
      simp [List.getD, h]
    have h2 : (strOfNums xs).data.toList[i]? = some ((strOfNums xs)[i]'(by rw [strOfNums_size]; exact h)) := by
      rw [List.getElem?_eq_getElem (by rw [Array.length_toList]; show i < (strOfNums xs).size; rw [strOfNums_size]; exact h)]
      rfl
    rw [h2] at this
    exact Option.some.inj this
  rw [e]
  clear e
  generalize xs.getD i 0 = X at *
  rw [UInt8.toNat_ofNat']
  omega

/-- Bytes. -/
def Bytes (xs : List Int) : Prop := ∀ i, i < xs.length → 0 ≤ xs.getD i 0 ∧ xs.getD i 0 < 256

theorem stuff_nums (xs : List Int) (h : Bytes xs) : stuffTo (bt (strOfNums xs)) (strOfNums xs).size = stuffL xs := by
  rw [strOfNums_size, stuffTo_congr _ (fun j => xs.getD j 0) xs.length (fun j hj => bt_nums xs j hj (h j hj).1 (h j hj).2), stuffTo_bl, bl_list]

/-- A text is the text of its bytes. -/
theorem nums_text (s : ByteArray) : strOfNums (bl (bt s) s.size) = s := by
  apply ByteArray.ext
  apply Array.ext'
  rw [strOfNums_data]
  apply List.ext_getElem?
  intro k
  rw [List.getElem?_map]
  have hd : s.data.size = s.size := rfl
  by_cases hk : k < s.size
  · have h1 : (bl (bt s) s.size)[k]? = some (bt s k) := by
      have := bl_get (bt s) s.size k hk
      rw [List.getD, List.getElem?_eq_getElem (by rw [bl_length]; exact hk)] at this
      rw [List.getElem?_eq_getElem (by rw [bl_length]; exact hk)]
      exact congrArg some (by simpa using this)
    rw [h1, Option.map_some, bt_eq s k hk, List.getElem?_eq_getElem (by rw [Array.length_toList]; omega)]
    simp
    rfl
  · have e1 : (bl (bt s) s.size)[k]? = none := List.getElem?_eq_none (by rw [bl_length]; omega)
    rw [e1, List.getElem?_eq_none (by rw [Array.length_toList]; omega)]
    rfl

/-- What was unstuffed is stuffed to what there was. -/
theorem unst_stuff (b : Nat → Int) (n : Nat) : ∀ f i xs ys, n - i ≤ f → i ≤ n → stuffL xs = bl b i → unst b n f i xs = some ys → stuffL ys = bl b n
  | 0, i, xs, ys, hf, hi, h, hu => by
    simp only [unst, Option.some.injEq] at hu
    subst hu
    rw [h, show i = n by omega]
  | f + 1, i, xs, ys, hf, hi, h, hu => by
    rw [unst] at hu
    by_cases h1 : n ≤ i
    · rw [if_pos h1] at hu
      cases hu
      rw [h, show i = n by omega]
    · rw [if_neg h1] at hu
      by_cases h2 : b i = 255
      · rw [if_pos h2] at hu
        by_cases h3 : n ≤ i + 1 ∨ b (i + 1) ≠ 0
        · rw [if_pos h3] at hu
          cases hu
        · rw [if_neg h3] at hu
          refine unst_stuff b n f (i + 2) _ ys (by omega) (by omega) ?_ hu
          have h4 : b (i + 1) = 0 := Classical.byContradiction (fun h5 => h3 (.inr h5))
          rw [stuffL_append, h, bl, bl, h4]
          simp [stuffL, h2]
      · rw [if_neg h2] at hu
        refine unst_stuff b n f (i + 1) _ ys (by omega) (by omega) ?_ hu
        rw [stuffL_append, h, bl]
        simp [stuffL, h2]

/-- What was stuffed is unstuffed to what there was. -/
theorem unst_of_stuff (b : Nat → Int) (n : Nat) : ∀ (zs : List Int) (f i : Nat) (xs : List Int), n - i ≤ f → i ≤ n → (∀ j, j < n - i → b (i + j) = (stuffL zs).getD j 0) → (stuffL zs).length = n - i → unst b n f i xs = some (xs ++ zs)
  | [], f, i, xs, hf, hi, hg, hl => by
    rw [unst_end b n f i xs (by simp [stuffL] at hl; omega)]
    simp
  | c :: r, f, i, xs, hf, hi, hg, hl => by
    by_cases h2 : c = 255
    · have e : stuffL (c :: r) = c :: 0 :: stuffL r := by rw [stuffL, if_pos h2]; rfl
      rw [e] at hg hl
      simp only [List.length_cons] at hl
      have g0 := hg 0 (by omega)
      have g1 := hg 1 (by omega)
      simp at g0 g1
      obtain ⟨g, hgf, hu⟩ := unst_mark b n f i xs (by omega) hf (by rw [g0, h2]) g1
      rw [hu, unst_of_stuff b n r g (i + 2) _ hgf (by omega) (fun j hj => ?_) (by omega), g0]
      · simp
      · have := hg (j + 2) (by omega)
        rw [show i + (j + 2) = i + 2 + j by omega] at this
        rw [this]
        simp [List.getD]
    · have e : stuffL (c :: r) = c :: stuffL r := by rw [stuffL, if_neg h2]; rfl
      rw [e] at hg hl
      simp only [List.length_cons] at hl
      have g0 := hg 0 (by omega)
      simp at g0
      obtain ⟨g, hgf, hu⟩ := unst_plain b n f i xs (by omega) hf (by rw [g0]; exact h2)
      rw [hu, unst_of_stuff b n r g (i + 1) _ hgf (by omega) (fun j hj => ?_) (by omega), g0]
      · simp
      · have := hg (j + 1) (by omega)
        rw [show i + (j + 1) = i + 1 + j by omega] at this
        rw [this]
        simp [List.getD]
end Go.Proofs.Ytbipnafhahihfaa
