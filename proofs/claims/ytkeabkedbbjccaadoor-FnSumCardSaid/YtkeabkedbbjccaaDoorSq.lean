/- What a padded text begins with, and what its last word tells. -/
import Derived.Test.YtkeabkedbbjccaaDoorSp
import Derived.Test.YtkeabkedbbjccaaDoorGet
import Derived.Test.YtkeabkedbbjccaaDoorWs
namespace Go.Proofs.YtkeabkedbbjccaaDoor
open Go.RowKit
set_option linter.unusedVariables false

theorem app_left (a b : ByteArray) (i : Nat) (h : i < a.size) (h2 : i < (a ++ b).size) : (a ++ b)[i] = a[i] := ByteArray.getElem_append_left h
theorem app_right (a b : ByteArray) (i : Nat) (h : a.size ≤ i) (h2 : i < (a ++ b).size) : (a ++ b)[i] = b[i - a.size]'(by rw [ByteArray.size_append] at h2; omega) := ByteArray.getElem_append_right h
theorem pad_parts (s : ByteArray) : ∃ A B : ByteArray, padP s = s ++ strOfNums [128] ++ A ∧ padP s = B ++ strOfNums (wordBytes (8 * s.size)) ∧ B.size + 4 = (padP s).size := by
  refine ⟨strOfNums (List.replicate (padZ s.size) 0) ++ strOfNums (wordBytes 0) ++ strOfNums (wordBytes (8 * s.size)), _, ?_, rfl, ?_⟩
  · unfold padP
    simp only [ByteArray.append_assoc]
  · rw [padP]
    simp only [ByteArray.size_append, strOfNums_size]
    rfl
theorem pad_head (s : ByteArray) : (padP s).extract 0 s.size = s := by
  obtain ⟨A, B, h1, h2, h3⟩ := pad_parts s
  have hsz := padP_size s
  apply ByteArray.ext_getElem
  · rw [ByteArray.size_extract]
    omega
  · intro i h4 h5
    rw [ByteArray.getElem_extract]
    have e : ∀ (X : ByteArray) (hX : X = s ++ strOfNums [128] ++ A) (hi : 0 + i < X.size), X[0 + i] = s[i] := by
      intro X hX hi
      subst hX
      have h6 : (s ++ strOfNums [128]).size = s.size + 1 := by rw [ByteArray.size_append, strOfNums_size]; rfl
      rw [app_left (s ++ strOfNums [128]) A (0 + i) (by omega), app_left s _ (0 + i) (by omega)]
      congr 1
      omega
    exact e _ h1 _
theorem pad_128 (s : ByteArray) (h : s.size < (padP s).size) : (padP s)[s.size].toNat = 128 := by
  obtain ⟨A, B, h1, h2, h3⟩ := pad_parts s
  have e : ∀ (X : ByteArray) (hX : X = s ++ strOfNums [128] ++ A) (hi : s.size < X.size), X[s.size].toNat = 128 := by
    intro X hX hi
    subst hX
    have h6 : (s ++ strOfNums [128]).size = s.size + 1 := by rw [ByteArray.size_append, strOfNums_size]; rfl
    rw [app_left (s ++ strOfNums [128]) A s.size (by omega), app_right s _ s.size (Nat.le_refl _)]
    have : ∀ (j : Nat) (hj : j < (strOfNums [128]).size), j = 0 → (strOfNums [128])[j].toNat = 128 := by
      intro j hj h0
      subst h0
      rfl
    exact this _ _ (by omega)
  exact e _ h1 _
theorem word_back (T : Int) (h0 : 0 ≤ T) (h1 : T < 4294967296) : wordOf (UInt8.ofNat (T / 16777216).toNat) (UInt8.ofNat (T / 65536 % 256).toNat) (UInt8.ofNat (T / 256 % 256).toNat) (UInt8.ofNat (T % 256).toNat) = T := by
  unfold wordOf
  simp only [UInt8.toNat_ofNat']
  omega
theorem pad_word (s : ByteArray) (hs : s.size ≤ 60000) (k : Nat) (hk : k + 4 = (padP s).size) :
    wordOf ((padP s)[k]'(by omega)) ((padP s)[k + 1]'(by omega)) ((padP s)[k + 2]'(by omega)) ((padP s)[k + 3]'(by omega)) = 8 * s.size := by
  obtain ⟨A, B, h1, h2, h3⟩ := pad_parts s
  have hB : B.size = k := by omega
  have e : ∀ (X : ByteArray) (hX : X = B ++ strOfNums (wordBytes (8 * s.size))) (a0 : k < X.size) (a1 : k + 1 < X.size) (a2 : k + 2 < X.size) (a3 : k + 3 < X.size), wordOf X[k] X[k + 1] X[k + 2] X[k + 3] = 8 * s.size := by
    intro X hX a0 a1 a2 a3
    subst hX
    rw [app_right B _ k (by omega), app_right B _ (k + 1) (by omega), app_right B _ (k + 2) (by omega), app_right B _ (k + 3) (by omega)]
    have g : ∀ (i0 i1 i2 i3 : Nat) (q0 : i0 < (strOfNums (wordBytes (8 * s.size))).size) (q1 : i1 < (strOfNums (wordBytes (8 * s.size))).size) (q2 : i2 < (strOfNums (wordBytes (8 * s.size))).size) (q3 : i3 < (strOfNums (wordBytes (8 * s.size))).size), i0 = 0 → i1 = 1 → i2 = 2 → i3 = 3 →
        wordOf (strOfNums (wordBytes (8 * s.size)))[i0] (strOfNums (wordBytes (8 * s.size)))[i1] (strOfNums (wordBytes (8 * s.size)))[i2] (strOfNums (wordBytes (8 * s.size)))[i3] = 8 * s.size := by
      intro i0 i1 i2 i3 q0 q1 q2 q3 e0 e1 e2 e3
      subst e0 e1 e2 e3
      exact word_back (8 * s.size) (by omega) (by omega)
    exact g _ _ _ _ _ _ _ _ (by omega) (by omega) (by omega) (by omega)
  exact e _ h2 _ _ _ _
end Go.Proofs.YtkeabkedbbjccaaDoor
