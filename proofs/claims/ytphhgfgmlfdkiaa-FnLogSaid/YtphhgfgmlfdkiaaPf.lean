/- Plain facts of the parts of a record: their words, their sizes, their texts one behind the other. -/
import Derived.Test.YtphhgfgmlfdkiaaQb
import Derived.Test.YtphhgfgmlfdkiaaGet
namespace Go.Proofs.Ytphhgfgmlfdkiaa
open Go.RowKit
set_option linter.unusedVariables false

theorem str_at (l : List Int) (j : Nat) (h : j < (strOfNums l).size) (h' : j < l.length) : (strOfNums l)[j] = UInt8.ofNat (l[j]).toNat := by
  show (strOfNums l).data[j] = _
  simp [strOfNums]

theorem word_sum (x : Int) (h0 : 0 ≤ x) (h1 : x ≤ 4294967295) : wordOf (UInt8.ofNat (x / 16777216).toNat) (UInt8.ofNat (x / 65536 % 256).toNat) (UInt8.ofNat (x / 256 % 256).toNat) (UInt8.ofNat (x % 256).toNat) = x := by
  unfold wordOf
  have e : ∀ y : Int, 0 ≤ y → y < 256 → ((UInt8.ofNat y.toNat).toNat : Int) = y := fun y a b => by
    rw [UInt8.toNat_ofNat']
    omega
  rw [e _ (by omega) (by omega), e _ (by omega) (by omega), e _ (by omega) (by omega), e _ (by omega) (by omega)]
  omega

theorem word_at {A D s : ByteArray} {x : Int} (h0 : 0 ≤ x) (h1 : x ≤ 4294967295) (hs : s = A ++ strOfNums (wordBytes x) ++ D) (k : Nat) (hk : k = A.size) (h : k + 4 ≤ s.size) : wordOf s[k] s[k + 1] s[k + 2] s[k + 3] = x := by
  subst hs
  subst hk
  have h4 : (strOfNums (wordBytes x)).size = 4 := strOfNums_size _
  have hb : ∀ j (hj : j < 4) (hl : A.size + j < (A ++ strOfNums (wordBytes x) ++ D).size), (A ++ strOfNums (wordBytes x) ++ D)[A.size + j] = UInt8.ofNat ((wordBytes x)[j]'(by simp [wordBytes]; omega)).toNat := fun j hj hl => by
    rw [ByteArray.getElem_append_left (by rw [ByteArray.size_append, h4]; omega), ByteArray.getElem_append_right (by omega)]
    simp only [Nat.add_sub_cancel_left]
    exact str_at _ _ _ _
  have e0 := hb 0 (by omega) (by rw [ByteArray.size_append, ByteArray.size_append, h4]; omega)
  have e1 := hb 1 (by omega) (by rw [ByteArray.size_append, ByteArray.size_append, h4]; omega)
  have e2 := hb 2 (by omega) (by rw [ByteArray.size_append, ByteArray.size_append, h4]; omega)
  have e3 := hb 3 (by omega) (by rw [ByteArray.size_append, ByteArray.size_append, h4]; omega)
  simp only [Nat.add_zero] at e0
  rw [e0, e1, e2, e3]
  exact word_sum x h0 h1

theorem partB_size (q : Int) (s : ByteArray) (k : Nat) (h : k * 116 ≤ s.size) : (partB q s k).size = 12 + (min ((k + 1) * 116) s.size - k * 116) := by
  simp only [partB, ByteArray.size_append, strOfNums_size, wordBytes, List.length_cons, List.length_nil, ByteArray.size_extract]
  omega
theorem partB_rest (q : Int) (s : ByteArray) (k : Nat) : (partB q s k).extract 12 (partB q s k).size = s.extract (k * 116) (min ((k + 1) * 116) s.size) := by
  unfold partB
  refine ByteArray.extract_append_eq_right ?_ (ByteArray.size_append ..)
  simp only [ByteArray.size_append, strOfNums_size, wordBytes, List.length_cons, List.length_nil]
theorem partB_w0 (q : Int) (s : ByteArray) (k : Nat) (h0 : 0 ≤ q) (h1 : q ≤ 4294967295) (h : 0 + 4 ≤ (partB q s k).size) : wordOf (partB q s k)[0] (partB q s k)[0 + 1] (partB q s k)[0 + 2] (partB q s k)[0 + 3] = q :=
  word_at (A := ByteArray.empty) (D := strOfNums (wordBytes k) ++ strOfNums (wordBytes (parts s)) ++ s.extract (k * 116) (min ((k + 1) * 116) s.size)) h0 h1 (by simp [partB, ByteArray.append_assoc]) 0 rfl h
theorem partB_w1 (q : Int) (s : ByteArray) (k : Nat) (h1 : k ≤ 4294967295) (h : 4 + 4 ≤ (partB q s k).size) : wordOf (partB q s k)[4] (partB q s k)[4 + 1] (partB q s k)[4 + 2] (partB q s k)[4 + 3] = (k : Int) :=
  word_at (A := strOfNums (wordBytes q)) (D := strOfNums (wordBytes (parts s)) ++ s.extract (k * 116) (min ((k + 1) * 116) s.size)) (by omega) (by omega) (by simp [partB, ByteArray.append_assoc]) 4 (by rw [strOfNums_size]; rfl) h
theorem partB_w2 (q : Int) (s : ByteArray) (k : Nat) (h1 : parts s ≤ 4294967295) (h : 8 + 4 ≤ (partB q s k).size) : wordOf (partB q s k)[8] (partB q s k)[8 + 1] (partB q s k)[8 + 2] (partB q s k)[8 + 3] = (parts s : Int) :=
  word_at (A := strOfNums (wordBytes q) ++ strOfNums (wordBytes k)) (D := s.extract (k * 116) (min ((k + 1) * 116) s.size)) (by omega) (by omega) rfl 8 (by rw [ByteArray.size_append, strOfNums_size, strOfNums_size]; rfl) h

/-- The texts of the first k parts. -/
def allTo (s : ByteArray) (k : Nat) : ByteArray := s.extract 0 (min (k * 116) s.size)
theorem allTo_zero (s : ByteArray) : allTo s 0 = ByteArray.empty := by simp [allTo]
theorem allTo_succ (s : ByteArray) (k : Nat) (h : k * 116 ≤ s.size) : allTo s (k + 1) = allTo s k ++ s.extract (k * 116) (min ((k + 1) * 116) s.size) := by
  unfold allTo
  rw [show min (k * 116) s.size = k * 116 by omega, ByteArray.extract_append_extract]
  congr 1 <;> omega
theorem allTo_end (s : ByteArray) : allTo s (parts s) = s := by
  unfold allTo
  rw [show min (parts s * 116) s.size = s.size by unfold parts; omega]
  exact ByteArray.extract_zero_size
theorem allTo_size (s : ByteArray) (k : Nat) : (allTo s k).size ≤ s.size := by
  simp only [allTo, ByteArray.size_extract]
  omega
end Go.Proofs.Ytphhgfgmlfdkiaa
