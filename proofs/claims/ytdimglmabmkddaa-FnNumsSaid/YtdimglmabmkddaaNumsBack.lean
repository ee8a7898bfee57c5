/- A number comes back from its bytes and a word from its own: contracts of GetNum and GetWord at what was put, for the law FnNums. -/
import Derived.Test.YtdimglmabmkddaaNumsSome
namespace Go.Proofs.Ytdimglmabmkddaa.Nums
open Go.RowKit
set_option linter.unusedVariables false

theorem bt_nums (xs : List Int) (i : Nat) (h : i < xs.length) (h0 : 0 ≤ xs.getD i 0) (h1 : xs.getD i 0 < 256) : bt (strOfNums xs) i = xs.getD i 0 := by
  rw [bt_eq _ _ (by rw [strOfNums_size]; exact h)]
  have e : (strOfNums xs)[i]'(by rw [strOfNums_size]; exact h) = UInt8.ofNat (xs.getD i 0).toNat := by
    have : (strOfNums xs).data.toList[i]? = some (UInt8.ofNat (xs.getD i 0).toNat) := by
      rw [strOfNums_data, List.getElem?_map]
      simp [List.getD, h]
    have h2 : (strOfNums xs).data.toList[i]? = some ((strOfNums xs)[i]'(by rw [strOfNums_size]; exact h)) := by
      rw [List.getElem?_eq_getElem (by rw [Array.length_toList]; show i < (strOfNums xs).size; rw [strOfNums_size]; exact h)]
      rfl
    rw [h2] at this
    exact Option.some.inj this
  rw [e]
  clear e
  generalize xs.getD i 0 = X at *
  rw [UInt8.toNat_ofNat']
  omega

theorem nums_append (xs ys : List Int) : strOfNums xs ++ strOfNums ys = strOfNums (xs ++ ys) := by
  apply ByteArray.ext
  apply Array.ext'
  rw [ByteArray.data_append, Array.toList_append, strOfNums_data, strOfNums_data, strOfNums_data, List.map_append]

/-- The bytes of a number tell it; all but the last one are 128 or more. -/
theorem nb_facts : ∀ (f : Nat) (x : Int) (b : Nat → Int) (j : Nat), 0 ≤ x → x.toNat ≤ f → (∀ k, k < (nb f x).length → b (j + k) = (nb f x).getD k 0) →
    val b j (nb f x).length = x ∧ (∀ k, k + 1 < (nb f x).length → 128 ≤ b (j + k)) ∧ b (j + ((nb f x).length - 1)) < 128
  | 0, x, b, j, h0, hf, hb => by
    have hx : x = 0 := by omega
    subst hx
    have h1 := hb 0 (by simp [nb])
    simp only [Nat.add_zero] at h1
    have e : (nb 0 0).getD 0 0 = 0 := rfl
    rw [e] at h1
    refine ⟨?_, ?_, ?_⟩
    · simp [nb, val, h1]
    · intro k hk; simp [nb] at hk
    · simp [nb, h1]
  | f + 1, x, b, j, h0, hf, hb => by
    by_cases hs : x < 128
    · rw [nb_small _ _ hs] at hb ⊢
      have h1 := hb 0 (by simp)
      simp only [Nat.add_zero] at h1
      have e : [x].getD 0 0 = x := rfl
      rw [e] at h1
      refine ⟨?_, ?_, ?_⟩
      · simp only [List.length_singleton, val, h1]; omega
      · intro k hk; simp at hk
      · simp [h1, hs]
    · have en : nb (f + 1) x = (x % 128 + 128) :: nb f (x / 128) := by simp [nb, hs]
      rw [en] at hb ⊢
      have hp := nb_length_pos f (x / 128)
      have h1 := hb 0 (by simp)
      simp only [Nat.add_zero] at h1
      have e : ((x % 128 + 128) :: nb f (x / 128)).getD 0 0 = x % 128 + 128 := rfl
      rw [e] at h1
      obtain ⟨r1, r2, r3⟩ := nb_facts f (x / 128) b (j + 1) (by omega) (by omega) (fun k hk => by
        have := hb (k + 1) (by simp only [List.length_cons]; omega)
        rw [show j + 1 + k = j + (k + 1) by omega, this]
        rfl)
      simp only [List.length_cons]
      refine ⟨?_, ?_, ?_⟩
      · rw [val, r1, h1]; omega
      · intro k hk
        cases k with
        | zero => rw [Nat.add_zero, h1]; omega
        | succ k => have := r2 k (by omega); rwa [show j + (k + 1) = j + 1 + k by omega]
      · rwa [show j + ((nb f (x / 128)).length + 1 - 1) = j + 1 + ((nb f (x / 128)).length - 1) by omega]

theorem nb_bytes : ∀ (f : Nat) (x : Int), 0 ≤ x → x.toNat ≤ f → ∀ k, k < (nb f x).length → 0 ≤ (nb f x).getD k 0 ∧ (nb f x).getD k 0 < 256
  | 0, x, h0, hf, k, hk => by
    have hx : x = 0 := by omega
    subst hx
    obtain rfl : k = 0 := by simp [nb] at hk; omega
    exact ⟨by decide, by decide⟩
  | f + 1, x, h0, hf, k, hk => by
    by_cases hs : x < 128
    · rw [nb_small _ _ hs] at hk ⊢
      obtain rfl : k = 0 := by simp at hk; omega
      show 0 ≤ x ∧ x < 256
      omega
    · have en : nb (f + 1) x = (x % 128 + 128) :: nb f (x / 128) := by simp [nb, hs]
      rw [en] at hk ⊢
      cases k with
      | zero => show 0 ≤ x % 128 + 128 ∧ x % 128 + 128 < 256; omega
      | succ k => exact nb_bytes f (x / 128) (by omega) (by omega) k (by simpa using hk)

theorem nb_short : ∀ (m f : Nat) (x : Int), 0 ≤ x → x < 128 ^ (m + 1) → x.toNat ≤ f → (nb f x).length ≤ m + 1
  | 0, f, x, h0, h1, hf => by rw [nb_small f x (by simpa using h1)]; simp
  | m + 1, f, x, h0, h1, hf => by
    by_cases hs : x < 128
    · rw [nb_small f x hs]; simp
    · obtain ⟨g, rfl, hg, hn⟩ := nb_big f x hs hf
      have e : (128 : Int) ^ (m + 1 + 1) = 128 * 128 ^ (m + 1) := by rw [Int.pow_succ]; omega
      rw [e] at h1
      have := nb_short m g (x / 128) (by omega) (by omega) hg
      rw [hn]
      simp only [List.length_cons]
      omega

theorem nb_five (x : Int) (h0 : 0 ≤ x) (h1 : x ≤ 1000000000) : (nb x.toNat x).length ≤ 5 := nb_short 4 _ x h0 (by omega) (Nat.le_refl _)

/-- The bytes of a number inside of a text. -/
theorem inside (x : Int) (h0 : 0 ≤ x) (us vs : List Int) (s : ByteArray) (hs : s = strOfNums (us ++ nb x.toNat x ++ vs)) :
    val (bt s) us.length (nb x.toNat x).length = x ∧ (∀ k, k + 1 < (nb x.toNat x).length → 128 ≤ bt s (us.length + k)) ∧ bt s (us.length + ((nb x.toNat x).length - 1)) < 128 := by
  refine nb_facts _ x (bt s) us.length h0 (Nat.le_refl _) ?_
  intro k hk
  have hb := nb_bytes _ x h0 (Nat.le_refl _) k hk
  have e : (us ++ nb x.toNat x ++ vs).getD (us.length + k) 0 = (nb x.toNat x).getD k 0 := by
    simp only [List.getD]
    rw [List.append_assoc, List.getElem?_append_right (by omega), Nat.add_sub_cancel_left, List.getElem?_append_left hk]
  rw [hs, bt_nums _ _ (by simp; omega) (by rw [e]; exact hb.1) (by rw [e]; exact hb.2), e]

theorem ab_c (xs : List Int) : (⟨#[97, 98]⟩ : ByteArray) ++ strOfNums xs ++ (⟨#[99]⟩ : ByteArray) = strOfNums ([97, 98] ++ xs ++ [99]) := by
  have e1 : (⟨#[97, 98]⟩ : ByteArray) = strOfNums [97, 98] := by decide
  have e2 : (⟨#[99]⟩ : ByteArray) = strOfNums [99] := by decide
  rw [e1, e2, nums_append, nums_append]

theorem getNum_back (x : Int) (h0 : 0 ≤ x) (h1 : x ≤ 1000000000) (w : World) :
    Calls Try.prog 22 #[.string ((⟨#[97, 98]⟩ : ByteArray) ++ strOfNums (nb x.toNat x) ++ (⟨#[99]⟩ : ByteArray)), .int .i64 2] w fun e w' =>
      e = .returned (.tuple #[.int .i64 x, .int .i64 (2 + ((nb x.toNat x).length : Int))]) ∧ Below w.heap.size w w' := by
  have h5 := nb_five x h0 h1
  have hp := nb_length_pos x.toNat x
  rw [ab_c]
  obtain ⟨s, hs⟩ : ∃ s, s = strOfNums ([97, 98] ++ nb x.toNat x ++ [99]) := ⟨_, rfl⟩
  obtain ⟨r1, r2, r3⟩ := inside x h0 [97, 98] [99] s hs
  have hsz : s.size = (nb x.toNat x).length + 3 := by rw [hs, strOfNums_size]; simp
  rw [← hs]
  obtain ⟨n, hn⟩ : ∃ n, (nb x.toNat x).length = n + 1 := ⟨(nb x.toNat x).length - 1, by omega⟩
  have e2 : ([97, 98] : List Int).length = 2 := rfl
  rw [e2, hn] at r1 r2 r3
  have hall : ∀ j, j < n → 128 ≤ bt s (2 + j) := fun j hj => r2 j (by omega)
  have hlow : bt s (2 + n) < 128 := by simpa using r3
  have hrow := (strOfNums_row s 2 n x.toNat (by omega) hall hlow (by rw [r1]; exact Nat.le_refl _)).1 (by rw [r1]; exact hn)
  rw [r1] at hrow
  have := impl_getNum_some s 2 n w (by omega) (by omega) (by omega) hall hlow x (2 + n + 1) ⟨by rw [r1]; exact h1, by rw [r1]; exact hrow, r1.symm, rfl⟩
  rw [hn]
  refine this.mono ?_
  rintro e w' ⟨rfl, hb⟩
  exact ⟨ret_two rfl (by omega), hb⟩

theorem getNum_cut (x : Int) (h0 : 0 ≤ x) (h1 : x ≤ 1000000000) (w : World) :
    Calls Try.prog 22 #[.string ((strOfNums (nb x.toNat x)).extract 0 ((nb x.toNat x).length - 1)), .int .i64 0] w fun e w' =>
      e = .returned (.tuple #[.int .i64 (-1), .int .i64 (-1)]) ∧ Below w.heap.size w w' := by
  have h5 := nb_five x h0 h1
  have hp := nb_length_pos x.toNat x
  obtain ⟨r1, r2, r3⟩ := inside x h0 [] [] (strOfNums (nb x.toNat x)) (by simp)
  have hsz : (strOfNums (nb x.toNat x)).size = (nb x.toNat x).length := strOfNums_size _
  obtain ⟨n, hn⟩ : ∃ n, (nb x.toNat x).length = n + 1 := ⟨(nb x.toNat x).length - 1, by omega⟩
  generalize strOfNums (nb x.toNat x) = s at *
  rw [hn] at r2 hsz h5 ⊢
  have hes : (s.extract 0 (n + 1 - 1)).size = n := by rw [ByteArray.size_extract]; omega
  by_cases hn0 : n = 0
  · exact impl_getNum_out _ 0 w (by omega) (.inr (by omega))
  · have := impl_getNum_none (s.extract 0 (n + 1 - 1)) 0 w (by omega) (by omega) ?_
    · exact this
    · intro j hj hjn
      have e : bt (s.extract 0 (n + 1 - 1)) (0 + j) = bt s (([] : List Int).length + j) := by
        have hc := cut_nums s 0 n (by omega)
        rw [Nat.zero_add] at hc
        rw [show n + 1 - 1 = n by omega, hc]
        have hg := row_get (bt s) n 0 j (by omega)
        have hgd : (row (bt s) 0 n).getD j 0 = bt s (0 + j) := by simp only [List.getD, hg]; rfl
        rw [Nat.zero_add, bt_nums _ _ (by rw [row_length]; omega) (by rw [hgd]; exact bt_nonneg _ _) (by rw [hgd]; exact bt_lt _ _), hgd]
        rfl
      rw [e]
      exact r2 j (by omega)

theorem a_word (xs : List Int) : (⟨#[97]⟩ : ByteArray) ++ strOfNums xs = strOfNums (97 :: xs) := by
  have e1 : (⟨#[97]⟩ : ByteArray) = strOfNums [97] := by decide
  rw [e1, nums_append]
  rfl

theorem getWord_back (x : Int) (h0 : 0 ≤ x) (h1 : x < 4294967296) (w : World) :
    Calls Try.prog 24 #[.string ((⟨#[97]⟩ : ByteArray) ++ strOfNums (wordBytes x)), .int .i64 1] w fun e w' => e = .returned (.int .u32 x) ∧ Below w.heap.size w w' := by
  rw [a_word]
  have hsz : (strOfNums (97 :: wordBytes x)).size = 5 := by rw [strOfNums_size]; rfl
  refine (impl_getWord_yes (strOfNums (97 :: wordBytes x)) 1 w (by omega) (by omega)).mono ?_
  rintro e w' ⟨rfl, n, rfl⟩
  refine ⟨ret_int ?_, below_drewN _ _⟩
  have b1 := bt_nums (97 :: wordBytes x) 1 (show 1 < 5 by decide) (by show 0 ≤ x / 16777216; omega) (by show x / 16777216 < 256; omega)
  have b2 := bt_nums (97 :: wordBytes x) 2 (show 2 < 5 by decide) (by show 0 ≤ x / 65536 % 256; omega) (by show x / 65536 % 256 < 256; omega)
  have b3 := bt_nums (97 :: wordBytes x) 3 (show 3 < 5 by decide) (by show 0 ≤ x / 256 % 256; omega) (by show x / 256 % 256 < 256; omega)
  have b4 := bt_nums (97 :: wordBytes x) 4 (show 4 < 5 by decide) (by show 0 ≤ x % 256; omega) (by show x % 256 < 256; omega)
  rw [bt_eq _ _ (by omega)] at b1 b2 b3 b4
  have c1 : (97 :: wordBytes x).getD 1 0 = x / 16777216 := rfl
  have c2 : (97 :: wordBytes x).getD 2 0 = x / 65536 % 256 := rfl
  have c3 : (97 :: wordBytes x).getD 3 0 = x / 256 % 256 := rfl
  have c4 : (97 :: wordBytes x).getD 4 0 = x % 256 := rfl
  rw [c1] at b1
  rw [c2] at b2
  rw [c3] at b3
  rw [c4] at b4
  show ((strOfNums (97 :: wordBytes x))[1].toNat : Int) * 16777216 + ((strOfNums (97 :: wordBytes x))[2].toNat : Int) * 65536 + ((strOfNums (97 :: wordBytes x))[3].toNat : Int) * 256 + ((strOfNums (97 :: wordBytes x))[4].toNat : Int) = x
  rw [b1, b2, b3, b4]
  omega
end Go.Proofs.Ytdimglmabmkddaa.Nums
