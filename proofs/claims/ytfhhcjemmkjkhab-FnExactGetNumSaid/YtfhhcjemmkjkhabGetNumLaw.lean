/- The walk of the law FnExactGetNum, out of the contracts of GetNum of the program and of the specification. -/
import Derived.Test.YtfhhcjemmkjkhabGetNumImpl
namespace Go.Proofs.Ytfhhcjemmkjkhab
open Go.RowKit
set_option linter.unusedVariables false

theorem strOfNums_row (s : ByteArray) (i n f : Nat) (hnm : i + n < s.size) (hall : ∀ j, j < n → 128 ≤ bt s (i + j)) (hlow : bt s (i + n) < 128) (hf : (val (bt s) i (n + 1)).toNat ≤ f) :
    (nb f (val (bt s) i (n + 1))).length = n + 1 ↔ strOfNums (nb f (val (bt s) i (n + 1))) = s.extract i (i + n + 1) := by
  constructor
  · intro h
    rw [nb_row (bt s) (fun j => ⟨bt_nonneg s j, bt_lt s j⟩) n i f hall hlow hf h, ← cut_nums s i (n + 1) (by omega)]
    rfl
  · intro h
    have := congrArg ByteArray.size h
    rw [strOfNums_size, ByteArray.size_extract] at this
    omega

/-- Both come to the same end. -/
theorem both_getNum (s : ByteArray) (i : Int) (hs : s.size ≤ 1048576) : ∃ r0 r1 : Int,
    (∀ w, Calls Try.prog 13 #[.string s, .int .i64 i] w fun e w' => e = .returned (.tuple #[.int .i64 r0, .int .i64 r1]) ∧ Below w.heap.size w w') ∧
    (∀ w, Calls Try.prog 14 #[.string s, .int .i64 i] w fun e w' => e = .returned (.tuple #[.int .i64 r0, .int .i64 r1]) ∧ Below w.heap.size w w') := by
  by_cases hout : i < 0 ∨ (s.size : Int) ≤ i
  · exact ⟨-1, -1, fun w => spec_getNum_out s i w hs hout, fun w => impl_getNum_out s i w hs hout⟩
  · obtain ⟨k, rfl⟩ := Int.eq_ofNat_of_zero_le (show 0 ≤ i by omega)
    rcases first_low (fun j => bt s (k + j)) (s.size - k) 5 with h | ⟨n, h5, hm, hall, hlow⟩
    · exact ⟨-1, -1, fun w => spec_getNum_none s k w hs (by omega) h, fun w => impl_getNum_none s k w hs (by omega) h⟩
    · have hiff := strOfNums_row s k n _ (by omega) hall hlow (Nat.le_refl _)
      by_cases hg : val (bt s) k (n + 1) ≤ 1000000000 ∧ (nb (val (bt s) k (n + 1)).toNat (val (bt s) k (n + 1))).length = n + 1
      · exact ⟨val (bt s) k (n + 1), k + n + 1, fun w => spec_getNum_some s k n w hs h5 (by omega) hall hlow _ _ (.inl ⟨hg.1, hg.2, rfl, rfl⟩), fun w => impl_getNum_some s k n w hs h5 (by omega) hall hlow _ _ (.inl ⟨hg.1, hiff.1 hg.2, rfl, rfl⟩)⟩
      · refine ⟨-1, -1, fun w => spec_getNum_some s k n w hs h5 (by omega) hall hlow _ _ (.inr ⟨?_, rfl, rfl⟩), fun w => impl_getNum_some s k n w hs h5 (by omega) hall hlow _ _ (.inr ⟨?_, rfl, rfl⟩)⟩
        · by_cases h1 : val (bt s) k (n + 1) ≤ 1000000000
          · exact .inr (fun h2 => hg ⟨h1, h2⟩)
          · exact .inl (by omega)
        · by_cases h1 : val (bt s) k (n + 1) ≤ 1000000000
          · exact .inr (fun h2 => hg ⟨h1, hiff.2 h2⟩)
          · exact .inl (by omega)

/-- The law's own walk. -/
theorem law_getNum (s : ByteArray) (i : Int) (hs : s.size ≤ maxLen) (hi : (Lit.int .i64 i).wf = true) (w : World) :
    Calls Try.prog 6 #[.string s, .int .i64 i] w fun e w' => e = .returned (.bool true) ∧ Below w.heap.size w w' := by
  unfold maxLen at hs
  clear hi
  by_cases hl : (1048576 : Int) < (s.size : Int)
  · go_enter Try.func6, Try.ntmps6
    go_wp2
    go_ret
    exact ⟨rfl, Below.refl _ _⟩
  · obtain ⟨r0, r1, h1, h2⟩ := both_getNum s i (by omega)
    have H1 := show Hid _ from h1
    have H2 := show Hid _ from h2
    clear h1 h2
    go_enter Try.func6, Try.ntmps6
    go_wp2_with fail
    refine (H1.out _).mono ?_
    rintro e w1 ⟨rfl, hb1⟩
    go_wp2_with fail
    refine (H2.out _).mono ?_
    rintro e w2 ⟨rfl, hb2⟩
    go_wp2
    go_ret
    exact ⟨rfl, hb1.trans (hb2.mono hb1.size)⟩
end Go.Proofs.Ytfhhcjemmkjkhab
