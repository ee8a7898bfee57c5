/- Contracts of the length of a row of numbers, of the length of a block and of the band of a place, of the program and of the specification. -/
import Derived.Test.YtfahdmkbifhfbaaBlk
namespace Go.Proofs.Ytfahdmkbifhfbaa
open Go.RowKit
set_option linter.unusedVariables false

/-- How many of the first k numbers are ahead of the last one that is not 0, and that one. -/
def lenTo (xs : List Int) : Nat → Nat
  | 0 => 0
  | k + 1 => if xs.getD k 0 = 0 then lenTo xs k else k + 1
theorem lenTo_le (xs : List Int) : ∀ k, lenTo xs k ≤ k
  | 0 => Nat.le_refl _
  | k + 1 => by
    rw [lenTo]
    split
    · exact Nat.le_trans (lenTo_le xs k) (Nat.le_succ k)
    · exact Nat.le_refl _
theorem lenTo_zero (xs : List Int) : ∀ k j, lenTo xs k ≤ j → j < k → xs.getD j 0 = 0
  | k + 1, j, h, hj => by
    rw [lenTo] at h
    by_cases e : xs.getD k 0 = 0
    · rw [if_pos e] at h
      by_cases ej : j = k
      · subst ej; exact e
      · exact lenTo_zero xs k j h (by omega)
    · rw [if_neg e] at h; omega
theorem lenTo_last (xs : List Int) : ∀ k, lenTo xs k ≠ 0 → xs.getD (lenTo xs k - 1) 0 ≠ 0
  | 0, h => absurd rfl h
  | k + 1, h => by
    rw [lenTo] at h ⊢
    by_cases e : xs.getD k 0 = 0
    · rw [if_pos e] at h ⊢; exact lenTo_last xs k h
    · rw [if_neg e]; exact e

set_option maxHeartbeats 800000 in
theorem impl_len (ao : Option Addr) (cap : Nat) (xs : List Int) (w : World) (hn : xs.length ≤ 1048576) (hv : View .i64 w ao xs.length xs) :
    Calls Try.prog 19 #[.slice ao xs.length cap] w fun e w' => e = .returned (.int .i64 (lenTo xs xs.length)) ∧ w = w' := by
  have HV := hid hv
  clear hv
  go_enter Try.func19, Try.ntmps19
  go_wp2_with fail
  go_loop [3] (fun s => ∃ k : Nat, k ≤ xs.length ∧ s = .int .i64 k ∧ lenTo xs xs.length = lenTo xs k) (fun s => (intOf s).toNat)
  case atStart => exact ⟨xs.length, Nat.le_refl _, rfl, rfl⟩
  case round =>
    obtain ⟨k, hk, rfl, hR0⟩ := hrel
    have hR := hid hR0
    clear hR0
    cases k with
    | zero =>
      have h0 : decide ((0 : Int) < ((0 : Nat) : Int)) = false := by decide
      go_wp2_with fail
      go_ret
      exact ⟨ret_int (by rw [hR.out]; rfl), rfl⟩
    | succ j =>
      obtain ⟨b, off, rfl, hc⟩ := HV.out.2 j (by omega)
      have hj1 : ((j + 1 : Nat) : Int) - 1 = (j : Int) := by omega
      have h0 : decide ((0 : Int) < ((j + 1 : Nat) : Int)) = true := decide_eq_true (by omega)
      by_cases e : xs.getD j 0 = 0
      · have hN := hid (show lenTo xs xs.length = lenTo xs j by rw [hR.out, lenTo, if_pos e])
        rw [e] at hc
        go_wp2_with fail
        go_round
        case rel => exact ⟨j, by omega, by go_num, hN.out⟩
        case measure => simp [intOf]
      · have hN := hid (show lenTo xs xs.length = j + 1 by rw [hR.out, lenTo, if_neg e])
        generalize xs.getD j 0 = X at *
        have hX : (X == 0) = false := by simpa using e
        go_wp2_with fail
        go_ret
        exact ⟨ret_int (by rw [hN.out]; omega), rfl⟩
set_option maxHeartbeats 800000 in
theorem spec_len (ao : Option Addr) (cap : Nat) (xs : List Int) (w : World) (hn : xs.length ≤ 1048576) (hv : View .i64 w ao xs.length xs) :
    Calls Try.prog 23 #[.slice ao xs.length cap] w fun e w' => e = .returned (.int .i64 (lenTo xs xs.length)) ∧ w = w' := by
  have HV := hid hv
  clear hv
  go_enter Try.func23, Try.ntmps23
  go_wp2_with fail
  go_loop [3] (fun s => ∃ k : Nat, k ≤ xs.length ∧ s = .int .i64 k ∧ lenTo xs xs.length = lenTo xs k) (fun s => (intOf s).toNat)
  case atStart => exact ⟨xs.length, Nat.le_refl _, rfl, rfl⟩
  case round =>
    obtain ⟨k, hk, rfl, hR0⟩ := hrel
    have hR := hid hR0
    clear hR0
    cases k with
    | zero =>
      have h0 : decide ((0 : Int) < ((0 : Nat) : Int)) = false := by decide
      go_wp2_with fail
      go_ret
      exact ⟨ret_int (by rw [hR.out]; rfl), rfl⟩
    | succ j =>
      obtain ⟨b, off, rfl, hc⟩ := HV.out.2 j (by omega)
      have hj1 : ((j + 1 : Nat) : Int) - 1 = (j : Int) := by omega
      have h0 : decide ((0 : Int) < ((j + 1 : Nat) : Int)) = true := decide_eq_true (by omega)
      by_cases e : xs.getD j 0 = 0
      · have hN := hid (show lenTo xs xs.length = lenTo xs j by rw [hR.out, lenTo, if_pos e])
        rw [e] at hc
        go_wp2_with fail
        go_round
        case rel => exact ⟨j, by omega, by go_num, hN.out⟩
        case measure => simp [intOf]
      · have hN := hid (show lenTo xs xs.length = j + 1 by rw [hR.out, lenTo, if_neg e])
        generalize xs.getD j 0 = X at *
        have hX : (X == 0) = false := by simpa using e
        go_wp2_with fail
        go_ret
        exact ⟨ret_int (by rw [hN.out]; omega), rfl⟩

/-- The length of a block; -1 for what is none. -/
def lengthP (d : Int) (xs : List Int) : Int := if blkOk d xs = true then (lenTo xs xs.length : Int) else -1

theorem impl_length (v : Value) (d : Int) (xs : List Int) (w : World) (hn : xs.length ≤ 1048576) (hv : BV w v d xs) :
    Calls Try.prog 8 #[v] w fun e w' => e = .returned (.int .i64 (lengthP d xs)) ∧ Below w.heap.size w w' := by
  obtain ⟨a, c, rfl, h0⟩ := hv
  have HB := hid ((Below.refl w.heap.size w).alloc (Nat.le_refl _) (.cells #[.int .i64 d, .slice a xs.length c] 29))
  have HT := hid (Two.new w (.int .i64 d) (.slice a xs.length c) 29)
  have HV := hid h0
  have HOK := hid (fun q (hq : Below w.heap.size w q) => impl_blockOk (.agg #[.int .i64 d, .slice a xs.length c]) d xs q hn ⟨a, c, rfl, HV.out.below (Nat.le_refl _) hq⟩)
  have HL := hid (fun q (hq : Below w.heap.size w q) => impl_len a c xs q hn (HV.out.below (Nat.le_refl _) hq))
  clear h0
  unfold lengthP
  cases hB : blkOk d xs with
  | false =>
    rw [hB] at HOK
    go_enter Try.func8, Try.ntmps8
    go_wp2_with fail
    refine (HOK.out _ HB.out).mono ?_
    rintro e w1 ⟨rfl, hb1⟩
    have B1 := hid (HB.out.trans (hb1.mono HB.out.size))
    go_wp2_with fail
    go_ret
    exact ⟨rfl, B1.out⟩
  | true =>
    rw [hB] at HOK
    go_enter Try.func8, Try.ntmps8
    go_wp2_with fail
    refine (HOK.out _ HB.out).mono ?_
    generalize w.alloc (.cells #[.int .i64 d, .slice a xs.length c] 29) = wa at *
    rintro e w1 ⟨rfl, hb1⟩
    have B1 := hid (HB.out.trans (hb1.mono HB.out.size))
    have T1 := hid (HT.out.below hb1 HT.out.lt)
    clear hb1 HOK
    obtain ⟨q1, q2, q3, q4⟩ := T1.out.cells
    go_wp2_with (go_at_call 19; refine (HL.out _ B1.out).mono ?_; rintro e w2 ⟨rfl, rfl⟩)
    go_ret
    exact ⟨rfl, B1.out⟩

theorem spec_length (v : Value) (d : Int) (xs : List Int) (w : World) (hn : xs.length ≤ 1048576) (hv : BV w v d xs) :
    Calls Try.prog 12 #[v] w fun e w' => e = .returned (.int .i64 (lengthP d xs)) ∧ Below w.heap.size w w' := by
  obtain ⟨a, c, rfl, h0⟩ := hv
  have HB := hid ((Below.refl w.heap.size w).alloc (Nat.le_refl _) (.cells #[.int .i64 d, .slice a xs.length c] 29))
  have HT := hid (Two.new w (.int .i64 d) (.slice a xs.length c) 29)
  have HV := hid h0
  have HOK := hid (fun q (hq : Below w.heap.size w q) => spec_blockOk (.agg #[.int .i64 d, .slice a xs.length c]) d xs q hn ⟨a, c, rfl, HV.out.below (Nat.le_refl _) hq⟩)
  have HL := hid (fun q (hq : Below w.heap.size w q) => spec_len a c xs q hn (HV.out.below (Nat.le_refl _) hq))
  clear h0
  unfold lengthP
  cases hB : blkOk d xs with
  | false =>
    rw [hB] at HOK
    go_enter Try.func12, Try.ntmps12
    go_wp2_with fail
    refine (HOK.out _ HB.out).mono ?_
    rintro e w1 ⟨rfl, hb1⟩
    have B1 := hid (HB.out.trans (hb1.mono HB.out.size))
    go_wp2_with fail
    go_ret
    exact ⟨rfl, B1.out⟩
  | true =>
    rw [hB] at HOK
    go_enter Try.func12, Try.ntmps12
    go_wp2_with fail
    refine (HOK.out _ HB.out).mono ?_
    generalize w.alloc (.cells #[.int .i64 d, .slice a xs.length c] 29) = wa at *
    rintro e w1 ⟨rfl, hb1⟩
    have B1 := hid (HB.out.trans (hb1.mono HB.out.size))
    have T1 := hid (HT.out.below hb1 HT.out.lt)
    clear hb1 HOK
    obtain ⟨q1, q2, q3, q4⟩ := T1.out.cells
    go_wp2_with (go_at_call 23; refine (HL.out _ B1.out).mono ?_; rintro e w2 ⟨rfl, rfl⟩)
    go_ret
    exact ⟨rfl, B1.out⟩

/-- The band of a place. -/
def bandP (i : Int) : Int := if i < 0 ∨ 63 ≤ i then -1 else if i < 3 then 0 else if i < 10 then 1 else if i < 25 then 2 else 3
theorem impl_band (i : Int) (w : World) : Calls Try.prog 9 #[.int .i64 i] w fun e w' => e = .returned (.int .i64 (bandP i)) ∧ w = w' := by
  unfold bandP
  by_cases h0 : i < 0
  · rw [if_pos (Or.inl h0)]
    go_enter Try.func9, Try.ntmps9
    go_wp2
    go_ret
    exact ⟨rfl, rfl⟩
  by_cases h1 : 63 ≤ i
  · rw [if_pos (Or.inr h1)]
    go_enter Try.func9, Try.ntmps9
    go_wp2
    go_ret
    exact ⟨rfl, rfl⟩
  rw [if_neg (by omega)]
  by_cases h2 : i < 3
  · rw [if_pos h2]
    go_enter Try.func9, Try.ntmps9
    go_wp2
    go_ret
    exact ⟨rfl, rfl⟩
  rw [if_neg h2]
  by_cases h3 : i < 10
  · rw [if_pos h3]
    go_enter Try.func9, Try.ntmps9
    go_wp2
    go_ret
    exact ⟨rfl, rfl⟩
  rw [if_neg h3]
  by_cases h4 : i < 25
  · rw [if_pos h4]
    go_enter Try.func9, Try.ntmps9
    go_wp2
    go_ret
    exact ⟨rfl, rfl⟩
  rw [if_neg h4]
  go_enter Try.func9, Try.ntmps9
  go_wp2
  go_ret
  exact ⟨rfl, rfl⟩
theorem spec_band (i : Int) (w : World) : Calls Try.prog 10 #[.int .i64 i] w fun e w' => e = .returned (.int .i64 (bandP i)) ∧ w = w' := by
  unfold bandP
  have HI := hid (fun q => spec_in i 0 62 q)
  by_cases h0 : i < 0 ∨ 63 ≤ i
  · rw [if_pos h0]
    rw [decide_eq_false (show ¬ (0 ≤ i ∧ i ≤ 62) by omega)] at HI
    go_enter Try.func10, Try.ntmps10
    go_wp2_with (go_at_call 20; refine (HI.out _).mono ?_; rintro e w1 ⟨rfl, rfl⟩)
    go_ret
    exact ⟨rfl, rfl⟩
  rw [if_neg h0]
  rw [decide_eq_true (show (0 ≤ i ∧ i ≤ 62) by omega)] at HI
  clear h0
  by_cases h2 : i < 3
  · rw [if_pos h2]
    go_enter Try.func10, Try.ntmps10
    go_wp2_with (go_at_call 20; refine (HI.out _).mono ?_; rintro e w1 ⟨rfl, rfl⟩)
    go_ret
    exact ⟨rfl, rfl⟩
  rw [if_neg h2]
  by_cases h3 : i < 10
  · rw [if_pos h3]
    go_enter Try.func10, Try.ntmps10
    go_wp2_with (go_at_call 20; refine (HI.out _).mono ?_; rintro e w1 ⟨rfl, rfl⟩)
    go_ret
    exact ⟨rfl, rfl⟩
  rw [if_neg h3]
  by_cases h4 : i < 25
  · rw [if_pos h4]
    go_enter Try.func10, Try.ntmps10
    go_wp2_with (go_at_call 20; refine (HI.out _).mono ?_; rintro e w1 ⟨rfl, rfl⟩)
    go_ret
    exact ⟨rfl, rfl⟩
  rw [if_neg h4]
  go_enter Try.func10, Try.ntmps10
  go_wp2_with (go_at_call 20; refine (HI.out _).mono ?_; rintro e w1 ⟨rfl, rfl⟩)
  go_ret
  exact ⟨rfl, rfl⟩
theorem law_band (i : Int) (w : World) : Calls Try.prog 4 #[.int .i64 i] w fun e w' => e = .returned (.bool true) ∧ Below w.heap.size w w' := by
  have HI := hid (impl_band i w)
  have HS := hid (spec_band i w)
  generalize bandP i = R at *
  have hRR : (R != R) = false := by simp
  go_enter Try.func4, Try.ntmps4
  go_wp2_with (first | (go_at_call 10; refine HS.out.mono ?_; rintro e w1 ⟨rfl, rfl⟩) | (go_at_call 9; refine HI.out.mono ?_; rintro e w1 ⟨rfl, rfl⟩))
  go_ret
  exact ⟨rfl, Below.refl _ _⟩
end Go.Proofs.Ytfahdmkbifhfbaa
