/- The contract of the specification's GetNum. -/
import Derived.Test.YtfhhcjemmkjkhabNumsPlain
namespace Go.Proofs.Ytfhhcjemmkjkhab
open Go.RowKit
set_option linter.unusedVariables false

theorem val_int {k : IntKind} {a b : Int} (h : a = b) : Value.int k a = .int k b := by rw [h]

set_option maxHeartbeats 400000 in
/-- Not within the text. -/
theorem spec_getNum_out (s : ByteArray) (i : Int) (w : World) (hs : s.size ≤ 1048576) (h : i < 0 ∨ (s.size : Int) ≤ i) :
    Calls Try.prog 13 #[.string s, .int .i64 i] w fun e w' => e = .returned (.tuple #[.int .i64 (-1), .int .i64 (-1)]) ∧ Below w.heap.size w w' := by
  by_cases h0 : i < 0
  · clear h
    go_enter Try.func13, Try.ntmps13
    go_wp2
    go_ret2
    exact ⟨rfl, Below.refl _ _⟩
  · have h2 : (s.size : Int) ≤ i := by omega
    clear h
    go_enter Try.func13, Try.ntmps13
    go_wp2
    go_ret2
    exact ⟨rfl, Below.refl _ _⟩

set_option maxHeartbeats 800000 in
/-- No byte below 128 among the first five. -/
theorem spec_getNum_none (s : ByteArray) (i : Nat) (w : World) (hs : s.size ≤ 1048576) (h : i < s.size) (hall : ∀ j, j < 5 → j < s.size - i → 128 ≤ bt s (i + j)) :
    Calls Try.prog 13 #[.string s, .int .i64 i] w fun e w' => e = .returned (.tuple #[.int .i64 (-1), .int .i64 (-1)]) ∧ Below w.heap.size w w' := by
  have hi : (i : Int) < (s.size : Int) := by omega
  have hd0 : decide ((i : Int) < 0) = false := by simp
  have hd1 : decide (s.size ≤ i) = false := by simp; omega
  go_enter Try.func13, Try.ntmps13
  go_wp2
  go_loop [6] (fun n => ∃ k : Nat, k ≤ 5 ∧ k ≤ s.size - i ∧ n = .int .i64 k) (fun n => 5 - (intOf n).toNat)
  case atStart => exact ⟨0, by omega, by omega, rfl⟩
  case round =>
    obtain ⟨k, hk5, hkm, rfl⟩ := hrel
    by_cases h5 : k < 5
    · by_cases hm : k < s.size - i
      · have hb := hall k h5 hm
        rw [bt_eq s (i + k) (by omega)] at hb
        have hx : (i : Int) + k < (s.size : Int) := by omega
        have hx0 : (k : Int) < (s.size : Int) - (i : Int) := by omega
        clear hall
        go_wp2
        go_round
        case rel => exact ⟨k + 1, by omega, by omega, by go_num⟩
        case measure => simp [intOf]; omega
      · have hx0 : ¬ (k : Int) < (s.size : Int) - (i : Int) := by omega
        have hx1 : (s.size : Int) - (i : Int) ≤ (k : Int) := by omega
        clear hall
        go_wp2
        go_ret2
        exact ⟨rfl, Below.refl _ _⟩
    · obtain rfl : k = 5 := by omega
      clear hall
      go_wp2
      go_ret2
      exact ⟨rfl, Below.refl _ _⟩

set_option maxHeartbeats 800000 in
set_option maxRecDepth 100000 in
/-- The first byte below 128 stands n places behind. -/
theorem spec_getNum_some (s : ByteArray) (i n : Nat) (w : World) (hs : s.size ≤ 1048576) (hn5 : n < 5) (hnm : i + n < s.size) (hall : ∀ j, j < n → 128 ≤ bt s (i + j)) (hlow : bt s (i + n) < 128) (r0 r1 : Int)
    (hr : (val (bt s) i (n + 1) ≤ 1000000000 ∧ (nb (val (bt s) i (n + 1)).toNat (val (bt s) i (n + 1))).length = n + 1 ∧ r0 = val (bt s) i (n + 1) ∧ r1 = i + n + 1) ∨
      ((1000000000 < val (bt s) i (n + 1) ∨ (nb (val (bt s) i (n + 1)).toNat (val (bt s) i (n + 1))).length ≠ n + 1) ∧ r0 = -1 ∧ r1 = -1)) :
    Calls Try.prog 13 #[.string s, .int .i64 i] w fun e w' => e = .returned (.tuple #[.int .i64 r0, .int .i64 r1]) ∧ Below w.heap.size w w' := by
  have hi : (i : Int) < (s.size : Int) := by omega
  have hd0 : decide ((i : Int) < 0) = false := by simp
  have hd1 : decide (s.size ≤ i) = false := by simp; omega
  have HR := show Hid _ from hr
  clear hr
  go_enter Try.func13, Try.ntmps13
  go_wp2
  go_loop [6] (fun m => ∃ k : Nat, k ≤ n ∧ m = .int .i64 k) (fun m => n - (intOf m).toNat)
  case atStart => exact ⟨0, by omega, rfl⟩
  case round =>
    obtain ⟨k, hkn, rfl⟩ := hrel
    have hx : (i : Int) + k < (s.size : Int) := by omega
    have hx0 : (k : Int) < (s.size : Int) - (i : Int) := by omega
    by_cases hk : k < n
    · have hb := hall k hk
      rw [bt_eq s (i + k) (by omega)] at hb
      clear hall hlow
      go_wp2
      go_round
      case rel => exact ⟨k + 1, by omega, by go_num⟩
      case measure => simp [intOf]; omega
    · obtain rfl : k = n := by omega
      have hl := hlow
      rw [bt_eq s (i + k) (by omega)] at hl
      have hq : ((k : Int) == 5) = false := by simp; omega
      clear hall hlow
      go_wp2
      go_loop [7, 8] (fun x j => ∃ (c : Nat) (y : Int), c ≤ k + 1 ∧ x = .int .i64 (val (bt s) (i + c) (k + 1 - c)) ∧ j = .int .i64 y ∧ y + 1 = c) (fun _ j => (intOf j + 1).toNat)
      case atStart => exact ⟨k + 1, k, by omega, by simp [val], rfl, by omega⟩
      case round =>
        obtain ⟨c, y, hc, rfl, rfl, hy⟩ := hrel
        have v0 := val_nonneg (bt s) (k + 1 - c) (i + c)
        have v1 := val_le5 (bt s) (i + c) (k + 1 - c) (by omega)
        by_cases hc0 : c = 0
        · subst hc0
          obtain rfl : y = -1 := by omega
          clear hy
          generalize hX : val (bt s) (i + 0) (k + 1 - 0) = X at *
          have HX := show Hid _ from hX
          clear hX
          have hr := HR.out
          clear HR HX
          rcases hr with ⟨a1, a2, rfl, rfl⟩ | ⟨a1, rfl, rfl⟩
          · go_wp2_with fail
            refine (spec_putNum _ _ v0 a1).mono ?_
            rintro e w1 ⟨rfl, hb1⟩
            have hL : (strOfNums (nb r0.toNat r0)).size = k + 1 := by rw [strOfNums_size]; exact a2
            generalize strOfNums (nb r0.toNat r0) = L at *
            clear a2
            go_wp2
            go_ret2
            exact ⟨rfl, hb1⟩
          · by_cases a3 : X ≤ 1000000000
            · have a2 : (nb X.toNat X).length ≠ k + 1 := by
                rcases a1 with a1 | a1
                · omega
                · exact a1
              clear a1
              go_wp2_with fail
              refine (spec_putNum _ _ v0 a3).mono ?_
              rintro e w1 ⟨rfl, hb1⟩
              have hL : (((strOfNums (nb X.toNat X)).size : Int) != (k : Int) + 1) = true := by rw [strOfNums_size]; simp; omega
              generalize strOfNums (nb X.toNat X) = L at *
              clear a2
              go_wp2
              go_ret2
              exact ⟨rfl, hb1⟩
            · clear a1
              go_wp2_with fail
              refine (spec_putNum_no _ _ (.inr (by omega))).mono ?_
              rintro e w1 ⟨rfl, rfl⟩
              have hL : ((0 : Int) != (k : Int) + 1) = true := by simp; omega
              go_wp2
              go_ret2
              exact ⟨rfl, Below.refl _ _⟩
        · obtain ⟨q, rfl⟩ : ∃ q, c = q + 1 := ⟨c - 1, by omega⟩
          obtain rfl : y = q := by omega
          clear hy hc0
          have hq1 : (i : Int) + q < (s.size : Int) := by omega
          have hst : Hid (val (bt s) (i + q) (k + 1 - q) = bt s (i + q) % 128 + 128 * val (bt s) (i + (q + 1)) (k + 1 - (q + 1))) := by
            show _ = _
            rw [show k + 1 - q = (k + 1 - (q + 1)) + 1 by omega, val]
            rfl
          generalize hX : val (bt s) (i + (q + 1)) (k + 1 - (q + 1)) = X at *
          have HX := show Hid _ from hX
          clear hX
          have hbl := byte_lt (s[i + q]'(by omega))
          go_wp2
          go_round
          case rel =>
            refine ⟨q, (q : Int) - 1, by omega, ?_, rfl, by omega⟩
            rw [hst.out, bt_eq s (i + q) (by omega)]
            exact val_int (by omega)
          case measure => simp [intOf]
end Go.Proofs.Ytfhhcjemmkjkhab
