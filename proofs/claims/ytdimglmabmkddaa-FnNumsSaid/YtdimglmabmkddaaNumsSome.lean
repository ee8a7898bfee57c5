/- The program's GetNum where there is a number. -/
import Derived.Test.YtdimglmabmkddaaNumsNone
namespace Go.Proofs.Ytdimglmabmkddaa.Nums
open Go.RowKit
set_option linter.unusedVariables false

theorem ret_two {k : IntKind} {a b c d : Int} (h : a = b) (h2 : c = d) : Ending.returned (.tuple #[.int k a, .int k c]) = .returned (.tuple #[.int k b, .int k d]) := by rw [h, h2]

theorem ne_toList {a b : ByteArray} (h : a ≠ b) : (a.toList == b.toList) = false := by
  rw [beq_eq_false_iff_ne]
  intro e
  apply h
  rw [ByteArray.toList_eq, ByteArray.toList_eq] at e
  exact ByteArray.ext (Array.ext' e)

theorem cut_some {s : ByteArray} {i j : Nat} (h : i < j) (hs : j ≤ s.size) : (s.extract i j).toList.isEmpty = false := by
  rw [ByteArray.toList_eq, List.isEmpty_eq_false_iff]
  intro e
  have := congrArg List.length e
  simp at this
  have hd : s.data.size = s.size := rfl
  omega

set_option maxRecDepth 100000 in
set_option maxHeartbeats 8000000 in
/-- The first byte below 128 stands n places behind. -/
theorem impl_getNum_some (s : ByteArray) (i n : Nat) (w : World) (hs : s.size ≤ 1048576) (hn5 : n < 5) (hnm : i + n < s.size) (hall : ∀ j, j < n → 128 ≤ bt s (i + j)) (hlow : bt s (i + n) < 128) (r0 r1 : Int)
    (hr : (val (bt s) i (n + 1) ≤ 1000000000 ∧ strOfNums (nb (val (bt s) i (n + 1)).toNat (val (bt s) i (n + 1))) = s.extract i (i + n + 1) ∧ r0 = val (bt s) i (n + 1) ∧ r1 = i + n + 1)) :
    Calls Try.prog 22 #[.string s, .int .i64 i] w fun e w' => e = .returned (.tuple #[.int .i64 r0, .int .i64 r1]) ∧ Below w.heap.size w w' := by
  have hi : (i : Int) < (s.size : Int) := by omega
  have hd0 : decide ((i : Int) < 0) = false := by simp
  have hd1 : decide (s.size ≤ i) = false := by simp; omega
  have HR := show Hid _ from hr
  clear hr
  go_enter Try.func22, Try.ntmps22
  go_wp2_with fail
  refine (impl_putNum 1000000000 _ (by decide) (by decide)).mono ?_
  rintro e w1 ⟨rfl, hb1⟩
  have hlg := longest
  generalize strOfNums (nb (1000000000 : Int).toNat 1000000000) = L at *
  go_wp2
  go_loop [7, 8] (fun x m => ∃ k : Nat, k ≤ n ∧ x = .int .i64 (val (bt s) i k) ∧ m = .int .i64 k) (fun _ m => 5 - (intOf m).toNat)
  case atStart => exact ⟨0, by omega, rfl, rfl⟩
  case round =>
    obtain ⟨k, hkn, rfl, rfl⟩ := hrel
    have hst : Hid (val (bt s) i (k + 1) = val (bt s) i k + bt s (i + k) % 128 * 128 ^ k) := val_snoc _ _ _
    have v0 := val_nonneg (bt s) k i
    have v1 := val_lt (bt s) k i
    generalize val (bt s) i k = X at *
    have hx : (i : Int) + k < (s.size : Int) := by omega
    have hx0 : (k : Int) < (s.size : Int) - (i : Int) := by omega
    have hbl := byte_lt (s[i + k]'(by omega))
    rw [bt_eq s (i + k) (by omega)] at hst
    by_cases hk : k < n
    · have hb := hall k hk
      rw [bt_eq s (i + k) (by omega)] at hb
      clear hall hlow
      obtain rfl | rfl | rfl | rfl : k = 0 ∨ k = 1 ∨ k = 2 ∨ k = 3 := by omega
      · simp only [Nat.add_zero] at hb hbl hst
        go_wp2
        go_round
        case rel => exact ⟨1, by omega, val_int (rel_0 v0 v1 hst.out), rfl⟩
        case measure => simp [intOf]
      · go_wp2
        go_round
        case rel => exact ⟨2, by omega, val_int (rel_k 1 128 (by decide) (by decide) v0 v1 hst.out), rfl⟩
        case measure => simp [intOf]
      · go_wp2
        go_round
        case rel => exact ⟨3, by omega, val_int (rel_k 2 16384 (by decide) (by decide) v0 v1 hst.out), rfl⟩
        case measure => simp [intOf]
      · go_wp2
        go_round
        case rel => exact ⟨4, by omega, val_int (rel_k 3 2097152 (by decide) (by decide) v0 v1 hst.out), rfl⟩
        case measure => simp [intOf]
    · obtain rfl : k = n := by omega
      have hl := hlow
      rw [bt_eq s (i + k) (by omega)] at hl
      clear hall hlow hk hkn
      have V0 := val_nonneg (bt s) (k + 1) i
      have hr := HR.out
      clear HR
      generalize val (bt s) i (k + 1) = V at *
      have hend : (i : Int) + (k : Int) + 1 ≤ (s.size : Int) := by omega
      rcases hr with ⟨a1, a2, rfl, rfl⟩
      · have A2 := show Hid _ from a2
        clear a2
        obtain rfl | rfl | rfl | rfl | rfl : k = 0 ∨ k = 1 ∨ k = 2 ∨ k = 3 ∨ k = 4 := by omega
        · simp only [Nat.add_zero] at hl hbl hst
          have hor := rel_0 v0 v1 hst.out
          have T : ((strOfNums (nb r0.toNat r0)).toList == (s.extract i (i + 1)).toList) = true := by have := A2.out; simp only [this, beq_self_eq_true]
          go_wp2_with fail
          go_region_with (go_at_call 20; refine (impl_putNum r0 _ V0 a1).mono ?_; rintro e w2 ⟨rfl, hb2⟩)
          all_goals
            go_wp2
            go_ret2
            exact ⟨ret_two rfl (by omega), hb1.drew.trans (hb2.mono hb1.size)⟩
        · have hor := rel_k 1 128 (by decide) (by decide) v0 v1 hst.out
          have T : ((strOfNums (nb r0.toNat r0)).toList == (s.extract i (i + 2)).toList) = true := by have := A2.out; simp only [this, beq_self_eq_true]
          go_wp2_with fail
          go_region_with (go_at_call 20; refine (impl_putNum r0 _ V0 a1).mono ?_; rintro e w2 ⟨rfl, hb2⟩)
          all_goals
            go_wp2
            go_ret2
            exact ⟨ret_two rfl (by omega), hb1.drew.trans (hb2.mono hb1.size)⟩
        · have hor := rel_k 2 16384 (by decide) (by decide) v0 v1 hst.out
          have T : ((strOfNums (nb r0.toNat r0)).toList == (s.extract i (i + 3)).toList) = true := by have := A2.out; simp only [this, beq_self_eq_true]
          go_wp2_with fail
          go_region_with (go_at_call 20; refine (impl_putNum r0 _ V0 a1).mono ?_; rintro e w2 ⟨rfl, hb2⟩)
          all_goals
            go_wp2
            go_ret2
            exact ⟨ret_two rfl (by omega), hb1.drew.trans (hb2.mono hb1.size)⟩
        · have hor := rel_k 3 2097152 (by decide) (by decide) v0 v1 hst.out
          have T : ((strOfNums (nb r0.toNat r0)).toList == (s.extract i (i + 4)).toList) = true := by have := A2.out; simp only [this, beq_self_eq_true]
          go_wp2_with fail
          go_region_with (go_at_call 20; refine (impl_putNum r0 _ V0 a1).mono ?_; rintro e w2 ⟨rfl, hb2⟩)
          all_goals
            go_wp2
            go_ret2
            exact ⟨ret_two rfl (by omega), hb1.drew.trans (hb2.mono hb1.size)⟩
        · have hor := rel_k 4 268435456 (by decide) (by decide) v0 v1 hst.out
          have T : ((strOfNums (nb r0.toNat r0)).toList == (s.extract i (i + 5)).toList) = true := by have := A2.out; simp only [this, beq_self_eq_true]
          go_wp2_with fail
          go_region_with (go_at_call 20; refine (impl_putNum r0 _ V0 a1).mono ?_; rintro e w2 ⟨rfl, hb2⟩)
          all_goals
            go_wp2
            go_ret2
            exact ⟨ret_two rfl (by omega), hb1.drew.trans (hb2.mono hb1.size)⟩

theorem strOfNums_row (s : ByteArray) (i n f : Nat) (hnm : i + n < s.size) (hall : ∀ j, j < n → 128 ≤ bt s (i + j)) (hlow : bt s (i + n) < 128) (hf : (val (bt s) i (n + 1)).toNat ≤ f) :
    (nb f (val (bt s) i (n + 1))).length = n + 1 ↔ strOfNums (nb f (val (bt s) i (n + 1))) = s.extract i (i + n + 1) := by
  constructor
  · intro h
    rw [nb_row (bt s) (fun j => ⟨bt_nonneg s j, bt_lt s j⟩) n i f hall hlow hf h, ← cut_nums s i (n + 1) (by omega)]
    rfl
  · intro h
    have := congrArg ByteArray.size h
    rw [strOfNums_size, ByteArray.size_extract] at this
    omega
end Go.Proofs.Ytdimglmabmkddaa.Nums
