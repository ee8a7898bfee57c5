/- The program's GetNum where there is no number. -/
import Derived.Test.YtdimglmabmkddaaNumsWork
namespace Go.Proofs.Ytdimglmabmkddaa.Nums
open Go.RowKit
set_option linter.unusedVariables false

theorem longest : (strOfNums (nb (1000000000 : Int).toNat 1000000000)).size = 5 := by
  rw [strOfNums_size]
  decide +kernel

set_option maxHeartbeats 400000 in
/-- Not within the text. -/
theorem impl_getNum_out (s : ByteArray) (i : Int) (w : World) (hs : s.size ≤ 1048576) (h : i < 0 ∨ (s.size : Int) ≤ i) :
    Calls Try.prog 22 #[.string s, .int .i64 i] w fun e w' => e = .returned (.tuple #[.int .i64 (-1), .int .i64 (-1)]) ∧ Below w.heap.size w w' := by
  by_cases h0 : i < 0
  · clear h
    go_enter Try.func22, Try.ntmps22
    go_wp2
    go_ret2
    exact ⟨rfl, Below.refl _ _⟩
  · have h2 : (s.size : Int) ≤ i := by omega
    clear h
    go_enter Try.func22, Try.ntmps22
    go_wp2
    go_ret2
    exact ⟨rfl, Below.refl _ _⟩

theorem i64_63 (n : Int) (h0 : 0 ≤ n) (h1 : n < 2 ^ 63) : IntKind.i64.wrap n = n := by rw [IntKind.wrap_i64]; omega
theorem or_comm_i64 (x y : Int) (hx₀ : 0 ≤ x) (hx1 : x < 2 ^ 63) (hy₀ : 0 ≤ y) (hy₁ : y < 2 ^ 63) : bits .or .i64 x y = bits .or .i64 y x := by
  obtain ⟨a, rfl⟩ := Int.eq_ofNat_of_zero_le hx₀
  obtain ⟨b, rfl⟩ := Int.eq_ofNat_of_zero_le hy₀
  have ha : a < 2 ^ 63 := by exact_mod_cast hx1
  have hb : b < 2 ^ 63 := by exact_mod_cast hy₁
  rw [(bits_nat .i64 63 (by decide) i64_63 a b ha hb).2, (bits_nat .i64 63 (by decide) i64_63 b a hb ha).2, Nat.or_comm]
theorem or_i64 (i : Nat) (x y : Int) (hx₀ : 0 ≤ x) (hx : x < 2 ^ i) (hx1 : x < 2 ^ 63) (hy₀ : 0 ≤ y) (hy : y % 2 ^ i = 0) (hy₁ : y < 2 ^ 63) : bits .or .i64 x y = x + y := by
  rw [or_comm_i64 x y hx₀ hx1 hy₀ hy₁, bits_join .i64 63 (by decide) i64_63 i y x hy₀ hy hy₁ hx₀ hx hx1, Int.add_comm]

theorem or_step (k : Nat) (x y : Int) (h0 : 0 ≤ x) (h1 : x < 128 ^ k) (y0 : 0 ≤ y) (y1 : y < 128) (hk : k < 5) : bits .or .i64 x (y * 128 ^ k) = x + y * 128 ^ k := by
  obtain rfl | rfl | rfl | rfl | rfl : k = 0 ∨ k = 1 ∨ k = 2 ∨ k = 3 ∨ k = 4 := by omega
  · exact or_i64 0 _ _ h0 (by simpa using h1) (by omega) (by omega) (by omega) (by omega)
  · exact or_i64 7 _ _ h0 (by simpa using h1) (by omega) (by omega) (by omega) (by omega)
  · exact or_i64 14 _ _ h0 (by simpa using h1) (by omega) (by omega) (by omega) (by omega)
  · exact or_i64 21 _ _ h0 (by simpa using h1) (by omega) (by omega) (by omega) (by omega)
  · exact or_i64 28 _ _ h0 (by simpa using h1) (by omega) (by omega) (by omega) (by omega)
theorem rel_k (k : Nat) (c : Int) (hc : c = 128 ^ k) (hk : k < 5) {X V : Int} {b : UInt8} (h0 : 0 ≤ X) (h1 : X < 128 ^ k) (h : V = X + (b.toNat : Int) % 128 * 128 ^ k) : bits .or .i64 X ((b.toNat : Int) % 128 * c) = V := by
  subst hc
  rw [or_step k X _ h0 h1 (by omega) (by omega) hk, h]
theorem rel_0 {X V : Int} {b : UInt8} (h0 : 0 ≤ X) (h1 : X < 128 ^ 0) (h : V = X + (b.toNat : Int) % 128 * 128 ^ 0) : bits .or .i64 X ((b.toNat : Int) % 128) = V := by
  have := rel_k 0 1 (by decide) (by decide) h0 h1 h
  simpa using this

set_option maxRecDepth 100000 in
set_option maxHeartbeats 800000 in
/-- No byte below 128 among the first five. -/
theorem impl_getNum_none (s : ByteArray) (i : Nat) (w : World) (hs : s.size ≤ 1048576) (h : i < s.size) (hall : ∀ j, j < 5 → j < s.size - i → 128 ≤ bt s (i + j)) :
    Calls Try.prog 22 #[.string s, .int .i64 i] w fun e w' => e = .returned (.tuple #[.int .i64 (-1), .int .i64 (-1)]) ∧ Below w.heap.size w w' := by
  have hi : (i : Int) < (s.size : Int) := by omega
  have hd0 : decide ((i : Int) < 0) = false := by simp
  have hd1 : decide (s.size ≤ i) = false := by simp; omega
  go_enter Try.func22, Try.ntmps22
  go_wp2_with fail
  refine (impl_putNum 1000000000 _ (by decide) (by decide)).mono ?_
  rintro e w1 ⟨rfl, hb1⟩
  have hlg := longest
  generalize strOfNums (nb (1000000000 : Int).toNat 1000000000) = L at *
  go_wp2
  go_loop [7, 8] (fun x n => ∃ k : Nat, k ≤ 5 ∧ k ≤ s.size - i ∧ x = .int .i64 (val (bt s) i k) ∧ n = .int .i64 k) (fun _ n => 5 - (intOf n).toNat)
  case atStart => exact ⟨0, by omega, by omega, rfl, rfl⟩
  case round =>
    obtain ⟨k, hk5, hkm, rfl, rfl⟩ := hrel
    by_cases h5 : k < 5
    · by_cases hm : k < s.size - i
      · have hb := hall k h5 hm
        rw [bt_eq s (i + k) (by omega)] at hb
        have hst : Hid (val (bt s) i (k + 1) = val (bt s) i k + bt s (i + k) % 128 * 128 ^ k) := val_snoc _ _ _
        have v0 := val_nonneg (bt s) k i
        have v1 := val_lt (bt s) k i
        generalize val (bt s) i k = X at *
        have hx : (i : Int) + k < (s.size : Int) := by omega
        have hx0 : (k : Int) < (s.size : Int) - (i : Int) := by omega
        clear hall
        have hbl := byte_lt (s[i + k]'(by omega))
        rw [bt_eq s (i + k) (by omega)] at hst
        obtain rfl | rfl | rfl | rfl | rfl : k = 0 ∨ k = 1 ∨ k = 2 ∨ k = 3 ∨ k = 4 := by omega
        · simp only [Nat.add_zero] at hb hbl hst
          go_wp2
          go_round
          case rel => exact ⟨1, by decide, by omega, val_int (rel_0 v0 v1 hst.out), rfl⟩
          case measure => simp [intOf]
        · go_wp2
          go_round
          case rel => exact ⟨2, by decide, by omega, val_int (rel_k 1 128 (by decide) (by decide) v0 v1 hst.out), rfl⟩
          case measure => simp [intOf]
        · go_wp2
          go_round
          case rel => exact ⟨3, by decide, by omega, val_int (rel_k 2 16384 (by decide) (by decide) v0 v1 hst.out), rfl⟩
          case measure => simp [intOf]
        · go_wp2
          go_round
          case rel => exact ⟨4, by decide, by omega, val_int (rel_k 3 2097152 (by decide) (by decide) v0 v1 hst.out), rfl⟩
          case measure => simp [intOf]
        · go_wp2
          go_round
          case rel => exact ⟨5, by decide, by omega, val_int (rel_k 4 268435456 (by decide) (by decide) v0 v1 hst.out), rfl⟩
          case measure => simp [intOf]
      · have hx0 : ¬ (k : Int) < (s.size : Int) - (i : Int) := by omega
        have hx1 : (s.size : Int) - (i : Int) ≤ (k : Int) := by omega
        clear hall
        go_wp2
        go_ret2
        exact ⟨rfl, hb1⟩
    · obtain rfl : k = 5 := by omega
      clear hall
      go_wp2
      go_ret2
      exact ⟨rfl, hb1⟩
end Go.Proofs.Ytdimglmabmkddaa.Nums
