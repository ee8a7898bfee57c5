/- Contracts of NumBits, of the program and of the specification. -/
import Derived.Test.YtnnakmgngkpghaaMark
namespace Go.Proofs.Ytnnakmgngkpghaa
open Go.RowKit
set_option linter.unusedVariables false

/-- The n bits of a number. -/
def rbX (x : Int) (n j : Nat) : Int := x / 2 ^ (n - 1 - j) % 2
theorem rbX_bit (x : Int) (n j : Nat) : Bit (rbX x n j) := by unfold rbX Bit; omega
theorem pow_half (x : Int) (m : Nat) : x / 2 ^ (m + 1) = x / 2 ^ m / 2 := by
  rw [Int.pow_succ, Int.ediv_ediv_of_nonneg (Int.le_of_lt (Int.pow_pos (by decide)))]
theorem rbX_num (x : Int) (n : Nat) (h0 : 0 ≤ x) (h1 : x < 2 ^ n) : ∀ c, c ≤ n → num (rbX x n) 0 c = x / 2 ^ (n - c)
  | 0, _ => by rw [num, Nat.sub_zero, Int.ediv_eq_zero_of_lt h0 h1]
  | c + 1, h => by
    rw [num, rbX_num x n h0 h1 c (by omega), rbX, Nat.zero_add]
    rw [show n - c = (n - (c + 1)) + 1 by omega, show n - 1 - c = n - (c + 1) by omega, pow_half]
    omega

theorem start_num (x : Int) (n : Nat) (hn : n ≤ 32) (h0 : 0 ≤ x) (h1 : x < 2 ^ n) : RSt (rbX x n) n 0 x n ⟨#[]⟩ := by
  have hm := pow2_mono n (32 - n)
  rw [show n + (32 - n) = 32 by omega] at hm
  refine ⟨by show 0 + n + 8 * 0 = n; omega, hn, h0, by omega, ?_, fun j hj => by exact absurd hj (Nat.not_lt_zero j)⟩
  rw [rbX_num x n h0 h1 n (Nat.le_refl _), Nat.sub_self, Int.emod_eq_of_lt h0 h1]
  simp

set_option maxHeartbeats 1600000 in
theorem impl_numBits (x : Int) (n : Nat) (w : World) (hn : n ≤ 32) (h0 : 0 ≤ x) (h1 : x < 2 ^ n) :
    Calls Try.prog 78 #[.int .i64 x, .int .i64 n] w fun e w' => ∃ v, e = .returned v ∧ Own w' w.heap.size 3 .i64 v (bl (rbX x n) n) ∧ Below w.heap.size w w' := by
  have HA := hid (all_any (rbX x n) (rbX_bit x n) w.heap.size n x n ⟨#[]⟩ (w.alloc (.cells #[.int .u32 x, .int .i64 n, .string ⟨#[]⟩] 128)) (by omega) (start_num x n hn h0 h1) (heap_alloc_new w _))
  have hz : x / 2 ^ n = 0 := Int.ediv_eq_zero_of_lt h0 h1
  have hm := pow2_mono n (32 - n)
  rw [show n + (32 - n) = 32 by omega] at hm
  have hx32 : x < 4294967296 := by omega
  clear hm h1
  go_enter Try.func78, Try.ntmps78
  go_wp2_with fail
  refine HA.out.mono ?_
  rintro e w1 ⟨v, rfl, ho, hb⟩
  obtain ⟨ao, cap, rfl⟩ := ho.shape
  go_wp2
  go_ret
  exact ⟨_, rfl, ho.lower (by omega), ((Below.refl _ _).alloc (Nat.le_refl _) _).trans hb⟩

set_option maxHeartbeats 1600000 in
theorem impl_numBits_no (x n : Int) (w : World) (hb : n < 0 ∨ 32 < n ∨ x < 0 ∨ 2 ^ n.toNat ≤ x) :
    Calls Try.prog 78 #[.int .i64 x, .int .i64 n] w fun e w' => ∃ v, e = .returned v ∧ Own w' w.heap.size 3 .i64 v [] ∧ Below w.heap.size w w' := by
  by_cases a1 : n < 0
  · clear hb
    go_enter Try.func78, Try.ntmps78
    go_wp2
    go_ret
    exact ⟨_, rfl, Own.empty _ _ _ _ (Nat.le_refl _), (Below.refl _ _).alloc (Nat.le_refl _) _⟩
  · by_cases a2 : 32 < n
    · clear hb
      go_enter Try.func78, Try.ntmps78
      go_wp2
      go_ret
      exact ⟨_, rfl, Own.empty _ _ _ _ (Nat.le_refl _), (Below.refl _ _).alloc (Nat.le_refl _) _⟩
    · by_cases a3 : x < 0
      · clear hb
        go_enter Try.func78, Try.ntmps78
        go_wp2
        go_ret
        exact ⟨_, rfl, Own.empty _ _ _ _ (Nat.le_refl _), (Below.refl _ _).alloc (Nat.le_refl _) _⟩
      · obtain ⟨k, rfl⟩ := Int.eq_ofNat_of_zero_le (show 0 ≤ n by omega)
        have hge : 2 ^ k ≤ x := by
          rcases hb with h | h | h | h
          · omega
          · omega
          · omega
          · simpa using h
        have hz : (x / 2 ^ k != 0) = true := by
          have hp : (0 : Int) < 2 ^ k := Int.pow_pos (by decide)
          have : 1 ≤ x / 2 ^ k := (Int.le_ediv_iff_mul_le hp).2 (by omega)
          simp
          omega
        clear hb hge
        go_enter Try.func78, Try.ntmps78
        go_wp2
        go_ret
        exact ⟨_, rfl, Own.empty _ _ _ _ (Nat.le_refl _), (Below.refl _ _).alloc (Nat.le_refl _) _⟩

set_option maxHeartbeats 1600000 in
theorem spec_numBits_no (x n : Int) (w : World) (hb : n < 0 ∨ 32 < n ∨ x < 0 ∨ 2 ^ n.toNat ≤ x) :
    Calls Try.prog 56 #[.int .i64 x, .int .i64 n] w fun e w' => ∃ v, e = .returned v ∧ Own w' w.heap.size 3 .i64 v [] ∧ Below w.heap.size w w' := by
  by_cases a1 : 0 ≤ n ∧ n ≤ 32
  · obtain ⟨k, rfl⟩ := Int.eq_ofNat_of_zero_le a1.1
    have hk : k ≤ 32 := by omega
    have hd : decide ((0 : Int) ≤ (k : Int) ∧ (k : Int) ≤ 32) = true := by simp; omega
    have p0 : (0 : Int) < 2 ^ k := Int.pow_pos (by decide)
    have p1 : (2 : Int) ^ k ≤ 4294967296 := by
      have h := pow2_mono k (32 - k)
      rw [show k + (32 - k) = 32 by omega] at h
      exact h
    have hd2 : decide ((0 : Int) ≤ x ∧ x ≤ 2 ^ k - 1) = false := by
      rw [decide_eq_false_iff_not]
      intro h
      rcases hb with h2 | h2 | h2 | h2
      · omega
      · omega
      · omega
      · simp at h2
        omega
    have HP := hid (fun w => pow2_any k w hk)
    generalize hP : (2 : Int) ^ k = P at *
    clear hb a1 hP
    go_enter Try.func56, Try.ntmps56
    go_wp2_with fail
    refine (spec_in _ _ _ _).mono ?_
    rw [hd]
    rintro e w1 ⟨rfl, rfl⟩
    go_wp2_with fail
    refine (HP.out _).mono ?_
    rintro e w1 ⟨rfl, rfl⟩
    go_wp2_with fail
    refine (spec_in _ _ _ _).mono ?_
    rw [hd2]
    rintro e w1 ⟨rfl, rfl⟩
    go_wp2
    go_ret
    exact ⟨_, rfl, Own.empty _ _ _ _ (Nat.le_refl _), (Below.refl _ _).alloc (Nat.le_refl _) _⟩
  · have hd : decide ((0 : Int) ≤ n ∧ n ≤ 32) = false := by simpa using a1
    clear hb a1
    go_enter Try.func56, Try.ntmps56
    go_wp2_with fail
    refine (spec_in _ _ _ _).mono ?_
    rw [hd]
    rintro e w1 ⟨rfl, rfl⟩
    go_wp2
    go_ret
    exact ⟨_, rfl, Own.empty _ _ _ _ (Nat.le_refl _), (Below.refl _ _).alloc (Nat.le_refl _) _⟩

set_option maxHeartbeats 1600000 in
theorem spec_numBits (x : Int) (n : Nat) (w : World) (hn : n ≤ 32) (h0 : 0 ≤ x) (h1 : x < 2 ^ n) :
    Calls Try.prog 56 #[.int .i64 x, .int .i64 n] w fun e w' => ∃ v, e = .returned v ∧ Own w' w.heap.size 3 .i64 v (bl (rbX x n) n) ∧ Below w.heap.size w w' := by
  have hd : decide ((0 : Int) ≤ (n : Int) ∧ (n : Int) ≤ 32) = true := by simp; omega
  have p0 : (0 : Int) < 2 ^ n := Int.pow_pos (by decide)
  have p1 : (2 : Int) ^ n ≤ 4294967296 := by
    have h := pow2_mono n (32 - n)
    rw [show n + (32 - n) = 32 by omega] at h
    exact h
  have hx32 : x < 4294967296 := by omega
  have hd2 : decide ((0 : Int) ≤ x ∧ x ≤ 2 ^ n - 1) = true := by
    rw [decide_eq_true_iff]
    omega
  have HP := hid (fun w => pow2_any n w hn)
  generalize hP : (2 : Int) ^ n = P at *
  clear h1 hP
  go_enter Try.func56, Try.ntmps56
  go_wp2_with fail
  refine (spec_in _ _ _ _).mono ?_
  rw [hd]
  rintro e w1 ⟨rfl, rfl⟩
  go_wp2_with fail
  refine (HP.out _).mono ?_
  rintro e w1 ⟨rfl, rfl⟩
  go_wp2_with fail
  refine (spec_in _ _ _ _).mono ?_
  rw [hd2]
  rintro e w1 ⟨rfl, rfl⟩
  go_wp2
  go_loopw [5, 6] (fun v i wr => ∃ (c : Nat) (y : Int), c ≤ n ∧ i = .int .i64 y ∧ Hid (y = (n : Int) - 1 - c) ∧ Own wr w.heap.size 3 .i64 v (bl (rbX x n) c) ∧ Below w.heap.size w wr) (fun _ i _ => (intOf i + 1).toNat)
  case atStart => exact ⟨0, (n : Int) - 1, by omega, rfl, by show _ = _; omega, Own.empty _ _ _ _ (Nat.le_refl _), (Below.refl _ _).alloc (Nat.le_refl _) _⟩
  case round =>
    obtain ⟨c, y, hc, rfl, hy, hown, hb⟩ := hrel
    by_cases hlt : c < n
    · obtain ⟨q, hq⟩ : ∃ q : Nat, y = (q : Int) := ⟨n - 1 - c, by have := hy.out; omega⟩
      subst hq
      have hq32 : q ≤ 32 := by have := hy.out; omega
      have hst : Hid (bl (rbX x n) (c + 1) = bl (rbX x n) c ++ [x / 2 ^ q % 2]) := by
        show _ = _
        rw [bl, rbX, show n - 1 - c = q by have := hy.out; omega]
      have hlen := bl_length (rbX x n) c
      have q0 : (0 : Int) < 2 ^ q := Int.pow_pos (by decide)
      have q1 : (2 : Int) ^ q ≤ 4294967296 := by
        have h := pow2_mono q (32 - q)
        rw [show q + (32 - q) = 32 by omega] at h
        exact h
      have q2 : 0 ≤ x / 2 ^ q := Int.ediv_nonneg h0 (by omega)
      have q3 : x / 2 ^ q ≤ x := Int.ediv_le_self _ h0
      have HP2 := hid (fun w => pow2_any q w hq32)
      generalize hP : (2 : Int) ^ q = P2 at *
      have q4 : x.tdiv P2 = x / P2 := Int.tdiv_eq_ediv_of_nonneg h0
      clear hP
      go_wp2_with fail
      refine (HP2.out _).mono ?_
      rintro e w1 ⟨rfl, rfl⟩
      go_wp2_with (at_builtin; refine wpList_push _ rfl _ _ 22 rfl _ 3 .i64 0 8 Try.underlying22 Try.info3 _ _ rfl hown (x / P2 % 2) rfl (by omega) (by decide) ?_)
      intro v1 w1 hown1 hb1
      go_wp2
      go_roundw
      case rel => exact ⟨c + 1, (q : Int) - 1, by omega, rfl, by show _ = _; have := hy.out; omega, by rw [hst.out]; exact hown1, hb.trans hb1⟩
      case measure => simp [intOf]
    · obtain rfl : c = n := by omega
      obtain rfl : y = -1 := by have := hy.out; omega
      obtain ⟨ao, cap, rfl⟩ := hown.shape
      go_wp2
      go_ret
      exact ⟨_, rfl, hown, hb⟩
end Go.Proofs.Ytnnakmgngkpghaa
