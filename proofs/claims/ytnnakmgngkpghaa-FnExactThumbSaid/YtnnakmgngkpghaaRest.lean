/- Contracts of Rest, of the program and of the specification, and the walk of the law FnExactRest. -/
import Derived.Test.YtnnakmgngkpghaaSize
import Derived.Test.YtnnakmgngkpghaaNumB
namespace Go.Proofs.Ytnnakmgngkpghaa
open Go.RowKit
set_option linter.unusedVariables false

/-- The number that the rest of x tells. -/
def restN (x : Int) : Int := if x < 0 then x + 2 ^ Lib.bitLen x.natAbs - 1 else x
/-- The rest of x. -/
def restL (x : Int) : List Int := if -2047 ≤ x ∧ x ≤ 2047 then bl (rbX (restN x) (Lib.bitLen x.natAbs)) (Lib.bitLen x.natAbs) else []
theorem rest_in {x : Int} (h : -2047 ≤ x ∧ x ≤ 2047) : restL x = bl (rbX (restN x) (Lib.bitLen x.natAbs)) (Lib.bitLen x.natAbs) := by unfold restL; rw [if_pos h]
theorem rest_out {x : Int} (h : ¬ (-2047 ≤ x ∧ x ≤ 2047)) : restL x = [] := by unfold restL; rw [if_neg h]
theorem bitLen_pow (m : Nat) (hm : m ≤ 2047) : (m : Int) < 2 ^ Lib.bitLen m := by
  have h := bitLen_at m (Lib.bitLen m) hm (bitLen_at m 0 hm (by omega)).2
  have : m < 2 ^ Lib.bitLen m := Nat.lt_of_not_le fun e => absurd (h.1.1 e) (by omega)
  exact_mod_cast this
theorem restN_bd {x : Int} (h : -2047 ≤ x ∧ x ≤ 2047) : 0 ≤ restN x ∧ restN x < 2 ^ Lib.bitLen x.natAbs := by
  have := bitLen_pow x.natAbs (by omega)
  unfold restN
  generalize (2 : Int) ^ Lib.bitLen x.natAbs = P at *
  split <;> omega
theorem restL_len (x : Int) : (restL x).length ≤ 11 := by
  unfold restL
  split
  · rw [bl_length]
    exact (bitLen_at x.natAbs 0 (by omega) (by omega)).2
  · simp
theorem pow_small (n : Nat) (h : n ≤ 11) : (1 : Int) ≤ 2 ^ n ∧ (2 : Int) ^ n ≤ 2048 := by
  have h1 := pow2_mono 0 n
  have h2 := pow2_mono n (11 - n)
  rw [Nat.zero_add] at h1
  rw [show n + (11 - n) = 11 by omega] at h2
  exact ⟨h1, h2⟩

set_option maxHeartbeats 800000 in
theorem impl_rest (x : Int) (w : World) (h0 : -9223372036854775808 ≤ x) (h1 : x ≤ 9223372036854775807) :
    Calls Try.prog 67 #[.int .i64 x] w fun e w' => ∃ v, e = .returned v ∧ Own w' w.heap.size 3 .i64 v (restL x) ∧ Below w.heap.size w w' := by
  have HS := hid (impl_size x w h0 h1)
  by_cases a : -2047 ≤ x ∧ x ≤ 2047
  · have hl := (bitLen_at x.natAbs 0 (by omega) (by omega)).2
    have hp := pow_small (Lib.bitLen x.natAbs) hl
    have hb := restN_bd a
    have HN := hid (fun q => impl_numBits (restN x) (Lib.bitLen x.natAbs) q (by omega) hb.1 hb.2)
    rw [sz_in a] at HS
    rw [rest_in a]
    have a1 := a.1
    have a2 := a.2
    by_cases a3 : x < 0
    · have hr : restN x = x + (2 ^ Lib.bitLen x.natAbs - 1) := by unfold restN; rw [if_pos a3]; omega
      generalize bl (rbX (restN x) (Lib.bitLen x.natAbs)) (Lib.bitLen x.natAbs) = L at *
      rw [hr] at HN
      clear hr hb a
      generalize Lib.bitLen x.natAbs = n at *
      generalize hP : (2 : Int) ^ n = P at *
      go_enter Try.func67, Try.ntmps67
      go_wp2_with fail
      refine HS.out.mono ?_
      rintro e w1 ⟨rfl, rfl⟩
      go_wp2_with fail
      refine (HN.out _).mono ?_
      rintro e w1 ⟨v, rfl, ho, hb⟩
      obtain ⟨ao, cap, rfl⟩ := ho.shape
      go_wp2
      go_ret
      exact ⟨_, rfl, ho, hb⟩
    · have hr : restN x = x := by unfold restN; rw [if_neg a3]
      generalize bl (rbX (restN x) (Lib.bitLen x.natAbs)) (Lib.bitLen x.natAbs) = L at *
      rw [hr] at HN
      clear hr hb a
      generalize Lib.bitLen x.natAbs = n at *
      go_enter Try.func67, Try.ntmps67
      go_wp2_with fail
      refine HS.out.mono ?_
      rintro e w1 ⟨rfl, rfl⟩
      go_wp2_with fail
      refine (HN.out _).mono ?_
      rintro e w1 ⟨v, rfl, ho, hb⟩
      obtain ⟨ao, cap, rfl⟩ := ho.shape
      go_wp2
      go_ret
      exact ⟨_, rfl, ho, hb⟩
  · rw [sz_out a] at HS
    rw [rest_out a]
    clear a
    go_enter Try.func67, Try.ntmps67
    go_wp2_with fail
    refine HS.out.mono ?_
    rintro e w1 ⟨rfl, rfl⟩
    go_wp2
    go_ret
    exact ⟨_, rfl, Own.empty _ _ _ _ (Nat.le_refl _), (Below.refl _ _).alloc (Nat.le_refl _) _⟩

set_option maxHeartbeats 800000 in
theorem spec_rest (x : Int) (w : World) (h0 : -9223372036854775808 ≤ x) (h1 : x ≤ 9223372036854775807) :
    Calls Try.prog 48 #[.int .i64 x] w fun e w' => ∃ v, e = .returned v ∧ Own w' w.heap.size 3 .i64 v (restL x) ∧ Below w.heap.size w w' := by
  have HS := hid (spec_size x w h0 h1)
  by_cases a : -2047 ≤ x ∧ x ≤ 2047
  · have hl := (bitLen_at x.natAbs 0 (by omega) (by omega)).2
    have hp := pow_small (Lib.bitLen x.natAbs) hl
    have hb := restN_bd a
    have HN := hid (fun q => spec_numBits (restN x) (Lib.bitLen x.natAbs) q (by omega) hb.1 hb.2)
    have HP := hid (fun q => pow2_any (Lib.bitLen x.natAbs) q (by omega))
    rw [sz_in a] at HS
    rw [rest_in a]
    have a1 := a.1
    have a2 := a.2
    by_cases a3 : x < 0
    · have hr : restN x = x + 2 ^ Lib.bitLen x.natAbs - 1 := by unfold restN; rw [if_pos a3]
      generalize bl (rbX (restN x) (Lib.bitLen x.natAbs)) (Lib.bitLen x.natAbs) = L at *
      rw [hr] at HN
      clear hr hb a
      generalize Lib.bitLen x.natAbs = n at *
      generalize hP : (2 : Int) ^ n = P at *
      go_enter Try.func48, Try.ntmps48
      go_wp2_with fail
      refine HS.out.mono ?_
      rintro e w1 ⟨rfl, rfl⟩
      go_wp2_with fail
      refine (HP.out _).mono ?_
      rintro e w1 ⟨rfl, rfl⟩
      go_wp2_with fail
      refine (HN.out _).mono ?_
      rintro e w1 ⟨v, rfl, ho, hb⟩
      obtain ⟨ao, cap, rfl⟩ := ho.shape
      go_wp2
      go_ret
      exact ⟨_, rfl, ho, hb⟩
    · have hr : restN x = x := by unfold restN; rw [if_neg a3]
      generalize bl (rbX (restN x) (Lib.bitLen x.natAbs)) (Lib.bitLen x.natAbs) = L at *
      rw [hr] at HN
      clear hr hb a HP
      generalize Lib.bitLen x.natAbs = n at *
      go_enter Try.func48, Try.ntmps48
      go_wp2_with fail
      refine HS.out.mono ?_
      rintro e w1 ⟨rfl, rfl⟩
      go_wp2_with fail
      refine (HN.out _).mono ?_
      rintro e w1 ⟨v, rfl, ho, hb⟩
      obtain ⟨ao, cap, rfl⟩ := ho.shape
      go_wp2
      go_ret
      exact ⟨_, rfl, ho, hb⟩
  · rw [sz_out a] at HS
    rw [rest_out a]
    clear a
    go_enter Try.func48, Try.ntmps48
    go_wp2_with fail
    refine HS.out.mono ?_
    rintro e w1 ⟨rfl, rfl⟩
    go_wp2
    go_ret
    exact ⟨_, rfl, Own.empty _ _ _ _ (Nat.le_refl _), (Below.refl _ _).alloc (Nat.le_refl _) _⟩

end Go.Proofs.Ytnnakmgngkpghaa
