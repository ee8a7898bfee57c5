/- Contracts of Rest, of the program and of the specification, and the walk of the law FnExactRest. -/
import Derived.Test.YtdlookcklkdonabSize
import Derived.Test.YtdlookcklkdonabNumB
namespace Go.Proofs.Ytdlookcklkdonab
open Go.RowKit
set_option linter.unusedVariables false

/-- The number that the rest of x tells. -/
def restN (x : Int) : Int := if x < 0 then x + 2 ^ Lib.bitLen x.natAbs - 1 else x
/-- The rest of x. -/
def restL (x : Int) : List Int := if -2047 ≤ x ∧ x ≤ 2047 then bl (rbX (restN x) (Lib.bitLen x.natAbs)) (Lib.bitLen x.natAbs) else []
theorem rest_in {x : Int} (h : -2047 ≤ x ∧ x ≤ 2047) : restL x = bl (rbX (restN x) (Lib.bitLen x.natAbs)) (Lib.bitLen x.natAbs) := by unfold restL; rw [if_pos h]
theorem rest_out {x : Int} (h : ¬ (-2047 ≤ x ∧ x ≤ 2047)) : restL x = [] := by unfold restL; rw [if_neg h]
theorem bitLen_pow (m : Nat) (hm : m ≤ 2047) : (m : Int) < 2 ^ Lib.bitLen m := by
  have h := bitLen_at m (Lib.bitLen m) hm (bitLen_at m 0 hm (by omega)).2
  have : m < 2 ^ Lib.bitLen m := Nat.lt_of_not_le fun e => absurd (h.1.1 e) (by omega)
  exact_mod_cast this
theorem restN_bd {x : Int} (h : -2047 ≤ x ∧ x ≤ 2047) : 0 ≤ restN x ∧ restN x < 2 ^ Lib.bitLen x.natAbs := by
  have := bitLen_pow x.natAbs (by omega)
  unfold restN
  generalize (2 : Int) ^ Lib.bitLen x.natAbs = P at *
  split <;> omega
theorem restL_len (x : Int) : (restL x).length ≤ 11 := by
  unfold restL
  split
  · rw [bl_length]
    exact (bitLen_at x.natAbs 0 (by omega) (by omega)).2
  · simp
theorem pow_small (n : Nat) (h : n ≤ 11) : (1 : Int) ≤ 2 ^ n ∧ (2 : Int) ^ n ≤ 2048 := by
  have h1 := pow2_mono 0 n
  have h2 := pow2_mono n (11 - n)
  rw [Nat.zero_add] at h1
  rw [show n + (11 - n) = 11 by omega] at h2
  exact ⟨h1, h2⟩

set_option maxHeartbeats 800000 in
theorem impl_rest (x : Int) (w : World) (h0 : -9223372036854775808 ≤ x) (h1 : x ≤ 9223372036854775807) :
    Calls Try.prog 12 #[.int .i64 x] w fun e w' => ∃ v, e = .returned v ∧ Own w' w.heap.size 3 .i64 v (restL x) ∧ Below w.heap.size w w' := by
  have HS := hid (impl_size x w h0 h1)
  by_cases a : -2047 ≤ x ∧ x ≤ 2047
  · have hl := (bitLen_at x.natAbs 0 (by omega) (by omega)).2
    have hp := pow_small (Lib.bitLen x.natAbs) hl
    have hb := restN_bd a
    have HN := hid (fun q => impl_numBits (restN x) (Lib.bitLen x.natAbs) q (by omega) hb.1 hb.2)
    rw [sz_in a] at HS
    rw [rest_in a]
    have a1 := a.1
    have a2 := a.2
    by_cases a3 : x < 0
    · have hr : restN x = x + (2 ^ Lib.bitLen x.natAbs - 1) := by unfold restN; rw [if_pos a3]; omega
      generalize bl (rbX (restN x) (Lib.bitLen x.natAbs)) (Lib.bitLen x.natAbs) = L at *
      rw [hr] at HN
      clear hr hb a
      generalize Lib.bitLen x.natAbs = n at *
      generalize hP : (2 : Int) ^ n = P at *
      go_enter Try.func12, Try.ntmps12
      go_wp2_with fail
      refine HS.out.mono ?_
      rintro e w1 ⟨rfl, rfl⟩
      go_wp2_with fail
      refine (HN.out _).mono ?_
      rintro e w1 ⟨v, rfl, ho, hb⟩
      obtain ⟨ao, cap, rfl⟩ := ho.shape
      go_wp2
      go_ret
      exact ⟨_, rfl, ho, hb⟩
    · have hr : restN x = x := by unfold restN; rw [if_neg a3]
      generalize bl (rbX (restN x) (Lib.bitLen x.natAbs)) (Lib.bitLen x.natAbs) = L at *
      rw [hr] at HN
      clear hr hb a
      generalize Lib.bitLen x.natAbs = n at *
      go_enter Try.func12, Try.ntmps12
      go_wp2_with fail
      refine HS.out.mono ?_
      rintro e w1 ⟨rfl, rfl⟩
      go_wp2_with fail
      refine (HN.out _).mono ?_
      rintro e w1 ⟨v, rfl, ho, hb⟩
      obtain ⟨ao, cap, rfl⟩ := ho.shape
      go_wp2
      go_ret
      exact ⟨_, rfl, ho, hb⟩
  · rw [sz_out a] at HS
    rw [rest_out a]
    clear a
    go_enter Try.func12, Try.ntmps12
    go_wp2_with fail
    refine HS.out.mono ?_
    rintro e w1 ⟨rfl, rfl⟩
    go_wp2
    go_ret
    exact ⟨_, rfl, Own.empty _ _ _ _ (Nat.le_refl _), (Below.refl _ _).alloc (Nat.le_refl _) _⟩

set_option maxHeartbeats 800000 in
theorem spec_rest (x : Int) (w : World) (h0 : -9223372036854775808 ≤ x) (h1 : x ≤ 9223372036854775807) :
    Calls Try.prog 11 #[.int .i64 x] w fun e w' => ∃ v, e = .returned v ∧ Own w' w.heap.size 3 .i64 v (restL x) ∧ Below w.heap.size w w' := by
  have HS := hid (spec_size x w h0 h1)
  by_cases a : -2047 ≤ x ∧ x ≤ 2047
  · have hl := (bitLen_at x.natAbs 0 (by omega) (by omega)).2
    have hp := pow_small (Lib.bitLen x.natAbs) hl
    have hb := restN_bd a
    have HN := hid (fun q => spec_numBits (restN x) (Lib.bitLen x.natAbs) q (by omega) hb.1 hb.2)
    have HP := hid (fun q => pow2_any (Lib.bitLen x.natAbs) q (by omega))
    rw [sz_in a] at HS
    rw [rest_in a]
    have a1 := a.1
    have a2 := a.2
    by_cases a3 : x < 0
    · have hr : restN x = x + 2 ^ Lib.bitLen x.natAbs - 1 := by unfold restN; rw [if_pos a3]
      generalize bl (rbX (restN x) (Lib.bitLen x.natAbs)) (Lib.bitLen x.natAbs) = L at *
      rw [hr] at HN
      clear hr hb a
      generalize Lib.bitLen x.natAbs = n at *
      generalize hP : (2 : Int) ^ n = P at *
      go_enter Try.func11, Try.ntmps11
      go_wp2_with fail
      refine HS.out.mono ?_
      rintro e w1 ⟨rfl, rfl⟩
      go_wp2_with fail
      refine (HP.out _).mono ?_
      rintro e w1 ⟨rfl, rfl⟩
      go_wp2_with fail
      refine (HN.out _).mono ?_
      rintro e w1 ⟨v, rfl, ho, hb⟩
      obtain ⟨ao, cap, rfl⟩ := ho.shape
      go_wp2
      go_ret
      exact ⟨_, rfl, ho, hb⟩
    · have hr : restN x = x := by unfold restN; rw [if_neg a3]
      generalize bl (rbX (restN x) (Lib.bitLen x.natAbs)) (Lib.bitLen x.natAbs) = L at *
      rw [hr] at HN
      clear hr hb a HP
      generalize Lib.bitLen x.natAbs = n at *
      go_enter Try.func11, Try.ntmps11
      go_wp2_with fail
      refine HS.out.mono ?_
      rintro e w1 ⟨rfl, rfl⟩
      go_wp2_with fail
      refine (HN.out _).mono ?_
      rintro e w1 ⟨v, rfl, ho, hb⟩
      obtain ⟨ao, cap, rfl⟩ := ho.shape
      go_wp2
      go_ret
      exact ⟨_, rfl, ho, hb⟩
  · rw [sz_out a] at HS
    rw [rest_out a]
    clear a
    go_enter Try.func11, Try.ntmps11
    go_wp2_with fail
    refine HS.out.mono ?_
    rintro e w1 ⟨rfl, rfl⟩
    go_wp2
    go_ret
    exact ⟨_, rfl, Own.empty _ _ _ _ (Nat.le_refl _), (Below.refl _ _).alloc (Nat.le_refl _) _⟩

set_option maxHeartbeats 1600000 in
theorem law_rest (x : Int) (hx : (Lit.int .i64 x).wf = true) (w : World) :
    Calls Try.prog 4 #[.int .i64 x] w fun e w' => e = .returned (.bool true) ∧ Below w.heap.size w w' := by
  have hx2 := bounds_i64 hx
  have HS := hid (fun q => spec_rest x q hx2.1 hx2.2)
  have HI := hid (fun q => impl_rest x q hx2.1 hx2.2)
  have hL := restL_len x
  generalize restL x = L at *
  clear hx hx2
  · go_enter Try.func4, Try.ntmps4
    go_wp2_with fail
    refine (HS.out _).mono ?_
    rintro e w1 ⟨v1, rfl, ho1, hb1⟩
    obtain ⟨a1, c1, rfl, hv1⟩ := ho1.view
    have HV1 := hid hv1
    have B1 := hid hb1
    clear ho1 hv1 hb1
    go_wp2_with fail
    refine (HI.out _).mono ?_
    rintro e w2 ⟨v2, rfl, ho2, hb2⟩
    obtain ⟨a2, c2, rfl, hv2⟩ := ho2.view
    have HV2 := hid hv2
    have HO2 := hid ho2
    have HV12 := hid (HV1.out.below (Nat.le_refl _) hb2)
    have B12 := hid hb2
    clear ho2 hv2 hb2
    go_wp2_with fail
    refine (eqInts_same _ _ L.length _ _ L w2 (by omega) HV2.out HV12.out).mono ?_
    rintro e w3 ⟨rfl, hb3⟩
    have HO3 := hid (HO2.out.below hb3)
    have B13 := hid (B12.out.trans (hb3.mono B12.out.size))
    clear hb3 HV2 HV12 HO2 B12
    go_wp2_with fail
    refine (mark_any _ _ L _ (by omega) HO3.out).mono ?_
    rintro e w4 ⟨rfl, ho4, hb4⟩
    have HO4 := hid ho4
    have hv4 : View .i64 w4 a2 L.length (marks L.length) := by
      obtain ⟨a4, c4, hs4, hv4⟩ := ho4.view
      rw [marks_length] at hs4 hv4
      cases hs4
      exact hv4
    have HV4 := hid hv4
    have B14 := hid (B13.out.trans hb4)
    clear ho4 hv4 hb4 HO3 B13
    go_wp2_with fail
    refine (held_any _ _ _ _ (by omega) HV4.out).mono ?_
    rintro e w5 ⟨rfl, rfl⟩
    have hp : ¬ ((L.length : Int) + 1 < 0) := by omega
    go_wp2_with fail
    refine (HI.out _).mono ?_
    rintro e w6 ⟨v6, rfl, ho6, hb6⟩
    obtain ⟨a6, c6, rfl, hv6⟩ := ho6.view
    have HV6 := hid hv6
    have B16 := hid (B14.out.trans (hb6.mono B14.out.size))
    have HV16 := hid (HV1.out.below (Nat.le_refl _) B16.out)
    have HV46 := hid (HV4.out.below (Nat.le_refl _) hb6)
    clear ho6 hv6 hb6 HV4 HO4 B14
    go_wp2_with fail
    refine (eqInts_same _ _ L.length _ _ L w6 (by omega) HV6.out HV16.out).mono ?_
    rintro e w7 ⟨rfl, hb7⟩
    have HV7 := hid (HV46.out.below (Nat.le_refl _) hb7)
    have B17 := hid (B16.out.trans (hb7.mono B16.out.size))
    clear hb7
    go_wp2_with fail
    refine (held_any _ _ _ _ (by omega) HV7.out).mono ?_
    rintro e w8 ⟨rfl, rfl⟩
    go_wp2
    go_ret
    exact ⟨rfl, B1.out.trans (B17.out.mono B1.out.size)⟩
end Go.Proofs.Ytdlookcklkdonab
