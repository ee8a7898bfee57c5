/- The walks of the laws FnExactGetBits and FnExactNumBits. -/
import Derived.Test.YtfhhcjemmkjkhaaNumB
namespace Go.Proofs.Ytfhhcjemmkjkhaa
open Go.RowKit
set_option linter.unusedVariables false

/-- Both GetBits come to one list. -/
theorem both_getBits (s : ByteArray) (hs : s.size ≤ 1048576) : ∃ L : List Int, L.length ≤ 480000 ∧
    (∀ w, Calls Try.prog 28 #[.string s] w fun e w' => ∃ v, e = .returned v ∧ Own w' w.heap.size 3 .i64 v L ∧ Below w.heap.size w w') ∧
    (∀ w, Calls Try.prog 13 #[.string s] w fun e w' => ∃ v, e = .returned v ∧ Own w' w.heap.size 3 .i64 v L ∧ Below w.heap.size w w') := by
  by_cases h : 60000 < s.size
  · exact ⟨[], by simp, fun w => spec_getBits_no s w h hs, fun w => impl_getBits_no s w h hs⟩
  · exact ⟨_, by rw [bl_length]; omega, fun w => spec_getBits s w (by omega), fun w => impl_getBits s w (by omega)⟩

theorem both_numBits (x n : Int) : ∃ L : List Int, L.length ≤ 480000 ∧
    (∀ w, Calls Try.prog 17 #[.int .i64 x, .int .i64 n] w fun e w' => ∃ v, e = .returned v ∧ Own w' w.heap.size 3 .i64 v L ∧ Below w.heap.size w w') ∧
    (∀ w, Calls Try.prog 16 #[.int .i64 x, .int .i64 n] w fun e w' => ∃ v, e = .returned v ∧ Own w' w.heap.size 3 .i64 v L ∧ Below w.heap.size w w') := by
  by_cases h : n < 0 ∨ 32 < n ∨ x < 0 ∨ 2 ^ n.toNat ≤ x
  · exact ⟨[], by simp, fun w => spec_numBits_no x n w h, fun w => impl_numBits_no x n w h⟩
  · obtain ⟨k, rfl⟩ := Int.eq_ofNat_of_zero_le (show 0 ≤ n by omega)
    have hx : x < 2 ^ k := by
      have : ¬ (2 : Int) ^ (k : Int).toNat ≤ x := fun h2 => h (.inr (.inr (.inr h2)))
      rw [Int.toNat_natCast] at this
      omega
    exact ⟨_, by rw [bl_length]; omega, fun w => spec_numBits x k w (by omega) (by omega) hx, fun w => impl_numBits x k w (by omega) (by omega) hx⟩

set_option maxHeartbeats 1600000 in
theorem law_getBits (s : ByteArray) (hs : s.size ≤ maxLen) (w : World) :
    Calls Try.prog 6 #[.string s] w fun e w' => e = .returned (.bool true) ∧ Below w.heap.size w w' := by
  unfold maxLen at hs
  by_cases hl : (1048576 : Int) < (s.size : Int)
  · go_enter Try.func6, Try.ntmps6
    go_wp2
    go_ret
    exact ⟨rfl, Below.refl _ _⟩
  · have hs' : s.size ≤ 1048576 := by omega
    obtain ⟨L, hL, hS, hI⟩ := both_getBits s hs'
    have HS := hid hS
    have HI := hid hI
    clear hS hI
    go_enter Try.func6, Try.ntmps6
    go_wp2_with fail
    refine (HS.out _).mono ?_
    rintro e w1 ⟨v1, rfl, ho1, hb1⟩
    obtain ⟨a1, c1, rfl, hv1⟩ := ho1.view
    have HV1 := hid hv1
    have B1 := hid hb1
    clear ho1 hv1 hb1
    go_wp2_with fail
    refine (HI.out _).mono ?_
    rintro e w2 ⟨v2, rfl, ho2, hb2⟩
    obtain ⟨a2, c2, rfl, hv2⟩ := ho2.view
    have HV2 := hid hv2
    have HO2 := hid ho2
    have HV12 := hid (HV1.out.below (Nat.le_refl _) hb2)
    have B12 := hid hb2
    clear ho2 hv2 hb2
    go_wp2_with fail
    refine (eqInts_same _ _ L.length _ _ L w2 (by omega) HV2.out HV12.out).mono ?_
    rintro e w3 ⟨rfl, hb3⟩
    have HO3 := hid (HO2.out.below hb3)
    have B13 := hid (B12.out.trans (hb3.mono B12.out.size))
    clear hb3 HV2 HV12 HO2 B12
    go_wp2_with fail
    refine (mark_any _ _ L _ (by omega) HO3.out).mono ?_
    rintro e w4 ⟨rfl, ho4, hb4⟩
    have HO4 := hid ho4
    have hv4 : View .i64 w4 a2 L.length (marks L.length) := by
      obtain ⟨a4, c4, hs4, hv4⟩ := ho4.view
      rw [marks_length] at hs4 hv4
      cases hs4
      exact hv4
    have HV4 := hid hv4
    have B14 := hid (B13.out.trans hb4)
    clear ho4 hv4 hb4 HO3 B13
    go_wp2_with fail
    refine (held_any _ _ _ _ (by omega) HV4.out).mono ?_
    rintro e w5 ⟨rfl, rfl⟩
    have hp : ¬ ((L.length : Int) + 1 < 0) := by omega
    go_wp2_with fail
    refine (HI.out _).mono ?_
    rintro e w6 ⟨v6, rfl, ho6, hb6⟩
    obtain ⟨a6, c6, rfl, hv6⟩ := ho6.view
    have HV6 := hid hv6
    have B16 := hid (B14.out.trans (hb6.mono B14.out.size))
    have HV16 := hid (HV1.out.below (Nat.le_refl _) B16.out)
    have HV46 := hid (HV4.out.below (Nat.le_refl _) hb6)
    clear ho6 hv6 hb6 HV4 HO4 B14
    go_wp2_with fail
    refine (eqInts_same _ _ L.length _ _ L w6 (by omega) HV6.out HV16.out).mono ?_
    rintro e w7 ⟨rfl, hb7⟩
    have HV7 := hid (HV46.out.below (Nat.le_refl _) hb7)
    have B17 := hid (B16.out.trans (hb7.mono B16.out.size))
    clear hb7
    go_wp2_with fail
    refine (held_any _ _ _ _ (by omega) HV7.out).mono ?_
    rintro e w8 ⟨rfl, rfl⟩
    go_wp2
    go_ret
    exact ⟨rfl, B1.out.trans (B17.out.mono B1.out.size)⟩

set_option maxHeartbeats 1600000 in
theorem law_numBits (x n : Int) (hx : (Lit.int .i64 x).wf = true) (hn : (Lit.int .i64 n).wf = true) (w : World) :
    Calls Try.prog 7 #[.int .i64 x, .int .i64 n] w fun e w' => e = .returned (.bool true) ∧ Below w.heap.size w w' := by
  clear hx hn
  · obtain ⟨L, hL, hS, hI⟩ := both_numBits x n
    have HS := hid hS
    have HI := hid hI
    clear hS hI
    go_enter Try.func7, Try.ntmps7
    go_wp2_with fail
    refine (HS.out _).mono ?_
    rintro e w1 ⟨v1, rfl, ho1, hb1⟩
    obtain ⟨a1, c1, rfl, hv1⟩ := ho1.view
    have HV1 := hid hv1
    have B1 := hid hb1
    clear ho1 hv1 hb1
    go_wp2_with fail
    refine (HI.out _).mono ?_
    rintro e w2 ⟨v2, rfl, ho2, hb2⟩
    obtain ⟨a2, c2, rfl, hv2⟩ := ho2.view
    have HV2 := hid hv2
    have HO2 := hid ho2
    have HV12 := hid (HV1.out.below (Nat.le_refl _) hb2)
    have B12 := hid hb2
    clear ho2 hv2 hb2
    go_wp2_with fail
    refine (eqInts_same _ _ L.length _ _ L w2 (by omega) HV2.out HV12.out).mono ?_
    rintro e w3 ⟨rfl, hb3⟩
    have HO3 := hid (HO2.out.below hb3)
    have B13 := hid (B12.out.trans (hb3.mono B12.out.size))
    clear hb3 HV2 HV12 HO2 B12
    go_wp2_with fail
    refine (mark_any _ _ L _ (by omega) HO3.out).mono ?_
    rintro e w4 ⟨rfl, ho4, hb4⟩
    have HO4 := hid ho4
    have hv4 : View .i64 w4 a2 L.length (marks L.length) := by
      obtain ⟨a4, c4, hs4, hv4⟩ := ho4.view
      rw [marks_length] at hs4 hv4
      cases hs4
      exact hv4
    have HV4 := hid hv4
    have B14 := hid (B13.out.trans hb4)
    clear ho4 hv4 hb4 HO3 B13
    go_wp2_with fail
    refine (held_any _ _ _ _ (by omega) HV4.out).mono ?_
    rintro e w5 ⟨rfl, rfl⟩
    have hp : ¬ ((L.length : Int) + 1 < 0) := by omega
    go_wp2_with fail
    refine (HI.out _).mono ?_
    rintro e w6 ⟨v6, rfl, ho6, hb6⟩
    obtain ⟨a6, c6, rfl, hv6⟩ := ho6.view
    have HV6 := hid hv6
    have B16 := hid (B14.out.trans (hb6.mono B14.out.size))
    have HV16 := hid (HV1.out.below (Nat.le_refl _) B16.out)
    have HV46 := hid (HV4.out.below (Nat.le_refl _) hb6)
    clear ho6 hv6 hb6 HV4 HO4 B14
    go_wp2_with fail
    refine (eqInts_same _ _ L.length _ _ L w6 (by omega) HV6.out HV16.out).mono ?_
    rintro e w7 ⟨rfl, hb7⟩
    have HV7 := hid (HV46.out.below (Nat.le_refl _) hb7)
    have B17 := hid (B16.out.trans (hb7.mono B16.out.size))
    clear hb7
    go_wp2_with fail
    refine (held_any _ _ _ _ (by omega) HV7.out).mono ?_
    rintro e w8 ⟨rfl, rfl⟩
    go_wp2
    go_ret
    exact ⟨rfl, B1.out.trans (B17.out.mono B1.out.size)⟩
end Go.Proofs.Ytfhhcjemmkjkhaa
