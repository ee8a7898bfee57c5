/- Contracts of FromRest, of the program and of the specification, and the walk of the law FnExactFromRest. -/
import Derived.Test.YtdlookcklkdonabRest
namespace Go.Proofs.Ytdlookcklkdonab
open Go.RowKit
set_option linter.unusedVariables false

/-- All numbers of a list are bits. -/
def AllBits (xs : List Int) : Prop := ∀ j, j < xs.length → Bit (xs.getD j 0)
/-- The number that bits are the rest of. -/
def frv (xs : List Int) : Int := if 0 < xs.length ∧ xs.getD 0 0 = 0 then num (pad xs) 0 xs.length - (2 ^ xs.length - 1) else num (pad xs) 0 xs.length
/-- The bits are a rest of n bits. -/
def GoodRest (n : Int) (xs : List Int) : Prop := (0 ≤ n ∧ n ≤ 11) ∧ (xs.length : Int) = n ∧ AllBits xs
theorem ret_ib {a b : Int} {c : Bool} (h : a = b) : Ending.returned (.tuple #[.int .i64 a, .bool c]) = .returned (.tuple #[.int .i64 b, .bool c]) := by rw [h]
theorem sz2047 : sz 2047 = 11 := by decide +kernel
theorem frv_low {xs : List Int} (h : 0 < xs.length ∧ xs.getD 0 0 = 0) : frv xs = num (pad xs) 0 xs.length - (2 ^ xs.length - 1) := by unfold frv; rw [if_pos h]
theorem frv_high {xs : List Int} (h : ¬ (0 < xs.length ∧ xs.getD 0 0 = 0)) : frv xs = num (pad xs) 0 xs.length := by unfold frv; rw [if_neg h]

set_option maxHeartbeats 1600000 in
theorem impl_from (ao : Option Addr) (cap : Nat) (xs : List Int) (w : World) (hl : xs.length ≤ 11) (hv : View .i64 w ao xs.length xs) (hall : AllBits xs) :
    Calls Try.prog 18 #[.int .i64 xs.length, .slice ao xs.length cap] w fun e w' => e = .returned (.tuple #[.int .i64 (frv xs), .bool true]) ∧ Below w.heap.size w w' := by
  have HS := hid (impl_size 2047 w (by decide) (by decide))
  rw [sz2047] at HS
  have HB := hid (areBits_yes ao xs.length cap xs w (by omega) hv hall)
  have HN := hid (impl_bitsNum ao xs.length cap xs w (by omega) hv hall)
  have HV := hid hv
  have hp := pow_small xs.length hl
  have hnum := num_bd (pad xs) (pad_bit xs hall) 0 xs.length
  have n0 := hnum.1
  have n1 := hnum.2
  by_cases h : 0 < xs.length ∧ xs.getD 0 0 = 0
  · have hf := hid (frv_low h)
    obtain ⟨b, off, rfl, hc⟩ := hv.2 0 h.1
    have hpos : (0 : Int) < (xs.length : Int) := by omega
    rw [h.2] at hc
    have HC := hid (fun w' (hb : Below w.heap.size w w') => (hb.cell (p := ⟨b, off + 0, none⟩) (World.block_lt_of_cell? w _ hc)).trans hc)
    clear hv hall h hnum HV hc
    generalize num (pad xs) 0 xs.length = N at *
    generalize xs.length = n at *
    generalize hP : (2 : Int) ^ n = P at *
    have hnn : ((n : Int) != (n : Int)) = false := by simp
    go_enter Try.func18, Try.ntmps18
    go_wp2_with (first
      | (go_at_call 10; refine HS.out.mono ?_; rintro e w1 ⟨rfl, rfl⟩)
      | (go_at_call 46; refine HB.out.mono ?_; rintro e w1 ⟨rfl, rfl⟩))
    refine HN.out.mono ?_
    rintro e w1 ⟨rfl, hb⟩
    have hc1 := HC.out w1 hb
    simp only [Nat.add_zero] at hc1
    go_wp2
    go_ret2
    exact ⟨ret_ib (by rw [hf.out]), hb⟩
  · have hf := hid (frv_high h)
    by_cases hpos : 0 < xs.length
    · have hne : xs.getD 0 0 ≠ 0 := fun e => h ⟨hpos, e⟩
      have h1 : xs.getD 0 0 = 1 := (hall 0 hpos).resolve_left hne
      obtain ⟨b, off, rfl, hc⟩ := hv.2 0 hpos
      have hpos' : (0 : Int) < (xs.length : Int) := by omega
      rw [h1] at hc
      have HC := hid (fun w' (hb : Below w.heap.size w w') => (hb.cell (p := ⟨b, off + 0, none⟩) (World.block_lt_of_cell? w _ hc)).trans hc)
      clear hv hall h hnum HV hc h1 hne
      generalize num (pad xs) 0 xs.length = N at *
      generalize xs.length = n at *
      generalize (2 : Int) ^ n = P at *
      have hnn : ((n : Int) != (n : Int)) = false := by simp
      go_enter Try.func18, Try.ntmps18
      go_wp2_with (first
        | (go_at_call 10; refine HS.out.mono ?_; rintro e w1 ⟨rfl, rfl⟩)
        | (go_at_call 46; refine HB.out.mono ?_; rintro e w1 ⟨rfl, rfl⟩))
      refine HN.out.mono ?_
      rintro e w1 ⟨rfl, hb⟩
      have hc1 := HC.out w1 hb
      simp only [Nat.add_zero] at hc1
      go_wp2
      go_ret2
      exact ⟨ret_ib (by rw [hf.out]), hb⟩
    · have hz : xs.length = 0 := by omega
      clear hv hall h hnum HV
      generalize num (pad xs) 0 xs.length = N at *
      generalize xs.length = n at *
      subst hz
      go_enter Try.func18, Try.ntmps18
      go_wp2_with (first
        | (go_at_call 10; refine HS.out.mono ?_; rintro e w1 ⟨rfl, rfl⟩)
        | (go_at_call 46; refine HB.out.mono ?_; rintro e w1 ⟨rfl, rfl⟩))
      refine HN.out.mono ?_
      rintro e w1 ⟨rfl, hb⟩
      go_wp2
      go_ret2
      exact ⟨ret_ib (by rw [hf.out]), hb⟩

set_option maxHeartbeats 1600000 in
theorem impl_from_no (ao : Option Addr) (cap : Nat) (n : Int) (xs : List Int) (w : World) (hl : xs.length ≤ 1048576) (hv : View .i64 w ao xs.length xs) (hbad : ¬ GoodRest n xs) :
    Calls Try.prog 18 #[.int .i64 n, .slice ao xs.length cap] w fun e w' => e = .returned (.tuple #[.int .i64 0, .bool false]) ∧ Below w.heap.size w w' := by
  have HS := hid (impl_size 2047 w (by decide) (by decide))
  rw [sz2047] at HS
  by_cases a1 : n < 0
  · clear hbad
    go_enter Try.func18, Try.ntmps18
    go_wp2_with fail
    go_ret2
    exact ⟨rfl, Below.refl _ _⟩
  · by_cases a2 : 11 < n
    · clear hbad
      go_enter Try.func18, Try.ntmps18
      go_wp2_with (go_at_call 10; refine HS.out.mono ?_; rintro e w1 ⟨rfl, rfl⟩)
      go_ret2
      exact ⟨rfl, Below.refl _ _⟩
    · by_cases a3 : (xs.length : Int) = n
      · have a4 : ¬ AllBits xs := fun h => hbad ⟨⟨by omega, by omega⟩, a3, h⟩
        have HB := hid (areBits_no ao xs.length cap xs w (by omega) hv a4)
        subst a3
        have hnn : ((xs.length : Int) != (xs.length : Int)) = false := by simp
        clear hbad a4 hv
        go_enter Try.func18, Try.ntmps18
        go_wp2_with (first
          | (go_at_call 10; refine HS.out.mono ?_; rintro e w1 ⟨rfl, rfl⟩)
          | (go_at_call 46; refine HB.out.mono ?_; rintro e w1 ⟨rfl, rfl⟩))
        go_ret2
        exact ⟨rfl, Below.refl _ _⟩
      · have hnn : ((xs.length : Int) != n) = true := by simpa using a3
        clear hbad hv a3
        go_enter Try.func18, Try.ntmps18
        go_wp2_with (go_at_call 10; refine HS.out.mono ?_; rintro e w1 ⟨rfl, rfl⟩)
        go_ret2
        exact ⟨rfl, Below.refl _ _⟩

set_option maxHeartbeats 1600000 in
theorem spec_from (ao : Option Addr) (cap : Nat) (xs : List Int) (w : World) (hl : xs.length ≤ 11) (hv : View .i64 w ao xs.length xs) (hall : AllBits xs) :
    Calls Try.prog 16 #[.int .i64 xs.length, .slice ao xs.length cap] w fun e w' => e = .returned (.tuple #[.int .i64 (frv xs), .bool true]) ∧ w = w' := by
  have HS := hid (spec_in (xs.length : Int) 0 11 w)
  rw [show decide ((0 : Int) ≤ (xs.length : Int) ∧ (xs.length : Int) ≤ 11) = true by simp; omega] at HS
  have HB := hid (specBits_yes ao xs.length cap xs w (by omega) hv hall)
  have HN := hid (spec_bitsNum ao xs.length cap xs w (by omega) hv hall)
  have HP := hid (pow2_any xs.length w (by omega))
  have hp := pow_small xs.length hl
  have hnum := num_bd (pad xs) (pad_bit xs hall) 0 xs.length
  have n0 := hnum.1
  have n1 := hnum.2
  by_cases h : 0 < xs.length ∧ xs.getD 0 0 = 0
  · have hf := hid (frv_low h)
    obtain ⟨b, off, rfl, hc⟩ := hv.2 0 h.1
    have hpos : (0 : Int) < (xs.length : Int) := by omega
    rw [h.2, Nat.add_zero] at hc
    clear hv hall h hnum
    generalize num (pad xs) 0 xs.length = N at *
    generalize xs.length = n at *
    generalize (2 : Int) ^ n = P at *
    have hnn : ((n : Int) != (n : Int)) = false := by simp
    go_enter Try.func16, Try.ntmps16
    go_wp2_with (first
      | (go_at_call 39; refine HS.out.mono ?_; rintro e w1 ⟨rfl, rfl⟩)
      | (go_at_call 44; refine HB.out.mono ?_; rintro e w1 ⟨rfl, rfl⟩)
      | (go_at_call 45; refine HN.out.mono ?_; rintro e w1 ⟨rfl, rfl⟩)
      | (go_at_call 40; refine HP.out.mono ?_; rintro e w1 ⟨rfl, rfl⟩))
    go_ret2
    exact ⟨ret_ib (by rw [hf.out]; omega), rfl⟩
  · have hf := hid (frv_high h)
    by_cases hpos : 0 < xs.length
    · have hne : xs.getD 0 0 ≠ 0 := fun e => h ⟨hpos, e⟩
      have h1 : xs.getD 0 0 = 1 := (hall 0 hpos).resolve_left hne
      obtain ⟨b, off, rfl, hc⟩ := hv.2 0 hpos
      have hpos' : (0 : Int) < (xs.length : Int) := by omega
      rw [h1, Nat.add_zero] at hc
      clear hv hall h hnum h1 hne HP
      generalize num (pad xs) 0 xs.length = N at *
      generalize xs.length = n at *
      generalize (2 : Int) ^ n = P at *
      have hnn : ((n : Int) != (n : Int)) = false := by simp
      go_enter Try.func16, Try.ntmps16
      go_wp2_with (first
        | (go_at_call 39; refine HS.out.mono ?_; rintro e w1 ⟨rfl, rfl⟩)
        | (go_at_call 44; refine HB.out.mono ?_; rintro e w1 ⟨rfl, rfl⟩)
        | (go_at_call 45; refine HN.out.mono ?_; rintro e w1 ⟨rfl, rfl⟩))
      go_ret2
      exact ⟨ret_ib (by rw [hf.out]), rfl⟩
    · have hz : xs.length = 0 := by omega
      clear hv hall h hnum HP
      generalize num (pad xs) 0 xs.length = N at *
      generalize xs.length = n at *
      subst hz
      go_enter Try.func16, Try.ntmps16
      go_wp2_with (first
        | (go_at_call 39; refine HS.out.mono ?_; rintro e w1 ⟨rfl, rfl⟩)
        | (go_at_call 44; refine HB.out.mono ?_; rintro e w1 ⟨rfl, rfl⟩)
        | (go_at_call 45; refine HN.out.mono ?_; rintro e w1 ⟨rfl, rfl⟩))
      go_ret2
      exact ⟨ret_ib (by rw [hf.out]), rfl⟩

set_option maxHeartbeats 1600000 in
theorem spec_from_no (ao : Option Addr) (cap : Nat) (n : Int) (xs : List Int) (w : World) (hl : xs.length ≤ 1048576) (hv : View .i64 w ao xs.length xs) (hbad : ¬ GoodRest n xs) :
    Calls Try.prog 16 #[.int .i64 n, .slice ao xs.length cap] w fun e w' => e = .returned (.tuple #[.int .i64 0, .bool false]) ∧ w = w' := by
  have HS := hid (spec_in n 0 11 w)
  by_cases a1 : 0 ≤ n ∧ n ≤ 11
  · rw [show decide ((0 : Int) ≤ n ∧ n ≤ 11) = true by simpa using a1] at HS
    by_cases a3 : (xs.length : Int) = n
    · have a4 : ¬ AllBits xs := fun h => hbad ⟨a1, a3, h⟩
      have HB := hid (specBits_no ao xs.length cap xs w (by omega) hv a4)
      subst a3
      have hnn : ((xs.length : Int) != (xs.length : Int)) = false := by simp
      clear hbad a4 hv a1
      go_enter Try.func16, Try.ntmps16
      go_wp2_with (first
        | (go_at_call 39; refine HS.out.mono ?_; rintro e w1 ⟨rfl, rfl⟩)
        | (go_at_call 44; refine HB.out.mono ?_; rintro e w1 ⟨rfl, rfl⟩))
      go_ret2
      exact ⟨rfl, rfl⟩
    · have hnn : ((xs.length : Int) != n) = true := by simpa using a3
      clear hbad hv a3 a1
      go_enter Try.func16, Try.ntmps16
      go_wp2_with (go_at_call 39; refine HS.out.mono ?_; rintro e w1 ⟨rfl, rfl⟩)
      go_ret2
      exact ⟨rfl, rfl⟩
  · rw [show decide ((0 : Int) ≤ n ∧ n ≤ 11) = false by simpa using a1] at HS
    clear hbad hv a1
    go_enter Try.func16, Try.ntmps16
    go_wp2_with (go_at_call 39; refine HS.out.mono ?_; rintro e w1 ⟨rfl, rfl⟩)
    go_ret2
    exact ⟨rfl, rfl⟩

theorem both_from (n : Int) (xs : List Int) (hl : xs.length ≤ 1048576) : ∃ (r : Int) (b : Bool),
    (∀ ao cap w, View .i64 w ao xs.length xs → Calls Try.prog 16 #[.int .i64 n, .slice ao xs.length cap] w fun e w' => e = .returned (.tuple #[.int .i64 r, .bool b]) ∧ w = w') ∧
    (∀ ao cap w, View .i64 w ao xs.length xs → Calls Try.prog 18 #[.int .i64 n, .slice ao xs.length cap] w fun e w' => e = .returned (.tuple #[.int .i64 r, .bool b]) ∧ Below w.heap.size w w') := by
  by_cases h : GoodRest n xs
  · obtain ⟨h1, h2, h3⟩ := h
    subst h2
    exact ⟨frv xs, true, fun ao cap w hv => spec_from ao cap xs w (by omega) hv h3, fun ao cap w hv => impl_from ao cap xs w (by omega) hv h3⟩
  · exact ⟨0, false, fun ao cap w hv => spec_from_no ao cap n xs w hl hv h, fun ao cap w hv => impl_from_no ao cap n xs w hl hv h⟩

set_option maxHeartbeats 1600000 in
theorem law_from (m : Int) (ao : Option Addr) (n cap : Nat) (zs : List Int) (hm : (Lit.int .i64 m).wf = true) (w : World) (hr : IsRow .i64 w ao n cap zs) :
    Calls Try.prog 5 #[.int .i64 m, .slice ao n cap] w fun e w' => e = .returned (.bool true) ∧ Below w.heap.size w w' := by
  clear hm
  have hlen := hr.len.1
  by_cases hl : (1048576 : Int) < (n : Int)
  · go_enter Try.func5, Try.ntmps5
    go_wp2
    go_ret
    exact ⟨rfl, Below.refl _ _⟩
  · have hn : n ≤ 1048576 := by omega
    have HV := hid hr.view
    have hxn : (zs.take n).length = n := hr.view.1
    generalize zs.take n = xs at *
    subst hxn
    obtain ⟨r, b, hS, hI⟩ := both_from m xs hn
    have HS := hid hS
    have HI := hid hI
    clear hS hI hr
    have hbb : (b != b) = false := by simp
    go_enter Try.func5, Try.ntmps5
    go_wp2_with fail
    refine (toInts ao xs.length cap xs w hn HV.out).mono ?_
    rintro e w1 ⟨v1, rfl, ho1, hb1⟩
    obtain ⟨a1, c1, rfl, hv1⟩ := ho1.view
    have HV1 := hid hv1
    have B2 := hid hb1
    clear ho1 hv1 hb1
    go_wp2_with fail
    refine (HS.out _ _ _ HV1.out).mono ?_
    rintro e w2 ⟨rfl, rfl⟩
    clear HV1
    go_wp2_with fail
    refine (toInts ao xs.length cap xs w1 hn (HV.out.below (Nat.le_refl _) B2.out)).mono ?_
    rintro e w3 ⟨v3, rfl, ho3, hb3⟩
    obtain ⟨a3, c3, rfl, hv3⟩ := ho3.view
    have HV3 := hid hv3
    have B3 := hid (B2.out.trans (hb3.mono B2.out.size))
    clear ho3 hv3 hb3
    go_wp2_with fail
    refine (HI.out _ _ _ HV3.out).mono ?_
    rintro e w4 ⟨rfl, hb4⟩
    have HV4 := hid (HV3.out.below (Nat.le_refl _) hb4)
    have B4 := hid (B3.out.trans (hb4.mono B3.out.size))
    clear hb4 HV3
    go_wp2_with fail
    refine (toInts ao xs.length cap xs w4 hn (HV.out.below (Nat.le_refl _) B4.out)).mono ?_
    rintro e w5 ⟨v5, rfl, ho5, hb5⟩
    obtain ⟨a5, c5, rfl, hv5⟩ := ho5.view
    have HV5 := hid hv5
    have HV45 := hid (HV4.out.below (Nat.le_refl _) hb5)
    have B5 := hid (B4.out.trans (hb5.mono B4.out.size))
    clear ho5 hv5 hb5
    go_wp2_with fail
    refine (eqInts_same _ _ xs.length _ _ xs w5 (by omega) HV45.out HV5.out).mono ?_
    rintro e w6 ⟨rfl, hb6⟩
    go_wp2
    go_ret
    exact ⟨rfl, B5.out.trans (hb6.mono B5.out.size)⟩
end Go.Proofs.Ytdlookcklkdonab
