/- Contracts of FromRest, of the program and of the specification, and the walk of the law FnExactFromRest. -/
import Derived.Test.YtcikmgdfelejpaaRest
namespace Go.Proofs.Ytcikmgdfelejpaa
open Go.RowKit
set_option linter.unusedVariables false

/-- All numbers of a list are bits. -/
def AllBits (xs : List Int) : Prop := ∀ j, j < xs.length → Bit (xs.getD j 0)
/-- The number that bits are the rest of. -/
def frv (xs : List Int) : Int := if 0 < xs.length ∧ xs.getD 0 0 = 0 then num (pad xs) 0 xs.length - (2 ^ xs.length - 1) else num (pad xs) 0 xs.length
/-- The bits are a rest of n bits. -/
def GoodRest (n : Int) (xs : List Int) : Prop := (0 ≤ n ∧ n ≤ 11) ∧ (xs.length : Int) = n ∧ AllBits xs
theorem ret_ib {a b : Int} {c : Bool} (h : a = b) : Ending.returned (.tuple #[.int .i64 a, .bool c]) = .returned (.tuple #[.int .i64 b, .bool c]) := by rw [h]
theorem sz2047 : sz 2047 = 11 := by decide +kernel
theorem frv_low {xs : List Int} (h : 0 < xs.length ∧ xs.getD 0 0 = 0) : frv xs = num (pad xs) 0 xs.length - (2 ^ xs.length - 1) := by unfold frv; rw [if_pos h]
theorem frv_high {xs : List Int} (h : ¬ (0 < xs.length ∧ xs.getD 0 0 = 0)) : frv xs = num (pad xs) 0 xs.length := by unfold frv; rw [if_neg h]

set_option maxHeartbeats 1600000 in
theorem impl_from (ao : Option Addr) (cap : Nat) (xs : List Int) (w : World) (hl : xs.length ≤ 11) (hv : View .i64 w ao xs.length xs) (hall : AllBits xs) :
    Calls Try.prog 103 #[.int .i64 xs.length, .slice ao xs.length cap] w fun e w' => e = .returned (.tuple #[.int .i64 (frv xs), .bool true]) ∧ Below w.heap.size w w' := by
  have HS := hid (impl_size 2047 w (by decide) (by decide))
  rw [sz2047] at HS
  have HB := hid (areBits_yes ao xs.length cap xs w (by omega) hv hall)
  have HN := hid (impl_bitsNum ao xs.length cap xs w (by omega) hv hall)
  have HV := hid hv
  have hp := pow_small xs.length hl
  have hnum := num_bd (pad xs) (pad_bit xs hall) 0 xs.length
  have n0 := hnum.1
  have n1 := hnum.2
  by_cases h : 0 < xs.length ∧ xs.getD 0 0 = 0
  · have hf := hid (frv_low h)
    obtain ⟨b, off, rfl, hc⟩ := hv.2 0 h.1
    have hpos : (0 : Int) < (xs.length : Int) := by omega
    rw [h.2] at hc
    have HC := hid (fun w' (hb : Below w.heap.size w w') => (hb.cell (p := ⟨b, off + 0, none⟩) (World.block_lt_of_cell? w _ hc)).trans hc)
    clear hv hall h hnum HV hc
    generalize num (pad xs) 0 xs.length = N at *
    generalize xs.length = n at *
    generalize hP : (2 : Int) ^ n = P at *
    have hnn : ((n : Int) != (n : Int)) = false := by simp
    go_enter Try.func103, Try.ntmps103
    go_wp2_with (first
      | (go_at_call 73; refine HS.out.mono ?_; rintro e w1 ⟨rfl, rfl⟩)
      | (go_at_call 54; refine HB.out.mono ?_; rintro e w1 ⟨rfl, rfl⟩))
    refine HN.out.mono ?_
    rintro e w1 ⟨rfl, hb⟩
    have hc1 := HC.out w1 hb
    simp only [Nat.add_zero] at hc1
    go_wp2
    go_ret2
    exact ⟨ret_ib (by rw [hf.out]), hb⟩
  · have hf := hid (frv_high h)
    by_cases hpos : 0 < xs.length
    · have hne : xs.getD 0 0 ≠ 0 := fun e => h ⟨hpos, e⟩
      have h1 : xs.getD 0 0 = 1 := (hall 0 hpos).resolve_left hne
      obtain ⟨b, off, rfl, hc⟩ := hv.2 0 hpos
      have hpos' : (0 : Int) < (xs.length : Int) := by omega
      rw [h1] at hc
      have HC := hid (fun w' (hb : Below w.heap.size w w') => (hb.cell (p := ⟨b, off + 0, none⟩) (World.block_lt_of_cell? w _ hc)).trans hc)
      clear hv hall h hnum HV hc h1 hne
      generalize num (pad xs) 0 xs.length = N at *
      generalize xs.length = n at *
      generalize (2 : Int) ^ n = P at *
      have hnn : ((n : Int) != (n : Int)) = false := by simp
      go_enter Try.func103, Try.ntmps103
      go_wp2_with (first
        | (go_at_call 73; refine HS.out.mono ?_; rintro e w1 ⟨rfl, rfl⟩)
        | (go_at_call 54; refine HB.out.mono ?_; rintro e w1 ⟨rfl, rfl⟩))
      refine HN.out.mono ?_
      rintro e w1 ⟨rfl, hb⟩
      have hc1 := HC.out w1 hb
      simp only [Nat.add_zero] at hc1
      go_wp2
      go_ret2
      exact ⟨ret_ib (by rw [hf.out]), hb⟩
    · have hz : xs.length = 0 := by omega
      clear hv hall h hnum HV
      generalize num (pad xs) 0 xs.length = N at *
      generalize xs.length = n at *
      subst hz
      go_enter Try.func103, Try.ntmps103
      go_wp2_with (first
        | (go_at_call 73; refine HS.out.mono ?_; rintro e w1 ⟨rfl, rfl⟩)
        | (go_at_call 54; refine HB.out.mono ?_; rintro e w1 ⟨rfl, rfl⟩))
      refine HN.out.mono ?_
      rintro e w1 ⟨rfl, hb⟩
      go_wp2
      go_ret2
      exact ⟨ret_ib (by rw [hf.out]), hb⟩

set_option maxHeartbeats 1600000 in
theorem impl_from_no (ao : Option Addr) (cap : Nat) (n : Int) (xs : List Int) (w : World) (hl : xs.length ≤ 1048576) (hv : View .i64 w ao xs.length xs) (hbad : ¬ GoodRest n xs) :
    Calls Try.prog 103 #[.int .i64 n, .slice ao xs.length cap] w fun e w' => e = .returned (.tuple #[.int .i64 0, .bool false]) ∧ Below w.heap.size w w' := by
  have HS := hid (impl_size 2047 w (by decide) (by decide))
  rw [sz2047] at HS
  by_cases a1 : n < 0
  · clear hbad
    go_enter Try.func103, Try.ntmps103
    go_wp2_with fail
    go_ret2
    exact ⟨rfl, Below.refl _ _⟩
  · by_cases a2 : 11 < n
    · clear hbad
      go_enter Try.func103, Try.ntmps103
      go_wp2_with (go_at_call 73; refine HS.out.mono ?_; rintro e w1 ⟨rfl, rfl⟩)
      go_ret2
      exact ⟨rfl, Below.refl _ _⟩
    · by_cases a3 : (xs.length : Int) = n
      · have a4 : ¬ AllBits xs := fun h => hbad ⟨⟨by omega, by omega⟩, a3, h⟩
        have HB := hid (areBits_no ao xs.length cap xs w (by omega) hv a4)
        subst a3
        have hnn : ((xs.length : Int) != (xs.length : Int)) = false := by simp
        clear hbad a4 hv
        go_enter Try.func103, Try.ntmps103
        go_wp2_with (first
          | (go_at_call 73; refine HS.out.mono ?_; rintro e w1 ⟨rfl, rfl⟩)
          | (go_at_call 54; refine HB.out.mono ?_; rintro e w1 ⟨rfl, rfl⟩))
        go_ret2
        exact ⟨rfl, Below.refl _ _⟩
      · have hnn : ((xs.length : Int) != n) = true := by simpa using a3
        clear hbad hv a3
        go_enter Try.func103, Try.ntmps103
        go_wp2_with (go_at_call 73; refine HS.out.mono ?_; rintro e w1 ⟨rfl, rfl⟩)
        go_ret2
        exact ⟨rfl, Below.refl _ _⟩

set_option maxHeartbeats 1600000 in
theorem spec_from (ao : Option Addr) (cap : Nat) (xs : List Int) (w : World) (hl : xs.length ≤ 11) (hv : View .i64 w ao xs.length xs) (hall : AllBits xs) :
    Calls Try.prog 98 #[.int .i64 xs.length, .slice ao xs.length cap] w fun e w' => e = .returned (.tuple #[.int .i64 (frv xs), .bool true]) ∧ w = w' := by
  have HS := hid (spec_in (xs.length : Int) 0 11 w)
  rw [show decide ((0 : Int) ≤ (xs.length : Int) ∧ (xs.length : Int) ≤ 11) = true by simp; omega] at HS
  have HB := hid (specBits_yes ao xs.length cap xs w (by omega) hv hall)
  have HN := hid (spec_bitsNum ao xs.length cap xs w (by omega) hv hall)
  have HP := hid (pow2_any xs.length w (by omega))
  have hp := pow_small xs.length hl
  have hnum := num_bd (pad xs) (pad_bit xs hall) 0 xs.length
  have n0 := hnum.1
  have n1 := hnum.2
  by_cases h : 0 < xs.length ∧ xs.getD 0 0 = 0
  · have hf := hid (frv_low h)
    obtain ⟨b, off, rfl, hc⟩ := hv.2 0 h.1
    have hpos : (0 : Int) < (xs.length : Int) := by omega
    rw [h.2, Nat.add_zero] at hc
    clear hv hall h hnum
    generalize num (pad xs) 0 xs.length = N at *
    generalize xs.length = n at *
    generalize (2 : Int) ^ n = P at *
    have hnn : ((n : Int) != (n : Int)) = false := by simp
    go_enter Try.func98, Try.ntmps98
    go_wp2_with (first
      | (go_at_call 51; refine HS.out.mono ?_; rintro e w1 ⟨rfl, rfl⟩)
      | (go_at_call 52; refine HB.out.mono ?_; rintro e w1 ⟨rfl, rfl⟩)
      | (go_at_call 112; refine HN.out.mono ?_; rintro e w1 ⟨rfl, rfl⟩)
      | (go_at_call 68; refine HP.out.mono ?_; rintro e w1 ⟨rfl, rfl⟩))
    go_ret2
    exact ⟨ret_ib (by rw [hf.out]; omega), rfl⟩
  · have hf := hid (frv_high h)
    by_cases hpos : 0 < xs.length
    · have hne : xs.getD 0 0 ≠ 0 := fun e => h ⟨hpos, e⟩
      have h1 : xs.getD 0 0 = 1 := (hall 0 hpos).resolve_left hne
      obtain ⟨b, off, rfl, hc⟩ := hv.2 0 hpos
      have hpos' : (0 : Int) < (xs.length : Int) := by omega
      rw [h1, Nat.add_zero] at hc
      clear hv hall h hnum h1 hne HP
      generalize num (pad xs) 0 xs.length = N at *
      generalize xs.length = n at *
      generalize (2 : Int) ^ n = P at *
      have hnn : ((n : Int) != (n : Int)) = false := by simp
      go_enter Try.func98, Try.ntmps98
      go_wp2_with (first
        | (go_at_call 51; refine HS.out.mono ?_; rintro e w1 ⟨rfl, rfl⟩)
        | (go_at_call 52; refine HB.out.mono ?_; rintro e w1 ⟨rfl, rfl⟩)
        | (go_at_call 112; refine HN.out.mono ?_; rintro e w1 ⟨rfl, rfl⟩))
      go_ret2
      exact ⟨ret_ib (by rw [hf.out]), rfl⟩
    · have hz : xs.length = 0 := by omega
      clear hv hall h hnum HP
      generalize num (pad xs) 0 xs.length = N at *
      generalize xs.length = n at *
      subst hz
      go_enter Try.func98, Try.ntmps98
      go_wp2_with (first
        | (go_at_call 51; refine HS.out.mono ?_; rintro e w1 ⟨rfl, rfl⟩)
        | (go_at_call 52; refine HB.out.mono ?_; rintro e w1 ⟨rfl, rfl⟩)
        | (go_at_call 112; refine HN.out.mono ?_; rintro e w1 ⟨rfl, rfl⟩))
      go_ret2
      exact ⟨ret_ib (by rw [hf.out]), rfl⟩

set_option maxHeartbeats 1600000 in
theorem spec_from_no (ao : Option Addr) (cap : Nat) (n : Int) (xs : List Int) (w : World) (hl : xs.length ≤ 1048576) (hv : View .i64 w ao xs.length xs) (hbad : ¬ GoodRest n xs) :
    Calls Try.prog 98 #[.int .i64 n, .slice ao xs.length cap] w fun e w' => e = .returned (.tuple #[.int .i64 0, .bool false]) ∧ w = w' := by
  have HS := hid (spec_in n 0 11 w)
  by_cases a1 : 0 ≤ n ∧ n ≤ 11
  · rw [show decide ((0 : Int) ≤ n ∧ n ≤ 11) = true by simpa using a1] at HS
    by_cases a3 : (xs.length : Int) = n
    · have a4 : ¬ AllBits xs := fun h => hbad ⟨a1, a3, h⟩
      have HB := hid (specBits_no ao xs.length cap xs w (by omega) hv a4)
      subst a3
      have hnn : ((xs.length : Int) != (xs.length : Int)) = false := by simp
      clear hbad a4 hv a1
      go_enter Try.func98, Try.ntmps98
      go_wp2_with (first
        | (go_at_call 51; refine HS.out.mono ?_; rintro e w1 ⟨rfl, rfl⟩)
        | (go_at_call 52; refine HB.out.mono ?_; rintro e w1 ⟨rfl, rfl⟩))
      go_ret2
      exact ⟨rfl, rfl⟩
    · have hnn : ((xs.length : Int) != n) = true := by simpa using a3
      clear hbad hv a3 a1
      go_enter Try.func98, Try.ntmps98
      go_wp2_with (go_at_call 51; refine HS.out.mono ?_; rintro e w1 ⟨rfl, rfl⟩)
      go_ret2
      exact ⟨rfl, rfl⟩
  · rw [show decide ((0 : Int) ≤ n ∧ n ≤ 11) = false by simpa using a1] at HS
    clear hbad hv a1
    go_enter Try.func98, Try.ntmps98
    go_wp2_with (go_at_call 51; refine HS.out.mono ?_; rintro e w1 ⟨rfl, rfl⟩)
    go_ret2
    exact ⟨rfl, rfl⟩

theorem both_from (n : Int) (xs : List Int) (hl : xs.length ≤ 1048576) : ∃ (r : Int) (b : Bool),
    (∀ ao cap w, View .i64 w ao xs.length xs → Calls Try.prog 98 #[.int .i64 n, .slice ao xs.length cap] w fun e w' => e = .returned (.tuple #[.int .i64 r, .bool b]) ∧ w = w') ∧
    (∀ ao cap w, View .i64 w ao xs.length xs → Calls Try.prog 103 #[.int .i64 n, .slice ao xs.length cap] w fun e w' => e = .returned (.tuple #[.int .i64 r, .bool b]) ∧ Below w.heap.size w w') := by
  by_cases h : GoodRest n xs
  · obtain ⟨h1, h2, h3⟩ := h
    subst h2
    exact ⟨frv xs, true, fun ao cap w hv => spec_from ao cap xs w (by omega) hv h3, fun ao cap w hv => impl_from ao cap xs w (by omega) hv h3⟩
  · exact ⟨0, false, fun ao cap w hv => spec_from_no ao cap n xs w hl hv h, fun ao cap w hv => impl_from_no ao cap n xs w hl hv h⟩

end Go.Proofs.Ytcikmgdfelejpaa
