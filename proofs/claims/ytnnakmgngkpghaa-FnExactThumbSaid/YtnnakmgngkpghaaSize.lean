/- Contracts of Size, of the program and of the specification. -/
import Derived.Test.YtnnakmgngkpghaaMark
import Derived.Shelf.Small.Bits
namespace Go.Proofs.Ytnnakmgngkpghaa
open Go.RowKit Go.Shelf
set_option linter.unusedVariables false

def Try.laysLen_ren : Go.Shelf.Ren := { f := fun x => match x with | 125 => 77 | 128 => 81 | 129 => 82 | n => n, t := fun x => match x with | 46 => 122 | 3 => 3 | 51 => 101 | 53 => 126 | 4 => 4 | 5 => 5 | 9 => 9 | n => n, g := fun n => n }
theorem Try.laysLen : Lays.n125 Try.prog Try.laysLen_ren := {
  mixed := by kernel_rfl
  f125 := Try.func77.trans (by kernel_rfl)
  f128 := Try.func81.trans (by kernel_rfl)
  f129 := Try.func82.trans (by kernel_rfl)
  t3 := Try.underlying3
  a3 := Try.isAgg3
  z3 := Try.sizeOf3
  v3 := Try.zeroValue3
  t4 := Try.underlying4
  a4 := Try.isAgg4
  z4 := Try.sizeOf4
  v4 := Try.zeroValue4
  t5 := Try.underlying5
  a5 := Try.isAgg5
  z5 := Try.sizeOf5
  v5 := Try.zeroValue5
  t9 := Try.underlying9
  a9 := Try.isAgg9
  z9 := Try.sizeOf9
  v9 := Try.zeroValue9
  t46 := Try.underlying122
  a46 := Try.isAgg122
  z46 := Try.sizeOf122
  v46 := Try.zeroValue122
  t51 := Try.underlying101
  a51 := Try.isAgg101
  z51 := Try.sizeOf101
  v51 := Try.zeroValue101
  t53 := Try.underlying126
  a53 := Try.isAgg126
  z53 := Try.sizeOf126
  v53 := Try.zeroValue126 }

/-- The size of a number. -/
def sz (x : Int) : Int := if -2047 ≤ x ∧ x ≤ 2047 then (Lib.bitLen x.natAbs : Int) else -1
theorem bitLen_all : ∀ m : Fin 2048, ∀ c : Fin 12, (2 ^ c.val ≤ m.val ↔ c.val < Lib.bitLen m.val) ∧ Lib.bitLen m.val ≤ 11 := by decide +kernel
theorem bitLen_at (m c : Nat) (hm : m ≤ 2047) (hc : c ≤ 11) : (2 ^ c ≤ m ↔ c < Lib.bitLen m) ∧ Lib.bitLen m ≤ 11 := bitLen_all ⟨m, by omega⟩ ⟨c, by omega⟩
theorem sz_in {x : Int} (h : -2047 ≤ x ∧ x ≤ 2047) : sz x = (Lib.bitLen x.natAbs : Int) := by unfold sz; rw [if_pos h]
theorem sz_out {x : Int} (h : ¬ (-2047 ≤ x ∧ x ≤ 2047)) : sz x = -1 := by unfold sz; rw [if_neg h]
theorem pow_cast (c : Nat) : ((2 ^ c : Nat) : Int) = 2 ^ c := by simp
theorem sz_le (x : Int) : -1 ≤ sz x ∧ sz x ≤ 11 := by
  unfold sz
  split
  · have := (bitLen_at x.natAbs 0 (by omega) (by omega)).2
    omega
  · omega

set_option maxHeartbeats 800000 in
theorem impl_size (x : Int) (w : World) (h0 : -9223372036854775808 ≤ x) (h1 : x ≤ 9223372036854775807) :
    Calls Try.prog 66 #[.int .i64 x] w fun e w' => e = .returned (.int .i64 (sz x)) ∧ w = w' := by
  by_cases a1 : x < -2047
  · have hs := hid (sz_out (x := x) (by omega))
    go_enter Try.func66, Try.ntmps66
    go_wp2_with fail
    go_ret
    exact ⟨ret_int hs.out.symm, rfl⟩
  · by_cases a2 : 2047 < x
    · have hs := hid (sz_out (x := x) (by omega))
      go_enter Try.func66, Try.ntmps66
      go_wp2_with fail
      go_ret
      exact ⟨ret_int hs.out.symm, rfl⟩
    · have hs := hid (sz_in (x := x) (by omega))
      by_cases a3 : x < 0
      · obtain ⟨m, rfl⟩ : ∃ m : Nat, x = -(m : Int) := ⟨x.natAbs, by omega⟩
        have hl := (bitLen_at m 0 (by omega) (by omega)).2
        have HL : Hid (Calls Try.prog 77 #[.int .u64 (max (-(m : Int)) m)] w fun e w' => e = .returned (.int .i64 (Lib.bitLen m)) ∧ w' = w) := hid (by
          rw [show max (-(m : Int)) m = m by omega]
          exact Any.bits_Len Try.laysLen (m : Int) w (by omega) (by omega))
        rw [show (-(m : Int)).natAbs = m by omega] at hs
        go_enter Try.func66, Try.ntmps66
        go_wp2_with fail
        refine HL.out.mono ?_
        rintro e w1 ⟨rfl, rfl⟩
        go_wp2
        go_ret
        exact ⟨ret_int hs.out.symm, rfl⟩
      · obtain ⟨m, rfl⟩ := Int.eq_ofNat_of_zero_le (show 0 ≤ x by omega)
        have hl := (bitLen_at m 0 (by omega) (by omega)).2
        have HL : Hid (Calls Try.prog 77 #[.int .u64 (max (m : Int) (-m))] w fun e w' => e = .returned (.int .i64 (Lib.bitLen m)) ∧ w' = w) := hid (by
          rw [show max (m : Int) (-m) = m by omega]
          exact Any.bits_Len Try.laysLen (m : Int) w (by omega) (by omega))
        rw [show ((m : Int)).natAbs = m by omega] at hs
        go_enter Try.func66, Try.ntmps66
        go_wp2_with fail
        refine HL.out.mono ?_
        rintro e w1 ⟨rfl, rfl⟩
        go_wp2
        go_ret
        exact ⟨ret_int hs.out.symm, rfl⟩

set_option maxHeartbeats 800000 in
theorem spec_size (x : Int) (w : World) (h0 : -9223372036854775808 ≤ x) (h1 : x ≤ 9223372036854775807) :
    Calls Try.prog 47 #[.int .i64 x] w fun e w' => e = .returned (.int .i64 (sz x)) ∧ w = w' := by
  by_cases a : -2047 ≤ x ∧ x ≤ 2047
  · have hs := hid (sz_in (x := x) a)
    have hd : decide (-2047 ≤ x ∧ x ≤ 2047) = true := by simpa using a
    obtain ⟨m, hm, hx⟩ : ∃ m : Nat, m ≤ 2047 ∧ x.natAbs = m := ⟨x.natAbs, by omega, rfl⟩
    rw [hx] at hs
    have HB := hid (fun c hc => bitLen_at m c hm hc)
    have hl : Lib.bitLen m ≤ 11 := (bitLen_at m 0 hm (by omega)).2
    have HS := hid (spec_in x (-2047) 2047 w)
    rw [hd] at HS
    clear a hd
    by_cases a3 : x < 0
    · have hneg : -x = (m : Int) := by omega
      clear hx
      go_enter Try.func47, Try.ntmps47
      go_wp2_with fail
      refine HS.out.mono ?_
      rintro e w1 ⟨rfl, rfl⟩
      go_wp2_with fail
      go_loop [3] (fun n => ∃ c : Nat, c ≤ Lib.bitLen m ∧ n = .int .i64 c) (fun n => Lib.bitLen m - (intOf n).toNat)
      case atStart => exact ⟨0, by omega, rfl⟩
      case round =>
        obtain ⟨c, hc, rfl⟩ := hrel
        have HP := hid (pow2_any c w (by omega))
        have hb := (HB.out c (by omega)).1
        have hcast := pow_cast c
        have p0 : (0 : Int) < 2 ^ c := Int.pow_pos (by decide)
        by_cases hlt : c < Lib.bitLen m
        · have hge : (2 : Int) ^ c ≤ m := by have := hb.2 hlt; exact_mod_cast this
          have hlt2 : c + 1 ≤ Lib.bitLen m := hlt
          clear hb hcast
          generalize (2 : Int) ^ c = P at *
          go_wp2_with fail
          refine HP.out.mono ?_
          rintro e w1 ⟨rfl, rfl⟩
          go_wp2_with fail
          go_round
          case rel => first | exact ⟨c + 1, by omega, by go_num⟩ | exact ⟨trivial, c + 1, by omega, by go_num⟩
          case measure => simp [intOf]; omega
        · have hge : (m : Int) < 2 ^ c := by
            have : m < 2 ^ c := Nat.lt_of_not_le fun h => hlt (hb.1 h)
            exact_mod_cast this
          obtain rfl : c = Lib.bitLen m := by omega
          clear hb hcast
          generalize (2 : Int) ^ Lib.bitLen m = P at *
          go_wp2_with fail
          refine HP.out.mono ?_
          rintro e w1 ⟨rfl, rfl⟩
          go_wp2_with fail
          go_ret
          exact ⟨ret_int hs.out.symm, rfl⟩
    · obtain rfl : x = (m : Int) := by omega
      clear hx
      go_enter Try.func47, Try.ntmps47
      go_wp2_with fail
      refine HS.out.mono ?_
      rintro e w1 ⟨rfl, rfl⟩
      go_wp2_with fail
      go_loop [3] (fun n => ∃ c : Nat, c ≤ Lib.bitLen m ∧ n = .int .i64 c) (fun n => Lib.bitLen m - (intOf n).toNat)
      case atStart => exact ⟨0, by omega, rfl⟩
      case round =>
        obtain ⟨c, hc, rfl⟩ := hrel
        have HP := hid (pow2_any c w (by omega))
        have hb := (HB.out c (by omega)).1
        have hcast := pow_cast c
        have p0 : (0 : Int) < 2 ^ c := Int.pow_pos (by decide)
        by_cases hlt : c < Lib.bitLen m
        · have hge : (2 : Int) ^ c ≤ m := by have := hb.2 hlt; exact_mod_cast this
          have hlt2 : c + 1 ≤ Lib.bitLen m := hlt
          clear hb hcast
          generalize (2 : Int) ^ c = P at *
          go_wp2_with fail
          refine HP.out.mono ?_
          rintro e w1 ⟨rfl, rfl⟩
          go_wp2_with fail
          go_round
          case rel => first | exact ⟨c + 1, by omega, by go_num⟩ | exact ⟨trivial, c + 1, by omega, by go_num⟩
          case measure => simp [intOf]; omega
        · have hge : (m : Int) < 2 ^ c := by
            have : m < 2 ^ c := Nat.lt_of_not_le fun h => hlt (hb.1 h)
            exact_mod_cast this
          obtain rfl : c = Lib.bitLen m := by omega
          clear hb hcast
          generalize (2 : Int) ^ Lib.bitLen m = P at *
          go_wp2_with fail
          refine HP.out.mono ?_
          rintro e w1 ⟨rfl, rfl⟩
          go_wp2_with fail
          go_ret
          exact ⟨ret_int hs.out.symm, rfl⟩
  · have hs := hid (sz_out a)
    have hd : decide (-2047 ≤ x ∧ x ≤ 2047) = false := by simpa using a
    have HS := hid (spec_in x (-2047) 2047 w)
    rw [hd] at HS
    clear a hd
    go_enter Try.func47, Try.ntmps47
    go_wp2_with fail
    refine HS.out.mono ?_
    rintro e w1 ⟨rfl, rfl⟩
    go_wp2_with fail
    go_ret
    exact ⟨ret_int hs.out.symm, rfl⟩

end Go.Proofs.Ytnnakmgngkpghaa
