/- The walk of the law FnSizes. -/
import Derived.Test.YtdlookcklkdonaaSzDraw
namespace Go.Proofs.Ytdlookcklkdonaa
open Go.RowKit
set_option linter.unusedVariables false

theorem code_row {w : World} {ao : Option Addr} {n cap : Nat} {zs : List Int} (hr : IsRow .u8 w ao n cap zs) (hn : n ≤ 1048576) : Code w ao n (zs.take n) := ⟨hn, hr.view, hr.wf⟩
theorem Code.below {w w' : World} {ao : Option Addr} {n : Nat} {zs : List Int} (h : Code w ao n zs) (hb : Below w.heap.size w w') : Code w' ao n zs := ⟨h.1, h.2.1.below (Nat.le_refl _) hb, h.2.2⟩

set_option maxRecDepth 100000 in
set_option maxHeartbeats 2000000 in
theorem law_sizes (ao : Option Addr) (n cap : Nat) (zs : List Int) (w : World) (hr : IsRow .u8 w ao n cap zs) :
    Calls Try.prog 3 #[.slice ao n cap] w fun e w' => e = .returned (.bool true) ∧ Below w.heap.size w w' := by
  have hlen := hr.len.1
  by_cases hl : (1048576 : Int) < (n : Int)
  · have hd : decide ((1048576 : Int) < (n : Int)) = true := by simpa using hl
    clear hr
    go_enter Try.func3, Try.ntmps3
    go_wp2_with (go_at_call 7; refine (big_any _ _ _ _).mono ?_; rw [hd]; rintro e w' ⟨rfl, rfl⟩)
    go_ret
    exact ⟨rfl, Below.refl _ _⟩
  · have hd : decide ((1048576 : Int) < (n : Int)) = false := by simpa using hl
    have HC := hid (code_row hr (by omega))
    clear hr hl
    go_enter Try.func3, Try.ntmps3
    go_wp2_with fail
    refine (big_any _ _ _ _).mono ?_
    rw [hd]
    rintro e w' ⟨rfl, rfl⟩
    clear hd
    go_wp2_with fail
    refine (draw_rest ao n cap _ w HC.out).mono ?_
    rintro e w1 ⟨x, rfl, ⟨hx0, hx1⟩, hb1⟩
    have B1 := hid hb1
    have HC1 := hid (HC.out.below hb1)
    clear hb1 HC
    have HIS := hid (impl_size x w1 (by omega) hx1)
    have HSS := hid (spec_size x w1 (by omega) hx1)
    have HR := hid (fun q => impl_rest x q (by omega) hx1)
    by_cases hin : -2047 ≤ x ∧ x ≤ 2047
    · obtain ⟨hall, hsz, hfr⟩ := rest_back x hin
      have hl11 := restL_len x
      have HF := hid (fun ao cap q hv => impl_from ao cap (restL x) q hl11 hv hall)
      have HNG := hid (fun q => impl_size (-x) q (by omega) (by omega))
      rw [sz_neg x hin] at HNG
      rw [hfr] at HF
      rw [← hsz] at HIS HSS HNG
      generalize restL x = R at *
      clear hsz hfr hall
      have hxx : (x == x) = true := by simp
      have hRR : (((R.length : Nat) : Int) != (R.length : Nat)) = false := by simp
      have hRE : (((R.length : Nat) : Int) == (R.length : Nat)) = true := by simp
      go_wp2_with fail
      refine HIS.out.mono ?_
      rintro e w2 ⟨rfl, rfl⟩
      go_wp2_with fail
      refine HSS.out.mono ?_
      rintro e w2 ⟨rfl, rfl⟩
      have hnn : ¬ ((R.length : Nat) : Int) < 0 := by omega
      go_wp2_with fail
      refine (HR.out _).mono ?_
      rintro e w2 ⟨v2, rfl, ho2, hb2⟩
      obtain ⟨a2, c2, rfl, hv2⟩ := ho2.view
      have B2 := hid (B1.out.trans (hb2.mono B1.out.size))
      have HC2 := hid (HC1.out.below hb2)
      have HV2 := hid hv2
      clear ho2 hb2 hv2 HC1
      go_wp2_with fail
      refine (HF.out _ _ _ HV2.out).mono ?_
      rintro e w3 ⟨rfl, hb3⟩
      have B3 := hid (B2.out.trans (hb3.mono B2.out.size))
      have HC3 := hid (HC2.out.below hb3)
      clear hb3 HV2 HC2
      go_wp2_with fail
      refine (draw_from ao n cap _ w3 HC3.out).mono ?_
      rintro e w4 ⟨k, v4, rfl, xs, hxl, ho4, hb4⟩
      obtain ⟨a4, c4, rfl, hv4⟩ := ho4.view
      have B4 := hid (B3.out.trans (hb4.mono B3.out.size))
      have HV4 := hid hv4
      clear ho4 hb4 hv4 HC3 HF
      by_cases hg : GoodRest k xs
      · obtain ⟨hk, hkl, hbits⟩ := hg
        subst hkl
        have HI4 := hid (impl_from a4 c4 xs w4 (by omega) HV4.out hbits)
        have HS4 := hid (fun q hv => spec_from a4 c4 xs q (by omega) hv hbits)
        by_cases hxe : xs.length = 0
        · have hz : (((xs.length : Nat) : Int) == 0) = true := by rw [hxe]; rfl
          clear hxe
          generalize frv xs = Y at *
          clear hbits
          go_wp2_with fail
          refine HI4.out.mono ?_
          rintro e w5 ⟨rfl, hb5⟩
          have B5 := hid (B4.out.trans (hb5.mono B4.out.size))
          have HV5 := hid (HV4.out.below (Nat.le_refl _) hb5)
          clear hb5
          go_wp2_with fail
          refine (HS4.out _ HV5.out).mono ?_
          rintro e w6 ⟨rfl, rfl⟩
          go_wp2_with fail
          refine (HR.out _).mono ?_
          rintro e w6 ⟨v6, rfl, ho6, hb6⟩
          obtain ⟨a6, c6, rfl, hv6⟩ := ho6.view
          have B6 := hid (B5.out.trans (hb6.mono B5.out.size))
          clear ho6 hb6 hv6
          go_wp2_with fail
          refine (HNG.out _).mono ?_
          rintro e w7 ⟨rfl, rfl⟩
          go_wp2_with fail
          go_ret
          exact ⟨rfl, B6.out⟩
        · have hz : (((xs.length : Nat) : Int) == 0) = false := by rw [beq_eq_false_iff_ne]; omega
          obtain ⟨hyb, hys, hyr⟩ := from_back xs hbits (by omega) (by omega)
          have HYS := hid (fun q => impl_size (frv xs) q (by omega) (by omega))
          have HYR := hid (fun q => impl_rest (frv xs) q (by omega) (by omega))
          rw [hys] at HYS
          rw [hyr] at HYR
          have hEE : (((xs.length : Nat) : Int) == (xs.length : Nat)) = true := by simp
          generalize frv xs = Y at *
          clear hbits hys hyr hxe
          go_wp2_with fail
          refine HI4.out.mono ?_
          rintro e w5 ⟨rfl, hb5⟩
          have B5 := hid (B4.out.trans (hb5.mono B4.out.size))
          have HV5 := hid (HV4.out.below (Nat.le_refl _) hb5)
          clear hb5
          go_wp2_with fail
          refine (HS4.out _ HV5.out).mono ?_
          rintro e w6 ⟨rfl, rfl⟩
          go_wp2_with fail
          refine (HR.out _).mono ?_
          rintro e w6 ⟨v6, rfl, ho6, hb6⟩
          obtain ⟨a6, c6, rfl, hv6⟩ := ho6.view
          have B6 := hid (B5.out.trans (hb6.mono B5.out.size))
          have HV6 := hid (HV5.out.below (Nat.le_refl _) hb6)
          clear ho6 hb6 hv6
          go_wp2_with fail
          refine (HNG.out _).mono ?_
          rintro e w7 ⟨rfl, rfl⟩
          go_wp2_with fail
          refine (HYS.out _).mono ?_
          rintro e w7 ⟨rfl, rfl⟩
          go_wp2_with fail
          refine (HYR.out _).mono ?_
          rintro e w7 ⟨v7, rfl, ho7, hb7⟩
          obtain ⟨a7, c7, rfl, hv7⟩ := ho7.view
          have B7 := hid (B6.out.trans (hb7.mono B6.out.size))
          have HV7 := hid (HV6.out.below (Nat.le_refl _) hb7)
          have HW7 := hid hv7
          clear ho7 hb7 hv7
          go_wp2_with fail
          refine (same_same _ _ xs.length _ _ xs w7 (by omega) HW7.out HV7.out).mono ?_
          rintro e w8 ⟨rfl, hb8⟩
          go_wp2_with fail
          go_ret
          exact ⟨rfl, B7.out.trans (hb8.mono B7.out.size)⟩
      · have HI4 := hid (impl_from_no a4 c4 k xs w4 (by omega) HV4.out hg)
        have HS4 := hid (fun q hv => spec_from_no a4 c4 k xs q (by omega) hv hg)
        clear hg
        go_wp2_with fail
        refine HI4.out.mono ?_
        rintro e w5 ⟨rfl, hb5⟩
        have B5 := hid (B4.out.trans (hb5.mono B4.out.size))
        have HV5 := hid (HV4.out.below (Nat.le_refl _) hb5)
        clear hb5
        go_wp2_with fail
        refine (HS4.out _ HV5.out).mono ?_
        rintro e w6 ⟨rfl, rfl⟩
        go_wp2_with fail
        refine (HR.out _).mono ?_
        rintro e w6 ⟨v6, rfl, ho6, hb6⟩
        obtain ⟨a6, c6, rfl, hv6⟩ := ho6.view
        have B6 := hid (B5.out.trans (hb6.mono B5.out.size))
        clear ho6 hb6 hv6
        go_wp2_with fail
        refine (HNG.out _).mono ?_
        rintro e w7 ⟨rfl, rfl⟩
        go_wp2_with fail
        go_ret
        exact ⟨rfl, B6.out⟩
    · rw [sz_out hin] at HIS HSS
      rw [rest_out hin] at HR
      clear hin
      go_wp2_with fail
      refine HIS.out.mono ?_
      rintro e w2 ⟨rfl, rfl⟩
      go_wp2_with fail
      refine HSS.out.mono ?_
      rintro e w2 ⟨rfl, rfl⟩
      go_wp2_with fail
      refine (HR.out _).mono ?_
      rintro e w2 ⟨v2, rfl, ho2, hb2⟩
      obtain ⟨a2, c2, rfl⟩ := ho2.shape
      go_wp2_with fail
      go_ret
      exact ⟨rfl, B1.out.trans (hb2.mono B1.out.size)⟩
end Go.Proofs.Ytdlookcklkdonaa
