/- The walk of the law FnHex. -/
import Derived.Test.YtmcfhfieabnigaaDoorHexDraw
import Derived.Test.YtmcfhfieabnigaaDoorDec
namespace Go.Proofs.YtmcfhfieabnigaaDoor
open Go.RowKit
set_option linter.unusedVariables false

theorem code_of {w : World} {ao : Option Addr} {n cap : Nat} {zs : List Int} (hr : IsRow .u8 w ao n cap zs) (hn : n ≤ 1048576) : Code w ao n (zs.take n) := ⟨hn, hr.view, hr.wf⟩

/-- The two decimal texts are one. -/
theorem dec_both (x : Int) (h0 : -9223372036854775808 ≤ x) (h1 : x ≤ 9223372036854775807) (w : World) (htab : Lib.TabIs Tryd.prog w "internal/strconv.uint64pow10" .u64 Lib.pow10Tab) :
    ∃ T : ByteArray, (Calls Tryd.prog 12 #[.int .i64 x] w fun e w' => e = .returned (.string T) ∧ Below w.heap.size w w') ∧ ∀ w2, Calls Tryd.prog 13 #[.int .i64 x] w2 fun e w' => e = .returned (.string T) ∧ w' = w2 :=
  ⟨_, impl_decText x h0 h1 w htab, fun w2 => spec_decText x h0 h1 w2⟩

set_option maxRecDepth 100000 in
set_option maxHeartbeats 3200000 in
theorem law_fnHex (ao : Option Addr) (n cap : Nat) (zs : List Int) (w : World) (hr : IsRow .u8 w ao n cap zs) (htab : Lib.TabIs Tryd.prog w "internal/strconv.uint64pow10" .u64 Lib.pow10Tab) :
    Calls Tryd.prog 3 #[.slice ao n cap] w fun e w' => e = .returned (.bool true) ∧ Below w.heap.size w w' := by
  have hlen := hr.len.1
  have HT := hid (Lib.tabBelow_of_tabIs htab)
  clear htab
  by_cases hl : (1048576 : Int) < (n : Int)
  · have hd : decide ((1048576 : Int) < (n : Int)) = true := by simpa using hl
    clear hr HT
    go_enter Tryd.func3, Tryd.ntmps3
    go_wp2_with (go_at_call 5; refine (big_any _ _ _ _).mono ?_; rw [hd]; rintro e w' ⟨rfl, rfl⟩)
    go_ret
    exact ⟨rfl, Below.refl _ _⟩
  · have hd : decide ((1048576 : Int) < (n : Int)) = false := by simpa using hl
    have hn : n ≤ 1048576 := by omega
    have HC := hid (code_of hr hn)
    clear hr hl
    go_enter Tryd.func3, Tryd.ntmps3
    go_wp2_with fail
    refine (big_any _ _ _ _).mono ?_
    rw [hd]
    rintro e w' ⟨rfl, rfl⟩
    go_wp2_with fail
    refine (draw_hexText ao n cap _ w HC.out).mono ?_
    rintro e w1 ⟨s, rfl, hs, hb1⟩
    have B1 := hid hb1
    clear hb1 hlen
    go_wp2_with fail
    refine (impl_hexText s w1 (by omega)).mono ?_
    rintro e w2 ⟨rfl, hb2⟩
    have B2 := hid (B1.out.trans (hb2.mono B1.out.size))
    have hT : (hexOf s).size = 2 * s.size := hexOf_size s
    have HU := hid (hexR_hexOf s (by omega))
    have HI := hid (fun wx : World => impl_hexText s wx (by omega))
    have eT : strOfNums (hexTo (bt s) s.size) = hexOf s := rfl
    rw [eT] at HI ⊢
    clear eT
    generalize hexOf s = T at *
    clear hb2 B1
    go_wp2_with fail
    refine (impl_hexBytes_any T w2 (by omega)).mono ?_
    rintro e w3 ⟨rfl, hb3⟩
    rw [HU.out]
    have B3 := hid (B2.out.trans (hb3.mono B2.out.size))
    clear hb3 B2 HU
    go_wp2_with fail
    refine (draw_hexBytes ao n cap (zs.take n) w3 ⟨hn, HC.out.2.1.below (Nat.le_refl _) B3.out, HC.out.2.2⟩).mono ?_
    rintro e w4 ⟨u, rfl, hu, hb4⟩
    have B4 := hid (B3.out.trans (hb4.mono B3.out.size))
    clear hb4 B3
    go_wp2_with fail
    refine (impl_hexBytes_any u w4 (by omega)).mono ?_
    rintro e w5 ⟨rfl, hb5⟩
    have B5 := hid (B4.out.trans (hb5.mono B4.out.size))
    clear hb5 B4
    have HV := hid (hexOf_hexR u)
    have HQ := hid (fun wx : World => spec_hexBytes_any u wx (by omega))
    generalize (hexR u).1 = V at *
    generalize (hexR u).2 = F at *
    go_wp2_with fail
    refine (HQ.out w5).mono ?_
    rintro e w6 ⟨rfl, hb6⟩
    have B6 := hid (B5.out.trans (hb6.mono B5.out.size))
    clear hb6 B5 HQ
    go_wp2_with fail
    refine (draw_decText ao n cap (zs.take n) w6 ⟨hn, HC.out.2.1.below (Nat.le_refl _) B6.out, HC.out.2.2⟩).mono ?_
    rintro e w7 ⟨x, rfl, ⟨hx0, hx1⟩, hb7⟩
    have B7 := hid (B6.out.trans (hb7.mono B6.out.size))
    clear hb7 B6
    have hT' : (T.size : Int) = 2 * (s.size : Int) := by omega
    go_wp2_with fail
    refine (HI.out w7).mono ?_
    rintro e w8 ⟨rfl, hb8⟩
    have B8 := hid (B7.out.trans (hb8.mono B7.out.size))
    clear hb8 B7 HI
    cases F with
    | false =>
      clear HV
      obtain ⟨D, hD1, hD2⟩ := dec_both x hx0 hx1 w8 (HT.out _ B8.out)
      have HD1 := hid hD1
      have HD2 := hid hD2
      clear hD1 hD2
      go_wp2_with fail
      refine HD1.out.mono ?_
      rintro e w9 ⟨rfl, hb9⟩
      have B9 := hid (B8.out.trans (hb9.mono B8.out.size))
      clear hb9
      go_wp2_with fail
      refine (HD2.out w9).mono ?_
      rintro e w10 ⟨rfl, rfl⟩
      go_wp2
      go_ret
      exact ⟨rfl, B9.out⟩
    | true =>
      obtain ⟨hu1, hu2⟩ := HV.out rfl
      have HI2 := hid (fun wx : World => impl_hexText V wx hu2)
      have eV : strOfNums (hexTo (bt V) V.size) = u := hu1
      rw [eV] at HI2
      clear HV hu1 eV
      go_wp2_with fail
      refine (HI2.out w8).mono ?_
      rintro e w9 ⟨rfl, hb9⟩
      have B9 := hid (B8.out.trans (hb9.mono B8.out.size))
      clear hb9 B8 HI2
      obtain ⟨D, hD1, hD2⟩ := dec_both x hx0 hx1 w9 (HT.out _ B9.out)
      have HD1 := hid hD1
      have HD2 := hid hD2
      clear hD1 hD2
      go_wp2_with fail
      refine HD1.out.mono ?_
      rintro e w10 ⟨rfl, hb10⟩
      have B10 := hid (B9.out.trans (hb10.mono B9.out.size))
      clear hb10
      go_wp2_with fail
      refine (HD2.out w10).mono ?_
      rintro e w11 ⟨rfl, rfl⟩
      go_wp2
      go_ret
      exact ⟨rfl, B10.out⟩
end Go.Proofs.YtmcfhfieabnigaaDoor
