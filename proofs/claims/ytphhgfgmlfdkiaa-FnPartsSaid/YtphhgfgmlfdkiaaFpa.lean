/- The walk of the law FnParts. -/
import Derived.Test.YtphhgfgmlfdkiaaSpp
import Derived.Test.YtphhgfgmlfdkiaaPf
import Derived.Test.YtphhgfgmlfdkiaaBg
import Derived.Test.YtphhgfgmlfdkiaaDp
import Derived.Test.YtphhgfgmlfdkiaaPl
namespace Go.Proofs.Ytphhgfgmlfdkiaa
open Go.RowKit
set_option linter.unusedVariables false

set_option maxRecDepth 100000 in
set_option maxHeartbeats 3200000 in
theorem law_fnParts (ao : Option Addr) (n cap : Nat) (zs : List Int) (w : World) (hv : View .u8 w ao n zs) (hz : ∀ x ∈ zs, (Lit.int .u8 x).wf = true) :
    Calls Try.prog 4 #[.slice ao n cap] w fun e w' => e = .returned (.bool true) ∧ Below w.heap.size w w' := by
  by_cases hbig : (1048576 : Int) < (n : Int)
  · have hd : decide ((1048576 : Int) < (n : Int)) = true := decide_eq_true hbig
    have HBG := hid (big_any ao n cap w)
    rw [hd] at HBG
    go_enter Try.func4, Try.ntmps4
    go_wp2_with (go_at_call 9; refine HBG.out.mono ?_; rintro e w1 ⟨rfl, rfl⟩)
    go_ret
    exact ⟨rfl, Below.refl _ _⟩
  · have hd : decide ((1048576 : Int) < (n : Int)) = false := decide_eq_false hbig
    have HBG := hid (big_any ao n cap w)
    rw [hd] at HBG
    have HDR := hid (draw_parts ao n cap zs w ⟨by omega, hv, hz⟩)
    clear hv hz hd hbig
    go_enter Try.func4, Try.ntmps4
    go_wp2_with (go_at_call 9; refine HBG.out.mono ?_; rintro e w1 ⟨rfl, rfl⟩)
    refine HDR.out.mono ?_
    rintro e w2 ⟨q, s, rfl, hs, hb⟩
    have B := hid hb
    clear hb HDR HBG
    have HIM := hid (fun wz => impl_parts q s wz (by omega))
    have HSP := hid (fun wz => spec_parts q s wz (by omega))
    have HL := hid (partsP_len q s)
    generalize hPP : partsP q s = S at *
    have HPP := hid hPP
    clear hPP
    go_wp2_with fail
    refine (HIM.out _).mono ?_
    rintro e w3 ⟨v, rfl, ho, hb⟩
    obtain ⟨Ga, Gc, rfl, _, _⟩ := ho.shape
    replace B := hid (B.out.trans (hb.mono B.out.size))
    have G := hid ho
    clear ho hb
    go_wp2_with fail
    refine (HSP.out _).mono ?_
    rintro e w4 ⟨v, rfl, ho, hb⟩
    obtain ⟨Ha, Hc, rfl, _, _⟩ := ho.shape
    replace B := hid (B.out.trans (hb.mono B.out.size))
    replace G := hid (G.out.below hb)
    have H := hid ho
    clear ho hb
    go_wp2_with fail
    refine (same_texts _ _ _ _ S _ (by have := HL.out; omega) G.out.rw H.out.rw).mono ?_
    rintro e w5 ⟨rfl, hb⟩
    replace B := hid (B.out.trans (hb.mono B.out.size))
    replace G := hid (G.out.below hb)
    clear hb H
    go_wp2_with fail
    by_cases hok : 1 ≤ q ∧ q ≤ 1000000000 ∧ s.size ≤ 60000
    · have hp : S = partsTo q s (parts s) := by rw [← HPP.out]; simp [partsP, partOk, hok]
      subst hp
      rw [partsTo_len] at *
      have HK := hid (show ∀ k, k < parts s → k * 116 ≤ s.size from fun k hk => by unfold parts at hk; omega)
      have HPE := hid (allTo_end s)
      have hn : parts s ≤ 600 := by unfold parts; omega
      have hn1 : 1 ≤ parts s := by unfold parts; omega
      have HW2 := hid (fun k h => partB_w2 q s k (by omega) h)
      generalize hm : parts s = m at *
      have hn0 : ((m : Int) == 0) = false := beq_eq_false_iff_ne.2 (by omega)
      go_loopw [6, 7] (fun a i wr => ∃ (k : Nat) (x : ByteArray), k ≤ m ∧ i = .int .i64 k ∧ a = .string x ∧ Hid (x = allTo s k) ∧ Hid (Below w5.heap.size w5 wr)) (fun _ i _ => m - (intOf i).toNat)
      case atStart => exact ⟨0, _, by omega, rfl, rfl, (allTo_zero s).symm, Below.refl _ _⟩
      case round =>
        obtain ⟨k, x, hk, rfl, rfl, hx, hb⟩ := hrel
        by_cases hlt : k < m
        · have hlt' : (k : Int) < (m : Int) := by omega
          obtain ⟨b, off, rfl, hc⟩ := (G.out.below hb.out).rw.atS k (by rw [partsTo_len]; exact hlt)
          rw [partsTo_at _ _ _ _ hlt] at hc
          have hsz := partB_size q s k (HK.out k hlt)
          have HW0 := partB_w0 q s k (by omega) (by omega) (by omega)
          have HW1 := partB_w1 q s k (by omega) (by omega)
          have HW2 := HW2.out k (by omega)
          have HR := partB_rest q s k
          have HA := allTo_succ s k (HK.out k hlt)
          rw [← HR, ← hx.out] at HA
          have HG0 := hid (fun wz => impl_getWord_yes (partB q s k) 0 wz (by omega) (by omega))
          have HG1 := hid (fun wz => impl_getWord_yes (partB q s k) 4 wz (by omega) (by omega))
          have HG2 := hid (fun wz => impl_getWord_yes (partB q s k) 8 wz (by omega) (by omega))
          rw [HW0] at HG0
          rw [HW1] at HG1
          rw [HW2] at HG2
          have h128 : ¬ (128 : Int) < ((partB q s k).size : Int) := by omega
          have h12 : (12 : Int) ≤ ((partB q s k).size : Int) := by omega
          have hxs := allTo_size s k
          rw [← hx.out] at hxs
          have h13 : ¬ 9223372036854775807 < x.size + ((partB q s k).size - 12) := by omega
          replace HA := hid HA
          have eq0 : (q != q) = false := by simp
          have ek0 : ((k : Int) != (k : Int)) = false := by simp
          have em0 : ((m : Int) != (m : Int)) = false := by simp
          clear HW0 HW1 HW2 HR hx hsz hxs
          generalize partB q s k = X at *
          go_wp2_with fail
          refine (HG0.out _).mono ?_
          rintro e wa ⟨rfl, na, rfl⟩
          go_wp2_with fail
          refine (HG1.out _).mono ?_
          rintro e wa ⟨rfl, nb, rfl⟩
          go_wp2_with fail
          refine (HG2.out _).mono ?_
          rintro e wa ⟨rfl, nc, rfl⟩
          go_wp2_with fail
          go_roundw
          case rel => exact ⟨k + 1, _, by omega, by go_num, rfl, HA.out.symm, hid (belowN hb.out _)⟩
          case measure => simp [intOf]; omega
        · obtain rfl : k = m := by omega
          have hxs : x = s := by rw [hx.out]; exact HPE.out
          subst hxs
          clear hx
          go_wp2_with fail
          go_ret
          exact ⟨rfl, B.out.trans (hb.out.mono B.out.size)⟩
    · have hp : S = [] := by rw [← HPP.out]; simp [partsP, partOk, hok]
      subst hp
      go_loopw [6, 7] (fun a i wr => i = .int .i64 0 ∧ a = .string ⟨#[]⟩ ∧ Hid (Below w5.heap.size w5 wr)) (fun _ _ _ => 0)
      case atStart => exact ⟨rfl, rfl, Below.refl _ _⟩
      case round =>
        obtain ⟨rfl, rfl, hb⟩ := hrel
        go_wp2_with fail
        go_ret
        exact ⟨rfl, B.out.trans (hb.out.mono B.out.size)⟩
end Go.Proofs.Ytphhgfgmlfdkiaa
