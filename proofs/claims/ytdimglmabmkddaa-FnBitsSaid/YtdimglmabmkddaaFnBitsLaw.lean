/- The walk of the law FnBits. -/
import Derived.Test.YtdimglmabmkddaaFnBitsDraw
namespace Go.Proofs.Ytdimglmabmkddaa
open Go.RowKit
set_option linter.unusedVariables false

theorem code_of {w : World} {ao : Option Addr} {n cap : Nat} {zs : List Int} (hr : IsRow .u8 w ao n cap zs) (hn : n ≤ 1048576) : Code w ao n (zs.take n) := ⟨hn, hr.view, hr.wf⟩

theorem no_nums : strOfNums [] = ⟨#[]⟩ := rfl

set_option maxRecDepth 100000 in
set_option maxHeartbeats 3200000 in
theorem law_bits (ao : Option Addr) (n cap : Nat) (zs : List Int) (w : World) (hr : IsRow .u8 w ao n cap zs) :
    Calls Try.prog 3 #[.slice ao n cap] w fun e w' => e = .returned (.bool true) ∧ Below w.heap.size w w' := by
  have hlen := hr.len.1
  by_cases hl : (1048576 : Int) < (n : Int)
  · have hd : decide ((1048576 : Int) < (n : Int)) = true := by simpa using hl
    clear hr
    go_enter Try.func3, Try.ntmps3
    go_wp2_with (go_at_call 9; refine (big_any _ _ _ _).mono ?_; rw [hd]; rintro e w' ⟨rfl, rfl⟩)
    go_ret
    exact ⟨rfl, Below.refl _ _⟩
  · have hd : decide ((1048576 : Int) < (n : Int)) = false := by simpa using hl
    have HC := hid (code_of hr (by omega))
    clear hr hl
    go_enter Try.func3, Try.ntmps3
    go_wp2_with fail
    refine (big_any _ _ _ _).mono ?_
    rw [hd]
    rintro e w' ⟨rfl, rfl⟩
    go_wp2_with fail
    refine (draw_putBits ao n cap _ w HC.out).mono ?_
    rintro e w1 ⟨v1, rfl, xs, hxs, ho1, hb1⟩
    obtain ⟨a1, c1, rfl, hv1⟩ := ho1.view
    have HV1 := hid hv1
    have B1 := hid hb1
    clear ho1 hv1 hb1 HC hlen
    by_cases hgood : ∀ j, j < xs.length → Bit (xs.getD j 0)
    · have HG := hid hgood
      clear hgood
      go_wp2_with fail
      refine (impl_putBits a1 xs.length c1 xs w1 (by omega) HV1.out HG.out).mono ?_
      rintro e w2 ⟨rfl, hb2⟩
      have HV2 := hid (HV1.out.below (Nat.le_refl _) hb2)
      have B2 := hid (B1.out.trans (hb2.mono B1.out.size))
      clear hb2 HV1 B1
      go_wp2_with fail
      refine (spec_putBits a1 xs.length c1 xs w2 (by omega) HV2.out HG.out).mono ?_
      rintro e w3 ⟨rfl, hb3⟩
      have HV3 := hid (HV2.out.below (Nat.le_refl _) hb3)
      have B3 := hid (B2.out.trans (hb3.mono B2.out.size))
      clear hb3 HV2 B2
      obtain ⟨J, hJ⟩ : ∃ J, J = (xs.length + 7) / 8 := ⟨_, rfl⟩
      rw [← hJ]
      have HJ := hid hJ
      have hJ90 : J ≤ 12 := by omega
      clear hJ
      have hsz : (strOfNums (packTo (pad xs) J)).size = J := by rw [strOfNums_size, packTo_length]
      have HI := hid (fun w => impl_getBits (strOfNums (packTo (pad xs) J)) w (by omega))
      rw [hsz, back_list xs HG.out J] at HI
      have HPB := hid (put_back (pad xs) J)
      obtain ⟨S, hS⟩ : ∃ S, S = strOfNums (packTo (pad xs) J) := ⟨_, rfl⟩
      rw [← hS] at HI hsz ⊢
      have HS := hid hS
      clear hS
      go_wp2_with fail
      refine (HI.out _).mono ?_
      rintro e w4 ⟨v4, rfl, ho4, hb4⟩
      have HV34 := hid (HV3.out.below (Nat.le_refl _) hb4)
      have B4 := hid (B3.out.trans (hb4.mono B3.out.size))
      clear hb4 HV3 B3 HI
      by_cases hx0 : xs.length = 0
      · have hJ0 : J = 0 := by have := HJ.out; omega
        subst hJ0
        obtain ⟨a4, c4, rfl⟩ := ho4.shape
        have hbl : (bl (pad xs) (8 * 0)).length = 0 := rfl
        have hS0 : S.toList.isEmpty = true := no_bytes hsz
        rw [hbl]
        clear ho4 hbl
        go_wp2
        go_ret
        exact ⟨rfl, B4.out⟩
      · have hJ1 : 0 < J := by have := HJ.out; omega
        have hbits := hid (pad_bit xs HG.out)
        have hL : (bl (pad xs) (8 * J)).length = 8 * J := bl_length _ _
        have hget := hid (fun j (hj : j < 8 * J) => bl_get (pad xs) (8 * J) j hj)
        obtain ⟨L, hLe⟩ : ∃ L, L = bl (pad xs) (8 * J) := ⟨_, rfl⟩
        rw [← hLe] at ho4 hL HPB hget
        clear hLe
        obtain ⟨N, hN⟩ : ∃ N, N = 8 * J := ⟨_, rfl⟩
        rw [← hN] at hL hget HPB
        have HN := hid hN
        clear hN
        rcases ho4.2.2 with ⟨_, h0⟩ | ⟨g, cp, cur, rfl, hge, hgg, hncp, _⟩
        · have := HN.out; omega
        · have HO4 := hid ho4
          have hview : View .i64 w4 (some ⟨g, 0, none⟩) N L := by
            obtain ⟨a, c, he, hv⟩ := ho4.view
            cases he
            rw [hL] at hv
            exact hv
          have HVL := hid hview
          have hviewx : View .i64 w4 (some ⟨g, 0, none⟩) xs.length xs := by
            refine ⟨rfl, fun i hi => ⟨g, 0, rfl, ?_⟩⟩
            obtain ⟨b, off, he, hc⟩ := hview.2 i (by have := HN.out; have := HJ.out; omega)
            cases he
            rw [hc, hget.out i (by have := HN.out; have := HJ.out; omega), pad_in xs i hi]
          have HVX := hid hviewx
          rw [hL] at hncp ⊢
          have hxN : xs.length ≤ N := by have := HN.out; have := HJ.out; omega
          have hNx : N < xs.length + 8 := by have := HN.out; have := HJ.out; omega
          have hN0 : ((N : Int) == 0) = false := by simp; have := HN.out; omega
          have hN8 : ((N : Int) != 8 * (S.size : Int)) = false := by simp; have := HN.out; omega
          have q1 : decide (N < xs.length) = false := by simp; omega
          have q2 : decide ((xs.length : Int) + 8 ≤ (N : Int)) = false := by simp; omega
          have q3 : (xs.length : Int) ≤ (cp : Int) := by omega
          have q4 : (N : Int) ≤ (cp : Int) := by omega
          have hNle : N ≤ 96 := by have := HN.out; omega
          have hSb : S.size ≤ 12 := by omega
          have hLbits := hid (show ∀ j, j < N → Bit (L.getD j 0) from fun j hj => by rw [hget.out j hj]; exact hbits.out j)
          clear ho4 hview hviewx hL hgg hsz hx0
          go_wp2_with fail
          refine (same_yes _ _ xs.length _ _ xs w4 (by omega) HVX.out HV34.out).mono ?_
          rintro e w5 ⟨rfl, hb5⟩
          have HVL5 := hid (HVL.out.below (Nat.le_refl _) hb5)
          have B5 := hid (B4.out.trans (hb5.mono B4.out.size))
          clear hb5 HVX HVL HV34 B4 HO4
          go_wp2_with fail
          refine (impl_putBits _ N _ L w5 (by omega) HVL5.out hLbits.out).mono ?_
          rintro e w6 ⟨rfl, hb6⟩
          rw [HPB.out, ← HS.out]
          have HVL6 := hid (HVL5.out.below (Nat.le_refl _) hb6)
          have B6 := hid (B5.out.trans (hb6.mono B5.out.size))
          clear hb6 HVL5 B5
          go_wp2
          go_loop [6] (fun i => ∃ k : Nat, k ≤ N ∧ xs.length ≤ k ∧ i = .int .i64 k) (fun i => N - (intOf i).toNat)
          case atStart => exact ⟨xs.length, hxN, Nat.le_refl _, rfl⟩
          case round =>
            obtain ⟨k, hk, hxk, rfl⟩ := hrel
            by_cases hkN : k < N
            · obtain ⟨b, off, he, hc⟩ := HVL6.out.2 k hkN
              cases he
              rw [hget.out k hkN, pad_out xs k (by omega), Nat.zero_add] at hc
              go_wp2
              go_round
              case rel => exact ⟨k + 1, by omega, by omega, by go_num⟩
              case measure => simp [intOf]; omega
            · go_wp2
              go_ret
              exact ⟨rfl, B6.out⟩
    · have HG := hid hgood
      clear hgood
      go_wp2_with fail
      refine (impl_putBits_no a1 xs.length c1 xs w1 (by omega) HV1.out (.inr HG.out)).mono ?_
      rintro e w2 ⟨rfl, hb2⟩
      have HV2 := hid (HV1.out.below (Nat.le_refl _) hb2)
      have B2 := hid (B1.out.trans (hb2.mono B1.out.size))
      clear hb2 HV1 B1
      go_wp2_with fail
      refine (spec_putBits_no a1 xs.length c1 xs w2 (by omega) HV2.out (.inr HG.out)).mono ?_
      rintro e w3 ⟨rfl, hb3⟩
      have B3 := hid (B2.out.trans (hb3.mono B2.out.size))
      clear hb3 HV2 B2
      go_wp2_with fail
      refine (impl_getBits ⟨#[]⟩ w3 (by decide)).mono ?_
      rintro e w4 ⟨v4, rfl, ho4, hb4⟩
      have B4 := hid (B3.out.trans (hb4.mono B3.out.size))
      obtain ⟨a4, c4, rfl⟩ := ho4.shape
      have hbl : (bl (rbS ⟨#[]⟩) (8 * (⟨#[]⟩ : ByteArray).size)).length = 0 := rfl
      rw [hbl]
      clear ho4 hb4 hbl B3
      go_wp2
      go_ret
      exact ⟨rfl, B4.out⟩
end Go.Proofs.Ytdimglmabmkddaa
