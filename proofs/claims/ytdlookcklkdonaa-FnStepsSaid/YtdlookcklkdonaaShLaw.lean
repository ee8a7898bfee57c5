/- The walk of the law FnShift. -/
import Derived.Test.YtdlookcklkdonaaDrawBs
namespace Go.Proofs.Ytdlookcklkdonaa
open Go.RowKit
set_option linter.unusedVariables false

theorem OwnB.mono {w : World} {base base' : Nat} {v : Value} {L : List (Int × List Int)} (h : OwnB w base v L) (hb : base' ≤ base) : OwnB w base' v L := by
  obtain ⟨h1, vs, hl, h2, h3⟩ := h
  refine ⟨Nat.le_trans hb h1, vs, hl, ⟨h2.1, ?_⟩, fun j hj => (h3 j hj).mono hb⟩
  rcases h2.2 with h0 | ⟨g, cap, cur, hv, hg, r⟩
  · exact .inl h0
  · exact .inr ⟨g, cap, cur, hv, Nat.le_trans hb hg, r⟩
theorem big_any (ao : Option Addr) (n cap : Nat) (w : World) :
    Calls Try.prog 7 #[.slice ao n cap] w fun e w' => e = .returned (.bool (decide ((1048576 : Int) < (n : Int)))) ∧ w = w' := by
  go_enter Try.func7, Try.ntmps7
  go_wp2
  go_ret
  exact ⟨rfl, rfl⟩
theorem code_row {w : World} {ao : Option Addr} {n cap : Nat} {zs : List Int} (hr : IsRow .u8 w ao n cap zs) (hn : n ≤ 1048576) : Code w ao n (zs.take n) := ⟨hn, hr.view, hr.wf⟩

set_option maxHeartbeats 1600000 in
theorem draw_blocks (ao : Option Addr) (n cap : Nat) (zs : List Int) (w : World) (hcode : Code w ao n zs) :
    Calls Try.prog 16 #[.slice ao n cap] w fun e w' => ∃ v, e = .returned v ∧ (∃ L, (1 ≤ L.length ∧ L.length ≤ 8) ∧ (∀ j, j < L.length → blkOk (nth L j).1 (nth L j).2 = true) ∧ OwnB w' w.heap.size v L) ∧ Below w.heap.size w w' := by
  have HC := hid hcode
  clear hcode
  go_enter Try.func16, Try.ntmps16
  go_wp2_with fail
  refine (new_any ao n cap zs w HC.out).mono ?_
  rintro e w1 ⟨C, rfl, hc1, hb1⟩
  have HC1 := hid hc1
  have B1 := hid hb1
  have hCw := hc1.1
  clear hc1 hb1
  go_wp2_with fail
  refine (below_any w ao n cap C zs 8 w1 HC.out HC1.out).mono ?_
  rintro e w2 ⟨x, rfl, ⟨hx0, hx1⟩, hc2, he2⟩
  obtain ⟨k, rfl⟩ := Int.eq_ofNat_of_zero_le hx0
  have hk : k ≤ 7 := by omega
  have HC2 := hid hc2
  have HB2 := hid (B1.out.trans ((he2.below (Nat.le_of_lt HC1.out.lt)).mono hCw))
  have hk1 : (1 : Int) + (k : Int) = ((1 + k : Nat) : Int) := by omega
  have HBS := hid (blocks_any w ao n cap C zs (1 + k) w2 (by omega) HC.out HC2.out)
  rw [← hk1] at HBS
  clear hc2 he2 hx0 hx1 hk1
  go_wp2_with fail
  refine HBS.out.mono ?_
  rintro e w3 ⟨v, rfl, ⟨L, hL, hoks, hown⟩, hc3, he3⟩
  have HB3 := hid (HB2.out.trans ((he3.below (Nat.le_of_lt HC2.out.lt)).mono hCw))
  have HO3 := hid (hown.mono HB2.out.size)
  obtain ⟨so, sc', hsv⟩ := hown.shape
  subst hsv
  have HOK := hid hoks
  have HL := hid hL
  clear hown hc3 he3 hoks hL
  go_wp2_with fail
  go_ret
  exact ⟨_, rfl, ⟨L, ⟨by rw [HL.out]; omega, by rw [HL.out]; omega⟩, HOK.out, HO3.out⟩, HB3.out⟩

theorem oksTo_all (L : List (Int × List Int)) (h : ∀ j, j < L.length → blkOk (nth L j).1 (nth L j).2 = true) : ∀ n, n ≤ L.length → oksTo L n = true
  | 0, _ => rfl
  | n + 1, hn => by rw [oksTo, oksTo_all L h n (by omega), h n (by omega)]; rfl
theorem shl_get (up : Bool) (L : List (Int × List Int)) : ∀ n i, i < n → (shl up L n).getD i 0 = (nth L i).1 - ahead up L i
  | n + 1, i, hi => by
    have hl := shl_len up L n
    rw [shl]
    simp only [List.getD]
    by_cases e : i = n
    · subst e
      rw [List.getElem?_append_right (by omega)]
      simp [hl]
    · rw [List.getElem?_append_left (by omega)]
      exact shl_get up L n i (by omega)

set_option maxRecDepth 100000 in
set_option maxHeartbeats 3200000 in
theorem law_fnShift (ao : Option Addr) (n cap : Nat) (zs : List Int) (w : World) (hr : IsRow .u8 w ao n cap zs) :
    Calls Try.prog 5 #[.slice ao n cap] w fun e w' => e = .returned (.bool true) ∧ Below w.heap.size w w' := by
  have hlen := hr.len.1
  by_cases hl : (1048576 : Int) < (n : Int)
  · have hd : decide ((1048576 : Int) < (n : Int)) = true := by simpa using hl
    clear hr
    go_enter Try.func5, Try.ntmps5
    go_wp2_with (go_at_call 7; refine (big_any _ _ _ _).mono ?_; rw [hd]; rintro e w' ⟨rfl, rfl⟩)
    go_ret
    exact ⟨rfl, Below.refl _ _⟩
  · have hd : decide ((1048576 : Int) < (n : Int)) = false := by simpa using hl
    have HC := hid (code_row hr (by omega))
    clear hr hl
    go_enter Try.func5, Try.ntmps5
    go_wp2_with fail
    refine (big_any _ _ _ _).mono ?_
    rw [hd]
    rintro e w' ⟨rfl, rfl⟩
    clear hd
    go_wp2_with fail
    refine (draw_blocks ao n cap _ w HC.out).mono ?_
    rintro e w1 ⟨v1, rfl, ⟨L, ⟨hL1, hL2⟩, hoks, hown1⟩, hb1⟩
    obtain ⟨lo, lc, hsv⟩ := hown1.shape
    subst hsv
    have B1 := hid hb1
    have HR1 := hid hown1.brow
    have HOK := hid hoks
    have hsz : ∀ j, j < L.length → (nth L j).2.length ≤ 1048576 := fun j hj => by rw [blkOk_len (hoks j hj)]; decide
    have hoT := oksTo_all L hoks L.length (Nat.le_refl _)
    have HI := hid (fun up q hq => impl_shift lo lc L up q (by omega) hsz hq)
    have hRt := shR_yes (up := true) (L := L) (by omega) hoT
    have hRf := shR_yes (up := false) (L := L) (by omega) hoT
    have HI1 := hid (HI.out true w1 HR1.out)
    have HI2 := hid (fun q (hq : Below w1.heap.size w1 q) => HI.out false q (HR1.out.below hq))
    rw [hRt] at HI1
    rw [hRf] at HI2
    have HDC := hid (fun j hj => blkOk_dc (hoks j hj))
    have hlt1 := hid (shl_len true L L.length)
    have hlf1 := hid (shl_len false L L.length)
    have HGT := hid (fun i hi => shl_get true L L.length i hi)
    have HGF := hid (fun i hi => shl_get false L L.length i hi)
    have HAH := hid (fun i => (show ahead false L i = 0 by unfold ahead; rw [if_neg (fun h => Bool.noConfusion h.1)]))
    have HAT := hid (fun i => (show ahead true L (i + 1) = (nth L i).1 by unfold ahead; rw [if_pos ⟨rfl, by omega⟩, Nat.add_sub_cancel]))
    have HA0 : ahead true L 0 = 0 := by unfold ahead; rw [if_neg (by omega)]
    generalize shl true L L.length = ST at *
    generalize shl false L L.length = SF at *
    clear hb1 hown1 hoks hsz hoT HI hRt hRf HC
    go_wp2_with fail
    refine HI1.out.mono ?_
    rintro e w2 ⟨v2, rfl, ho2, hb2⟩
    obtain ⟨d2, c2, rfl, hv2⟩ := ho2.view
    have HV2 := hid hv2
    have B2 := hid hb2
    clear ho2 hv2 hb2 HI1
    go_wp2_with fail
    refine (HI2.out _ B2.out).mono ?_
    rintro e w3 ⟨v3, rfl, ho3, hb3⟩
    obtain ⟨d3, c3, rfl, hv3⟩ := ho3.view
    have HV3 := hid hv3
    have HV23 := hid (HV2.out.below (Nat.le_refl _) hb3)
    have B3 := hid (B2.out.trans (hb3.mono B2.out.size))
    have HR3 := hid (HR1.out.below B3.out)
    have BW := hid (B1.out.trans (B3.out.mono B1.out.size))
    clear ho3 hv3 hb3 HI2 HV2 HR1 B2
    rw [hlt1.out] at HV23 ⊢
    rw [hlf1.out] at HV3 ⊢
    have hnn : ((L.length : Int) != (L.length : Int)) = false := by simp
    go_wp2_with fail
    go_loop [8, 9] (fun s i => ∃ k : Nat, k ≤ L.length ∧ i = .int .i64 k ∧ s = .int .i64 (ahead true L k)) (fun _ i => L.length - (intOf i).toNat)
    case atStart => exact ⟨0, by omega, rfl, val_int HA0.symm⟩
    case round =>
      obtain ⟨k, hk, rfl, rfl⟩ := hrel
      by_cases hlt : k < L.length
      · have hlt' : (k : Int) < (L.length : Int) := by omega
        obtain ⟨b, off, a, c, rfl, hc1, hc2, _⟩ := HR3.out k hlt
        obtain ⟨b2, off2, rfl, hd2⟩ := HV23.out.2 k hlt
        obtain ⟨b3, off3, rfl, hd3⟩ := HV3.out.2 k hlt
        rw [HGT.out k hlt] at hd2
        rw [HGF.out k hlt, HAH.out k, Int.sub_zero] at hd3
        have hdc := HDC.out k hlt
        have hab : -1023 ≤ ahead true L k ∧ ahead true L k ≤ 1023 := by
          cases k with
          | zero => rw [HA0]; decide
          | succ j => rw [HAT.out j]; exact HDC.out j (by omega)
        have HNX := hid (HAT.out k)
        generalize (nth L k).1 = D at *
        generalize ahead true L k = AH at *
        obtain ⟨e0, e1⟩ := hdc
        obtain ⟨f0, f1⟩ := hab
        have hsum : AH + (D - AH) = D := by omega
        have hDD : (D != D) = false := by simp
        clear hc2
        go_wp2_with fail
        go_round
        case rel => exact ⟨k + 1, by omega, by go_num, val_int HNX.out.symm⟩
        case measure => simp [intOf]; omega
      · obtain rfl : k = L.length := by omega
        go_wp2_with fail
        go_ret
        exact ⟨rfl, BW.out⟩
end Go.Proofs.Ytdlookcklkdonaa
