/- The walk of the law FnLengths. -/
import Derived.Test.YtfahdmkbifhfbaaDrawBs
import Derived.Test.YtfahdmkbifhfbaaLen
namespace Go.Proofs.Ytfahdmkbifhfbaa
open Go.RowKit
set_option linter.unusedVariables false

theorem OwnB.mono {w : World} {base base' : Nat} {v : Value} {L : List (Int × List Int)} (h : OwnB w base v L) (hb : base' ≤ base) : OwnB w base' v L := by
  obtain ⟨h1, vs, hl, h2, h3⟩ := h
  refine ⟨Nat.le_trans hb h1, vs, hl, ⟨h2.1, ?_⟩, fun j hj => (h3 j hj).mono hb⟩
  rcases h2.2 with h0 | ⟨g, cap, cur, hv, hg, r⟩
  · exact .inl h0
  · exact .inr ⟨g, cap, cur, hv, Nat.le_trans hb hg, r⟩
theorem big_any (ao : Option Addr) (n cap : Nat) (w : World) :
    Calls Try.prog 6 #[.slice ao n cap] w fun e w' => e = .returned (.bool (decide ((1048576 : Int) < (n : Int)))) ∧ w = w' := by
  go_enter Try.func6, Try.ntmps6
  go_wp2
  go_ret
  exact ⟨rfl, rfl⟩
theorem code_row {w : World} {ao : Option Addr} {n cap : Nat} {zs : List Int} (hr : IsRow .u8 w ao n cap zs) (hn : n ≤ 1048576) : Code w ao n (zs.take n) := ⟨hn, hr.view, hr.wf⟩

set_option maxHeartbeats 1600000 in
theorem draw_blocks (ao : Option Addr) (n cap : Nat) (zs : List Int) (w : World) (hcode : Code w ao n zs) :
    Calls Try.prog 7 #[.slice ao n cap] w fun e w' => ∃ v, e = .returned v ∧ (∃ L, (1 ≤ L.length ∧ L.length ≤ 8) ∧ (∀ j, j < L.length → blkOk (nth L j).1 (nth L j).2 = true) ∧ OwnB w' w.heap.size v L) ∧ Below w.heap.size w w' := by
  have HC := hid hcode
  clear hcode
  go_enter Try.func7, Try.ntmps7
  go_wp2_with fail
  refine (new_any ao n cap zs w HC.out).mono ?_
  rintro e w1 ⟨C, rfl, hc1, hb1⟩
  have HC1 := hid hc1
  have B1 := hid hb1
  have hCw := hc1.1
  clear hc1 hb1
  go_wp2_with fail
  refine (below_any w ao n cap C zs 8 w1 HC.out HC1.out).mono ?_
  rintro e w2 ⟨x, rfl, ⟨hx0, hx1⟩, hc2, he2⟩
  obtain ⟨k, rfl⟩ := Int.eq_ofNat_of_zero_le hx0
  have hk : k ≤ 7 := by omega
  have HC2 := hid hc2
  have HB2 := hid (B1.out.trans ((he2.below (Nat.le_of_lt HC1.out.lt)).mono hCw))
  have hk1 : (1 : Int) + (k : Int) = ((1 + k : Nat) : Int) := by omega
  have HBS := hid (blocks_any w ao n cap C zs (1 + k) w2 (by omega) HC.out HC2.out)
  rw [← hk1] at HBS
  clear hc2 he2 hx0 hx1 hk1
  go_wp2_with fail
  refine HBS.out.mono ?_
  rintro e w3 ⟨v, rfl, ⟨L, hL, hoks, hown⟩, hc3, he3⟩
  have HB3 := hid (HB2.out.trans ((he3.below (Nat.le_of_lt HC2.out.lt)).mono hCw))
  have HO3 := hid (hown.mono HB2.out.size)
  obtain ⟨so, sc', hsv⟩ := hown.shape
  subst hsv
  have HOK := hid hoks
  have HL := hid hL
  clear hown hc3 he3 hoks hL
  go_wp2_with fail
  go_ret
  exact ⟨_, rfl, ⟨L, ⟨by rw [HL.out]; omega, by rw [HL.out]; omega⟩, HOK.out, HO3.out⟩, HB3.out⟩


theorem band_range (k : Int) (h0 : 0 ≤ k) (h1 : k < 63) : 0 ≤ bandP k ∧ bandP k ≤ 3 := by
  unfold bandP
  repeat' split
  all_goals omega
theorem band_up (k : Int) (h0 : 0 < k) (h1 : k < 63) : bandP (k - 1) ≤ bandP k := by
  unfold bandP
  repeat' split
  all_goals omega

set_option maxRecDepth 100000 in
set_option maxHeartbeats 6400000 in
theorem law_fnLengths (ao : Option Addr) (n cap : Nat) (zs : List Int) (w : World) (hr : IsRow .u8 w ao n cap zs) :
    Calls Try.prog 3 #[.slice ao n cap] w fun e w' => e = .returned (.bool true) ∧ Below w.heap.size w w' := by
  have hlen := hr.len.1
  by_cases hl : (1048576 : Int) < (n : Int)
  · have hd : decide ((1048576 : Int) < (n : Int)) = true := by simpa using hl
    clear hr
    go_enter Try.func3, Try.ntmps3
    go_wp2_with (go_at_call 6; refine (big_any _ _ _ _).mono ?_; rw [hd]; rintro e w' ⟨rfl, rfl⟩)
    go_ret
    exact ⟨rfl, Below.refl _ _⟩
  · have hd : decide ((1048576 : Int) < (n : Int)) = false := by simpa using hl
    have HC := hid (code_row hr (by omega))
    clear hr hl
    go_enter Try.func3, Try.ntmps3
    go_wp2_with fail
    refine (big_any _ _ _ _).mono ?_
    rw [hd]
    rintro e w' ⟨rfl, rfl⟩
    clear hd
    go_wp2_with fail
    refine (draw_blocks ao n cap _ w HC.out).mono ?_
    rintro e w1 ⟨v1, rfl, ⟨L, ⟨hL1, hL2⟩, hoks, hown1⟩, hb1⟩
    obtain ⟨lo, lc, hsv⟩ := hown1.shape
    subst hsv
    have B1 := hid hb1
    have HR1 := hid hown1.brow
    have HOK := hid hoks
    clear hb1 hown1 hoks
    go_wp2_with fail
    go_loopw [4] (fun i wr => ∃ k : Nat, k ≤ L.length ∧ i = .int .i64 k ∧ Hid (Below w1.heap.size w1 wr)) (fun i _ => L.length - (intOf i).toNat)
    case atStart => exact ⟨0, by omega, rfl, Below.refl _ _⟩
    case round =>
      obtain ⟨k, hk, rfl, hb⟩ := hrel
      by_cases hlt : k < L.length
      · have hlt' : (k : Int) < (L.length : Int) := by omega
        have hok := HOK.out k hlt
        have hx63 := blkOk_len hok
        have HROW := hid (HR1.out.below hb.out)
        obtain ⟨b, off, a, c, rfl, hc1, hc2, hvw⟩ := HROW.out k hlt
        have HLN := hid (fun q (hq : Below wr.heap.size wr q) => impl_length (.agg #[.int .i64 (nth L k).1, .slice a (nth L k).2.length c]) (nth L k).1 (nth L k).2 q (by rw [hx63]; decide) ⟨a, c, rfl, hvw.below (Nat.le_refl _) hq⟩)
        have hLP : lengthP (nth L k).1 (nth L k).2 = (lenTo (nth L k).2 63 : Nat) := by unfold lengthP; rw [if_pos hok, hx63]
        rw [hLP] at HLN
        have HZ := hid (fun j => lenTo_zero (nth L k).2 63 j)
        have HLA := hid (lenTo_last (nth L k).2 63)
        have hN63 := lenTo_le (nth L k).2 63
        have HVW := hid hvw
        rw [hx63] at HVW
        rw [hx63] at hc2 HLN
        have HC1 := hid (fun q (hq : Below wr.heap.size wr q) => (hq.cell (p := ⟨b, off + k * 2, none⟩) (World.block_lt_of_cell? wr _ hc1)).trans hc1)
        have HC2 := hid (fun q (hq : Below wr.heap.size wr q) => (hq.cell (p := ⟨b, off + k * 2 + 1, none⟩) (World.block_lt_of_cell? wr _ hc2)).trans hc2)
        clear hvw hok HROW hLP
        generalize hNe : lenTo (nth L k).2 63 = N at *
        clear hNe
        generalize (nth L k).1 = D at *
        generalize (nth L k).2 = XS at *
        go_wp2_with fail
        refine (HLN.out _ (Below.refl _ _)).mono ?_
        rintro e w2 ⟨rfl, hb2⟩
        have HB2 := hid hb2
        have d2 := HC2.out _ hb2
        have HV2 := hid (HVW.out.below (Nat.le_refl _) hb2)
        have HBW := hid (hb.out.trans (hb2.mono hb.out.size))
        clear hb2 hc1 hc2 HC1 HC2 HVW HLN
        have hNI : ¬ (63 : Int) < (N : Int) := by omega
        cases N with
        | zero =>
          go_wp2_with fail
          go_loop [6] (fun i => ∃ q : Nat, 0 ≤ q ∧ q ≤ 63 ∧ i = .int .i64 q) (fun i => 63 - (intOf i).toNat)
          case atStart => exact ⟨_, Nat.le_refl _, hN63, rfl⟩
          case round =>
            obtain ⟨q, hq0, hq, rfl⟩ := hrel
            by_cases hq63 : q < 63
            · have hq63' : (q : Int) < 63 := by omega
              obtain ⟨bq, oq, hbq, hxq⟩ := HV2.out.2 q hq63
              subst hbq
              rw [HZ.out q hq0 hq63] at hxq
              go_wp2_with fail
              go_round
              case rel => exact ⟨q + 1, by omega, by omega, by go_num⟩
              case measure => simp [intOf]; omega
            · obtain rfl : q = 63 := by omega
              go_wp2_with fail
              go_roundw
              case rel => exact ⟨k + 1, by omega, by go_num, HBW.out⟩
              case measure => simp [intOf]; omega
        | succ M =>
          obtain ⟨ba, oa, rfl, hx⟩ := HV2.out.2 M (by omega)
          have hxn := HLA.out (by omega)
          have hM1 : ((M + 1 : Nat) : Int) - 1 = (M : Int) := by omega
          have hM0 : (0 : Int) < ((M + 1 : Nat) : Int) := by omega
          rw [Nat.add_sub_cancel] at hxn
          generalize XS.getD M 0 = X at hx hxn
          have hX : (X == 0) = false := by simpa using hxn
          go_wp2_with fail
          go_loop [6] (fun i => ∃ q : Nat, (M + 1) ≤ q ∧ q ≤ 63 ∧ i = .int .i64 q) (fun i => 63 - (intOf i).toNat)
          case atStart => exact ⟨_, Nat.le_refl _, hN63, rfl⟩
          case round =>
            obtain ⟨q, hq0, hq, rfl⟩ := hrel
            by_cases hq63 : q < 63
            · have hq63' : (q : Int) < 63 := by omega
              obtain ⟨bq, oq, hbq, hxq⟩ := HV2.out.2 q hq63
              cases hbq
              rw [HZ.out q hq0 hq63] at hxq
              go_wp2_with fail
              go_round
              case rel => exact ⟨q + 1, by omega, by omega, by go_num⟩
              case measure => simp [intOf]; omega
            · obtain rfl : q = 63 := by omega
              go_wp2_with fail
              go_roundw
              case rel => exact ⟨k + 1, by omega, by go_num, HBW.out⟩
              case measure => simp [intOf]; omega
      · obtain rfl : k = L.length := by omega
        have HBW := hid (B1.out.trans (hb.out.mono B1.out.size))
        go_wp2_with fail
        go_loopw [7] (fun i wq => ∃ k : Nat, k ≤ 63 ∧ i = .int .i64 k ∧ Hid (Below w.heap.size w wq)) (fun i _ => 63 - (intOf i).toNat)
        case atStart => exact ⟨0, by omega, rfl, HBW.out⟩
        case round =>
          obtain ⟨k, hk, rfl, hb⟩ := hrel
          by_cases hlt : k < 63
          · have hlt' : (k : Int) < 63 := by omega
            obtain ⟨hr0, hr1⟩ := band_range k (by omega) hlt'
            have HBI := hid (fun q => impl_band k q)
            have HBS := hid (fun q => spec_band k q)
            have HBJ := hid (fun q => impl_band ((k : Int) - 1) q)
            have hup : 0 < k → bandP ((k : Int) - 1) ≤ bandP k := fun h => band_up k (by omega) hlt'
            generalize bandP ((k : Int) - 1) = Y at *
            generalize bandP (k : Int) = X at *
            have hXX : (X != X) = false := by simp
            have h0 : ¬ X < 0 := by omega
            have h3 : ¬ (3 : Int) < X := by omega
            clear hr0 hr1
            by_cases hk0 : (0 : Int) < (k : Int)
            · have hYX : ¬ X < Y := by have := hup (by omega); omega
              clear hup
              go_wp2_with fail
              refine (HBI.out _).mono ?_
              rintro e wz ⟨rfl, rfl⟩
              go_wp2_with fail
              refine (HBI.out _).mono ?_
              rintro e wz ⟨rfl, rfl⟩
              go_wp2_with fail
              refine (HBI.out _).mono ?_
              rintro e wz ⟨rfl, rfl⟩
              go_wp2_with fail
              refine (HBJ.out _).mono ?_
              rintro e wz ⟨rfl, rfl⟩
              go_wp2_with fail
              refine (HBI.out _).mono ?_
              rintro e wz ⟨rfl, rfl⟩
              go_wp2_with fail
              refine (HBS.out _).mono ?_
              rintro e wz ⟨rfl, rfl⟩
              go_wp2_with fail
              go_roundw
              case rel => exact ⟨k + 1, by omega, by go_num, hb.out⟩
              case measure => simp [intOf]; omega
            · clear hup
              go_wp2_with fail
              refine (HBI.out _).mono ?_
              rintro e wz ⟨rfl, rfl⟩
              go_wp2_with fail
              refine (HBI.out _).mono ?_
              rintro e wz ⟨rfl, rfl⟩
              go_wp2_with fail
              refine (HBI.out _).mono ?_
              rintro e wz ⟨rfl, rfl⟩
              go_wp2_with fail
              refine (HBS.out _).mono ?_
              rintro e wz ⟨rfl, rfl⟩
              go_wp2_with fail
              go_roundw
              case rel => exact ⟨k + 1, by omega, by go_num, hb.out⟩
              case measure => simp [intOf]; omega
          · obtain rfl : k = 63 := by omega
            have HB63 := hid (fun q => impl_band 63 q)
            rw [show bandP 63 = -1 from rfl] at HB63
            go_wp2_with (go_at_call 9; refine (HB63.out _).mono ?_; rintro e wz ⟨rfl, rfl⟩)
            go_ret
            exact ⟨rfl, hb.out⟩
end Go.Proofs.Ytfahdmkbifhfbaa
