/- The walk of the law FnSteps. -/
import Derived.Test.YtdlookcklkdonaaStpY
import Derived.Deep.RegionHeld3
namespace Go.Proofs.Ytdlookcklkdonaa
open Go.RowKit
set_option linter.unusedVariables false

set_option maxHeartbeats 800000 in
/-- Two slices that read as the same numbers. -/
theorem same_same (ao bo : Option Addr) (n cap cap' : Nat) (xs : List Int) (w : World) (hn : n ≤ 4194304) (ha : View .i64 w ao n xs) (hb : View .i64 w bo n xs) :
    Calls Try.prog 15 #[.slice ao n cap, .slice bo n cap'] w fun e w' => e = .returned (.bool true) ∧ Below w.heap.size w w' := by
  have HA := show Hid _ from ha
  have HB := show Hid _ from hb
  clear ha hb
  go_enter Try.func15, Try.ntmps15
  go_wp2
  go_loopw [5] (fun i wr => ∃ k : Nat, k ≤ n ∧ i = .int .i64 k ∧ ∃ q, wr = w.drewN q) (fun i _ => n - (intOf i).toNat)
  case atStart => exact ⟨0, by omega, rfl, 0, rfl⟩
  case round =>
    obtain ⟨k, hk, rfl, q, rfl⟩ := hrel
    by_cases hlt : k < n
    · obtain ⟨b, off, rfl, hc⟩ := HA.out.2 k hlt
      obtain ⟨b', off', rfl, hc'⟩ := HB.out.2 k hlt
      have hlt' : (k : Int) < (n : Int) := by omega
      generalize xs.getD k 0 = X at *
      go_wp2
      go_quiet (fail)
      go_wp2
      go_roundw
      case rel => exact ⟨k + 1, by omega, by go_num, _, rfl⟩
      case measure => simp [intOf]; omega
    · obtain rfl : k = n := by omega
      go_wp2
      go_ret
      exact ⟨rfl, belowN (Below.refl _ _) _⟩

theorem frP_some {xs : List Int} {d : Int} {w w' : World} {e : Ending} (h : FrP (some xs) d w e w') : ∃ v, e = .returned (.tuple #[.agg #[.int .i64 d, v], .bool true]) ∧ Own w' w.heap.size 3 .i64 v xs ∧ Below w.heap.size w w' := by
  obtain ⟨hb, v, he, ho⟩ := h
  exact ⟨v, he, ho, hb⟩
theorem frP_any {R : Option (List Int)} {d : Int} {w w' : World} {e : Ending} (h : FrP R d w e w') : ∃ (x : Int) (a : Option Addr) (l c : Nat), e = .returned (.tuple #[.agg #[.int .i64 x, .slice a l c], .bool R.isSome]) ∧ Below w.heap.size w w' := by
  obtain ⟨hb, v, he, ho⟩ := h
  obtain ⟨a, c, rfl⟩ := ho.shape
  exact ⟨_, a, _, c, he, hb⟩

set_option maxRecDepth 100000 in
set_option maxHeartbeats 3200000 in
theorem law_fnSteps (ao : Option Addr) (n cap : Nat) (zs : List Int) (w : World) (hr : IsRow .u8 w ao n cap zs) :
    Calls Try.prog 4 #[.slice ao n cap] w fun e w' => e = .returned (.bool true) ∧ Below w.heap.size w w' := by
  have hlen := hr.len.1
  by_cases hl : (1048576 : Int) < (n : Int)
  · have hd : decide ((1048576 : Int) < (n : Int)) = true := by simpa using hl
    clear hr
    go_enter Try.func4, Try.ntmps4
    go_wp2_with (go_at_call 7; refine (big_any _ _ _ _).mono ?_; rw [hd]; rintro e w' ⟨rfl, rfl⟩)
    go_ret
    exact ⟨rfl, Below.refl _ _⟩
  · have hd : decide ((1048576 : Int) < (n : Int)) = false := by simpa using hl
    have HC := hid (code_row hr (by omega))
    clear hr hl
    go_enter Try.func4, Try.ntmps4
    go_wp2_with fail
    refine (big_any _ _ _ _).mono ?_
    rw [hd]
    rintro e w' ⟨rfl, rfl⟩
    clear hd
    go_wp2_with fail
    refine (draw_blocks ao n cap _ w HC.out).mono ?_
    rintro e w1 ⟨v1, rfl, ⟨L, ⟨hL1, hL2⟩, hoks, hown1⟩, hb1⟩
    obtain ⟨lo, lc, hsv⟩ := hown1.shape
    subst hsv
    have B1 := hid hb1
    have HR1 := hid hown1.brow
    have HOK := hid hoks
    clear hb1 hown1 hoks
    go_wp2_with fail
    go_loopw [4] (fun i wr => ∃ k : Nat, k ≤ L.length ∧ i = .int .i64 k ∧ Hid (Below w1.heap.size w1 wr)) (fun i _ => L.length - (intOf i).toNat)
    case atStart => exact ⟨0, by omega, rfl, Below.refl _ _⟩
    case round =>
      obtain ⟨k, hk, rfl, hb⟩ := hrel
      by_cases hlt : k < L.length
      · have hlt' : (k : Int) < (L.length : Int) := by omega
        have hok := HOK.out k hlt
        have hxl : (nth L k).2.length ≤ 1048576 := by rw [blkOk_len hok]; decide
        have HS := hid (spec_from_ok (nth L k).1 _ (nth L k).2 hok rfl)
        have HF := hid (stepsR_fine _ _ hok)
        have HROW := hid (HR1.out.below hb.out)
        obtain ⟨b, off, a, c, rfl, hc1, hc2, hvw⟩ := HROW.out k hlt
        have HIS := hid (fun q (hq : Below wr.heap.size wr q) => impl_steps (.agg #[.int .i64 (nth L k).1, .slice a (nth L k).2.length c]) (nth L k).1 (nth L k).2 q hxl ⟨a, c, rfl, hvw.below (Nat.le_refl _) hq⟩)
        have HBO := hid (fun q (hq : Below wr.heap.size wr q) => impl_blockOk (.agg #[.int .i64 (nth L k).1, .slice a (nth L k).2.length c]) (nth L k).1 (nth L k).2 q hxl ⟨a, c, rfl, hvw.below (Nat.le_refl _) hq⟩)
        rw [hok] at HBO
        have HVW := hid hvw
        have HBL := hid (World.block_lt_of_cell? wr ⟨b, off + k * 2, none⟩ hc1)
        have HC1 := hid (fun q (hq : Below wr.heap.size wr q) => (hq.cell (p := ⟨b, off + k * 2, none⟩) (World.block_lt_of_cell? wr _ hc1)).trans hc1)
        have HC2 := hid (fun q (hq : Below wr.heap.size wr q) => (hq.cell (p := ⟨b, off + k * 2 + 1, none⟩) (World.block_lt_of_cell? wr _ hc2)).trans hc2)
        clear hvw hok HROW
        generalize hst : stepsR (nth L k).1 (nth L k).2 = S at *
        clear hst
        generalize (nth L k).1 = D at *
        generalize (nth L k).2 = XS at *
        have hSl := HF.out.1
        have HFS := hid (fun lo lc q hv => impl_fromSteps D lo lc S q (by omega) (fun j hj => Nat.le_trans (HF.out.2 j hj).2 (by decide)) hv)
        rw [HS.out] at HFS
        go_wp2_with fail
        refine (HIS.out _ (Below.refl _ _)).mono ?_
        rintro e w2 ⟨v2, rfl, ⟨vs, hot⟩, hb2⟩
        obtain ⟨so, sc, rfl⟩ := hot.shape
        have d1 := HC1.out _ hb2
        have HB2 := hid hb2
        have HSR := hid hot.srow
        clear hb2 hot hc1 hc2
        go_wp2_with fail
        refine (HFS.out so sc w2 HSR.out).mono ?_
        intro e w3 hfr
        obtain ⟨v3, rfl, ho3, hb3⟩ := frP_some hfr
        obtain ⟨ya, yc, rfl⟩ := ho3.shape
        have HA := hid ((Below.refl w3.heap.size w3).alloc (Nat.le_refl _) (.cells #[.int .i64 D, .slice ya XS.length yc] 38))
        have HT4 := hid (Two.new w3 (.int .i64 D) (.slice ya XS.length yc) 38)
        have HV4 := hid ((ho3.below HA.out).view)
        have HB3 := hid (HB2.out.trans (hb3.mono HB2.out.size))
        have HB4 := hid (HB3.out.trans (HA.out.mono HB3.out.size))
        clear hfr ho3 hb3 d1
        go_wp2_with fail
        generalize w3.alloc (.cells #[.int .i64 D, .slice ya XS.length yc] 38) = w4 at *
        obtain ⟨q1, q2, q3, q4⟩ := HT4.out.cells
        have d1 := HC1.out _ HB4.out
        have d2 := HC2.out _ HB4.out
        have hDD : (D != D) = false := by simp
        have HS63 := hid (show decide ((63 : Int) < (S.length : Int)) = false by simp; omega)
        obtain ⟨ya', yc', hye, hvy⟩ := HV4.out
        cases hye
        have HVY := hid hvy
        have HTC := hid (fun q (hq : Below w4.heap.size w4 q) => (HT4.out.below hq HT4.out.lt).cells)
        clear hvy HV4
        go_cut [74] from 18 to 74 (fun s wx => s = .bool false ∧ Below w4.heap.size w4 wx)
        case first =>
          go_region_held3 (fun q => q.cell? ⟨b, off + k * 2, none⟩ = some (.int .i64 D) ∧ q.cell? ⟨b, off + k * 2 + 1, none⟩ = some (.slice a XS.length c) ∧ q.cell? ⟨w3.heap.size, 0, none⟩ = some (.int .i64 D) ∧ q.cell? ⟨w3.heap.size, 1, none⟩ = some (.slice ya XS.length yc)) (go_keep) (first
            | (go_at_call 19; refine (HBO.out _ ?_).mono ?_; · first | exact HB4.out | exact HB4.out.trans ((Below.refl _ _).drew.mono HB4.out.size) | exact HB4.out.trans ((Below.refl _ _).drew.drew.mono HB4.out.size)
               rintro e w5 ⟨rfl, hb5⟩
               have hc5 : Below w4.heap.size w4 w5 := by first | exact hb5 | exact Below.trans (Below.refl _ _).drew hb5 | exact Below.trans (Below.refl _ _).drew.drew hb5
               have hw5 : Below wr.heap.size wr w5 := HB4.out.trans (hc5.mono HB4.out.size)
               obtain ⟨r1, r2, r3, r4⟩ := HTC.out _ hc5
               have e1 := HC1.out _ hw5
               have e2 := HC2.out _ hw5)
            | (go_at_call 15; refine (same_same _ _ XS.length _ _ XS _ (by omega) ?_ ?_).mono ?_; · first | exact HVY.out.below (Nat.le_refl _) hc5 | exact (HVY.out.below (Nat.le_refl _) hc5).below (Nat.le_refl _) (Below.refl _ _).drew
               · first | exact HVW.out.below (Nat.le_refl _) hw5 | exact (HVW.out.below (Nat.le_refl _) hw5).below (Nat.le_refl _) (Below.refl _ _).drew
               rintro e w6 ⟨rfl, hb6⟩
               have hc6 : Below w4.heap.size w4 w6 := by first | exact hc5.trans (hb6.mono hc5.size) | exact hc5.trans ((Below.trans (Below.refl _ _).drew hb6).mono hc5.size)
               have hw6 : Below wr.heap.size wr w6 := HB4.out.trans (hc6.mono HB4.out.size)
               obtain ⟨t1, t2, t3, t4⟩ := HTC.out _ hc6
               have f1 := HC1.out _ hw6
               have f2 := HC2.out _ hw6))
          all_goals
            go_wp2_with fail
            go_meet
            exact ⟨congrArg Value.bool HS63.out, hc6⟩
        case rest =>
          obtain ⟨rfl, hb9⟩ := hcut
          have HB9 := hid (HB4.out.trans (hb9.mono HB4.out.size))
          have HBW := hid (hb.out.trans (HB9.out.mono hb.out.size))
          clear hb9 q1 q2 q3 q4 d1 d2
          go_wp2_with fail
          go_roundw
          case rel => exact ⟨k + 1, by omega, by go_num, HBW.out⟩
          case measure => simp [intOf]; omega
      · obtain rfl : k = L.length := by omega
        have HBW := hid (B1.out.trans (hb.out.mono B1.out.size))
        have HC2 := hid (show Code wr ao n _ from ⟨HC.out.1, HC.out.2.1.below (Nat.le_refl _) HBW.out, HC.out.2.2⟩)
        go_wp2_with fail
        refine (draw_fromSteps ao n cap _ wr HC2.out).mono ?_
        rintro e w2 ⟨dc, so, sc, T, rfl, ⟨hsr, hT, hTs⟩, hb2⟩
        have HB2 := hid (HBW.out.trans (hb2.mono HBW.out.size))
        have HSR := hid hsr
        have HTS := hid hTs
        clear hsr hTs hb2
        go_wp2_with fail
        refine (impl_fromSteps dc so sc T w2 (by omega) HTS.out HSR.out).mono ?_
        intro e w3 hfr
        obtain ⟨x3, a3, l3, c3, rfl, hb3⟩ := frP_any hfr
        have HA3 := hid ((Below.refl w3.heap.size w3).alloc (Nat.le_refl _) (.cells #[.int .i64 x3, .slice a3 l3 c3] 38))
        have HB3 := hid (hb3.trans (HA3.out.mono hb3.size))
        have HSR3 := hid (HSR.out.below HB3.out)
        clear hfr hb3
        go_wp2_with fail
        generalize w3.alloc (.cells #[.int .i64 x3, .slice a3 l3 c3] 38) = w4 at *
        refine (spec_fromSteps dc so sc T w4 (by omega) HTS.out HSR3.out).mono ?_
        intro e w5 hfr
        obtain ⟨x5, a5, l5, c5, rfl, hb5⟩ := frP_any hfr
        have HA5 := hid ((Below.refl w5.heap.size w5).alloc (Nat.le_refl _) (.cells #[.int .i64 x5, .slice a5 l5 c5] 38))
        have HB5 := hid (HB3.out.trans ((hb5.trans (HA5.out.mono hb5.size)).mono HB3.out.size))
        have HBE := hid (HB2.out.trans (HB5.out.mono HB2.out.size))
        clear hfr hb5
        have hee : ((fromR dc T).isSome == (fromR dc T).isSome) = true := by simp
        generalize (fromR dc T).isSome = Z at *
        go_wp2_with fail
        go_ret
        exact ⟨rfl, HBE.out⟩
end Go.Proofs.Ytdlookcklkdonaa
