/- The walk of the law FnDisk. -/
import Derived.Test.YtlphojlccecnhaaDw
import Derived.Test.YtlphojlccecnhaaDp
import Derived.Test.YtlphojlccecnhaaLi
import Derived.Test.YtlphojlccecnhaaQg
namespace Go.Proofs.Ytlphojlccecnhaa
open Go.RowKit
set_option linter.unusedVariables false

theorem Own.vw {w : World} {base : Nat} {ao : Option Addr} {n c : Nat} {xs : List Int} (h : Own w base 3 .i64 (.slice ao n c) xs) : View .i64 w ao xs.length xs := by
  obtain ⟨ao', cap, e, hv⟩ := h.view
  cases e
  exact hv

set_option maxRecDepth 100000 in
set_option maxHeartbeats 6400000 in
theorem law_fnDisk (ao : Option Addr) (n cap : Nat) (zs : List Int) (w : World) (hv : View .u8 w ao n zs) (hz : ∀ x ∈ zs, (Lit.int .u8 x).wf = true) :
    Calls Try.prog 3 #[.slice ao n cap] w fun e w' => e = .returned (.bool true) ∧ Below w.heap.size w w' := by
  by_cases hbig : (1048576 : Int) < (n : Int)
  · have hd : decide ((1048576 : Int) < (n : Int)) = true := decide_eq_true hbig
    have HBG := hid (big_any ao n cap w)
    rw [hd] at HBG
    go_enter Try.func3, Try.ntmps3
    go_wp2_with (go_at_call 9; refine HBG.out.mono ?_; rintro e w1 ⟨rfl, rfl⟩)
    go_ret
    exact ⟨rfl, Below.refl _ _⟩
  · have hd : decide ((1048576 : Int) < (n : Int)) = false := decide_eq_false hbig
    have HBG := hid (big_any ao n cap w)
    rw [hd] at HBG
    have HDR := hid (draw_write ao n cap zs w ⟨by omega, hv, hz⟩)
    clear hv hz hd hbig
    go_enter Try.func3, Try.ntmps3
    go_wp2_with (first
      | (go_at_call 9; refine HBG.out.mono ?_; rintro e w1 ⟨rfl, rfl⟩)
      | (go_at_call 10; refine HDR.out.mono ?_; rintro e w2 ⟨v, i, s, rfl, S, L, hS1, hS2, hL, hi, hs, ⟨va, vb, rfl, ho1, ho2⟩, hb⟩; obtain ⟨xa, xc, rfl, px, _⟩ := ho1.shape; obtain ⟨ya, yc, rfl, py, _⟩ := ho2.shape; have B := hid hb; have G1 := hid ho1; have G2 := hid ho2; have hb2 := (Below.refl w2.heap.size w2).alloc (Nat.le_refl _) (.cells #[.slice xa S.length xc, .slice ya L.length yc] 27); replace B := hid (B.out.trans (hb2.mono B.out.size)); replace G1 := hid (G1.out.below hb2); replace G2 := hid (G2.out.below hb2); have D := hid (Blk.new w2 [.slice xa S.length xc, .slice ya L.length yc] 27); clear ho1 ho2 hb hb2 px py HDR HBG))
    have HIW := hid (fun v q (hq : DP q v S L) => impl_write v S L i s q (by omega) (by omega) hq)
    have HSW := hid (fun v q (hq : DP q v S L) => spec_write v S L i s q (by omega) (by omega) hq)
    have HLE := hid (wrL_len S L i s)
    have HWN := hid (fun h => wrL_no (S := S) (L := L) (i := i) (s := s) h)
    have HWY := hid (fun h => And.intro (wrL_yes (S := S) (L := L) (i := i) (s := s) h) (wr_facts h))
    generalize wrL S L i s = LE at *
    generalize wrB S L i s = ok at *
    have c00 := D.out.cell (i := 0) rfl
    have c01 := D.out.cell (i := 1) rfl
    go_wp2_with fail
    refine (HIW.out _ _ (show DO _ _ _ S L from ⟨_, _, rfl, G1.out, G2.out⟩).dp).mono ?_
    clear c00 c01
    clear HIW
    generalize w2.alloc (.cells #[.slice xa S.length xc, .slice ya L.length yc] 27) = w3 at *
    rintro e w4 ⟨v, rfl, ⟨va, vb, rfl, ho1, ho2⟩, hb⟩
    obtain ⟨Ea, Ec, rfl, _, _⟩ := ho1.shape
    obtain ⟨Eb, Ed, rfl, _, _⟩ := ho2.shape
    replace B := hid (B.out.trans (hb.mono B.out.size))
    replace D := hid (D.out.below hb D.out.lt)
    replace G1 := hid (G1.out.below hb)
    replace G2 := hid (G2.out.below hb)
    clear hb
    have E1 := hid ho1
    have E2 := hid ho2
    clear ho1 ho2
    have hb := (Below.refl w4.heap.size w4).alloc (Nat.le_refl _) (.cells #[.slice Ea S.length Ec, .slice Eb LE.length Ed] 27)
    replace B := hid (B.out.trans (hb.mono B.out.size))
    replace D := hid (D.out.below hb D.out.lt)
    replace G1 := hid (G1.out.below hb)
    replace G2 := hid (G2.out.below hb)
    replace E1 := hid (E1.out.below hb)
    replace E2 := hid (E2.out.below hb)
    clear hb
    have EB := hid (Blk.new w4 [.slice Ea S.length Ec, .slice Eb LE.length Ed] 27)
    have c00 := D.out.cell (i := 0) rfl
    have c01 := D.out.cell (i := 1) rfl
    go_wp2_with fail
    refine (HSW.out _ _ (show DO _ _ _ S L from ⟨_, _, rfl, G1.out, G2.out⟩).dp).mono ?_
    clear c00 c01
    clear HSW
    generalize w4.alloc (.cells #[.slice Ea S.length Ec, .slice Eb LE.length Ed] 27) = w5 at *
    rintro e w6 ⟨v, rfl, ⟨va, vb, rfl, ho1, ho2⟩, hb⟩
    obtain ⟨Wa, Wc, rfl, _, _⟩ := ho1.shape
    obtain ⟨Wb, We, rfl, _, _⟩ := ho2.shape
    replace B := hid (B.out.trans (hb.mono B.out.size))
    replace D := hid (D.out.below hb D.out.lt)
    replace EB := hid (EB.out.below hb EB.out.lt)
    replace G1 := hid (G1.out.below hb)
    replace G2 := hid (G2.out.below hb)
    replace E1 := hid (E1.out.below hb)
    replace E2 := hid (E2.out.below hb)
    clear hb
    have W1 := hid ho1
    have W2 := hid ho2
    clear ho1 ho2
    have hb := (Below.refl w6.heap.size w6).alloc (Nat.le_refl _) (.cells #[.slice Wa S.length Wc, .slice Wb LE.length We] 27)
    replace B := hid (B.out.trans (hb.mono B.out.size))
    replace D := hid (D.out.below hb D.out.lt)
    replace EB := hid (EB.out.below hb EB.out.lt)
    replace G1 := hid (G1.out.below hb)
    replace G2 := hid (G2.out.below hb)
    replace E1 := hid (E1.out.below hb)
    replace E2 := hid (E2.out.below hb)
    replace W1 := hid (W1.out.below hb)
    replace W2 := hid (W2.out.below hb)
    clear hb
    have WB := hid (Blk.new w6 [.slice Wa S.length Wc, .slice Wb LE.length We] 27)
    clear W1 W2 WB
    have hkk : (ok != ok) = false := by simp
    have c00 := D.out.cell (i := 0) rfl
    have c01 := D.out.cell (i := 1) rfl
    go_wp2_with fail
    generalize w6.alloc (.cells #[.slice Wa S.length Wc, .slice Wb LE.length We] 27) = w7 at *
    have HVD : Hid (DV w7 (.agg #[.slice xa S.length xc, .slice ya L.length yc]) S L) := hid (show DO _ _ _ S L from ⟨_, _, rfl, G1.out, G2.out⟩).dp.dv
    have HI := hid (fun q (hq : Below w7.heap.size w7 q) => (impl_ok _ S L q (HVD.out.below (Nat.le_refl _) hq)).mono (fun e w' (h : e = .returned (.bool (okB S L)) ∧ Below q.heap.size q w') => (show e = .returned (.bool (okB S L)) ∧ Below w7.heap.size w7 w' from ⟨h.1, hq.trans (h.2.mono hq.size)⟩)))
    have HS := hid (fun q (hq : Below w7.heap.size w7 q) => (spec_ok _ S L q (HVD.out.below (Nat.le_refl _) hq)).mono (fun e w' (h : e = .returned (.bool (okB S L)) ∧ Below q.heap.size q w') => (show e = .returned (.bool (okB S L)) ∧ Below w7.heap.size w7 w' from ⟨h.1, hq.trans (h.2.mono hq.size)⟩)))
    generalize okB S L = kb at *
    have hkb : (kb != kb) = false := by simp
    have hbz := Below.refl w7.heap.size w7
    go_cut [49] from 40 to 49 (fun s wx => s = .bool false ∧ Below w7.heap.size w7 wx)
    case first =>
      go_region_with (first
        | (go_at_call 13; refine (HI.out _ (by first | exact hbz | exact hbz.drew | exact hbz.drew.drew | exact hbz.drew.drew.drew)).mono ?_; rintro e w8 ⟨rfl, hbz⟩; have d0 := (D.out.below hbz D.out.lt).cell (i := 0) rfl; have d1 := (D.out.below hbz D.out.lt).cell (i := 1) rfl)
        | (go_at_call 14; refine (HS.out _ (by first | exact hbz | exact hbz.drew | exact hbz.drew.drew | exact hbz.drew.drew.drew)).mono ?_; rintro e w8 ⟨rfl, hbz⟩; have d0 := (D.out.below hbz D.out.lt).cell (i := 0) rfl; have d1 := (D.out.below hbz D.out.lt).cell (i := 1) rfl))
      all_goals
        go_wp2_with fail
        go_meet
        first | exact ⟨rfl, hbz⟩ | exact ⟨rfl, hbz.drew⟩ | exact ⟨rfl, hbz.drew.drew⟩
    case rest =>
      obtain ⟨rfl, hb⟩ := hcut
      rename World => w8
      clear HI HS hkb hbz HVD

      clear c00 c01
      replace B := hid (B.out.trans (hb.mono B.out.size))
      replace D := hid (D.out.below hb D.out.lt)
      replace EB := hid (EB.out.below hb EB.out.lt)
      replace G1 := hid (G1.out.below hb)
      replace G2 := hid (G2.out.below hb)
      replace E1 := hid (E1.out.below hb)
      replace E2 := hid (E2.out.below hb)
      clear hb
      have c00 := D.out.cell (i := 0) rfl
      have c01 := D.out.cell (i := 1) rfl
      have c10 := EB.out.cell (i := 0) rfl
      have c11 := EB.out.cell (i := 1) rfl
      cases ok
      · have hee : ((LE.length : Int) == (L.length : Int)) = true := by rw [HWN.out rfl]; simp
        go_wp2_with fail
        go_ret
        exact ⟨rfl, B.out⟩
      · obtain ⟨e1, hF⟩ := HWY.out rfl
        rw [← e1] at hF
        obtain ⟨_, f2, f3, f4, f5, f6, f7⟩ := hF
        have HF2 := hid f2
        have HF4 := hid f4
        have HF5 := hid f5
        have HF6 := hid f6
        have HF7 := hid f7
        have HBL := hid (bhL_yes f2)
        have hLE : LE.length ≤ 21 := by have := HLE.out; omega
        have HRD := hid (fun v q (hq : DP q v S LE) => impl_read v S LE i q hq)
        rw [f3] at HRD
        clear HWN HWY HLE f2 f3 f4 f5 f6 f7 e1 hkk
        go_wp2_with fail
        refine (HRD.out _ _ (show DO _ _ _ S LE from ⟨_, _, rfl, E1.out, E2.out⟩).dp).mono ?_
        clear HRD
        rintro e w9 ⟨rfl, hb⟩
        clear c00 c01 c10 c11
        replace B := hid (B.out.trans (hb.mono B.out.size))
        replace D := hid (D.out.below hb D.out.lt)
        replace EB := hid (EB.out.below hb EB.out.lt)
        replace G1 := hid (G1.out.below hb)
        replace G2 := hid (G2.out.below hb)
        replace E1 := hid (E1.out.below hb)
        replace E2 := hid (E2.out.below hb)
        clear hb
        have HSY := hid (fun v q (hq : DP q v S LE) => impl_sync v S LE q (by omega) (by omega) hq)
        rw [HBL.out] at HSY
        have HRS := hid (bhS_len S LE kpAll)
        generalize hRS : bhS S LE kpAll = RS at *
        clear hRS
        have c00 := EB.out.cell (i := 0) rfl
        have c01 := EB.out.cell (i := 1) rfl
        go_wp2_with fail
        refine (HSY.out _ _ (show DO _ _ _ S LE from ⟨_, _, rfl, E1.out, E2.out⟩).dp).mono ?_
        clear c00 c01
        clear HSY
        rintro e w10 ⟨v, rfl, ⟨va, vb, rfl, ho1, ho2⟩, hb⟩
        obtain ⟨Fa, Fc, rfl, _, _⟩ := ho1.shape
        obtain ⟨Fb, Fd, rfl, _, _⟩ := ho2.shape
        replace B := hid (B.out.trans (hb.mono B.out.size))
        replace D := hid (D.out.below hb D.out.lt)
        replace EB := hid (EB.out.below hb EB.out.lt)
        replace G1 := hid (G1.out.below hb)
        replace G2 := hid (G2.out.below hb)
        replace E1 := hid (E1.out.below hb)
        replace E2 := hid (E2.out.below hb)
        clear hb
        have F1 := hid ho1
        have F2 := hid ho2
        clear ho1 ho2
        have hb := (Below.refl w10.heap.size w10).alloc (Nat.le_refl _) (.cells #[.slice Fa RS.length Fc, .slice Fb 0 Fd] 27)
        replace B := hid (B.out.trans (hb.mono B.out.size))
        replace D := hid (D.out.below hb D.out.lt)
        replace EB := hid (EB.out.below hb EB.out.lt)
        replace G1 := hid (G1.out.below hb)
        replace G2 := hid (G2.out.below hb)
        replace E1 := hid (E1.out.below hb)
        replace E2 := hid (E2.out.below hb)
        replace F1 := hid (F1.out.below hb)
        replace F2 := hid (F2.out.below hb)
        clear hb
        have FB := hid (Blk.new w10 [.slice Fa RS.length Fc, .slice Fb 0 Fd] 27)
        have HM : Hid ((w10.alloc (.cells #[.slice Fa RS.length Fc, .slice Fb 0 Fd] 27)).heap.size = w10.heap.size + 1) := hid (by show (Array.push _ _).size = _; rw [Array.size_push])
        have KO := hid (Own.empty (w10.alloc (.cells #[.slice Fa RS.length Fc, .slice Fb 0 Fd] 27)) 3 .i64 (w10.alloc (.cells #[.slice Fa RS.length Fc, .slice Fb 0 Fd] 27)).heap.size (Nat.le_refl _))
        have HB0 := hid ((Below.refl (w10.alloc (.cells #[.slice Fa RS.length Fc, .slice Fb 0 Fd] 27)).heap.size (w10.alloc (.cells #[.slice Fa RS.length Fc, .slice Fb 0 Fd] 27))).alloc (Nat.le_refl _) (.cells #[] 3))
        rw [HM.out] at KO HB0
        go_wp2_with fail
        generalize w10.alloc (.cells #[.slice Fa RS.length Fc, .slice Fb 0 Fd] 27) = wa at *
        go_loopw [13, 14] (fun q j wr => ∃ (k : Nat) (ks : List Int), k ≤ LE.length ∧ j = .int .i64 k ∧ Hid (ks = List.replicate k 1) ∧ Hid (Own wr (w10.heap.size + 1) 3 .i64 q ks) ∧ Hid (Below (w10.heap.size + 1) wa wr)) (fun _ j _ => LE.length - (intOf j).toNat)
        case atStart => exact ⟨0, [], by omega, rfl, hid rfl, KO.out, HB0.out⟩
        case round =>
          obtain ⟨k, ks, hk, rfl, hks, hown, hbl⟩ := hrel
          clear KO HB0
          obtain ⟨qa, qc, rfl⟩ := hown.out.shape
          have HW : Hid (Below wa.heap.size wa wr) := hid (by rw [HM.out]; exact hbl.out)
          have e0 := (EB.out.below HW.out EB.out.lt).cell (i := 0) rfl
          have e1 := (EB.out.below HW.out EB.out.lt).cell (i := 1) rfl
          by_cases hlt : k < LE.length
          · have hlt' : (k : Int) < (LE.length : Int) := by omega
            have hlk : ks.length < 1000000000000 := by rw [hks.out]; simp; omega
            go_wp2_with (at_builtin; refine push_int wr wr.heap.size rfl rfl _ _ 36 rfl (w10.heap.size + 1) 3 .i64 0 8 Try.underlying36 Try.info3 (.slice qa ks.length qc) ks rfl hown.out 1 rfl hlk (by decide) ?_)
            intro v3 w13 ho3 hb3
            have HO3 := hid ho3
            have HB3 := hid (hbl.out.trans hb3)
            clear ho3 hb3
            go_wp2_with fail
            go_roundw
            case rel => exact ⟨k + 1, ks ++ [1], by omega, by go_num, hid (by rw [hks.out, List.replicate_succ']), HO3.out, HB3.out⟩
            case measure => simp [intOf]; omega
          · obtain rfl : k = LE.length := by omega
            have hkl : ks.length = LE.length := by rw [hks.out]; simp
            have HKL := hid hkl
            clear hkl
            clear e0 e1
            have hb := HW.out
            replace B := hid (B.out.trans (hb.mono B.out.size))
            replace D := hid (D.out.below hb D.out.lt)
            replace EB := hid (EB.out.below hb EB.out.lt)
            replace FB := hid (FB.out.below hb FB.out.lt)
            replace G1 := hid (G1.out.below hb)
            replace G2 := hid (G2.out.below hb)
            replace E1 := hid (E1.out.below hb)
            replace E2 := hid (E2.out.below hb)
            replace F1 := hid (F1.out.below hb)
            replace F2 := hid (F2.out.below hb)
            clear hb
            clear HW hbl HM
            have c00 := D.out.cell (i := 0) rfl
            have c01 := D.out.cell (i := 1) rfl
            have c10 := EB.out.cell (i := 0) rfl
            have c11 := EB.out.cell (i := 1) rfl
            have c20 := FB.out.cell (i := 0) rfl
            have c21 := FB.out.cell (i := 1) rfl
            have HK := hid hown.out.vw
            go_wp2_with fail
            go_cut [15, 16] from 78 to 82 (fun p r wx => ∃ b1 b2 v1 v2 v3 v4, p = .pointer (some ⟨b1, 0, none⟩) ∧ r = .pointer (some ⟨b2, 0, none⟩) ∧ Blk wx b1 [v1, v2] 27 ∧ Blk wx b2 [v3, v4] 27 ∧ OwG wx wr.heap.size 9 1 v1 RS.length (encS RS) ∧ OwG wx wr.heap.size 43 2 v2 0 [] ∧ OwG wx wr.heap.size 9 1 v3 S.length (encS S) ∧ OwG wx wr.heap.size 43 2 v4 0 [] ∧ Below wr.heap.size wr wx)
            case first =>
              have CE0 := c10
              have CE1 := c11
              clear c00 c01 c10 c11 c20 c21
              have hklen : ks.length ≤ 1048576 := by rw [HKL.out]; omega
              have HC1 := hid (fun v q (hq : DP q v S LE) (hk : View .i64 q qa ks.length ks) => impl_crash v S LE qa qc ks q (by omega) (by omega) hq hklen hk)
              rw [HF5.out ks hks.out, HBL.out] at HC1
              have HC2 := hid (fun v q (hq : DP q v S LE) => impl_crash v S LE none 0 [] q (by omega) (by omega) hq (by simp) ⟨rfl, fun i hi => by simp at hi⟩)
              rw [HF6.out, HBL.out] at HC2
              have HB := hid (Bw.refl wr)
              clear hklen
              refine region_R (by kernel_rfl) ?_
              refine anyR_load 0 rfl (by kernel_rfl) (by kernel_rfl) (by kernel_rfl) (.agg #[.slice Ea S.length Ec, .slice Eb LE.length Ed]) rfl (fun wz hwz => ?_) (fun K hK => ?_)
              · have y0 := cell_bw CE0 hwz; have y1 := cell_bw CE1 hwz
                go_simp
              go_simp
              refine hK _ ?_
              clear hK K
              refine anyR_quiet 1 rfl (by kernel_rfl) (by kernel_rfl) (by kernel_rfl) (fun K hK => ?_)
              go_simp
              refine ⟨_, fun _ _ => rfl, hK _ ?_⟩
              clear hK K
              refine anyR_load 3 rfl (by kernel_rfl) (by kernel_rfl) (by kernel_rfl) (.agg #[.slice Ea S.length Ec, .slice Eb LE.length Ed]) rfl (fun wz hwz => ?_) (fun K hK => ?_)
              · have y0 := cell_bw CE0 hwz; have y1 := cell_bw CE1 hwz
                go_simp
              go_simp
              refine hK _ ?_
              clear hK K
              clear CE0 CE1
              refine anyR_many [2, 5, 6] (by kernel_rfl) (by simp) (List.forall_mem_cons.2 ⟨?_, List.forall_mem_cons.2 ⟨?_, List.forall_mem_cons.2 ⟨?_, List.forall_mem_nil _⟩⟩⟩)
              · refine stepR_call rfl rfl (by kernel_rfl) (fun wx2 hwx K hK => ?_)
                go_simp
                refine (HC1.out _ _ (show DO _ _ _ S LE from ⟨_, _, rfl, E1.out.below hwx, E2.out.below hwx⟩).dp (HK.out.below (Nat.le_refl _) hwx)).mono ?_
                rintro e wy2 ⟨v, rfl, ⟨va, vb, rfl, ho1, ho2⟩, hby⟩
                obtain ⟨Pa, Pc, rfl, _, _⟩ := ho1.shape
                obtain ⟨Pb, Pd, rfl, _, _⟩ := ho2.shape
                refine hK _ _ (.inr hby) ?_
                clear hK K
                have P1 := hid (ho1.mono (Below.size (HB.out.trans hwx)))
                have P2 := hid (ho2.mono (Below.size (HB.out.trans hwx)))
                have T := Bw.trans hwx hby
                replace E1 := hid (E1.out.below T)
                replace E2 := hid (E2.out.below T)
                replace HK := hid (HK.out.below (Nat.le_refl _) T)
                replace HB := hid (HB.out.trans T)
                clear ho1 ho2 hby hwx T
                refine anyR_many [4, 5, 6] (by kernel_rfl) (by simp) (List.forall_mem_cons.2 ⟨?_, List.forall_mem_cons.2 ⟨?_, List.forall_mem_cons.2 ⟨?_, List.forall_mem_nil _⟩⟩⟩)
                · refine stepR_call rfl rfl (by kernel_rfl) (fun wx4 hwx K hK => ?_)
                  go_simp
                  refine (HC2.out _ _ (show DO _ _ _ S LE from ⟨_, _, rfl, E1.out.below hwx, E2.out.below hwx⟩).dp).mono ?_
                  rintro e wy4 ⟨v, rfl, ⟨va, vb, rfl, ho1, ho2⟩, hby⟩
                  obtain ⟨Qa, Qc, rfl, _, _⟩ := ho1.shape
                  obtain ⟨Qb, Qd, rfl, _, _⟩ := ho2.shape
                  refine hK _ _ (.inr hby) ?_
                  clear hK K
                  have Q1 := hid (ho1.mono (Below.size (HB.out.trans hwx)))
                  have Q2 := hid (ho2.mono (Below.size (HB.out.trans hwx)))
                  have T := Bw.trans hwx hby
                  replace E1 := hid (E1.out.below T)
                  replace E2 := hid (E2.out.below T)
                  replace HK := hid (HK.out.below (Nat.le_refl _) T)
                  replace HB := hid (HB.out.trans T)
                  replace P1 := hid (P1.out.below T)
                  replace P2 := hid (P2.out.below T)
                  clear ho1 ho2 hby hwx T
                  refine anyR_many [5, 6] (by kernel_rfl) (by simp) (List.forall_mem_cons.2 ⟨?_, List.forall_mem_cons.2 ⟨?_, List.forall_mem_nil _⟩⟩)
                  · refine stepR_call rfl rfl (by kernel_rfl) (fun wx5 hwx K hK => ?_)
                    go_simp
                    refine hK _ _ (.inr ((Below.refl _ _).alloc (Nat.le_refl _) _)) ?_
                    clear hK K
                    have X5 := hid (Blk.new wx5 [.slice none 0 0, .slice none 0 0] 27)
                    have hge5 := Below.size (HB.out.trans hwx)
                    have T := Bw.trans hwx ((Below.refl wx5.heap.size wx5).alloc (Nat.le_refl _) (.cells #[.slice none 0 0, .slice none 0 0] 27))
                    generalize wx5.alloc (.cells #[.slice none 0 0, .slice none 0 0] 27) = wy5 at *
                    replace E1 := hid (E1.out.below T)
                    replace E2 := hid (E2.out.below T)
                    replace HK := hid (HK.out.below (Nat.le_refl _) T)
                    replace HB := hid (HB.out.trans T)
                    replace P1 := hid (P1.out.below T)
                    replace P2 := hid (P2.out.below T)
                    replace Q1 := hid (Q1.out.below T)
                    replace Q2 := hid (Q2.out.below T)
                    clear hwx T
                    refine anyR_callG 6 rfl rfl (by kernel_rfl) (by kernel_rfl) (fun wx6 hwx K hK => ?_)
                    go_simp
                    refine hK _ _ (.inr ((Below.refl _ _).alloc (Nat.le_refl _) _)) ?_
                    clear hK K
                    have X6 := hid (Blk.new wx6 [.slice none 0 0, .slice none 0 0] 27)
                    have hge6 := Below.size (HB.out.trans hwx)
                    have hne : wx5.heap.size ≠ wx6.heap.size := by have h1 := X5.out.lt; have h2 := Below.size hwx; omega
                    have T := Bw.trans hwx ((Below.refl wx6.heap.size wx6).alloc (Nat.le_refl _) (.cells #[.slice none 0 0, .slice none 0 0] 27))
                    generalize wx6.alloc (.cells #[.slice none 0 0, .slice none 0 0] 27) = wy6 at *
                    replace E1 := hid (E1.out.below T)
                    replace E2 := hid (E2.out.below T)
                    replace HK := hid (HK.out.below (Nat.le_refl _) T)
                    replace HB := hid (HB.out.trans T)
                    replace P1 := hid (P1.out.below T)
                    replace P2 := hid (P2.out.below T)
                    replace Q1 := hid (Q1.out.below T)
                    replace Q2 := hid (Q2.out.below T)
                    replace X5 := hid (X5.out.below T X5.out.lt)
                    clear hwx T
                    have hne56 : wx5.heap.size ≠ wx6.heap.size := by omega
                    generalize wx5.heap.size = b5 at *
                    generalize wx6.heap.size = b6 at *
                    refine anyR_callG 7 rfl rfl (by kernel_rfl) (by kernel_rfl) (fun wx hwx K hK => ?_)
                    replace HB := hid (HB.out.trans hwx)
                    replace P1 := hid (P1.out.below hwx)
                    replace P2 := hid (P2.out.below hwx)
                    replace Q1 := hid (Q1.out.below hwx)
                    replace Q2 := hid (Q2.out.below hwx)
                    replace X5 := hid (X5.out.below hwx X5.out.lt)
                    replace X6 := hid (X6.out.below hwx X6.out.lt)
                    have k0 := X5.out.cell (i := 0) rfl
                    have k1 := X5.out.cell (i := 1) rfl
                    have l0 := X5.out.free 0
                    have l1 := X5.out.free 1
                    go_simp
                    refine hK _ _ (.inl (by kernel_rfl)) ?_
                    clear hK K k0 k1 l0 l1
                    have HBB := hid ((Below.setCell (p := ⟨b5, 0, none⟩) HB.out hge5 (.slice Pa RS.length Pc)).setCell (p := ⟨b5, 1, none⟩) hge5 (.slice Pb 0 Pd))
                    have Z0 := X5.out.set 0 (.slice Pa RS.length Pc)
                    replace P1 := hid ((P1.out.setCell_other (a := ⟨b5, 0, none⟩) (fun e => P1.out.tag X5.out (by decide) e.symm) (.slice Pa RS.length Pc)))
                    replace P2 := hid ((P2.out.setCell_other (a := ⟨b5, 0, none⟩) (fun e => P2.out.tag X5.out (by decide) e.symm) (.slice Pa RS.length Pc)))
                    replace Q1 := hid ((Q1.out.setCell_other (a := ⟨b5, 0, none⟩) (fun e => Q1.out.tag X5.out (by decide) e.symm) (.slice Pa RS.length Pc)))
                    replace Q2 := hid ((Q2.out.setCell_other (a := ⟨b5, 0, none⟩) (fun e => Q2.out.tag X5.out (by decide) e.symm) (.slice Pa RS.length Pc)))
                    replace P1 := hid ((P1.out.setCell_other (a := ⟨b5, 1, none⟩) (fun e => P1.out.tag Z0 (by decide) e.symm) (.slice Pb 0 Pd)))
                    replace P2 := hid ((P2.out.setCell_other (a := ⟨b5, 1, none⟩) (fun e => P2.out.tag Z0 (by decide) e.symm) (.slice Pb 0 Pd)))
                    replace Q1 := hid ((Q1.out.setCell_other (a := ⟨b5, 1, none⟩) (fun e => Q1.out.tag Z0 (by decide) e.symm) (.slice Pb 0 Pd)))
                    replace Q2 := hid ((Q2.out.setCell_other (a := ⟨b5, 1, none⟩) (fun e => Q2.out.tag Z0 (by decide) e.symm) (.slice Pb 0 Pd)))
                    replace X6 := hid ((X6.out.other (a := ⟨b5, 0, none⟩) hne56.symm (.slice Pa RS.length Pc)).other (a := ⟨b5, 1, none⟩) hne56.symm (.slice Pb 0 Pd))
                    replace X5 := hid (Z0.set 1 (.slice Pb 0 Pd))
                    clear Z0
                    generalize (wx.setCell ⟨b5, 0, none⟩ (.slice Pa RS.length Pc)).setCell ⟨b5, 1, none⟩ (.slice Pb 0 Pd) = w77 at *
                    refine anyR_last 8 rfl (by kernel_rfl) (by kernel_rfl) (fun wz hwz K hK => ?_)
                    replace P1 := hid (P1.out.below hwz)
                    replace P2 := hid (P2.out.below hwz)
                    replace Q1 := hid (Q1.out.below hwz)
                    replace Q2 := hid (Q2.out.below hwz)
                    replace X5 := hid (X5.out.below hwz X5.out.lt)
                    replace X6 := hid (X6.out.below hwz X6.out.lt)
                    replace HBB := hid (HBB.out.trans (Below.mono hwz HBB.out.size))
                    have k0 := X6.out.cell (i := 0) rfl
                    have k1 := X6.out.cell (i := 1) rfl
                    have l0 := X6.out.free 0
                    have l1 := X6.out.free 1
                    go_simp
                    refine hK _ _ ?_
                    clear hK K k0 k1 l0 l1
                    replace HBB := hid ((HBB.out.setCell (p := ⟨b6, 0, none⟩) hge6 (.slice Qa S.length Qc)).setCell (p := ⟨b6, 1, none⟩) hge6 (.slice Qb 0 Qd))
                    have Z0 := X6.out.set 0 (.slice Qa S.length Qc)
                    replace P1 := hid ((P1.out.setCell_other (a := ⟨b6, 0, none⟩) (fun e => P1.out.tag X6.out (by decide) e.symm) (.slice Qa S.length Qc)))
                    replace P2 := hid ((P2.out.setCell_other (a := ⟨b6, 0, none⟩) (fun e => P2.out.tag X6.out (by decide) e.symm) (.slice Qa S.length Qc)))
                    replace Q1 := hid ((Q1.out.setCell_other (a := ⟨b6, 0, none⟩) (fun e => Q1.out.tag X6.out (by decide) e.symm) (.slice Qa S.length Qc)))
                    replace Q2 := hid ((Q2.out.setCell_other (a := ⟨b6, 0, none⟩) (fun e => Q2.out.tag X6.out (by decide) e.symm) (.slice Qa S.length Qc)))
                    replace P1 := hid ((P1.out.setCell_other (a := ⟨b6, 1, none⟩) (fun e => P1.out.tag Z0 (by decide) e.symm) (.slice Qb 0 Qd)))
                    replace P2 := hid ((P2.out.setCell_other (a := ⟨b6, 1, none⟩) (fun e => P2.out.tag Z0 (by decide) e.symm) (.slice Qb 0 Qd)))
                    replace Q1 := hid ((Q1.out.setCell_other (a := ⟨b6, 1, none⟩) (fun e => Q1.out.tag Z0 (by decide) e.symm) (.slice Qb 0 Qd)))
                    replace Q2 := hid ((Q2.out.setCell_other (a := ⟨b6, 1, none⟩) (fun e => Q2.out.tag Z0 (by decide) e.symm) (.slice Qb 0 Qd)))
                    replace X5 := hid ((X5.out.other (a := ⟨b6, 0, none⟩) hne56 (.slice Qa S.length Qc)).other (a := ⟨b6, 1, none⟩) hne56 (.slice Qb 0 Qd))
                    replace X6 := hid (Z0.set 1 (.slice Qb 0 Qd))
                    clear Z0
                    go_wp2_with fail
                    go_meet
                    exact ⟨b5, b6, _, _, _, _, rfl, rfl, X5.out, X6.out, P1.out, P2.out, Q1.out, Q2.out, HBB.out⟩
                  · refine stepR_call rfl rfl (by kernel_rfl) (fun wx6 hwx K hK => ?_)
                    go_simp
                    refine hK _ _ (.inr ((Below.refl _ _).alloc (Nat.le_refl _) _)) ?_
                    clear hK K
                    have X6 := hid (Blk.new wx6 [.slice none 0 0, .slice none 0 0] 27)
                    have hge6 := Below.size (HB.out.trans hwx)
                    have T := Bw.trans hwx ((Below.refl wx6.heap.size wx6).alloc (Nat.le_refl _) (.cells #[.slice none 0 0, .slice none 0 0] 27))
                    generalize wx6.alloc (.cells #[.slice none 0 0, .slice none 0 0] 27) = wy6 at *
                    replace E1 := hid (E1.out.below T)
                    replace E2 := hid (E2.out.below T)
                    replace HK := hid (HK.out.below (Nat.le_refl _) T)
                    replace HB := hid (HB.out.trans T)
                    replace P1 := hid (P1.out.below T)
                    replace P2 := hid (P2.out.below T)
                    replace Q1 := hid (Q1.out.below T)
                    replace Q2 := hid (Q2.out.below T)
                    clear hwx T
                    refine anyR_callG 5 rfl rfl (by kernel_rfl) (by kernel_rfl) (fun wx5 hwx K hK => ?_)
                    go_simp
                    refine hK _ _ (.inr ((Below.refl _ _).alloc (Nat.le_refl _) _)) ?_
                    clear hK K
                    have X5 := hid (Blk.new wx5 [.slice none 0 0, .slice none 0 0] 27)
                    have hge5 := Below.size (HB.out.trans hwx)
                    have hne : wx6.heap.size ≠ wx5.heap.size := by have h1 := X6.out.lt; have h2 := Below.size hwx; omega
                    have T := Bw.trans hwx ((Below.refl wx5.heap.size wx5).alloc (Nat.le_refl _) (.cells #[.slice none 0 0, .slice none 0 0] 27))
                    generalize wx5.alloc (.cells #[.slice none 0 0, .slice none 0 0] 27) = wy5 at *
                    replace E1 := hid (E1.out.below T)
                    replace E2 := hid (E2.out.below T)
                    replace HK := hid (HK.out.below (Nat.le_refl _) T)
                    replace HB := hid (HB.out.trans T)
                    replace P1 := hid (P1.out.below T)
                    replace P2 := hid (P2.out.below T)
                    replace Q1 := hid (Q1.out.below T)
                    replace Q2 := hid (Q2.out.below T)
                    replace X6 := hid (X6.out.below T X6.out.lt)
                    clear hwx T
                    have hne56 : wx5.heap.size ≠ wx6.heap.size := by omega
                    generalize wx5.heap.size = b5 at *
                    generalize wx6.heap.size = b6 at *
                    refine anyR_callG 7 rfl rfl (by kernel_rfl) (by kernel_rfl) (fun wx hwx K hK => ?_)
                    replace HB := hid (HB.out.trans hwx)
                    replace P1 := hid (P1.out.below hwx)
                    replace P2 := hid (P2.out.below hwx)
                    replace Q1 := hid (Q1.out.below hwx)
                    replace Q2 := hid (Q2.out.below hwx)
                    replace X6 := hid (X6.out.below hwx X6.out.lt)
                    replace X5 := hid (X5.out.below hwx X5.out.lt)
                    have k0 := X5.out.cell (i := 0) rfl
                    have k1 := X5.out.cell (i := 1) rfl
                    have l0 := X5.out.free 0
                    have l1 := X5.out.free 1
                    go_simp
                    refine hK _ _ (.inl (by kernel_rfl)) ?_
                    clear hK K k0 k1 l0 l1
                    have HBB := hid ((Below.setCell (p := ⟨b5, 0, none⟩) HB.out hge5 (.slice Pa RS.length Pc)).setCell (p := ⟨b5, 1, none⟩) hge5 (.slice Pb 0 Pd))
                    have Z0 := X5.out.set 0 (.slice Pa RS.length Pc)
                    replace P1 := hid ((P1.out.setCell_other (a := ⟨b5, 0, none⟩) (fun e => P1.out.tag X5.out (by decide) e.symm) (.slice Pa RS.length Pc)))
                    replace P2 := hid ((P2.out.setCell_other (a := ⟨b5, 0, none⟩) (fun e => P2.out.tag X5.out (by decide) e.symm) (.slice Pa RS.length Pc)))
                    replace Q1 := hid ((Q1.out.setCell_other (a := ⟨b5, 0, none⟩) (fun e => Q1.out.tag X5.out (by decide) e.symm) (.slice Pa RS.length Pc)))
                    replace Q2 := hid ((Q2.out.setCell_other (a := ⟨b5, 0, none⟩) (fun e => Q2.out.tag X5.out (by decide) e.symm) (.slice Pa RS.length Pc)))
                    replace P1 := hid ((P1.out.setCell_other (a := ⟨b5, 1, none⟩) (fun e => P1.out.tag Z0 (by decide) e.symm) (.slice Pb 0 Pd)))
                    replace P2 := hid ((P2.out.setCell_other (a := ⟨b5, 1, none⟩) (fun e => P2.out.tag Z0 (by decide) e.symm) (.slice Pb 0 Pd)))
                    replace Q1 := hid ((Q1.out.setCell_other (a := ⟨b5, 1, none⟩) (fun e => Q1.out.tag Z0 (by decide) e.symm) (.slice Pb 0 Pd)))
                    replace Q2 := hid ((Q2.out.setCell_other (a := ⟨b5, 1, none⟩) (fun e => Q2.out.tag Z0 (by decide) e.symm) (.slice Pb 0 Pd)))
                    replace X6 := hid ((X6.out.other (a := ⟨b5, 0, none⟩) hne56.symm (.slice Pa RS.length Pc)).other (a := ⟨b5, 1, none⟩) hne56.symm (.slice Pb 0 Pd))
                    replace X5 := hid (Z0.set 1 (.slice Pb 0 Pd))
                    clear Z0
                    generalize (wx.setCell ⟨b5, 0, none⟩ (.slice Pa RS.length Pc)).setCell ⟨b5, 1, none⟩ (.slice Pb 0 Pd) = w77 at *
                    refine anyR_last 8 rfl (by kernel_rfl) (by kernel_rfl) (fun wz hwz K hK => ?_)
                    replace P1 := hid (P1.out.below hwz)
                    replace P2 := hid (P2.out.below hwz)
                    replace Q1 := hid (Q1.out.below hwz)
                    replace Q2 := hid (Q2.out.below hwz)
                    replace X5 := hid (X5.out.below hwz X5.out.lt)
                    replace X6 := hid (X6.out.below hwz X6.out.lt)
                    replace HBB := hid (HBB.out.trans (Below.mono hwz HBB.out.size))
                    have k0 := X6.out.cell (i := 0) rfl
                    have k1 := X6.out.cell (i := 1) rfl
                    have l0 := X6.out.free 0
                    have l1 := X6.out.free 1
                    go_simp
                    refine hK _ _ ?_
                    clear hK K k0 k1 l0 l1
                    replace HBB := hid ((HBB.out.setCell (p := ⟨b6, 0, none⟩) hge6 (.slice Qa S.length Qc)).setCell (p := ⟨b6, 1, none⟩) hge6 (.slice Qb 0 Qd))
                    have Z0 := X6.out.set 0 (.slice Qa S.length Qc)
                    replace P1 := hid ((P1.out.setCell_other (a := ⟨b6, 0, none⟩) (fun e => P1.out.tag X6.out (by decide) e.symm) (.slice Qa S.length Qc)))
                    replace P2 := hid ((P2.out.setCell_other (a := ⟨b6, 0, none⟩) (fun e => P2.out.tag X6.out (by decide) e.symm) (.slice Qa S.length Qc)))
                    replace Q1 := hid ((Q1.out.setCell_other (a := ⟨b6, 0, none⟩) (fun e => Q1.out.tag X6.out (by decide) e.symm) (.slice Qa S.length Qc)))
                    replace Q2 := hid ((Q2.out.setCell_other (a := ⟨b6, 0, none⟩) (fun e => Q2.out.tag X6.out (by decide) e.symm) (.slice Qa S.length Qc)))
                    replace P1 := hid ((P1.out.setCell_other (a := ⟨b6, 1, none⟩) (fun e => P1.out.tag Z0 (by decide) e.symm) (.slice Qb 0 Qd)))
                    replace P2 := hid ((P2.out.setCell_other (a := ⟨b6, 1, none⟩) (fun e => P2.out.tag Z0 (by decide) e.symm) (.slice Qb 0 Qd)))
                    replace Q1 := hid ((Q1.out.setCell_other (a := ⟨b6, 1, none⟩) (fun e => Q1.out.tag Z0 (by decide) e.symm) (.slice Qb 0 Qd)))
                    replace Q2 := hid ((Q2.out.setCell_other (a := ⟨b6, 1, none⟩) (fun e => Q2.out.tag Z0 (by decide) e.symm) (.slice Qb 0 Qd)))
                    replace X5 := hid ((X5.out.other (a := ⟨b6, 0, none⟩) hne56 (.slice Qa S.length Qc)).other (a := ⟨b6, 1, none⟩) hne56 (.slice Qb 0 Qd))
                    replace X6 := hid (Z0.set 1 (.slice Qb 0 Qd))
                    clear Z0
                    go_wp2_with fail
                    go_meet
                    exact ⟨b5, b6, _, _, _, _, rfl, rfl, X5.out, X6.out, P1.out, P2.out, Q1.out, Q2.out, HBB.out⟩
                · refine stepR_call rfl rfl (by kernel_rfl) (fun wx5 hwx K hK => ?_)
                  go_simp
                  refine hK _ _ (.inr ((Below.refl _ _).alloc (Nat.le_refl _) _)) ?_
                  clear hK K
                  have X5 := hid (Blk.new wx5 [.slice none 0 0, .slice none 0 0] 27)
                  have hge5 := Below.size (HB.out.trans hwx)
                  have T := Bw.trans hwx ((Below.refl wx5.heap.size wx5).alloc (Nat.le_refl _) (.cells #[.slice none 0 0, .slice none 0 0] 27))
                  generalize wx5.alloc (.cells #[.slice none 0 0, .slice none 0 0] 27) = wy5 at *
                  replace E1 := hid (E1.out.below T)
                  replace E2 := hid (E2.out.below T)
                  replace HK := hid (HK.out.below (Nat.le_refl _) T)
                  replace HB := hid (HB.out.trans T)
                  replace P1 := hid (P1.out.below T)
                  replace P2 := hid (P2.out.below T)
                  clear hwx T
                  refine anyR_many [4, 6] (by kernel_rfl) (by simp) (List.forall_mem_cons.2 ⟨?_, List.forall_mem_cons.2 ⟨?_, List.forall_mem_nil _⟩⟩)
                  · refine stepR_call rfl rfl (by kernel_rfl) (fun wx4 hwx K hK => ?_)
                    go_simp
                    refine (HC2.out _ _ (show DO _ _ _ S LE from ⟨_, _, rfl, E1.out.below hwx, E2.out.below hwx⟩).dp).mono ?_
                    rintro e wy4 ⟨v, rfl, ⟨va, vb, rfl, ho1, ho2⟩, hby⟩
                    obtain ⟨Qa, Qc, rfl, _, _⟩ := ho1.shape
                    obtain ⟨Qb, Qd, rfl, _, _⟩ := ho2.shape
                    refine hK _ _ (.inr hby) ?_
                    clear hK K
                    have Q1 := hid (ho1.mono (Below.size (HB.out.trans hwx)))
                    have Q2 := hid (ho2.mono (Below.size (HB.out.trans hwx)))
                    have T := Bw.trans hwx hby
                    replace E1 := hid (E1.out.below T)
                    replace E2 := hid (E2.out.below T)
                    replace HK := hid (HK.out.below (Nat.le_refl _) T)
                    replace HB := hid (HB.out.trans T)
                    replace P1 := hid (P1.out.below T)
                    replace P2 := hid (P2.out.below T)
                    replace X5 := hid (X5.out.below T X5.out.lt)
                    clear ho1 ho2 hby hwx T
                    refine anyR_callG 6 rfl rfl (by kernel_rfl) (by kernel_rfl) (fun wx6 hwx K hK => ?_)
                    go_simp
                    refine hK _ _ (.inr ((Below.refl _ _).alloc (Nat.le_refl _) _)) ?_
                    clear hK K
                    have X6 := hid (Blk.new wx6 [.slice none 0 0, .slice none 0 0] 27)
                    have hge6 := Below.size (HB.out.trans hwx)
                    have hne : wx5.heap.size ≠ wx6.heap.size := by have h1 := X5.out.lt; have h2 := Below.size hwx; omega
                    have T := Bw.trans hwx ((Below.refl wx6.heap.size wx6).alloc (Nat.le_refl _) (.cells #[.slice none 0 0, .slice none 0 0] 27))
                    generalize wx6.alloc (.cells #[.slice none 0 0, .slice none 0 0] 27) = wy6 at *
                    replace E1 := hid (E1.out.below T)
                    replace E2 := hid (E2.out.below T)
                    replace HK := hid (HK.out.below (Nat.le_refl _) T)
                    replace HB := hid (HB.out.trans T)
                    replace P1 := hid (P1.out.below T)
                    replace P2 := hid (P2.out.below T)
                    replace X5 := hid (X5.out.below T X5.out.lt)
                    replace Q1 := hid (Q1.out.below T)
                    replace Q2 := hid (Q2.out.below T)
                    clear hwx T
                    have hne56 : wx5.heap.size ≠ wx6.heap.size := by omega
                    generalize wx5.heap.size = b5 at *
                    generalize wx6.heap.size = b6 at *
                    refine anyR_callG 7 rfl rfl (by kernel_rfl) (by kernel_rfl) (fun wx hwx K hK => ?_)
                    replace HB := hid (HB.out.trans hwx)
                    replace P1 := hid (P1.out.below hwx)
                    replace P2 := hid (P2.out.below hwx)
                    replace X5 := hid (X5.out.below hwx X5.out.lt)
                    replace Q1 := hid (Q1.out.below hwx)
                    replace Q2 := hid (Q2.out.below hwx)
                    replace X6 := hid (X6.out.below hwx X6.out.lt)
                    have k0 := X5.out.cell (i := 0) rfl
                    have k1 := X5.out.cell (i := 1) rfl
                    have l0 := X5.out.free 0
                    have l1 := X5.out.free 1
                    go_simp
                    refine hK _ _ (.inl (by kernel_rfl)) ?_
                    clear hK K k0 k1 l0 l1
                    have HBB := hid ((Below.setCell (p := ⟨b5, 0, none⟩) HB.out hge5 (.slice Pa RS.length Pc)).setCell (p := ⟨b5, 1, none⟩) hge5 (.slice Pb 0 Pd))
                    have Z0 := X5.out.set 0 (.slice Pa RS.length Pc)
                    replace P1 := hid ((P1.out.setCell_other (a := ⟨b5, 0, none⟩) (fun e => P1.out.tag X5.out (by decide) e.symm) (.slice Pa RS.length Pc)))
                    replace P2 := hid ((P2.out.setCell_other (a := ⟨b5, 0, none⟩) (fun e => P2.out.tag X5.out (by decide) e.symm) (.slice Pa RS.length Pc)))
                    replace Q1 := hid ((Q1.out.setCell_other (a := ⟨b5, 0, none⟩) (fun e => Q1.out.tag X5.out (by decide) e.symm) (.slice Pa RS.length Pc)))
                    replace Q2 := hid ((Q2.out.setCell_other (a := ⟨b5, 0, none⟩) (fun e => Q2.out.tag X5.out (by decide) e.symm) (.slice Pa RS.length Pc)))
                    replace P1 := hid ((P1.out.setCell_other (a := ⟨b5, 1, none⟩) (fun e => P1.out.tag Z0 (by decide) e.symm) (.slice Pb 0 Pd)))
                    replace P2 := hid ((P2.out.setCell_other (a := ⟨b5, 1, none⟩) (fun e => P2.out.tag Z0 (by decide) e.symm) (.slice Pb 0 Pd)))
                    replace Q1 := hid ((Q1.out.setCell_other (a := ⟨b5, 1, none⟩) (fun e => Q1.out.tag Z0 (by decide) e.symm) (.slice Pb 0 Pd)))
                    replace Q2 := hid ((Q2.out.setCell_other (a := ⟨b5, 1, none⟩) (fun e => Q2.out.tag Z0 (by decide) e.symm) (.slice Pb 0 Pd)))
                    replace X6 := hid ((X6.out.other (a := ⟨b5, 0, none⟩) hne56.symm (.slice Pa RS.length Pc)).other (a := ⟨b5, 1, none⟩) hne56.symm (.slice Pb 0 Pd))
                    replace X5 := hid (Z0.set 1 (.slice Pb 0 Pd))
                    clear Z0
                    generalize (wx.setCell ⟨b5, 0, none⟩ (.slice Pa RS.length Pc)).setCell ⟨b5, 1, none⟩ (.slice Pb 0 Pd) = w77 at *
                    refine anyR_last 8 rfl (by kernel_rfl) (by kernel_rfl) (fun wz hwz K hK => ?_)
                    replace P1 := hid (P1.out.below hwz)
                    replace P2 := hid (P2.out.below hwz)
                    replace Q1 := hid (Q1.out.below hwz)
                    replace Q2 := hid (Q2.out.below hwz)
                    replace X5 := hid (X5.out.below hwz X5.out.lt)
                    replace X6 := hid (X6.out.below hwz X6.out.lt)
                    replace HBB := hid (HBB.out.trans (Below.mono hwz HBB.out.size))
                    have k0 := X6.out.cell (i := 0) rfl
                    have k1 := X6.out.cell (i := 1) rfl
                    have l0 := X6.out.free 0
                    have l1 := X6.out.free 1
                    go_simp
                    refine hK _ _ ?_
                    clear hK K k0 k1 l0 l1
                    replace HBB := hid ((HBB.out.setCell (p := ⟨b6, 0, none⟩) hge6 (.slice Qa S.length Qc)).setCell (p := ⟨b6, 1, none⟩) hge6 (.slice Qb 0 Qd))
                    have Z0 := X6.out.set 0 (.slice Qa S.length Qc)
                    replace P1 := hid ((P1.out.setCell_other (a := ⟨b6, 0, none⟩) (fun e => P1.out.tag X6.out (by decide) e.symm) (.slice Qa S.length Qc)))
                    replace P2 := hid ((P2.out.setCell_other (a := ⟨b6, 0, none⟩) (fun e => P2.out.tag X6.out (by decide) e.symm) (.slice Qa S.length Qc)))
                    replace Q1 := hid ((Q1.out.setCell_other (a := ⟨b6, 0, none⟩) (fun e => Q1.out.tag X6.out (by decide) e.symm) (.slice Qa S.length Qc)))
                    replace Q2 := hid ((Q2.out.setCell_other (a := ⟨b6, 0, none⟩) (fun e => Q2.out.tag X6.out (by decide) e.symm) (.slice Qa S.length Qc)))
                    replace P1 := hid ((P1.out.setCell_other (a := ⟨b6, 1, none⟩) (fun e => P1.out.tag Z0 (by decide) e.symm) (.slice Qb 0 Qd)))
                    replace P2 := hid ((P2.out.setCell_other (a := ⟨b6, 1, none⟩) (fun e => P2.out.tag Z0 (by decide) e.symm) (.slice Qb 0 Qd)))
                    replace Q1 := hid ((Q1.out.setCell_other (a := ⟨b6, 1, none⟩) (fun e => Q1.out.tag Z0 (by decide) e.symm) (.slice Qb 0 Qd)))
                    replace Q2 := hid ((Q2.out.setCell_other (a := ⟨b6, 1, none⟩) (fun e => Q2.out.tag Z0 (by decide) e.symm) (.slice Qb 0 Qd)))
                    replace X5 := hid ((X5.out.other (a := ⟨b6, 0, none⟩) hne56 (.slice Qa S.length Qc)).other (a := ⟨b6, 1, none⟩) hne56 (.slice Qb 0 Qd))
                    replace X6 := hid (Z0.set 1 (.slice Qb 0 Qd))
                    clear Z0
                    go_wp2_with fail
                    go_meet
                    exact ⟨b5, b6, _, _, _, _, rfl, rfl, X5.out, X6.out, P1.out, P2.out, Q1.out, Q2.out, HBB.out⟩
                  · refine stepR_call rfl rfl (by kernel_rfl) (fun wx6 hwx K hK => ?_)
                    go_simp
                    refine hK _ _ (.inr ((Below.refl _ _).alloc (Nat.le_refl _) _)) ?_
                    clear hK K
                    have X6 := hid (Blk.new wx6 [.slice none 0 0, .slice none 0 0] 27)
                    have hge6 := Below.size (HB.out.trans hwx)
                    have hne : wx5.heap.size ≠ wx6.heap.size := by have h1 := X5.out.lt; have h2 := Below.size hwx; omega
                    have T := Bw.trans hwx ((Below.refl wx6.heap.size wx6).alloc (Nat.le_refl _) (.cells #[.slice none 0 0, .slice none 0 0] 27))
                    generalize wx6.alloc (.cells #[.slice none 0 0, .slice none 0 0] 27) = wy6 at *
                    replace E1 := hid (E1.out.below T)
                    replace E2 := hid (E2.out.below T)
                    replace HK := hid (HK.out.below (Nat.le_refl _) T)
                    replace HB := hid (HB.out.trans T)
                    replace P1 := hid (P1.out.below T)
                    replace P2 := hid (P2.out.below T)
                    replace X5 := hid (X5.out.below T X5.out.lt)
                    clear hwx T
                    refine anyR_callG 4 rfl rfl (by kernel_rfl) (by kernel_rfl) (fun wx4 hwx K hK => ?_)
                    go_simp
                    refine (HC2.out _ _ (show DO _ _ _ S LE from ⟨_, _, rfl, E1.out.below hwx, E2.out.below hwx⟩).dp).mono ?_
                    rintro e wy4 ⟨v, rfl, ⟨va, vb, rfl, ho1, ho2⟩, hby⟩
                    obtain ⟨Qa, Qc, rfl, _, _⟩ := ho1.shape
                    obtain ⟨Qb, Qd, rfl, _, _⟩ := ho2.shape
                    refine hK _ _ (.inr hby) ?_
                    clear hK K
                    have Q1 := hid (ho1.mono (Below.size (HB.out.trans hwx)))
                    have Q2 := hid (ho2.mono (Below.size (HB.out.trans hwx)))
                    have T := Bw.trans hwx hby
                    replace E1 := hid (E1.out.below T)
                    replace E2 := hid (E2.out.below T)
                    replace HK := hid (HK.out.below (Nat.le_refl _) T)
                    replace HB := hid (HB.out.trans T)
                    replace P1 := hid (P1.out.below T)
                    replace P2 := hid (P2.out.below T)
                    replace X5 := hid (X5.out.below T X5.out.lt)
                    replace X6 := hid (X6.out.below T X6.out.lt)
                    clear ho1 ho2 hby hwx T
                    have hne56 : wx5.heap.size ≠ wx6.heap.size := by omega
                    generalize wx5.heap.size = b5 at *
                    generalize wx6.heap.size = b6 at *
                    refine anyR_callG 7 rfl rfl (by kernel_rfl) (by kernel_rfl) (fun wx hwx K hK => ?_)
                    replace HB := hid (HB.out.trans hwx)
                    replace P1 := hid (P1.out.below hwx)
                    replace P2 := hid (P2.out.below hwx)
                    replace X5 := hid (X5.out.below hwx X5.out.lt)
                    replace X6 := hid (X6.out.below hwx X6.out.lt)
                    replace Q1 := hid (Q1.out.below hwx)
                    replace Q2 := hid (Q2.out.below hwx)
                    have k0 := X5.out.cell (i := 0) rfl
                    have k1 := X5.out.cell (i := 1) rfl
                    have l0 := X5.out.free 0
                    have l1 := X5.out.free 1
                    go_simp
                    refine hK _ _ (.inl (by kernel_rfl)) ?_
                    clear hK K k0 k1 l0 l1
                    have HBB := hid ((Below.setCell (p := ⟨b5, 0, none⟩) HB.out hge5 (.slice Pa RS.length Pc)).setCell (p := ⟨b5, 1, none⟩) hge5 (.slice Pb 0 Pd))
                    have Z0 := X5.out.set 0 (.slice Pa RS.length Pc)
                    replace P1 := hid ((P1.out.setCell_other (a := ⟨b5, 0, none⟩) (fun e => P1.out.tag X5.out (by decide) e.symm) (.slice Pa RS.length Pc)))
                    replace P2 := hid ((P2.out.setCell_other (a := ⟨b5, 0, none⟩) (fun e => P2.out.tag X5.out (by decide) e.symm) (.slice Pa RS.length Pc)))
                    replace Q1 := hid ((Q1.out.setCell_other (a := ⟨b5, 0, none⟩) (fun e => Q1.out.tag X5.out (by decide) e.symm) (.slice Pa RS.length Pc)))
                    replace Q2 := hid ((Q2.out.setCell_other (a := ⟨b5, 0, none⟩) (fun e => Q2.out.tag X5.out (by decide) e.symm) (.slice Pa RS.length Pc)))
                    replace P1 := hid ((P1.out.setCell_other (a := ⟨b5, 1, none⟩) (fun e => P1.out.tag Z0 (by decide) e.symm) (.slice Pb 0 Pd)))
                    replace P2 := hid ((P2.out.setCell_other (a := ⟨b5, 1, none⟩) (fun e => P2.out.tag Z0 (by decide) e.symm) (.slice Pb 0 Pd)))
                    replace Q1 := hid ((Q1.out.setCell_other (a := ⟨b5, 1, none⟩) (fun e => Q1.out.tag Z0 (by decide) e.symm) (.slice Pb 0 Pd)))
                    replace Q2 := hid ((Q2.out.setCell_other (a := ⟨b5, 1, none⟩) (fun e => Q2.out.tag Z0 (by decide) e.symm) (.slice Pb 0 Pd)))
                    replace X6 := hid ((X6.out.other (a := ⟨b5, 0, none⟩) hne56.symm (.slice Pa RS.length Pc)).other (a := ⟨b5, 1, none⟩) hne56.symm (.slice Pb 0 Pd))
                    replace X5 := hid (Z0.set 1 (.slice Pb 0 Pd))
                    clear Z0
                    generalize (wx.setCell ⟨b5, 0, none⟩ (.slice Pa RS.length Pc)).setCell ⟨b5, 1, none⟩ (.slice Pb 0 Pd) = w77 at *
                    refine anyR_last 8 rfl (by kernel_rfl) (by kernel_rfl) (fun wz hwz K hK => ?_)
                    replace P1 := hid (P1.out.below hwz)
                    replace P2 := hid (P2.out.below hwz)
                    replace Q1 := hid (Q1.out.below hwz)
                    replace Q2 := hid (Q2.out.below hwz)
                    replace X5 := hid (X5.out.below hwz X5.out.lt)
                    replace X6 := hid (X6.out.below hwz X6.out.lt)
                    replace HBB := hid (HBB.out.trans (Below.mono hwz HBB.out.size))
                    have k0 := X6.out.cell (i := 0) rfl
                    have k1 := X6.out.cell (i := 1) rfl
                    have l0 := X6.out.free 0
                    have l1 := X6.out.free 1
                    go_simp
                    refine hK _ _ ?_
                    clear hK K k0 k1 l0 l1
                    replace HBB := hid ((HBB.out.setCell (p := ⟨b6, 0, none⟩) hge6 (.slice Qa S.length Qc)).setCell (p := ⟨b6, 1, none⟩) hge6 (.slice Qb 0 Qd))
                    have Z0 := X6.out.set 0 (.slice Qa S.length Qc)
                    replace P1 := hid ((P1.out.setCell_other (a := ⟨b6, 0, none⟩) (fun e => P1.out.tag X6.out (by decide) e.symm) (.slice Qa S.length Qc)))
                    replace P2 := hid ((P2.out.setCell_other (a := ⟨b6, 0, none⟩) (fun e => P2.out.tag X6.out (by decide) e.symm) (.slice Qa S.length Qc)))
                    replace Q1 := hid ((Q1.out.setCell_other (a := ⟨b6, 0, none⟩) (fun e => Q1.out.tag X6.out (by decide) e.symm) (.slice Qa S.length Qc)))
                    replace Q2 := hid ((Q2.out.setCell_other (a := ⟨b6, 0, none⟩) (fun e => Q2.out.tag X6.out (by decide) e.symm) (.slice Qa S.length Qc)))
                    replace P1 := hid ((P1.out.setCell_other (a := ⟨b6, 1, none⟩) (fun e => P1.out.tag Z0 (by decide) e.symm) (.slice Qb 0 Qd)))
                    replace P2 := hid ((P2.out.setCell_other (a := ⟨b6, 1, none⟩) (fun e => P2.out.tag Z0 (by decide) e.symm) (.slice Qb 0 Qd)))
                    replace Q1 := hid ((Q1.out.setCell_other (a := ⟨b6, 1, none⟩) (fun e => Q1.out.tag Z0 (by decide) e.symm) (.slice Qb 0 Qd)))
                    replace Q2 := hid ((Q2.out.setCell_other (a := ⟨b6, 1, none⟩) (fun e => Q2.out.tag Z0 (by decide) e.symm) (.slice Qb 0 Qd)))
                    replace X5 := hid ((X5.out.other (a := ⟨b6, 0, none⟩) hne56 (.slice Qa S.length Qc)).other (a := ⟨b6, 1, none⟩) hne56 (.slice Qb 0 Qd))
                    replace X6 := hid (Z0.set 1 (.slice Qb 0 Qd))
                    clear Z0
                    go_wp2_with fail
                    go_meet
                    exact ⟨b5, b6, _, _, _, _, rfl, rfl, X5.out, X6.out, P1.out, P2.out, Q1.out, Q2.out, HBB.out⟩
                · refine stepR_call rfl rfl (by kernel_rfl) (fun wx6 hwx K hK => ?_)
                  go_simp
                  refine hK _ _ (.inr ((Below.refl _ _).alloc (Nat.le_refl _) _)) ?_
                  clear hK K
                  have X6 := hid (Blk.new wx6 [.slice none 0 0, .slice none 0 0] 27)
                  have hge6 := Below.size (HB.out.trans hwx)
                  have T := Bw.trans hwx ((Below.refl wx6.heap.size wx6).alloc (Nat.le_refl _) (.cells #[.slice none 0 0, .slice none 0 0] 27))
                  generalize wx6.alloc (.cells #[.slice none 0 0, .slice none 0 0] 27) = wy6 at *
                  replace E1 := hid (E1.out.below T)
                  replace E2 := hid (E2.out.below T)
                  replace HK := hid (HK.out.below (Nat.le_refl _) T)
                  replace HB := hid (HB.out.trans T)
                  replace P1 := hid (P1.out.below T)
                  replace P2 := hid (P2.out.below T)
                  clear hwx T
                  refine anyR_many [4, 5] (by kernel_rfl) (by simp) (List.forall_mem_cons.2 ⟨?_, List.forall_mem_cons.2 ⟨?_, List.forall_mem_nil _⟩⟩)
                  · refine stepR_call rfl rfl (by kernel_rfl) (fun wx4 hwx K hK => ?_)
                    go_simp
                    refine (HC2.out _ _ (show DO _ _ _ S LE from ⟨_, _, rfl, E1.out.below hwx, E2.out.below hwx⟩).dp).mono ?_
                    rintro e wy4 ⟨v, rfl, ⟨va, vb, rfl, ho1, ho2⟩, hby⟩
                    obtain ⟨Qa, Qc, rfl, _, _⟩ := ho1.shape
                    obtain ⟨Qb, Qd, rfl, _, _⟩ := ho2.shape
                    refine hK _ _ (.inr hby) ?_
                    clear hK K
                    have Q1 := hid (ho1.mono (Below.size (HB.out.trans hwx)))
                    have Q2 := hid (ho2.mono (Below.size (HB.out.trans hwx)))
                    have T := Bw.trans hwx hby
                    replace E1 := hid (E1.out.below T)
                    replace E2 := hid (E2.out.below T)
                    replace HK := hid (HK.out.below (Nat.le_refl _) T)
                    replace HB := hid (HB.out.trans T)
                    replace P1 := hid (P1.out.below T)
                    replace P2 := hid (P2.out.below T)
                    replace X6 := hid (X6.out.below T X6.out.lt)
                    clear ho1 ho2 hby hwx T
                    refine anyR_callG 5 rfl rfl (by kernel_rfl) (by kernel_rfl) (fun wx5 hwx K hK => ?_)
                    go_simp
                    refine hK _ _ (.inr ((Below.refl _ _).alloc (Nat.le_refl _) _)) ?_
                    clear hK K
                    have X5 := hid (Blk.new wx5 [.slice none 0 0, .slice none 0 0] 27)
                    have hge5 := Below.size (HB.out.trans hwx)
                    have hne : wx6.heap.size ≠ wx5.heap.size := by have h1 := X6.out.lt; have h2 := Below.size hwx; omega
                    have T := Bw.trans hwx ((Below.refl wx5.heap.size wx5).alloc (Nat.le_refl _) (.cells #[.slice none 0 0, .slice none 0 0] 27))
                    generalize wx5.alloc (.cells #[.slice none 0 0, .slice none 0 0] 27) = wy5 at *
                    replace E1 := hid (E1.out.below T)
                    replace E2 := hid (E2.out.below T)
                    replace HK := hid (HK.out.below (Nat.le_refl _) T)
                    replace HB := hid (HB.out.trans T)
                    replace P1 := hid (P1.out.below T)
                    replace P2 := hid (P2.out.below T)
                    replace X6 := hid (X6.out.below T X6.out.lt)
                    replace Q1 := hid (Q1.out.below T)
                    replace Q2 := hid (Q2.out.below T)
                    clear hwx T
                    have hne56 : wx5.heap.size ≠ wx6.heap.size := by omega
                    generalize wx5.heap.size = b5 at *
                    generalize wx6.heap.size = b6 at *
                    refine anyR_callG 7 rfl rfl (by kernel_rfl) (by kernel_rfl) (fun wx hwx K hK => ?_)
                    replace HB := hid (HB.out.trans hwx)
                    replace P1 := hid (P1.out.below hwx)
                    replace P2 := hid (P2.out.below hwx)
                    replace X6 := hid (X6.out.below hwx X6.out.lt)
                    replace Q1 := hid (Q1.out.below hwx)
                    replace Q2 := hid (Q2.out.below hwx)
                    replace X5 := hid (X5.out.below hwx X5.out.lt)
                    have k0 := X5.out.cell (i := 0) rfl
                    have k1 := X5.out.cell (i := 1) rfl
                    have l0 := X5.out.free 0
                    have l1 := X5.out.free 1
                    go_simp
                    refine hK _ _ (.inl (by kernel_rfl)) ?_
                    clear hK K k0 k1 l0 l1
                    have HBB := hid ((Below.setCell (p := ⟨b5, 0, none⟩) HB.out hge5 (.slice Pa RS.length Pc)).setCell (p := ⟨b5, 1, none⟩) hge5 (.slice Pb 0 Pd))
                    have Z0 := X5.out.set 0 (.slice Pa RS.length Pc)
                    replace P1 := hid ((P1.out.setCell_other (a := ⟨b5, 0, none⟩) (fun e => P1.out.tag X5.out (by decide) e.symm) (.slice Pa RS.length Pc)))
                    replace P2 := hid ((P2.out.setCell_other (a := ⟨b5, 0, none⟩) (fun e => P2.out.tag X5.out (by decide) e.symm) (.slice Pa RS.length Pc)))
                    replace Q1 := hid ((Q1.out.setCell_other (a := ⟨b5, 0, none⟩) (fun e => Q1.out.tag X5.out (by decide) e.symm) (.slice Pa RS.length Pc)))
                    replace Q2 := hid ((Q2.out.setCell_other (a := ⟨b5, 0, none⟩) (fun e => Q2.out.tag X5.out (by decide) e.symm) (.slice Pa RS.length Pc)))
                    replace P1 := hid ((P1.out.setCell_other (a := ⟨b5, 1, none⟩) (fun e => P1.out.tag Z0 (by decide) e.symm) (.slice Pb 0 Pd)))
                    replace P2 := hid ((P2.out.setCell_other (a := ⟨b5, 1, none⟩) (fun e => P2.out.tag Z0 (by decide) e.symm) (.slice Pb 0 Pd)))
                    replace Q1 := hid ((Q1.out.setCell_other (a := ⟨b5, 1, none⟩) (fun e => Q1.out.tag Z0 (by decide) e.symm) (.slice Pb 0 Pd)))
                    replace Q2 := hid ((Q2.out.setCell_other (a := ⟨b5, 1, none⟩) (fun e => Q2.out.tag Z0 (by decide) e.symm) (.slice Pb 0 Pd)))
                    replace X6 := hid ((X6.out.other (a := ⟨b5, 0, none⟩) hne56.symm (.slice Pa RS.length Pc)).other (a := ⟨b5, 1, none⟩) hne56.symm (.slice Pb 0 Pd))
                    replace X5 := hid (Z0.set 1 (.slice Pb 0 Pd))
                    clear Z0
                    generalize (wx.setCell ⟨b5, 0, none⟩ (.slice Pa RS.length Pc)).setCell ⟨b5, 1, none⟩ (.slice Pb 0 Pd) = w77 at *
                    refine anyR_last 8 rfl (by kernel_rfl) (by kernel_rfl) (fun wz hwz K hK => ?_)
                    replace P1 := hid (P1.out.below hwz)
                    replace P2 := hid (P2.out.below hwz)
                    replace Q1 := hid (Q1.out.below hwz)
                    replace Q2 := hid (Q2.out.below hwz)
                    replace X5 := hid (X5.out.below hwz X5.out.lt)
                    replace X6 := hid (X6.out.below hwz X6.out.lt)
                    replace HBB := hid (HBB.out.trans (Below.mono hwz HBB.out.size))
                    have k0 := X6.out.cell (i := 0) rfl
                    have k1 := X6.out.cell (i := 1) rfl
                    have l0 := X6.out.free 0
                    have l1 := X6.out.free 1
                    go_simp
                    refine hK _ _ ?_
                    clear hK K k0 k1 l0 l1
                    replace HBB := hid ((HBB.out.setCell (p := ⟨b6, 0, none⟩) hge6 (.slice Qa S.length Qc)).setCell (p := ⟨b6, 1, none⟩) hge6 (.slice Qb 0 Qd))
                    have Z0 := X6.out.set 0 (.slice Qa S.length Qc)
                    replace P1 := hid ((P1.out.setCell_other (a := ⟨b6, 0, none⟩) (fun e => P1.out.tag X6.out (by decide) e.symm) (.slice Qa S.length Qc)))
                    replace P2 := hid ((P2.out.setCell_other (a := ⟨b6, 0, none⟩) (fun e => P2.out.tag X6.out (by decide) e.symm) (.slice Qa S.length Qc)))
                    replace Q1 := hid ((Q1.out.setCell_other (a := ⟨b6, 0, none⟩) (fun e => Q1.out.tag X6.out (by decide) e.symm) (.slice Qa S.length Qc)))
                    replace Q2 := hid ((Q2.out.setCell_other (a := ⟨b6, 0, none⟩) (fun e => Q2.out.tag X6.out (by decide) e.symm) (.slice Qa S.length Qc)))
                    replace P1 := hid ((P1.out.setCell_other (a := ⟨b6, 1, none⟩) (fun e => P1.out.tag Z0 (by decide) e.symm) (.slice Qb 0 Qd)))
                    replace P2 := hid ((P2.out.setCell_other (a := ⟨b6, 1, none⟩) (fun e => P2.out.tag Z0 (by decide) e.symm) (.slice Qb 0 Qd)))
                    replace Q1 := hid ((Q1.out.setCell_other (a := ⟨b6, 1, none⟩) (fun e => Q1.out.tag Z0 (by decide) e.symm) (.slice Qb 0 Qd)))
                    replace Q2 := hid ((Q2.out.setCell_other (a := ⟨b6, 1, none⟩) (fun e => Q2.out.tag Z0 (by decide) e.symm) (.slice Qb 0 Qd)))
                    replace X5 := hid ((X5.out.other (a := ⟨b6, 0, none⟩) hne56 (.slice Qa S.length Qc)).other (a := ⟨b6, 1, none⟩) hne56 (.slice Qb 0 Qd))
                    replace X6 := hid (Z0.set 1 (.slice Qb 0 Qd))
                    clear Z0
                    go_wp2_with fail
                    go_meet
                    exact ⟨b5, b6, _, _, _, _, rfl, rfl, X5.out, X6.out, P1.out, P2.out, Q1.out, Q2.out, HBB.out⟩
                  · refine stepR_call rfl rfl (by kernel_rfl) (fun wx5 hwx K hK => ?_)
                    go_simp
                    refine hK _ _ (.inr ((Below.refl _ _).alloc (Nat.le_refl _) _)) ?_
                    clear hK K
                    have X5 := hid (Blk.new wx5 [.slice none 0 0, .slice none 0 0] 27)
                    have hge5 := Below.size (HB.out.trans hwx)
                    have hne : wx6.heap.size ≠ wx5.heap.size := by have h1 := X6.out.lt; have h2 := Below.size hwx; omega
                    have T := Bw.trans hwx ((Below.refl wx5.heap.size wx5).alloc (Nat.le_refl _) (.cells #[.slice none 0 0, .slice none 0 0] 27))
                    generalize wx5.alloc (.cells #[.slice none 0 0, .slice none 0 0] 27) = wy5 at *
                    replace E1 := hid (E1.out.below T)
                    replace E2 := hid (E2.out.below T)
                    replace HK := hid (HK.out.below (Nat.le_refl _) T)
                    replace HB := hid (HB.out.trans T)
                    replace P1 := hid (P1.out.below T)
                    replace P2 := hid (P2.out.below T)
                    replace X6 := hid (X6.out.below T X6.out.lt)
                    clear hwx T
                    refine anyR_callG 4 rfl rfl (by kernel_rfl) (by kernel_rfl) (fun wx4 hwx K hK => ?_)
                    go_simp
                    refine (HC2.out _ _ (show DO _ _ _ S LE from ⟨_, _, rfl, E1.out.below hwx, E2.out.below hwx⟩).dp).mono ?_
                    rintro e wy4 ⟨v, rfl, ⟨va, vb, rfl, ho1, ho2⟩, hby⟩
                    obtain ⟨Qa, Qc, rfl, _, _⟩ := ho1.shape
                    obtain ⟨Qb, Qd, rfl, _, _⟩ := ho2.shape
                    refine hK _ _ (.inr hby) ?_
                    clear hK K
                    have Q1 := hid (ho1.mono (Below.size (HB.out.trans hwx)))
                    have Q2 := hid (ho2.mono (Below.size (HB.out.trans hwx)))
                    have T := Bw.trans hwx hby
                    replace E1 := hid (E1.out.below T)
                    replace E2 := hid (E2.out.below T)
                    replace HK := hid (HK.out.below (Nat.le_refl _) T)
                    replace HB := hid (HB.out.trans T)
                    replace P1 := hid (P1.out.below T)
                    replace P2 := hid (P2.out.below T)
                    replace X6 := hid (X6.out.below T X6.out.lt)
                    replace X5 := hid (X5.out.below T X5.out.lt)
                    clear ho1 ho2 hby hwx T
                    have hne56 : wx5.heap.size ≠ wx6.heap.size := by omega
                    generalize wx5.heap.size = b5 at *
                    generalize wx6.heap.size = b6 at *
                    refine anyR_callG 7 rfl rfl (by kernel_rfl) (by kernel_rfl) (fun wx hwx K hK => ?_)
                    replace HB := hid (HB.out.trans hwx)
                    replace P1 := hid (P1.out.below hwx)
                    replace P2 := hid (P2.out.below hwx)
                    replace X6 := hid (X6.out.below hwx X6.out.lt)
                    replace X5 := hid (X5.out.below hwx X5.out.lt)
                    replace Q1 := hid (Q1.out.below hwx)
                    replace Q2 := hid (Q2.out.below hwx)
                    have k0 := X5.out.cell (i := 0) rfl
                    have k1 := X5.out.cell (i := 1) rfl
                    have l0 := X5.out.free 0
                    have l1 := X5.out.free 1
                    go_simp
                    refine hK _ _ (.inl (by kernel_rfl)) ?_
                    clear hK K k0 k1 l0 l1
                    have HBB := hid ((Below.setCell (p := ⟨b5, 0, none⟩) HB.out hge5 (.slice Pa RS.length Pc)).setCell (p := ⟨b5, 1, none⟩) hge5 (.slice Pb 0 Pd))
                    have Z0 := X5.out.set 0 (.slice Pa RS.length Pc)
                    replace P1 := hid ((P1.out.setCell_other (a := ⟨b5, 0, none⟩) (fun e => P1.out.tag X5.out (by decide) e.symm) (.slice Pa RS.length Pc)))
                    replace P2 := hid ((P2.out.setCell_other (a := ⟨b5, 0, none⟩) (fun e => P2.out.tag X5.out (by decide) e.symm) (.slice Pa RS.length Pc)))
                    replace Q1 := hid ((Q1.out.setCell_other (a := ⟨b5, 0, none⟩) (fun e => Q1.out.tag X5.out (by decide) e.symm) (.slice Pa RS.length Pc)))
                    replace Q2 := hid ((Q2.out.setCell_other (a := ⟨b5, 0, none⟩) (fun e => Q2.out.tag X5.out (by decide) e.symm) (.slice Pa RS.length Pc)))
                    replace P1 := hid ((P1.out.setCell_other (a := ⟨b5, 1, none⟩) (fun e => P1.out.tag Z0 (by decide) e.symm) (.slice Pb 0 Pd)))
                    replace P2 := hid ((P2.out.setCell_other (a := ⟨b5, 1, none⟩) (fun e => P2.out.tag Z0 (by decide) e.symm) (.slice Pb 0 Pd)))
                    replace Q1 := hid ((Q1.out.setCell_other (a := ⟨b5, 1, none⟩) (fun e => Q1.out.tag Z0 (by decide) e.symm) (.slice Pb 0 Pd)))
                    replace Q2 := hid ((Q2.out.setCell_other (a := ⟨b5, 1, none⟩) (fun e => Q2.out.tag Z0 (by decide) e.symm) (.slice Pb 0 Pd)))
                    replace X6 := hid ((X6.out.other (a := ⟨b5, 0, none⟩) hne56.symm (.slice Pa RS.length Pc)).other (a := ⟨b5, 1, none⟩) hne56.symm (.slice Pb 0 Pd))
                    replace X5 := hid (Z0.set 1 (.slice Pb 0 Pd))
                    clear Z0
                    generalize (wx.setCell ⟨b5, 0, none⟩ (.slice Pa RS.length Pc)).setCell ⟨b5, 1, none⟩ (.slice Pb 0 Pd) = w77 at *
                    refine anyR_last 8 rfl (by kernel_rfl) (by kernel_rfl) (fun wz hwz K hK => ?_)
                    replace P1 := hid (P1.out.below hwz)
                    replace P2 := hid (P2.out.below hwz)
                    replace Q1 := hid (Q1.out.below hwz)
                    replace Q2 := hid (Q2.out.below hwz)
                    replace X5 := hid (X5.out.below hwz X5.out.lt)
                    replace X6 := hid (X6.out.below hwz X6.out.lt)
                    replace HBB := hid (HBB.out.trans (Below.mono hwz HBB.out.size))
                    have k0 := X6.out.cell (i := 0) rfl
                    have k1 := X6.out.cell (i := 1) rfl
                    have l0 := X6.out.free 0
                    have l1 := X6.out.free 1
                    go_simp
                    refine hK _ _ ?_
                    clear hK K k0 k1 l0 l1
                    replace HBB := hid ((HBB.out.setCell (p := ⟨b6, 0, none⟩) hge6 (.slice Qa S.length Qc)).setCell (p := ⟨b6, 1, none⟩) hge6 (.slice Qb 0 Qd))
                    have Z0 := X6.out.set 0 (.slice Qa S.length Qc)
                    replace P1 := hid ((P1.out.setCell_other (a := ⟨b6, 0, none⟩) (fun e => P1.out.tag X6.out (by decide) e.symm) (.slice Qa S.length Qc)))
                    replace P2 := hid ((P2.out.setCell_other (a := ⟨b6, 0, none⟩) (fun e => P2.out.tag X6.out (by decide) e.symm) (.slice Qa S.length Qc)))
                    replace Q1 := hid ((Q1.out.setCell_other (a := ⟨b6, 0, none⟩) (fun e => Q1.out.tag X6.out (by decide) e.symm) (.slice Qa S.length Qc)))
                    replace Q2 := hid ((Q2.out.setCell_other (a := ⟨b6, 0, none⟩) (fun e => Q2.out.tag X6.out (by decide) e.symm) (.slice Qa S.length Qc)))
                    replace P1 := hid ((P1.out.setCell_other (a := ⟨b6, 1, none⟩) (fun e => P1.out.tag Z0 (by decide) e.symm) (.slice Qb 0 Qd)))
                    replace P2 := hid ((P2.out.setCell_other (a := ⟨b6, 1, none⟩) (fun e => P2.out.tag Z0 (by decide) e.symm) (.slice Qb 0 Qd)))
                    replace Q1 := hid ((Q1.out.setCell_other (a := ⟨b6, 1, none⟩) (fun e => Q1.out.tag Z0 (by decide) e.symm) (.slice Qb 0 Qd)))
                    replace Q2 := hid ((Q2.out.setCell_other (a := ⟨b6, 1, none⟩) (fun e => Q2.out.tag Z0 (by decide) e.symm) (.slice Qb 0 Qd)))
                    replace X5 := hid ((X5.out.other (a := ⟨b6, 0, none⟩) hne56 (.slice Qa S.length Qc)).other (a := ⟨b6, 1, none⟩) hne56 (.slice Qb 0 Qd))
                    replace X6 := hid (Z0.set 1 (.slice Qb 0 Qd))
                    clear Z0
                    go_wp2_with fail
                    go_meet
                    exact ⟨b5, b6, _, _, _, _, rfl, rfl, X5.out, X6.out, P1.out, P2.out, Q1.out, Q2.out, HBB.out⟩
              · refine stepR_call rfl rfl (by kernel_rfl) (fun wx5 hwx K hK => ?_)
                go_simp
                refine hK _ _ (.inr ((Below.refl _ _).alloc (Nat.le_refl _) _)) ?_
                clear hK K
                have X5 := hid (Blk.new wx5 [.slice none 0 0, .slice none 0 0] 27)
                have hge5 := Below.size (HB.out.trans hwx)
                have T := Bw.trans hwx ((Below.refl wx5.heap.size wx5).alloc (Nat.le_refl _) (.cells #[.slice none 0 0, .slice none 0 0] 27))
                generalize wx5.alloc (.cells #[.slice none 0 0, .slice none 0 0] 27) = wy5 at *
                replace E1 := hid (E1.out.below T)
                replace E2 := hid (E2.out.below T)
                replace HK := hid (HK.out.below (Nat.le_refl _) T)
                replace HB := hid (HB.out.trans T)
                clear hwx T
                refine anyR_many [2, 6] (by kernel_rfl) (by simp) (List.forall_mem_cons.2 ⟨?_, List.forall_mem_cons.2 ⟨?_, List.forall_mem_nil _⟩⟩)
                · refine stepR_call rfl rfl (by kernel_rfl) (fun wx2 hwx K hK => ?_)
                  go_simp
                  refine (HC1.out _ _ (show DO _ _ _ S LE from ⟨_, _, rfl, E1.out.below hwx, E2.out.below hwx⟩).dp (HK.out.below (Nat.le_refl _) hwx)).mono ?_
                  rintro e wy2 ⟨v, rfl, ⟨va, vb, rfl, ho1, ho2⟩, hby⟩
                  obtain ⟨Pa, Pc, rfl, _, _⟩ := ho1.shape
                  obtain ⟨Pb, Pd, rfl, _, _⟩ := ho2.shape
                  refine hK _ _ (.inr hby) ?_
                  clear hK K
                  have P1 := hid (ho1.mono (Below.size (HB.out.trans hwx)))
                  have P2 := hid (ho2.mono (Below.size (HB.out.trans hwx)))
                  have T := Bw.trans hwx hby
                  replace E1 := hid (E1.out.below T)
                  replace E2 := hid (E2.out.below T)
                  replace HK := hid (HK.out.below (Nat.le_refl _) T)
                  replace HB := hid (HB.out.trans T)
                  replace X5 := hid (X5.out.below T X5.out.lt)
                  clear ho1 ho2 hby hwx T
                  refine anyR_many [4, 6] (by kernel_rfl) (by simp) (List.forall_mem_cons.2 ⟨?_, List.forall_mem_cons.2 ⟨?_, List.forall_mem_nil _⟩⟩)
                  · refine stepR_call rfl rfl (by kernel_rfl) (fun wx4 hwx K hK => ?_)
                    go_simp
                    refine (HC2.out _ _ (show DO _ _ _ S LE from ⟨_, _, rfl, E1.out.below hwx, E2.out.below hwx⟩).dp).mono ?_
                    rintro e wy4 ⟨v, rfl, ⟨va, vb, rfl, ho1, ho2⟩, hby⟩
                    obtain ⟨Qa, Qc, rfl, _, _⟩ := ho1.shape
                    obtain ⟨Qb, Qd, rfl, _, _⟩ := ho2.shape
                    refine hK _ _ (.inr hby) ?_
                    clear hK K
                    have Q1 := hid (ho1.mono (Below.size (HB.out.trans hwx)))
                    have Q2 := hid (ho2.mono (Below.size (HB.out.trans hwx)))
                    have T := Bw.trans hwx hby
                    replace E1 := hid (E1.out.below T)
                    replace E2 := hid (E2.out.below T)
                    replace HK := hid (HK.out.below (Nat.le_refl _) T)
                    replace HB := hid (HB.out.trans T)
                    replace X5 := hid (X5.out.below T X5.out.lt)
                    replace P1 := hid (P1.out.below T)
                    replace P2 := hid (P2.out.below T)
                    clear ho1 ho2 hby hwx T
                    refine anyR_callG 6 rfl rfl (by kernel_rfl) (by kernel_rfl) (fun wx6 hwx K hK => ?_)
                    go_simp
                    refine hK _ _ (.inr ((Below.refl _ _).alloc (Nat.le_refl _) _)) ?_
                    clear hK K
                    have X6 := hid (Blk.new wx6 [.slice none 0 0, .slice none 0 0] 27)
                    have hge6 := Below.size (HB.out.trans hwx)
                    have hne : wx5.heap.size ≠ wx6.heap.size := by have h1 := X5.out.lt; have h2 := Below.size hwx; omega
                    have T := Bw.trans hwx ((Below.refl wx6.heap.size wx6).alloc (Nat.le_refl _) (.cells #[.slice none 0 0, .slice none 0 0] 27))
                    generalize wx6.alloc (.cells #[.slice none 0 0, .slice none 0 0] 27) = wy6 at *
                    replace E1 := hid (E1.out.below T)
                    replace E2 := hid (E2.out.below T)
                    replace HK := hid (HK.out.below (Nat.le_refl _) T)
                    replace HB := hid (HB.out.trans T)
                    replace X5 := hid (X5.out.below T X5.out.lt)
                    replace P1 := hid (P1.out.below T)
                    replace P2 := hid (P2.out.below T)
                    replace Q1 := hid (Q1.out.below T)
                    replace Q2 := hid (Q2.out.below T)
                    clear hwx T
                    have hne56 : wx5.heap.size ≠ wx6.heap.size := by omega
                    generalize wx5.heap.size = b5 at *
                    generalize wx6.heap.size = b6 at *
                    refine anyR_callG 7 rfl rfl (by kernel_rfl) (by kernel_rfl) (fun wx hwx K hK => ?_)
                    replace HB := hid (HB.out.trans hwx)
                    replace X5 := hid (X5.out.below hwx X5.out.lt)
                    replace P1 := hid (P1.out.below hwx)
                    replace P2 := hid (P2.out.below hwx)
                    replace Q1 := hid (Q1.out.below hwx)
                    replace Q2 := hid (Q2.out.below hwx)
                    replace X6 := hid (X6.out.below hwx X6.out.lt)
                    have k0 := X5.out.cell (i := 0) rfl
                    have k1 := X5.out.cell (i := 1) rfl
                    have l0 := X5.out.free 0
                    have l1 := X5.out.free 1
                    go_simp
                    refine hK _ _ (.inl (by kernel_rfl)) ?_
                    clear hK K k0 k1 l0 l1
                    have HBB := hid ((Below.setCell (p := ⟨b5, 0, none⟩) HB.out hge5 (.slice Pa RS.length Pc)).setCell (p := ⟨b5, 1, none⟩) hge5 (.slice Pb 0 Pd))
                    have Z0 := X5.out.set 0 (.slice Pa RS.length Pc)
                    replace P1 := hid ((P1.out.setCell_other (a := ⟨b5, 0, none⟩) (fun e => P1.out.tag X5.out (by decide) e.symm) (.slice Pa RS.length Pc)))
                    replace P2 := hid ((P2.out.setCell_other (a := ⟨b5, 0, none⟩) (fun e => P2.out.tag X5.out (by decide) e.symm) (.slice Pa RS.length Pc)))
                    replace Q1 := hid ((Q1.out.setCell_other (a := ⟨b5, 0, none⟩) (fun e => Q1.out.tag X5.out (by decide) e.symm) (.slice Pa RS.length Pc)))
                    replace Q2 := hid ((Q2.out.setCell_other (a := ⟨b5, 0, none⟩) (fun e => Q2.out.tag X5.out (by decide) e.symm) (.slice Pa RS.length Pc)))
                    replace P1 := hid ((P1.out.setCell_other (a := ⟨b5, 1, none⟩) (fun e => P1.out.tag Z0 (by decide) e.symm) (.slice Pb 0 Pd)))
                    replace P2 := hid ((P2.out.setCell_other (a := ⟨b5, 1, none⟩) (fun e => P2.out.tag Z0 (by decide) e.symm) (.slice Pb 0 Pd)))
                    replace Q1 := hid ((Q1.out.setCell_other (a := ⟨b5, 1, none⟩) (fun e => Q1.out.tag Z0 (by decide) e.symm) (.slice Pb 0 Pd)))
                    replace Q2 := hid ((Q2.out.setCell_other (a := ⟨b5, 1, none⟩) (fun e => Q2.out.tag Z0 (by decide) e.symm) (.slice Pb 0 Pd)))
                    replace X6 := hid ((X6.out.other (a := ⟨b5, 0, none⟩) hne56.symm (.slice Pa RS.length Pc)).other (a := ⟨b5, 1, none⟩) hne56.symm (.slice Pb 0 Pd))
                    replace X5 := hid (Z0.set 1 (.slice Pb 0 Pd))
                    clear Z0
                    generalize (wx.setCell ⟨b5, 0, none⟩ (.slice Pa RS.length Pc)).setCell ⟨b5, 1, none⟩ (.slice Pb 0 Pd) = w77 at *
                    refine anyR_last 8 rfl (by kernel_rfl) (by kernel_rfl) (fun wz hwz K hK => ?_)
                    replace P1 := hid (P1.out.below hwz)
                    replace P2 := hid (P2.out.below hwz)
                    replace Q1 := hid (Q1.out.below hwz)
                    replace Q2 := hid (Q2.out.below hwz)
                    replace X5 := hid (X5.out.below hwz X5.out.lt)
                    replace X6 := hid (X6.out.below hwz X6.out.lt)
                    replace HBB := hid (HBB.out.trans (Below.mono hwz HBB.out.size))
                    have k0 := X6.out.cell (i := 0) rfl
                    have k1 := X6.out.cell (i := 1) rfl
                    have l0 := X6.out.free 0
                    have l1 := X6.out.free 1
                    go_simp
                    refine hK _ _ ?_
                    clear hK K k0 k1 l0 l1
                    replace HBB := hid ((HBB.out.setCell (p := ⟨b6, 0, none⟩) hge6 (.slice Qa S.length Qc)).setCell (p := ⟨b6, 1, none⟩) hge6 (.slice Qb 0 Qd))
                    have Z0 := X6.out.set 0 (.slice Qa S.length Qc)
                    replace P1 := hid ((P1.out.setCell_other (a := ⟨b6, 0, none⟩) (fun e => P1.out.tag X6.out (by decide) e.symm) (.slice Qa S.length Qc)))
                    replace P2 := hid ((P2.out.setCell_other (a := ⟨b6, 0, none⟩) (fun e => P2.out.tag X6.out (by decide) e.symm) (.slice Qa S.length Qc)))
                    replace Q1 := hid ((Q1.out.setCell_other (a := ⟨b6, 0, none⟩) (fun e => Q1.out.tag X6.out (by decide) e.symm) (.slice Qa S.length Qc)))
                    replace Q2 := hid ((Q2.out.setCell_other (a := ⟨b6, 0, none⟩) (fun e => Q2.out.tag X6.out (by decide) e.symm) (.slice Qa S.length Qc)))
                    replace P1 := hid ((P1.out.setCell_other (a := ⟨b6, 1, none⟩) (fun e => P1.out.tag Z0 (by decide) e.symm) (.slice Qb 0 Qd)))
                    replace P2 := hid ((P2.out.setCell_other (a := ⟨b6, 1, none⟩) (fun e => P2.out.tag Z0 (by decide) e.symm) (.slice Qb 0 Qd)))
                    replace Q1 := hid ((Q1.out.setCell_other (a := ⟨b6, 1, none⟩) (fun e => Q1.out.tag Z0 (by decide) e.symm) (.slice Qb 0 Qd)))
                    replace Q2 := hid ((Q2.out.setCell_other (a := ⟨b6, 1, none⟩) (fun e => Q2.out.tag Z0 (by decide) e.symm) (.slice Qb 0 Qd)))
                    replace X5 := hid ((X5.out.other (a := ⟨b6, 0, none⟩) hne56 (.slice Qa S.length Qc)).other (a := ⟨b6, 1, none⟩) hne56 (.slice Qb 0 Qd))
                    replace X6 := hid (Z0.set 1 (.slice Qb 0 Qd))
                    clear Z0
                    go_wp2_with fail
                    go_meet
                    exact ⟨b5, b6, _, _, _, _, rfl, rfl, X5.out, X6.out, P1.out, P2.out, Q1.out, Q2.out, HBB.out⟩
                  · refine stepR_call rfl rfl (by kernel_rfl) (fun wx6 hwx K hK => ?_)
                    go_simp
                    refine hK _ _ (.inr ((Below.refl _ _).alloc (Nat.le_refl _) _)) ?_
                    clear hK K
                    have X6 := hid (Blk.new wx6 [.slice none 0 0, .slice none 0 0] 27)
                    have hge6 := Below.size (HB.out.trans hwx)
                    have hne : wx5.heap.size ≠ wx6.heap.size := by have h1 := X5.out.lt; have h2 := Below.size hwx; omega
                    have T := Bw.trans hwx ((Below.refl wx6.heap.size wx6).alloc (Nat.le_refl _) (.cells #[.slice none 0 0, .slice none 0 0] 27))
                    generalize wx6.alloc (.cells #[.slice none 0 0, .slice none 0 0] 27) = wy6 at *
                    replace E1 := hid (E1.out.below T)
                    replace E2 := hid (E2.out.below T)
                    replace HK := hid (HK.out.below (Nat.le_refl _) T)
                    replace HB := hid (HB.out.trans T)
                    replace X5 := hid (X5.out.below T X5.out.lt)
                    replace P1 := hid (P1.out.below T)
                    replace P2 := hid (P2.out.below T)
                    clear hwx T
                    refine anyR_callG 4 rfl rfl (by kernel_rfl) (by kernel_rfl) (fun wx4 hwx K hK => ?_)
                    go_simp
                    refine (HC2.out _ _ (show DO _ _ _ S LE from ⟨_, _, rfl, E1.out.below hwx, E2.out.below hwx⟩).dp).mono ?_
                    rintro e wy4 ⟨v, rfl, ⟨va, vb, rfl, ho1, ho2⟩, hby⟩
                    obtain ⟨Qa, Qc, rfl, _, _⟩ := ho1.shape
                    obtain ⟨Qb, Qd, rfl, _, _⟩ := ho2.shape
                    refine hK _ _ (.inr hby) ?_
                    clear hK K
                    have Q1 := hid (ho1.mono (Below.size (HB.out.trans hwx)))
                    have Q2 := hid (ho2.mono (Below.size (HB.out.trans hwx)))
                    have T := Bw.trans hwx hby
                    replace E1 := hid (E1.out.below T)
                    replace E2 := hid (E2.out.below T)
                    replace HK := hid (HK.out.below (Nat.le_refl _) T)
                    replace HB := hid (HB.out.trans T)
                    replace X5 := hid (X5.out.below T X5.out.lt)
                    replace P1 := hid (P1.out.below T)
                    replace P2 := hid (P2.out.below T)
                    replace X6 := hid (X6.out.below T X6.out.lt)
                    clear ho1 ho2 hby hwx T
                    have hne56 : wx5.heap.size ≠ wx6.heap.size := by omega
                    generalize wx5.heap.size = b5 at *
                    generalize wx6.heap.size = b6 at *
                    refine anyR_callG 7 rfl rfl (by kernel_rfl) (by kernel_rfl) (fun wx hwx K hK => ?_)
                    replace HB := hid (HB.out.trans hwx)
                    replace X5 := hid (X5.out.below hwx X5.out.lt)
                    replace P1 := hid (P1.out.below hwx)
                    replace P2 := hid (P2.out.below hwx)
                    replace X6 := hid (X6.out.below hwx X6.out.lt)
                    replace Q1 := hid (Q1.out.below hwx)
                    replace Q2 := hid (Q2.out.below hwx)
                    have k0 := X5.out.cell (i := 0) rfl
                    have k1 := X5.out.cell (i := 1) rfl
                    have l0 := X5.out.free 0
                    have l1 := X5.out.free 1
                    go_simp
                    refine hK _ _ (.inl (by kernel_rfl)) ?_
                    clear hK K k0 k1 l0 l1
                    have HBB := hid ((Below.setCell (p := ⟨b5, 0, none⟩) HB.out hge5 (.slice Pa RS.length Pc)).setCell (p := ⟨b5, 1, none⟩) hge5 (.slice Pb 0 Pd))
                    have Z0 := X5.out.set 0 (.slice Pa RS.length Pc)
                    replace P1 := hid ((P1.out.setCell_other (a := ⟨b5, 0, none⟩) (fun e => P1.out.tag X5.out (by decide) e.symm) (.slice Pa RS.length Pc)))
                    replace P2 := hid ((P2.out.setCell_other (a := ⟨b5, 0, none⟩) (fun e => P2.out.tag X5.out (by decide) e.symm) (.slice Pa RS.length Pc)))
                    replace Q1 := hid ((Q1.out.setCell_other (a := ⟨b5, 0, none⟩) (fun e => Q1.out.tag X5.out (by decide) e.symm) (.slice Pa RS.length Pc)))
                    replace Q2 := hid ((Q2.out.setCell_other (a := ⟨b5, 0, none⟩) (fun e => Q2.out.tag X5.out (by decide) e.symm) (.slice Pa RS.length Pc)))
                    replace P1 := hid ((P1.out.setCell_other (a := ⟨b5, 1, none⟩) (fun e => P1.out.tag Z0 (by decide) e.symm) (.slice Pb 0 Pd)))
                    replace P2 := hid ((P2.out.setCell_other (a := ⟨b5, 1, none⟩) (fun e => P2.out.tag Z0 (by decide) e.symm) (.slice Pb 0 Pd)))
                    replace Q1 := hid ((Q1.out.setCell_other (a := ⟨b5, 1, none⟩) (fun e => Q1.out.tag Z0 (by decide) e.symm) (.slice Pb 0 Pd)))
                    replace Q2 := hid ((Q2.out.setCell_other (a := ⟨b5, 1, none⟩) (fun e => Q2.out.tag Z0 (by decide) e.symm) (.slice Pb 0 Pd)))
                    replace X6 := hid ((X6.out.other (a := ⟨b5, 0, none⟩) hne56.symm (.slice Pa RS.length Pc)).other (a := ⟨b5, 1, none⟩) hne56.symm (.slice Pb 0 Pd))
                    replace X5 := hid (Z0.set 1 (.slice Pb 0 Pd))
                    clear Z0
                    generalize (wx.setCell ⟨b5, 0, none⟩ (.slice Pa RS.length Pc)).setCell ⟨b5, 1, none⟩ (.slice Pb 0 Pd) = w77 at *
                    refine anyR_last 8 rfl (by kernel_rfl) (by kernel_rfl) (fun wz hwz K hK => ?_)
                    replace P1 := hid (P1.out.below hwz)
                    replace P2 := hid (P2.out.below hwz)
                    replace Q1 := hid (Q1.out.below hwz)
                    replace Q2 := hid (Q2.out.below hwz)
                    replace X5 := hid (X5.out.below hwz X5.out.lt)
                    replace X6 := hid (X6.out.below hwz X6.out.lt)
                    replace HBB := hid (HBB.out.trans (Below.mono hwz HBB.out.size))
                    have k0 := X6.out.cell (i := 0) rfl
                    have k1 := X6.out.cell (i := 1) rfl
                    have l0 := X6.out.free 0
                    have l1 := X6.out.free 1
                    go_simp
                    refine hK _ _ ?_
                    clear hK K k0 k1 l0 l1
                    replace HBB := hid ((HBB.out.setCell (p := ⟨b6, 0, none⟩) hge6 (.slice Qa S.length Qc)).setCell (p := ⟨b6, 1, none⟩) hge6 (.slice Qb 0 Qd))
                    have Z0 := X6.out.set 0 (.slice Qa S.length Qc)
                    replace P1 := hid ((P1.out.setCell_other (a := ⟨b6, 0, none⟩) (fun e => P1.out.tag X6.out (by decide) e.symm) (.slice Qa S.length Qc)))
                    replace P2 := hid ((P2.out.setCell_other (a := ⟨b6, 0, none⟩) (fun e => P2.out.tag X6.out (by decide) e.symm) (.slice Qa S.length Qc)))
                    replace Q1 := hid ((Q1.out.setCell_other (a := ⟨b6, 0, none⟩) (fun e => Q1.out.tag X6.out (by decide) e.symm) (.slice Qa S.length Qc)))
                    replace Q2 := hid ((Q2.out.setCell_other (a := ⟨b6, 0, none⟩) (fun e => Q2.out.tag X6.out (by decide) e.symm) (.slice Qa S.length Qc)))
                    replace P1 := hid ((P1.out.setCell_other (a := ⟨b6, 1, none⟩) (fun e => P1.out.tag Z0 (by decide) e.symm) (.slice Qb 0 Qd)))
                    replace P2 := hid ((P2.out.setCell_other (a := ⟨b6, 1, none⟩) (fun e => P2.out.tag Z0 (by decide) e.symm) (.slice Qb 0 Qd)))
                    replace Q1 := hid ((Q1.out.setCell_other (a := ⟨b6, 1, none⟩) (fun e => Q1.out.tag Z0 (by decide) e.symm) (.slice Qb 0 Qd)))
                    replace Q2 := hid ((Q2.out.setCell_other (a := ⟨b6, 1, none⟩) (fun e => Q2.out.tag Z0 (by decide) e.symm) (.slice Qb 0 Qd)))
                    replace X5 := hid ((X5.out.other (a := ⟨b6, 0, none⟩) hne56 (.slice Qa S.length Qc)).other (a := ⟨b6, 1, none⟩) hne56 (.slice Qb 0 Qd))
                    replace X6 := hid (Z0.set 1 (.slice Qb 0 Qd))
                    clear Z0
                    go_wp2_with fail
                    go_meet
                    exact ⟨b5, b6, _, _, _, _, rfl, rfl, X5.out, X6.out, P1.out, P2.out, Q1.out, Q2.out, HBB.out⟩
                · refine stepR_call rfl rfl (by kernel_rfl) (fun wx6 hwx K hK => ?_)
                  go_simp
                  refine hK _ _ (.inr ((Below.refl _ _).alloc (Nat.le_refl _) _)) ?_
                  clear hK K
                  have X6 := hid (Blk.new wx6 [.slice none 0 0, .slice none 0 0] 27)
                  have hge6 := Below.size (HB.out.trans hwx)
                  have hne : wx5.heap.size ≠ wx6.heap.size := by have h1 := X5.out.lt; have h2 := Below.size hwx; omega
                  have T := Bw.trans hwx ((Below.refl wx6.heap.size wx6).alloc (Nat.le_refl _) (.cells #[.slice none 0 0, .slice none 0 0] 27))
                  generalize wx6.alloc (.cells #[.slice none 0 0, .slice none 0 0] 27) = wy6 at *
                  replace E1 := hid (E1.out.below T)
                  replace E2 := hid (E2.out.below T)
                  replace HK := hid (HK.out.below (Nat.le_refl _) T)
                  replace HB := hid (HB.out.trans T)
                  replace X5 := hid (X5.out.below T X5.out.lt)
                  clear hwx T
                  refine anyR_callG 2 rfl rfl (by kernel_rfl) (by kernel_rfl) (fun wx2 hwx K hK => ?_)
                  go_simp
                  refine (HC1.out _ _ (show DO _ _ _ S LE from ⟨_, _, rfl, E1.out.below hwx, E2.out.below hwx⟩).dp (HK.out.below (Nat.le_refl _) hwx)).mono ?_
                  rintro e wy2 ⟨v, rfl, ⟨va, vb, rfl, ho1, ho2⟩, hby⟩
                  obtain ⟨Pa, Pc, rfl, _, _⟩ := ho1.shape
                  obtain ⟨Pb, Pd, rfl, _, _⟩ := ho2.shape
                  refine hK _ _ (.inr hby) ?_
                  clear hK K
                  have P1 := hid (ho1.mono (Below.size (HB.out.trans hwx)))
                  have P2 := hid (ho2.mono (Below.size (HB.out.trans hwx)))
                  have T := Bw.trans hwx hby
                  replace E1 := hid (E1.out.below T)
                  replace E2 := hid (E2.out.below T)
                  replace HK := hid (HK.out.below (Nat.le_refl _) T)
                  replace HB := hid (HB.out.trans T)
                  replace X5 := hid (X5.out.below T X5.out.lt)
                  replace X6 := hid (X6.out.below T X6.out.lt)
                  clear ho1 ho2 hby hwx T
                  refine anyR_callG 4 rfl rfl (by kernel_rfl) (by kernel_rfl) (fun wx4 hwx K hK => ?_)
                  go_simp
                  refine (HC2.out _ _ (show DO _ _ _ S LE from ⟨_, _, rfl, E1.out.below hwx, E2.out.below hwx⟩).dp).mono ?_
                  rintro e wy4 ⟨v, rfl, ⟨va, vb, rfl, ho1, ho2⟩, hby⟩
                  obtain ⟨Qa, Qc, rfl, _, _⟩ := ho1.shape
                  obtain ⟨Qb, Qd, rfl, _, _⟩ := ho2.shape
                  refine hK _ _ (.inr hby) ?_
                  clear hK K
                  have Q1 := hid (ho1.mono (Below.size (HB.out.trans hwx)))
                  have Q2 := hid (ho2.mono (Below.size (HB.out.trans hwx)))
                  have T := Bw.trans hwx hby
                  replace E1 := hid (E1.out.below T)
                  replace E2 := hid (E2.out.below T)
                  replace HK := hid (HK.out.below (Nat.le_refl _) T)
                  replace HB := hid (HB.out.trans T)
                  replace X5 := hid (X5.out.below T X5.out.lt)
                  replace X6 := hid (X6.out.below T X6.out.lt)
                  replace P1 := hid (P1.out.below T)
                  replace P2 := hid (P2.out.below T)
                  clear ho1 ho2 hby hwx T
                  have hne56 : wx5.heap.size ≠ wx6.heap.size := by omega
                  generalize wx5.heap.size = b5 at *
                  generalize wx6.heap.size = b6 at *
                  refine anyR_callG 7 rfl rfl (by kernel_rfl) (by kernel_rfl) (fun wx hwx K hK => ?_)
                  replace HB := hid (HB.out.trans hwx)
                  replace X5 := hid (X5.out.below hwx X5.out.lt)
                  replace X6 := hid (X6.out.below hwx X6.out.lt)
                  replace P1 := hid (P1.out.below hwx)
                  replace P2 := hid (P2.out.below hwx)
                  replace Q1 := hid (Q1.out.below hwx)
                  replace Q2 := hid (Q2.out.below hwx)
                  have k0 := X5.out.cell (i := 0) rfl
                  have k1 := X5.out.cell (i := 1) rfl
                  have l0 := X5.out.free 0
                  have l1 := X5.out.free 1
                  go_simp
                  refine hK _ _ (.inl (by kernel_rfl)) ?_
                  clear hK K k0 k1 l0 l1
                  have HBB := hid ((Below.setCell (p := ⟨b5, 0, none⟩) HB.out hge5 (.slice Pa RS.length Pc)).setCell (p := ⟨b5, 1, none⟩) hge5 (.slice Pb 0 Pd))
                  have Z0 := X5.out.set 0 (.slice Pa RS.length Pc)
                  replace P1 := hid ((P1.out.setCell_other (a := ⟨b5, 0, none⟩) (fun e => P1.out.tag X5.out (by decide) e.symm) (.slice Pa RS.length Pc)))
                  replace P2 := hid ((P2.out.setCell_other (a := ⟨b5, 0, none⟩) (fun e => P2.out.tag X5.out (by decide) e.symm) (.slice Pa RS.length Pc)))
                  replace Q1 := hid ((Q1.out.setCell_other (a := ⟨b5, 0, none⟩) (fun e => Q1.out.tag X5.out (by decide) e.symm) (.slice Pa RS.length Pc)))
                  replace Q2 := hid ((Q2.out.setCell_other (a := ⟨b5, 0, none⟩) (fun e => Q2.out.tag X5.out (by decide) e.symm) (.slice Pa RS.length Pc)))
                  replace P1 := hid ((P1.out.setCell_other (a := ⟨b5, 1, none⟩) (fun e => P1.out.tag Z0 (by decide) e.symm) (.slice Pb 0 Pd)))
                  replace P2 := hid ((P2.out.setCell_other (a := ⟨b5, 1, none⟩) (fun e => P2.out.tag Z0 (by decide) e.symm) (.slice Pb 0 Pd)))
                  replace Q1 := hid ((Q1.out.setCell_other (a := ⟨b5, 1, none⟩) (fun e => Q1.out.tag Z0 (by decide) e.symm) (.slice Pb 0 Pd)))
                  replace Q2 := hid ((Q2.out.setCell_other (a := ⟨b5, 1, none⟩) (fun e => Q2.out.tag Z0 (by decide) e.symm) (.slice Pb 0 Pd)))
                  replace X6 := hid ((X6.out.other (a := ⟨b5, 0, none⟩) hne56.symm (.slice Pa RS.length Pc)).other (a := ⟨b5, 1, none⟩) hne56.symm (.slice Pb 0 Pd))
                  replace X5 := hid (Z0.set 1 (.slice Pb 0 Pd))
                  clear Z0
                  generalize (wx.setCell ⟨b5, 0, none⟩ (.slice Pa RS.length Pc)).setCell ⟨b5, 1, none⟩ (.slice Pb 0 Pd) = w77 at *
                  refine anyR_last 8 rfl (by kernel_rfl) (by kernel_rfl) (fun wz hwz K hK => ?_)
                  replace P1 := hid (P1.out.below hwz)
                  replace P2 := hid (P2.out.below hwz)
                  replace Q1 := hid (Q1.out.below hwz)
                  replace Q2 := hid (Q2.out.below hwz)
                  replace X5 := hid (X5.out.below hwz X5.out.lt)
                  replace X6 := hid (X6.out.below hwz X6.out.lt)
                  replace HBB := hid (HBB.out.trans (Below.mono hwz HBB.out.size))
                  have k0 := X6.out.cell (i := 0) rfl
                  have k1 := X6.out.cell (i := 1) rfl
                  have l0 := X6.out.free 0
                  have l1 := X6.out.free 1
                  go_simp
                  refine hK _ _ ?_
                  clear hK K k0 k1 l0 l1
                  replace HBB := hid ((HBB.out.setCell (p := ⟨b6, 0, none⟩) hge6 (.slice Qa S.length Qc)).setCell (p := ⟨b6, 1, none⟩) hge6 (.slice Qb 0 Qd))
                  have Z0 := X6.out.set 0 (.slice Qa S.length Qc)
                  replace P1 := hid ((P1.out.setCell_other (a := ⟨b6, 0, none⟩) (fun e => P1.out.tag X6.out (by decide) e.symm) (.slice Qa S.length Qc)))
                  replace P2 := hid ((P2.out.setCell_other (a := ⟨b6, 0, none⟩) (fun e => P2.out.tag X6.out (by decide) e.symm) (.slice Qa S.length Qc)))
                  replace Q1 := hid ((Q1.out.setCell_other (a := ⟨b6, 0, none⟩) (fun e => Q1.out.tag X6.out (by decide) e.symm) (.slice Qa S.length Qc)))
                  replace Q2 := hid ((Q2.out.setCell_other (a := ⟨b6, 0, none⟩) (fun e => Q2.out.tag X6.out (by decide) e.symm) (.slice Qa S.length Qc)))
                  replace P1 := hid ((P1.out.setCell_other (a := ⟨b6, 1, none⟩) (fun e => P1.out.tag Z0 (by decide) e.symm) (.slice Qb 0 Qd)))
                  replace P2 := hid ((P2.out.setCell_other (a := ⟨b6, 1, none⟩) (fun e => P2.out.tag Z0 (by decide) e.symm) (.slice Qb 0 Qd)))
                  replace Q1 := hid ((Q1.out.setCell_other (a := ⟨b6, 1, none⟩) (fun e => Q1.out.tag Z0 (by decide) e.symm) (.slice Qb 0 Qd)))
                  replace Q2 := hid ((Q2.out.setCell_other (a := ⟨b6, 1, none⟩) (fun e => Q2.out.tag Z0 (by decide) e.symm) (.slice Qb 0 Qd)))
                  replace X5 := hid ((X5.out.other (a := ⟨b6, 0, none⟩) hne56 (.slice Qa S.length Qc)).other (a := ⟨b6, 1, none⟩) hne56 (.slice Qb 0 Qd))
                  replace X6 := hid (Z0.set 1 (.slice Qb 0 Qd))
                  clear Z0
                  go_wp2_with fail
                  go_meet
                  exact ⟨b5, b6, _, _, _, _, rfl, rfl, X5.out, X6.out, P1.out, P2.out, Q1.out, Q2.out, HBB.out⟩
              · refine stepR_call rfl rfl (by kernel_rfl) (fun wx6 hwx K hK => ?_)
                go_simp
                refine hK _ _ (.inr ((Below.refl _ _).alloc (Nat.le_refl _) _)) ?_
                clear hK K
                have X6 := hid (Blk.new wx6 [.slice none 0 0, .slice none 0 0] 27)
                have hge6 := Below.size (HB.out.trans hwx)
                have T := Bw.trans hwx ((Below.refl wx6.heap.size wx6).alloc (Nat.le_refl _) (.cells #[.slice none 0 0, .slice none 0 0] 27))
                generalize wx6.alloc (.cells #[.slice none 0 0, .slice none 0 0] 27) = wy6 at *
                replace E1 := hid (E1.out.below T)
                replace E2 := hid (E2.out.below T)
                replace HK := hid (HK.out.below (Nat.le_refl _) T)
                replace HB := hid (HB.out.trans T)
                clear hwx T
                refine anyR_many [2, 5] (by kernel_rfl) (by simp) (List.forall_mem_cons.2 ⟨?_, List.forall_mem_cons.2 ⟨?_, List.forall_mem_nil _⟩⟩)
                · refine stepR_call rfl rfl (by kernel_rfl) (fun wx2 hwx K hK => ?_)
                  go_simp
                  refine (HC1.out _ _ (show DO _ _ _ S LE from ⟨_, _, rfl, E1.out.below hwx, E2.out.below hwx⟩).dp (HK.out.below (Nat.le_refl _) hwx)).mono ?_
                  rintro e wy2 ⟨v, rfl, ⟨va, vb, rfl, ho1, ho2⟩, hby⟩
                  obtain ⟨Pa, Pc, rfl, _, _⟩ := ho1.shape
                  obtain ⟨Pb, Pd, rfl, _, _⟩ := ho2.shape
                  refine hK _ _ (.inr hby) ?_
                  clear hK K
                  have P1 := hid (ho1.mono (Below.size (HB.out.trans hwx)))
                  have P2 := hid (ho2.mono (Below.size (HB.out.trans hwx)))
                  have T := Bw.trans hwx hby
                  replace E1 := hid (E1.out.below T)
                  replace E2 := hid (E2.out.below T)
                  replace HK := hid (HK.out.below (Nat.le_refl _) T)
                  replace HB := hid (HB.out.trans T)
                  replace X6 := hid (X6.out.below T X6.out.lt)
                  clear ho1 ho2 hby hwx T
                  refine anyR_many [4, 5] (by kernel_rfl) (by simp) (List.forall_mem_cons.2 ⟨?_, List.forall_mem_cons.2 ⟨?_, List.forall_mem_nil _⟩⟩)
                  · refine stepR_call rfl rfl (by kernel_rfl) (fun wx4 hwx K hK => ?_)
                    go_simp
                    refine (HC2.out _ _ (show DO _ _ _ S LE from ⟨_, _, rfl, E1.out.below hwx, E2.out.below hwx⟩).dp).mono ?_
                    rintro e wy4 ⟨v, rfl, ⟨va, vb, rfl, ho1, ho2⟩, hby⟩
                    obtain ⟨Qa, Qc, rfl, _, _⟩ := ho1.shape
                    obtain ⟨Qb, Qd, rfl, _, _⟩ := ho2.shape
                    refine hK _ _ (.inr hby) ?_
                    clear hK K
                    have Q1 := hid (ho1.mono (Below.size (HB.out.trans hwx)))
                    have Q2 := hid (ho2.mono (Below.size (HB.out.trans hwx)))
                    have T := Bw.trans hwx hby
                    replace E1 := hid (E1.out.below T)
                    replace E2 := hid (E2.out.below T)
                    replace HK := hid (HK.out.below (Nat.le_refl _) T)
                    replace HB := hid (HB.out.trans T)
                    replace X6 := hid (X6.out.below T X6.out.lt)
                    replace P1 := hid (P1.out.below T)
                    replace P2 := hid (P2.out.below T)
                    clear ho1 ho2 hby hwx T
                    refine anyR_callG 5 rfl rfl (by kernel_rfl) (by kernel_rfl) (fun wx5 hwx K hK => ?_)
                    go_simp
                    refine hK _ _ (.inr ((Below.refl _ _).alloc (Nat.le_refl _) _)) ?_
                    clear hK K
                    have X5 := hid (Blk.new wx5 [.slice none 0 0, .slice none 0 0] 27)
                    have hge5 := Below.size (HB.out.trans hwx)
                    have hne : wx6.heap.size ≠ wx5.heap.size := by have h1 := X6.out.lt; have h2 := Below.size hwx; omega
                    have T := Bw.trans hwx ((Below.refl wx5.heap.size wx5).alloc (Nat.le_refl _) (.cells #[.slice none 0 0, .slice none 0 0] 27))
                    generalize wx5.alloc (.cells #[.slice none 0 0, .slice none 0 0] 27) = wy5 at *
                    replace E1 := hid (E1.out.below T)
                    replace E2 := hid (E2.out.below T)
                    replace HK := hid (HK.out.below (Nat.le_refl _) T)
                    replace HB := hid (HB.out.trans T)
                    replace X6 := hid (X6.out.below T X6.out.lt)
                    replace P1 := hid (P1.out.below T)
                    replace P2 := hid (P2.out.below T)
                    replace Q1 := hid (Q1.out.below T)
                    replace Q2 := hid (Q2.out.below T)
                    clear hwx T
                    have hne56 : wx5.heap.size ≠ wx6.heap.size := by omega
                    generalize wx5.heap.size = b5 at *
                    generalize wx6.heap.size = b6 at *
                    refine anyR_callG 7 rfl rfl (by kernel_rfl) (by kernel_rfl) (fun wx hwx K hK => ?_)
                    replace HB := hid (HB.out.trans hwx)
                    replace X6 := hid (X6.out.below hwx X6.out.lt)
                    replace P1 := hid (P1.out.below hwx)
                    replace P2 := hid (P2.out.below hwx)
                    replace Q1 := hid (Q1.out.below hwx)
                    replace Q2 := hid (Q2.out.below hwx)
                    replace X5 := hid (X5.out.below hwx X5.out.lt)
                    have k0 := X5.out.cell (i := 0) rfl
                    have k1 := X5.out.cell (i := 1) rfl
                    have l0 := X5.out.free 0
                    have l1 := X5.out.free 1
                    go_simp
                    refine hK _ _ (.inl (by kernel_rfl)) ?_
                    clear hK K k0 k1 l0 l1
                    have HBB := hid ((Below.setCell (p := ⟨b5, 0, none⟩) HB.out hge5 (.slice Pa RS.length Pc)).setCell (p := ⟨b5, 1, none⟩) hge5 (.slice Pb 0 Pd))
                    have Z0 := X5.out.set 0 (.slice Pa RS.length Pc)
                    replace P1 := hid ((P1.out.setCell_other (a := ⟨b5, 0, none⟩) (fun e => P1.out.tag X5.out (by decide) e.symm) (.slice Pa RS.length Pc)))
                    replace P2 := hid ((P2.out.setCell_other (a := ⟨b5, 0, none⟩) (fun e => P2.out.tag X5.out (by decide) e.symm) (.slice Pa RS.length Pc)))
                    replace Q1 := hid ((Q1.out.setCell_other (a := ⟨b5, 0, none⟩) (fun e => Q1.out.tag X5.out (by decide) e.symm) (.slice Pa RS.length Pc)))
                    replace Q2 := hid ((Q2.out.setCell_other (a := ⟨b5, 0, none⟩) (fun e => Q2.out.tag X5.out (by decide) e.symm) (.slice Pa RS.length Pc)))
                    replace P1 := hid ((P1.out.setCell_other (a := ⟨b5, 1, none⟩) (fun e => P1.out.tag Z0 (by decide) e.symm) (.slice Pb 0 Pd)))
                    replace P2 := hid ((P2.out.setCell_other (a := ⟨b5, 1, none⟩) (fun e => P2.out.tag Z0 (by decide) e.symm) (.slice Pb 0 Pd)))
                    replace Q1 := hid ((Q1.out.setCell_other (a := ⟨b5, 1, none⟩) (fun e => Q1.out.tag Z0 (by decide) e.symm) (.slice Pb 0 Pd)))
                    replace Q2 := hid ((Q2.out.setCell_other (a := ⟨b5, 1, none⟩) (fun e => Q2.out.tag Z0 (by decide) e.symm) (.slice Pb 0 Pd)))
                    replace X6 := hid ((X6.out.other (a := ⟨b5, 0, none⟩) hne56.symm (.slice Pa RS.length Pc)).other (a := ⟨b5, 1, none⟩) hne56.symm (.slice Pb 0 Pd))
                    replace X5 := hid (Z0.set 1 (.slice Pb 0 Pd))
                    clear Z0
                    generalize (wx.setCell ⟨b5, 0, none⟩ (.slice Pa RS.length Pc)).setCell ⟨b5, 1, none⟩ (.slice Pb 0 Pd) = w77 at *
                    refine anyR_last 8 rfl (by kernel_rfl) (by kernel_rfl) (fun wz hwz K hK => ?_)
                    replace P1 := hid (P1.out.below hwz)
                    replace P2 := hid (P2.out.below hwz)
                    replace Q1 := hid (Q1.out.below hwz)
                    replace Q2 := hid (Q2.out.below hwz)
                    replace X5 := hid (X5.out.below hwz X5.out.lt)
                    replace X6 := hid (X6.out.below hwz X6.out.lt)
                    replace HBB := hid (HBB.out.trans (Below.mono hwz HBB.out.size))
                    have k0 := X6.out.cell (i := 0) rfl
                    have k1 := X6.out.cell (i := 1) rfl
                    have l0 := X6.out.free 0
                    have l1 := X6.out.free 1
                    go_simp
                    refine hK _ _ ?_
                    clear hK K k0 k1 l0 l1
                    replace HBB := hid ((HBB.out.setCell (p := ⟨b6, 0, none⟩) hge6 (.slice Qa S.length Qc)).setCell (p := ⟨b6, 1, none⟩) hge6 (.slice Qb 0 Qd))
                    have Z0 := X6.out.set 0 (.slice Qa S.length Qc)
                    replace P1 := hid ((P1.out.setCell_other (a := ⟨b6, 0, none⟩) (fun e => P1.out.tag X6.out (by decide) e.symm) (.slice Qa S.length Qc)))
                    replace P2 := hid ((P2.out.setCell_other (a := ⟨b6, 0, none⟩) (fun e => P2.out.tag X6.out (by decide) e.symm) (.slice Qa S.length Qc)))
                    replace Q1 := hid ((Q1.out.setCell_other (a := ⟨b6, 0, none⟩) (fun e => Q1.out.tag X6.out (by decide) e.symm) (.slice Qa S.length Qc)))
                    replace Q2 := hid ((Q2.out.setCell_other (a := ⟨b6, 0, none⟩) (fun e => Q2.out.tag X6.out (by decide) e.symm) (.slice Qa S.length Qc)))
                    replace P1 := hid ((P1.out.setCell_other (a := ⟨b6, 1, none⟩) (fun e => P1.out.tag Z0 (by decide) e.symm) (.slice Qb 0 Qd)))
                    replace P2 := hid ((P2.out.setCell_other (a := ⟨b6, 1, none⟩) (fun e => P2.out.tag Z0 (by decide) e.symm) (.slice Qb 0 Qd)))
                    replace Q1 := hid ((Q1.out.setCell_other (a := ⟨b6, 1, none⟩) (fun e => Q1.out.tag Z0 (by decide) e.symm) (.slice Qb 0 Qd)))
                    replace Q2 := hid ((Q2.out.setCell_other (a := ⟨b6, 1, none⟩) (fun e => Q2.out.tag Z0 (by decide) e.symm) (.slice Qb 0 Qd)))
                    replace X5 := hid ((X5.out.other (a := ⟨b6, 0, none⟩) hne56 (.slice Qa S.length Qc)).other (a := ⟨b6, 1, none⟩) hne56 (.slice Qb 0 Qd))
                    replace X6 := hid (Z0.set 1 (.slice Qb 0 Qd))
                    clear Z0
                    go_wp2_with fail
                    go_meet
                    exact ⟨b5, b6, _, _, _, _, rfl, rfl, X5.out, X6.out, P1.out, P2.out, Q1.out, Q2.out, HBB.out⟩
                  · refine stepR_call rfl rfl (by kernel_rfl) (fun wx5 hwx K hK => ?_)
                    go_simp
                    refine hK _ _ (.inr ((Below.refl _ _).alloc (Nat.le_refl _) _)) ?_
                    clear hK K
                    have X5 := hid (Blk.new wx5 [.slice none 0 0, .slice none 0 0] 27)
                    have hge5 := Below.size (HB.out.trans hwx)
                    have hne : wx6.heap.size ≠ wx5.heap.size := by have h1 := X6.out.lt; have h2 := Below.size hwx; omega
                    have T := Bw.trans hwx ((Below.refl wx5.heap.size wx5).alloc (Nat.le_refl _) (.cells #[.slice none 0 0, .slice none 0 0] 27))
                    generalize wx5.alloc (.cells #[.slice none 0 0, .slice none 0 0] 27) = wy5 at *
                    replace E1 := hid (E1.out.below T)
                    replace E2 := hid (E2.out.below T)
                    replace HK := hid (HK.out.below (Nat.le_refl _) T)
                    replace HB := hid (HB.out.trans T)
                    replace X6 := hid (X6.out.below T X6.out.lt)
                    replace P1 := hid (P1.out.below T)
                    replace P2 := hid (P2.out.below T)
                    clear hwx T
                    refine anyR_callG 4 rfl rfl (by kernel_rfl) (by kernel_rfl) (fun wx4 hwx K hK => ?_)
                    go_simp
                    refine (HC2.out _ _ (show DO _ _ _ S LE from ⟨_, _, rfl, E1.out.below hwx, E2.out.below hwx⟩).dp).mono ?_
                    rintro e wy4 ⟨v, rfl, ⟨va, vb, rfl, ho1, ho2⟩, hby⟩
                    obtain ⟨Qa, Qc, rfl, _, _⟩ := ho1.shape
                    obtain ⟨Qb, Qd, rfl, _, _⟩ := ho2.shape
                    refine hK _ _ (.inr hby) ?_
                    clear hK K
                    have Q1 := hid (ho1.mono (Below.size (HB.out.trans hwx)))
                    have Q2 := hid (ho2.mono (Below.size (HB.out.trans hwx)))
                    have T := Bw.trans hwx hby
                    replace E1 := hid (E1.out.below T)
                    replace E2 := hid (E2.out.below T)
                    replace HK := hid (HK.out.below (Nat.le_refl _) T)
                    replace HB := hid (HB.out.trans T)
                    replace X6 := hid (X6.out.below T X6.out.lt)
                    replace P1 := hid (P1.out.below T)
                    replace P2 := hid (P2.out.below T)
                    replace X5 := hid (X5.out.below T X5.out.lt)
                    clear ho1 ho2 hby hwx T
                    have hne56 : wx5.heap.size ≠ wx6.heap.size := by omega
                    generalize wx5.heap.size = b5 at *
                    generalize wx6.heap.size = b6 at *
                    refine anyR_callG 7 rfl rfl (by kernel_rfl) (by kernel_rfl) (fun wx hwx K hK => ?_)
                    replace HB := hid (HB.out.trans hwx)
                    replace X6 := hid (X6.out.below hwx X6.out.lt)
                    replace P1 := hid (P1.out.below hwx)
                    replace P2 := hid (P2.out.below hwx)
                    replace X5 := hid (X5.out.below hwx X5.out.lt)
                    replace Q1 := hid (Q1.out.below hwx)
                    replace Q2 := hid (Q2.out.below hwx)
                    have k0 := X5.out.cell (i := 0) rfl
                    have k1 := X5.out.cell (i := 1) rfl
                    have l0 := X5.out.free 0
                    have l1 := X5.out.free 1
                    go_simp
                    refine hK _ _ (.inl (by kernel_rfl)) ?_
                    clear hK K k0 k1 l0 l1
                    have HBB := hid ((Below.setCell (p := ⟨b5, 0, none⟩) HB.out hge5 (.slice Pa RS.length Pc)).setCell (p := ⟨b5, 1, none⟩) hge5 (.slice Pb 0 Pd))
                    have Z0 := X5.out.set 0 (.slice Pa RS.length Pc)
                    replace P1 := hid ((P1.out.setCell_other (a := ⟨b5, 0, none⟩) (fun e => P1.out.tag X5.out (by decide) e.symm) (.slice Pa RS.length Pc)))
                    replace P2 := hid ((P2.out.setCell_other (a := ⟨b5, 0, none⟩) (fun e => P2.out.tag X5.out (by decide) e.symm) (.slice Pa RS.length Pc)))
                    replace Q1 := hid ((Q1.out.setCell_other (a := ⟨b5, 0, none⟩) (fun e => Q1.out.tag X5.out (by decide) e.symm) (.slice Pa RS.length Pc)))
                    replace Q2 := hid ((Q2.out.setCell_other (a := ⟨b5, 0, none⟩) (fun e => Q2.out.tag X5.out (by decide) e.symm) (.slice Pa RS.length Pc)))
                    replace P1 := hid ((P1.out.setCell_other (a := ⟨b5, 1, none⟩) (fun e => P1.out.tag Z0 (by decide) e.symm) (.slice Pb 0 Pd)))
                    replace P2 := hid ((P2.out.setCell_other (a := ⟨b5, 1, none⟩) (fun e => P2.out.tag Z0 (by decide) e.symm) (.slice Pb 0 Pd)))
                    replace Q1 := hid ((Q1.out.setCell_other (a := ⟨b5, 1, none⟩) (fun e => Q1.out.tag Z0 (by decide) e.symm) (.slice Pb 0 Pd)))
                    replace Q2 := hid ((Q2.out.setCell_other (a := ⟨b5, 1, none⟩) (fun e => Q2.out.tag Z0 (by decide) e.symm) (.slice Pb 0 Pd)))
                    replace X6 := hid ((X6.out.other (a := ⟨b5, 0, none⟩) hne56.symm (.slice Pa RS.length Pc)).other (a := ⟨b5, 1, none⟩) hne56.symm (.slice Pb 0 Pd))
                    replace X5 := hid (Z0.set 1 (.slice Pb 0 Pd))
                    clear Z0
                    generalize (wx.setCell ⟨b5, 0, none⟩ (.slice Pa RS.length Pc)).setCell ⟨b5, 1, none⟩ (.slice Pb 0 Pd) = w77 at *
                    refine anyR_last 8 rfl (by kernel_rfl) (by kernel_rfl) (fun wz hwz K hK => ?_)
                    replace P1 := hid (P1.out.below hwz)
                    replace P2 := hid (P2.out.below hwz)
                    replace Q1 := hid (Q1.out.below hwz)
                    replace Q2 := hid (Q2.out.below hwz)
                    replace X5 := hid (X5.out.below hwz X5.out.lt)
                    replace X6 := hid (X6.out.below hwz X6.out.lt)
                    replace HBB := hid (HBB.out.trans (Below.mono hwz HBB.out.size))
                    have k0 := X6.out.cell (i := 0) rfl
                    have k1 := X6.out.cell (i := 1) rfl
                    have l0 := X6.out.free 0
                    have l1 := X6.out.free 1
                    go_simp
                    refine hK _ _ ?_
                    clear hK K k0 k1 l0 l1
                    replace HBB := hid ((HBB.out.setCell (p := ⟨b6, 0, none⟩) hge6 (.slice Qa S.length Qc)).setCell (p := ⟨b6, 1, none⟩) hge6 (.slice Qb 0 Qd))
                    have Z0 := X6.out.set 0 (.slice Qa S.length Qc)
                    replace P1 := hid ((P1.out.setCell_other (a := ⟨b6, 0, none⟩) (fun e => P1.out.tag X6.out (by decide) e.symm) (.slice Qa S.length Qc)))
                    replace P2 := hid ((P2.out.setCell_other (a := ⟨b6, 0, none⟩) (fun e => P2.out.tag X6.out (by decide) e.symm) (.slice Qa S.length Qc)))
                    replace Q1 := hid ((Q1.out.setCell_other (a := ⟨b6, 0, none⟩) (fun e => Q1.out.tag X6.out (by decide) e.symm) (.slice Qa S.length Qc)))
                    replace Q2 := hid ((Q2.out.setCell_other (a := ⟨b6, 0, none⟩) (fun e => Q2.out.tag X6.out (by decide) e.symm) (.slice Qa S.length Qc)))
                    replace P1 := hid ((P1.out.setCell_other (a := ⟨b6, 1, none⟩) (fun e => P1.out.tag Z0 (by decide) e.symm) (.slice Qb 0 Qd)))
                    replace P2 := hid ((P2.out.setCell_other (a := ⟨b6, 1, none⟩) (fun e => P2.out.tag Z0 (by decide) e.symm) (.slice Qb 0 Qd)))
                    replace Q1 := hid ((Q1.out.setCell_other (a := ⟨b6, 1, none⟩) (fun e => Q1.out.tag Z0 (by decide) e.symm) (.slice Qb 0 Qd)))
                    replace Q2 := hid ((Q2.out.setCell_other (a := ⟨b6, 1, none⟩) (fun e => Q2.out.tag Z0 (by decide) e.symm) (.slice Qb 0 Qd)))
                    replace X5 := hid ((X5.out.other (a := ⟨b6, 0, none⟩) hne56 (.slice Qa S.length Qc)).other (a := ⟨b6, 1, none⟩) hne56 (.slice Qb 0 Qd))
                    replace X6 := hid (Z0.set 1 (.slice Qb 0 Qd))
                    clear Z0
                    go_wp2_with fail
                    go_meet
                    exact ⟨b5, b6, _, _, _, _, rfl, rfl, X5.out, X6.out, P1.out, P2.out, Q1.out, Q2.out, HBB.out⟩
                · refine stepR_call rfl rfl (by kernel_rfl) (fun wx5 hwx K hK => ?_)
                  go_simp
                  refine hK _ _ (.inr ((Below.refl _ _).alloc (Nat.le_refl _) _)) ?_
                  clear hK K
                  have X5 := hid (Blk.new wx5 [.slice none 0 0, .slice none 0 0] 27)
                  have hge5 := Below.size (HB.out.trans hwx)
                  have hne : wx6.heap.size ≠ wx5.heap.size := by have h1 := X6.out.lt; have h2 := Below.size hwx; omega
                  have T := Bw.trans hwx ((Below.refl wx5.heap.size wx5).alloc (Nat.le_refl _) (.cells #[.slice none 0 0, .slice none 0 0] 27))
                  generalize wx5.alloc (.cells #[.slice none 0 0, .slice none 0 0] 27) = wy5 at *
                  replace E1 := hid (E1.out.below T)
                  replace E2 := hid (E2.out.below T)
                  replace HK := hid (HK.out.below (Nat.le_refl _) T)
                  replace HB := hid (HB.out.trans T)
                  replace X6 := hid (X6.out.below T X6.out.lt)
                  clear hwx T
                  refine anyR_callG 2 rfl rfl (by kernel_rfl) (by kernel_rfl) (fun wx2 hwx K hK => ?_)
                  go_simp
                  refine (HC1.out _ _ (show DO _ _ _ S LE from ⟨_, _, rfl, E1.out.below hwx, E2.out.below hwx⟩).dp (HK.out.below (Nat.le_refl _) hwx)).mono ?_
                  rintro e wy2 ⟨v, rfl, ⟨va, vb, rfl, ho1, ho2⟩, hby⟩
                  obtain ⟨Pa, Pc, rfl, _, _⟩ := ho1.shape
                  obtain ⟨Pb, Pd, rfl, _, _⟩ := ho2.shape
                  refine hK _ _ (.inr hby) ?_
                  clear hK K
                  have P1 := hid (ho1.mono (Below.size (HB.out.trans hwx)))
                  have P2 := hid (ho2.mono (Below.size (HB.out.trans hwx)))
                  have T := Bw.trans hwx hby
                  replace E1 := hid (E1.out.below T)
                  replace E2 := hid (E2.out.below T)
                  replace HK := hid (HK.out.below (Nat.le_refl _) T)
                  replace HB := hid (HB.out.trans T)
                  replace X6 := hid (X6.out.below T X6.out.lt)
                  replace X5 := hid (X5.out.below T X5.out.lt)
                  clear ho1 ho2 hby hwx T
                  refine anyR_callG 4 rfl rfl (by kernel_rfl) (by kernel_rfl) (fun wx4 hwx K hK => ?_)
                  go_simp
                  refine (HC2.out _ _ (show DO _ _ _ S LE from ⟨_, _, rfl, E1.out.below hwx, E2.out.below hwx⟩).dp).mono ?_
                  rintro e wy4 ⟨v, rfl, ⟨va, vb, rfl, ho1, ho2⟩, hby⟩
                  obtain ⟨Qa, Qc, rfl, _, _⟩ := ho1.shape
                  obtain ⟨Qb, Qd, rfl, _, _⟩ := ho2.shape
                  refine hK _ _ (.inr hby) ?_
                  clear hK K
                  have Q1 := hid (ho1.mono (Below.size (HB.out.trans hwx)))
                  have Q2 := hid (ho2.mono (Below.size (HB.out.trans hwx)))
                  have T := Bw.trans hwx hby
                  replace E1 := hid (E1.out.below T)
                  replace E2 := hid (E2.out.below T)
                  replace HK := hid (HK.out.below (Nat.le_refl _) T)
                  replace HB := hid (HB.out.trans T)
                  replace X6 := hid (X6.out.below T X6.out.lt)
                  replace X5 := hid (X5.out.below T X5.out.lt)
                  replace P1 := hid (P1.out.below T)
                  replace P2 := hid (P2.out.below T)
                  clear ho1 ho2 hby hwx T
                  have hne56 : wx5.heap.size ≠ wx6.heap.size := by omega
                  generalize wx5.heap.size = b5 at *
                  generalize wx6.heap.size = b6 at *
                  refine anyR_callG 7 rfl rfl (by kernel_rfl) (by kernel_rfl) (fun wx hwx K hK => ?_)
                  replace HB := hid (HB.out.trans hwx)
                  replace X6 := hid (X6.out.below hwx X6.out.lt)
                  replace X5 := hid (X5.out.below hwx X5.out.lt)
                  replace P1 := hid (P1.out.below hwx)
                  replace P2 := hid (P2.out.below hwx)
                  replace Q1 := hid (Q1.out.below hwx)
                  replace Q2 := hid (Q2.out.below hwx)
                  have k0 := X5.out.cell (i := 0) rfl
                  have k1 := X5.out.cell (i := 1) rfl
                  have l0 := X5.out.free 0
                  have l1 := X5.out.free 1
                  go_simp
                  refine hK _ _ (.inl (by kernel_rfl)) ?_
                  clear hK K k0 k1 l0 l1
                  have HBB := hid ((Below.setCell (p := ⟨b5, 0, none⟩) HB.out hge5 (.slice Pa RS.length Pc)).setCell (p := ⟨b5, 1, none⟩) hge5 (.slice Pb 0 Pd))
                  have Z0 := X5.out.set 0 (.slice Pa RS.length Pc)
                  replace P1 := hid ((P1.out.setCell_other (a := ⟨b5, 0, none⟩) (fun e => P1.out.tag X5.out (by decide) e.symm) (.slice Pa RS.length Pc)))
                  replace P2 := hid ((P2.out.setCell_other (a := ⟨b5, 0, none⟩) (fun e => P2.out.tag X5.out (by decide) e.symm) (.slice Pa RS.length Pc)))
                  replace Q1 := hid ((Q1.out.setCell_other (a := ⟨b5, 0, none⟩) (fun e => Q1.out.tag X5.out (by decide) e.symm) (.slice Pa RS.length Pc)))
                  replace Q2 := hid ((Q2.out.setCell_other (a := ⟨b5, 0, none⟩) (fun e => Q2.out.tag X5.out (by decide) e.symm) (.slice Pa RS.length Pc)))
                  replace P1 := hid ((P1.out.setCell_other (a := ⟨b5, 1, none⟩) (fun e => P1.out.tag Z0 (by decide) e.symm) (.slice Pb 0 Pd)))
                  replace P2 := hid ((P2.out.setCell_other (a := ⟨b5, 1, none⟩) (fun e => P2.out.tag Z0 (by decide) e.symm) (.slice Pb 0 Pd)))
                  replace Q1 := hid ((Q1.out.setCell_other (a := ⟨b5, 1, none⟩) (fun e => Q1.out.tag Z0 (by decide) e.symm) (.slice Pb 0 Pd)))
                  replace Q2 := hid ((Q2.out.setCell_other (a := ⟨b5, 1, none⟩) (fun e => Q2.out.tag Z0 (by decide) e.symm) (.slice Pb 0 Pd)))
                  replace X6 := hid ((X6.out.other (a := ⟨b5, 0, none⟩) hne56.symm (.slice Pa RS.length Pc)).other (a := ⟨b5, 1, none⟩) hne56.symm (.slice Pb 0 Pd))
                  replace X5 := hid (Z0.set 1 (.slice Pb 0 Pd))
                  clear Z0
                  generalize (wx.setCell ⟨b5, 0, none⟩ (.slice Pa RS.length Pc)).setCell ⟨b5, 1, none⟩ (.slice Pb 0 Pd) = w77 at *
                  refine anyR_last 8 rfl (by kernel_rfl) (by kernel_rfl) (fun wz hwz K hK => ?_)
                  replace P1 := hid (P1.out.below hwz)
                  replace P2 := hid (P2.out.below hwz)
                  replace Q1 := hid (Q1.out.below hwz)
                  replace Q2 := hid (Q2.out.below hwz)
                  replace X5 := hid (X5.out.below hwz X5.out.lt)
                  replace X6 := hid (X6.out.below hwz X6.out.lt)
                  replace HBB := hid (HBB.out.trans (Below.mono hwz HBB.out.size))
                  have k0 := X6.out.cell (i := 0) rfl
                  have k1 := X6.out.cell (i := 1) rfl
                  have l0 := X6.out.free 0
                  have l1 := X6.out.free 1
                  go_simp
                  refine hK _ _ ?_
                  clear hK K k0 k1 l0 l1
                  replace HBB := hid ((HBB.out.setCell (p := ⟨b6, 0, none⟩) hge6 (.slice Qa S.length Qc)).setCell (p := ⟨b6, 1, none⟩) hge6 (.slice Qb 0 Qd))
                  have Z0 := X6.out.set 0 (.slice Qa S.length Qc)
                  replace P1 := hid ((P1.out.setCell_other (a := ⟨b6, 0, none⟩) (fun e => P1.out.tag X6.out (by decide) e.symm) (.slice Qa S.length Qc)))
                  replace P2 := hid ((P2.out.setCell_other (a := ⟨b6, 0, none⟩) (fun e => P2.out.tag X6.out (by decide) e.symm) (.slice Qa S.length Qc)))
                  replace Q1 := hid ((Q1.out.setCell_other (a := ⟨b6, 0, none⟩) (fun e => Q1.out.tag X6.out (by decide) e.symm) (.slice Qa S.length Qc)))
                  replace Q2 := hid ((Q2.out.setCell_other (a := ⟨b6, 0, none⟩) (fun e => Q2.out.tag X6.out (by decide) e.symm) (.slice Qa S.length Qc)))
                  replace P1 := hid ((P1.out.setCell_other (a := ⟨b6, 1, none⟩) (fun e => P1.out.tag Z0 (by decide) e.symm) (.slice Qb 0 Qd)))
                  replace P2 := hid ((P2.out.setCell_other (a := ⟨b6, 1, none⟩) (fun e => P2.out.tag Z0 (by decide) e.symm) (.slice Qb 0 Qd)))
                  replace Q1 := hid ((Q1.out.setCell_other (a := ⟨b6, 1, none⟩) (fun e => Q1.out.tag Z0 (by decide) e.symm) (.slice Qb 0 Qd)))
                  replace Q2 := hid ((Q2.out.setCell_other (a := ⟨b6, 1, none⟩) (fun e => Q2.out.tag Z0 (by decide) e.symm) (.slice Qb 0 Qd)))
                  replace X5 := hid ((X5.out.other (a := ⟨b6, 0, none⟩) hne56 (.slice Qa S.length Qc)).other (a := ⟨b6, 1, none⟩) hne56 (.slice Qb 0 Qd))
                  replace X6 := hid (Z0.set 1 (.slice Qb 0 Qd))
                  clear Z0
                  go_wp2_with fail
                  go_meet
                  exact ⟨b5, b6, _, _, _, _, rfl, rfl, X5.out, X6.out, P1.out, P2.out, Q1.out, Q2.out, HBB.out⟩
            case rest =>
              obtain ⟨b1, b2, v1, v2, v3, v4, rfl, rfl, hk1, hk2, ho1, ho2, ho3, ho4, hb⟩ := hcut
              rename World => w14
              obtain ⟨Ta, Tc, rfl, _, _⟩ := ho1.shape
              obtain ⟨Tb, Td, rfl, _, _⟩ := ho2.shape
              obtain ⟨Ua, Uc, rfl, _, _⟩ := ho3.shape
              obtain ⟨Ub, Ud, rfl, _, _⟩ := ho4.shape
              clear HK hown HKL
              clear c00 c01 c10 c11 c20 c21
              replace B := hid (B.out.trans (hb.mono B.out.size))
              replace D := hid (D.out.below hb D.out.lt)
              replace EB := hid (EB.out.below hb EB.out.lt)
              replace FB := hid (FB.out.below hb FB.out.lt)
              replace G1 := hid (G1.out.below hb)
              replace G2 := hid (G2.out.below hb)
              replace E1 := hid (E1.out.below hb)
              replace E2 := hid (E2.out.below hb)
              replace F1 := hid (F1.out.below hb)
              replace F2 := hid (F2.out.below hb)
              clear hb
              have TB := hid hk1
              have UB := hid hk2
              have T1 := hid ho1
              have T2 := hid ho2
              have U1 := hid ho3
              have U2 := hid ho4
              clear hk1 hk2 ho1 ho2 ho3 ho4
              have HLK := hid (fun v v' q (hq : DP q v RS []) (hq' : DP q v' S LE) => (impl_like v v' RS [] S LE q hq hq').mono (fun e w' (h : ∃ r, e = .returned (.bool r) ∧ LkB r RS [] S LE ∧ Below q.heap.size q w') => (show e = .returned (.bool true) ∧ Below q.heap.size q w' from by obtain ⟨r, h1, h2, h3⟩ := h; rw [HF4.out r h2] at h1; exact ⟨h1, h3⟩)))
              have hss : (s.toList != s.toList) = false := by simp
              have c00 := EB.out.cell (i := 0) rfl
              have c01 := EB.out.cell (i := 1) rfl
              have c10 := FB.out.cell (i := 0) rfl
              have c11 := FB.out.cell (i := 1) rfl
              have c20 := TB.out.cell (i := 0) rfl
              have c21 := TB.out.cell (i := 1) rfl
              have c30 := UB.out.cell (i := 0) rfl
              have c31 := UB.out.cell (i := 1) rfl
              go_wp2_with fail
              refine (HLK.out _ _ _ (show DO _ _ _ RS [] from ⟨_, _, rfl, F1.out, F2.out⟩).dp (show DO _ _ _ S LE from ⟨_, _, rfl, E1.out, E2.out⟩).dp).mono ?_
              rintro e w15 ⟨rfl, hb⟩
              clear c00 c01 c10 c11 c20 c21 c30 c31
              replace B := hid (B.out.trans (hb.mono B.out.size))
              replace D := hid (D.out.below hb D.out.lt)
              replace EB := hid (EB.out.below hb EB.out.lt)
              replace FB := hid (FB.out.below hb FB.out.lt)
              replace TB := hid (TB.out.below hb TB.out.lt)
              replace UB := hid (UB.out.below hb UB.out.lt)
              replace G1 := hid (G1.out.below hb)
              replace G2 := hid (G2.out.below hb)
              replace E1 := hid (E1.out.below hb)
              replace E2 := hid (E2.out.below hb)
              replace F1 := hid (F1.out.below hb)
              replace F2 := hid (F2.out.below hb)
              replace T1 := hid (T1.out.below hb)
              replace T2 := hid (T2.out.below hb)
              replace U1 := hid (U1.out.below hb)
              replace U2 := hid (U2.out.below hb)
              clear hb
              have c00 := EB.out.cell (i := 0) rfl
              have c01 := EB.out.cell (i := 1) rfl
              have c10 := FB.out.cell (i := 0) rfl
              have c11 := FB.out.cell (i := 1) rfl
              have c20 := TB.out.cell (i := 0) rfl
              have c21 := TB.out.cell (i := 1) rfl
              have c30 := UB.out.cell (i := 0) rfl
              have c31 := UB.out.cell (i := 1) rfl
              go_wp2_with fail
              refine (HLK.out _ _ _ (show DO _ _ _ RS [] from ⟨_, _, rfl, T1.out, T2.out⟩).dp (show DO _ _ _ S LE from ⟨_, _, rfl, E1.out, E2.out⟩).dp).mono ?_
              rintro e w16 ⟨rfl, hb⟩
              clear c00 c01 c10 c11 c20 c21 c30 c31
              replace B := hid (B.out.trans (hb.mono B.out.size))
              replace D := hid (D.out.below hb D.out.lt)
              replace EB := hid (EB.out.below hb EB.out.lt)
              replace FB := hid (FB.out.below hb FB.out.lt)
              replace TB := hid (TB.out.below hb TB.out.lt)
              replace UB := hid (UB.out.below hb UB.out.lt)
              replace G1 := hid (G1.out.below hb)
              replace G2 := hid (G2.out.below hb)
              replace E1 := hid (E1.out.below hb)
              replace E2 := hid (E2.out.below hb)
              replace F1 := hid (F1.out.below hb)
              replace F2 := hid (F2.out.below hb)
              replace T1 := hid (T1.out.below hb)
              replace T2 := hid (T2.out.below hb)
              replace U1 := hid (U1.out.below hb)
              replace U2 := hid (U2.out.below hb)
              clear hb
              have c00 := D.out.cell (i := 0) rfl
              have c01 := D.out.cell (i := 1) rfl
              have c10 := EB.out.cell (i := 0) rfl
              have c11 := EB.out.cell (i := 1) rfl
              have c20 := FB.out.cell (i := 0) rfl
              have c21 := FB.out.cell (i := 1) rfl
              have c30 := TB.out.cell (i := 0) rfl
              have c31 := TB.out.cell (i := 1) rfl
              have c40 := UB.out.cell (i := 0) rfl
              have c41 := UB.out.cell (i := 1) rfl
              go_wp2_with fail
              clear c00 c01 c10 c11 c20 c21 c30 c31 c40 c41
              go_loopw [17] (fun j wr => ∃ k : Nat, k ≤ S.length ∧ j = .int .i64 k ∧ Hid (Below w16.heap.size w16 wr)) (fun j _ => S.length - (intOf j).toNat)
              case atStart => exact ⟨0, by omega, rfl, Below.refl _ _⟩
              case round =>
                obtain ⟨k, hk, rfl, hbb⟩ := hrel
                rename World => w17
                have hb := hbb.out
                replace B := hid (B.out.trans (hb.mono B.out.size))
                replace D := hid (D.out.below hb D.out.lt)
                replace EB := hid (EB.out.below hb EB.out.lt)
                replace FB := hid (FB.out.below hb FB.out.lt)
                replace TB := hid (TB.out.below hb TB.out.lt)
                replace UB := hid (UB.out.below hb UB.out.lt)
                replace G1 := hid (G1.out.below hb)
                replace G2 := hid (G2.out.below hb)
                replace E1 := hid (E1.out.below hb)
                replace E2 := hid (E2.out.below hb)
                replace F1 := hid (F1.out.below hb)
                replace F2 := hid (F2.out.below hb)
                replace T1 := hid (T1.out.below hb)
                replace T2 := hid (T2.out.below hb)
                replace U1 := hid (U1.out.below hb)
                replace U2 := hid (U2.out.below hb)
                clear hb
                have c00 := D.out.cell (i := 0) rfl
                have c01 := D.out.cell (i := 1) rfl
                have c10 := FB.out.cell (i := 0) rfl
                have c11 := FB.out.cell (i := 1) rfl
                have c20 := UB.out.cell (i := 0) rfl
                have c21 := UB.out.cell (i := 1) rfl
                by_cases hlt : k < S.length
                · have hlt' : (k : Int) < (S.length : Int) := by omega
                  have hlr : (k : Int) < (RS.length : Int) := by rw [HRS.out]; exact hlt'
                  obtain ⟨g1, o1, h1, t1⟩ := U1.out.rw.atS k hlt
                  obtain ⟨g2, o2, h2, t2⟩ := G1.out.rw.atS k hlt
                  subst h1
                  subst h2
                  generalize sAt S k = X at *
                  have hXX : (X.toList != X.toList) = false := by simp
                  by_cases hki : (k : Int) = i
                  · subst hki
                    have hkk : ((k : Int) != (k : Int)) = false := by simp
                    go_wp2_with fail
                    go_quiet (fail)
                    go_wp2_with fail
                    go_roundw
                    case rel => exact ⟨k + 1, by omega, by go_num, hid (belowN hbb.out _)⟩
                    case measure => simp [intOf]; omega

                  · have hki' : ((k : Int) != i) = true := by simp [hki]
                    have HZ := hid (HF7.out k hki).symm
                    have HSD := hid (fun v q (hq : DP q v S L) => impl_sync v S L q (by omega) (by omega) hq)
                    have hlz : k < (bhS S L kpAll).length := by rw [bhS_len]; exact hlt
                    obtain ⟨g3, o3, h3, t3⟩ := F1.out.rw.atS k (by rw [HRS.out]; exact hlt)
                    subst h3
                    generalize bhS S L kpAll = ZS at *
                    have hlzi : (k : Int) < (ZS.length : Int) := by omega
                    generalize sAt RS k = Y at *
                    have hYY : (Y.toList != Y.toList) = false := by simp
                    go_wp2_with fail
                    refine region_R (by kernel_rfl) ?_
                    refine anyR_quiet 0 rfl (by kernel_rfl) (by kernel_rfl) (by kernel_rfl) (fun K hK => ?_)
                    go_simp
                    refine ⟨_, fun _ _ => rfl, hK _ ?_⟩
                    clear hK K
                    refine anyR_load 1 rfl (by kernel_rfl) (by kernel_rfl) (by kernel_rfl) (.slice (some ⟨g1, o1, none⟩) S.length Uc) rfl (fun wz hwz => ?_) (fun K hK => ?_)
                    · have y0 := cell_bw c20 hwz
                      go_simp
                    go_simp
                    refine hK _ ?_
                    clear hK K
                    refine anyR_quiet 2 rfl (by kernel_rfl) (by kernel_rfl) (by kernel_rfl) (fun K hK => ?_)
                    go_simp
                    refine ⟨_, fun _ _ => rfl, hK _ ?_⟩
                    clear hK K
                    refine anyR_quiet 3 rfl (by kernel_rfl) (by kernel_rfl) (by kernel_rfl) (fun K hK => ?_)
                    go_simp
                    refine ⟨_, fun _ _ => rfl, hK _ ?_⟩
                    clear hK K
                    refine anyR_load 4 rfl (by kernel_rfl) (by kernel_rfl) (by kernel_rfl) (.string X) rfl (fun wz hwz => ?_) (fun K hK => ?_)
                    · have y0 := cell_bw t1 hwz
                      go_simp
                    go_simp
                    refine hK _ ?_
                    clear hK K
                    refine anyR_quiet 5 rfl (by kernel_rfl) (by kernel_rfl) (by kernel_rfl) (fun K hK => ?_)
                    go_simp
                    refine ⟨_, fun _ _ => rfl, hK _ ?_⟩
                    clear hK K
                    refine anyR_load 6 rfl (by kernel_rfl) (by kernel_rfl) (by kernel_rfl) (.slice (some ⟨g2, o2, none⟩) S.length xc) rfl (fun wz hwz => ?_) (fun K hK => ?_)
                    · have y0 := cell_bw c00 hwz
                      go_simp
                    go_simp
                    refine hK _ ?_
                    clear hK K
                    refine anyR_quiet 7 rfl (by kernel_rfl) (by kernel_rfl) (by kernel_rfl) (fun K hK => ?_)
                    go_simp
                    refine ⟨_, fun _ _ => rfl, hK _ ?_⟩
                    clear hK K
                    refine anyR_quiet 8 rfl (by kernel_rfl) (by kernel_rfl) (by kernel_rfl) (fun K hK => ?_)
                    go_simp
                    refine ⟨_, fun _ _ => rfl, hK _ ?_⟩
                    clear hK K
                    refine anyR_load 9 rfl (by kernel_rfl) (by kernel_rfl) (by kernel_rfl) (.string X) rfl (fun wz hwz => ?_) (fun K hK => ?_)
                    · have y0 := cell_bw t2 hwz
                      go_simp
                    go_simp
                    refine hK _ ?_
                    clear hK K
                    refine anyR_quiet 10 rfl (by kernel_rfl) (by kernel_rfl) (by kernel_rfl) (fun K hK => ?_)
                    go_simp
                    refine ⟨_, fun _ _ => rfl, hK _ ?_⟩
                    clear hK K
                    refine anyR_quiet 11 rfl (by kernel_rfl) (by kernel_rfl) (by kernel_rfl) (fun K hK => ?_)
                    go_simp
                    refine ⟨_, fun _ _ => rfl, hK _ ?_⟩
                    clear hK K
                    refine anyR_quiet 12 rfl (by kernel_rfl) (by kernel_rfl) (by kernel_rfl) (fun K hK => ?_)
                    go_simp
                    refine ⟨_, fun _ _ => rfl, hK _ ?_⟩
                    clear hK K
                    refine anyR_quiet 13 rfl (by kernel_rfl) (by kernel_rfl) (by kernel_rfl) (fun K hK => ?_)
                    go_simp
                    refine ⟨_, fun _ _ => rfl, hK _ ?_⟩
                    clear hK K
                    refine anyR_quiet 14 rfl (by kernel_rfl) (by kernel_rfl) (by kernel_rfl) (fun K hK => ?_)
                    go_simp
                    refine ⟨_, fun _ _ => rfl, hK _ ?_⟩
                    clear hK K
                    refine anyR_quiet 15 rfl (by kernel_rfl) (by kernel_rfl) (by kernel_rfl) (fun K hK => ?_)
                    go_simp
                    refine ⟨_, fun _ _ => rfl, hK _ ?_⟩
                    clear hK K
                    refine anyR_quiet 16 rfl (by kernel_rfl) (by kernel_rfl) (by kernel_rfl) (fun K hK => ?_)
                    go_simp
                    refine ⟨_, fun _ _ => rfl, hK _ ?_⟩
                    clear hK K
                    refine anyR_load 17 rfl (by kernel_rfl) (by kernel_rfl) (by kernel_rfl) (.slice (some ⟨g3, o3, none⟩) RS.length Fc) rfl (fun wz hwz => ?_) (fun K hK => ?_)
                    · have y0 := cell_bw c10 hwz
                      go_simp
                    go_simp
                    refine hK _ ?_
                    clear hK K
                    refine anyR_quiet 18 rfl (by kernel_rfl) (by kernel_rfl) (by kernel_rfl) (fun K hK => ?_)
                    go_simp
                    refine ⟨_, fun _ _ => rfl, hK _ ?_⟩
                    clear hK K
                    refine anyR_quiet 19 rfl (by kernel_rfl) (by kernel_rfl) (by kernel_rfl) (fun K hK => ?_)
                    go_simp
                    refine ⟨_, fun _ _ => rfl, hK _ ?_⟩
                    clear hK K
                    refine anyR_load 20 rfl (by kernel_rfl) (by kernel_rfl) (by kernel_rfl) (.string Y) rfl (fun wz hwz => ?_) (fun K hK => ?_)
                    · have y0 := cell_bw t3 hwz
                      go_simp
                    go_simp
                    refine hK _ ?_
                    clear hK K
                    refine anyR_load 21 rfl (by kernel_rfl) (by kernel_rfl) (by kernel_rfl) (.agg #[.slice (some ⟨g2, o2, none⟩) S.length xc, .slice ya L.length yc]) rfl (fun wz hwz => ?_) (fun K hK => ?_)
                    · have y0 := cell_bw c00 hwz; have y1 := cell_bw c01 hwz
                      go_simp
                    go_simp
                    refine hK _ ?_
                    clear hK K
                    refine anyR_quiet 24 rfl (by kernel_rfl) (by kernel_rfl) (by kernel_rfl) (fun K hK => ?_)
                    go_simp
                    refine ⟨_, fun _ _ => rfl, hK _ ?_⟩
                    clear hK K
                    refine anyR_callG 22 rfl rfl (by kernel_rfl) (by kernel_rfl) (fun wx hwx K hK => ?_)
                    go_simp
                    refine (HSD.out _ _ (show DO _ _ _ S L from ⟨_, _, rfl, G1.out.below hwx, G2.out.below hwx⟩).dp).mono ?_
                    rintro e wy ⟨v, rfl, ⟨va, vb, rfl, ho1, ho2⟩, hby⟩
                    obtain ⟨Va, Vc, rfl, _, _⟩ := ho1.shape
                    obtain ⟨Vb, Vd, rfl, _, _⟩ := ho2.shape
                    obtain ⟨g4, o4, h4, t4⟩ := ho1.rw.atS k hlz
                    subst h4
                    rw [HZ.out] at t4
                    refine hK _ _ (.inr hby) ?_
                    clear hK K
                    have HBY := hid (Bw.trans hwx hby)
                    clear ho1 ho2 hby
                    have hfd : ∀ wz : World, Sem.run Try.prog (Instr.field 27 (Value.agg #[.slice (some ⟨g4, o4, none⟩) ZS.length Vc, .slice Vb (bhL S L).length Vd]) 0) wz = .ok (.slice (some ⟨g4, o4, none⟩) ZS.length Vc) wz := fun _ => rfl
                    refine anyR_quiet 23 rfl (by kernel_rfl) (by kernel_rfl) (by kernel_rfl) (fun K hK => ?_)
                    go_simp
                    refine ⟨_, fun _ _ => rfl, hK _ ?_⟩
                    clear hK K
                    clear hfd
                    refine anyR_quiet 25 rfl (by kernel_rfl) (by kernel_rfl) (by kernel_rfl) (fun K hK => ?_)
                    go_simp
                    refine ⟨_, fun _ _ => rfl, hK _ ?_⟩
                    clear hK K
                    refine anyR_load 26 rfl (by kernel_rfl) (by kernel_rfl) (by kernel_rfl) (.string Y) rfl (fun wz hwz => ?_) (fun K hK => ?_)
                    · have y0 := cell_bw t4 hwz
                      go_simp
                    go_simp
                    refine hK _ ?_
                    clear hK K
                    refine anyR_quiet 27 rfl (by kernel_rfl) (by kernel_rfl) (by kernel_rfl) (fun K hK => ?_)
                    go_simp
                    refine ⟨_, fun _ _ => rfl, hK _ ?_⟩
                    clear hK K
                    refine anyR_quiet 28 rfl (by kernel_rfl) (by kernel_rfl) (by kernel_rfl) (fun K hK => ?_)
                    go_simp
                    refine ⟨_, fun _ _ => rfl, hK _ ?_⟩
                    clear hK K
                    refine anyR_quiet 29 rfl (by kernel_rfl) (by kernel_rfl) (by kernel_rfl) (fun K hK => ?_)
                    go_simp
                    refine ⟨_, fun _ _ => rfl, hK _ ?_⟩
                    clear hK K
                    refine anyR_nil (by kernel_rfl) (fun wz hwz => ?_)
                    have HBZ := hid (HBY.out.trans hwz)
                    clear hwz HBY
                    go_wp2_with fail
                    go_roundw
                    case rel => exact ⟨k + 1, by omega, by go_num, hid (hbb.out.trans (Below.mono HBZ.out hbb.out.size))⟩
                    case measure => simp [intOf]; omega
                · obtain rfl : k = S.length := by omega
                  go_wp2_with fail
                  go_ret
                  exact ⟨rfl, B.out⟩
end Go.Proofs.Ytlphojlccecnhaa
