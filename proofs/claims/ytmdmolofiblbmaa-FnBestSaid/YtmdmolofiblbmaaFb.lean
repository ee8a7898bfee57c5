/- The law FnBest. -/
import Derived.Test.YtmdmolofiblbmaaFy
import Derived.Test.YtmdmolofiblbmaaHopt
import Derived.Test.YtmdmolofiblbmaaDs
import Derived.Test.YtmdmolofiblbmaaBi
namespace Go.Proofs.Ytmdmolofiblbmaa
open Go.RowKit
set_option linter.unusedVariables false

theorem same_eq (ao bo : Option Addr) (n cap cap' : Nat) (xs : List Int) (w : World) (hn : n ≤ 4194304) (ha : View .i64 w ao n xs) (hb : View .i64 w bo n xs) :
    Calls Try.prog 11 #[.slice ao n cap, .slice bo n cap'] w fun e w' => e = .returned (.bool true) ∧ Below w.heap.size w w' := by
  have := same_any ao bo n cap cap' xs xs w hn ha hb
  rw [decide_eq_true rfl] at this
  exact this
theorem own_vv {w : World} {base c n : Nat} {a : Option Addr} {xs : List Int} (h : Own w base 3 .i64 (.slice a n c) xs) : View .i64 w a xs.length xs := by
  obtain ⟨a', c', e, hv⟩ := h.view
  injection e with e1 e2 e3
  subst e1
  exact hv

set_option maxRecDepth 100000 in
set_option maxHeartbeats 6400000 in
theorem law_best (ao : Option Addr) (n cap : Nat) (zs : List Int) (w : World) (hr : IsRow .u8 w ao n cap zs) :
    Calls Try.prog 4 #[.slice ao n cap] w fun e w' => e = .returned (.bool true) ∧ Below w.heap.size w w' := by
  have hlen := hr.len.1
  by_cases hl : (1048576 : Int) < (n : Int)
  · have hd : decide ((1048576 : Int) < (n : Int)) = true := by simpa using hl
    clear hr
    go_enter Try.func4, Try.ntmps4
    go_wp2_with (go_at_call 7; refine (big_any _ _ _ _).mono ?_; rw [hd]; rintro e w' ⟨rfl, rfl⟩)
    go_ret
    exact ⟨rfl, Below.refl _ _⟩
  · have hd : decide ((1048576 : Int) < (n : Int)) = false := by simpa using hl
    have HC := hid (code_row hr (by omega))
    clear hr hl
    go_enter Try.func4, Try.ntmps4
    go_wp2_with (first | (go_at_call 7; refine (big_any _ _ _ _).mono ?_; rw [hd]; rintro e w' ⟨rfl, rfl⟩) | (go_at_call 8; fail) | fail)
    refine (draw_best ao n cap _ _ HC.out).mono ?_
    rintro e w1 ⟨fv, v, fs, rfl, hbb, hdr, hof, bo, hb1⟩
    have hfl := hdr.1
    obtain ⟨a9, c9, a8, c8, rfl, _, _⟩ := bo.cv
    obtain ⟨fa, fc, rfl⟩ := hof.shape
    have hvf := own_vv hof
    rw [hfl] at hvf ⊢
    have hA := (Below.refl w1.heap.size w1).alloc (Nat.le_refl _) (.cells #[.slice a9 (bC fs).length c9, .slice a8 (bS fs).length c8] 26)
    have HVF := hid (hvf.below (Nat.le_refl _) hA)
    have HB := hid (hb1.trans (hA.mono hb1.size))
    have HCW := hid (show Code (w1.alloc (.cells #[.slice a9 (bC fs).length c9, .slice a8 (bS fs).length c8] 26)) ao n (zs.take n) from ⟨HC.out.1, HC.out.2.1.below (Nat.le_refl _) HB.out, HC.out.2.2⟩)
    have HRT := hid (best_right fs hbb)
    have HLAW := hid (fun cs ss => best_law hbb cs ss)
    have HLN := hid (show (bC fs).length = 16 ∧ (bS fs).length ≤ 4096 from ⟨by rw [bC_eq hbb, cntsTo_len], bS_len fs⟩)
    have HI := hid (impl_best fa 256 fc fs _ (by decide) HVF.out)
    rw [hbb] at HI
    have HSP := hid (fun q (h : View .i64 q fa 256 fs) => spec_best fa 256 fc fs q (by decide) h)
    rw [hbb] at HSP
    have HFL := hid hfl
    have HMS := hid (fun v cs ss q (h0 : cs.length ≤ 1048576) (h1 : ss.length ≤ 1048576) (hv : CV q v cs ss) (h : View .i64 q fa 256 fs) => (show Calls Try.prog 18 #[v, .slice fa 256 fc] q fun e w' => e = .returned (.int .i64 (spentR cs ss fs)) ∧ Below q.heap.size q w' from by
      have := impl_spent v cs ss fs fa fc q h0 h1 (by rw [HFL.out]; decide) hv (by rw [HFL.out]; exact h)
      rw [HFL.out] at this
      exact this))
    clear hdr hof bo hb1 hvf hbb hA hfl HC
    go_wp2_with (first | (go_at_call 16; fail) | fail)
    refine HI.out.mono ?_
    generalize w1.alloc (.cells #[.slice a9 (bC fs).length c9, .slice a8 (bS fs).length c8] 26) = w2 at *
    rintro e w3 ⟨v3, rfl, hco, hb3⟩
    obtain ⟨p0, d0, p1, d1, rfl, pv0, pv1⟩ := hco.cv
    have hA3 := (Below.refl w3.heap.size w3).alloc (Nat.le_refl _) (.cells #[.slice p0 (bC fs).length d0, .slice p1 (bS fs).length d1] 26)
    have HT5 := hid (Two.new w3 (.slice p0 (bC fs).length d0) (.slice p1 (bS fs).length d1) 26)
    have HP0 := hid (pv0.below (Nat.le_refl _) hA3)
    have HP1 := hid (pv1.below (Nat.le_refl _) hA3)
    have hb13 := hb3.trans (hA3.mono hb3.size)
    have HVF3 := hid (HVF.out.below (Nat.le_refl _) hb13)
    have HB3 := hid (HB.out.trans (hb13.mono HB.out.size))
    have HCW3 := hid (show Code (w3.alloc (.cells #[.slice p0 (bC fs).length d0, .slice p1 (bS fs).length d1] 26)) ao n (zs.take n) from ⟨HCW.out.1, HCW.out.2.1.below (Nat.le_refl _) hb13, HCW.out.2.2⟩)
    have HS3 := hid (HSP.out _ HVF3.out)
    clear hco pv0 pv1 hb3 hA3 hb13 HVF HB HI HCW HSP
    go_wp2_with (first | (go_at_call 17; fail) | fail)
    refine HS3.out.mono ?_
    generalize w3.alloc (.cells #[.slice p0 (bC fs).length d0, .slice p1 (bS fs).length d1] 26) = w4 at *
    generalize w3.heap.size = T5 at *
    rintro e w5 ⟨v5, rfl, bo5, hb5⟩
    obtain ⟨q0, f0, q1, f1, rfl, qv0, qv1⟩ := bo5.cv
    have hA5 := (Below.refl w5.heap.size w5).alloc (Nat.le_refl _) (.cells #[.slice q0 (bC fs).length f0, .slice q1 (bS fs).length f1] 26)
    have HT7 := hid (Two.new w5 (.slice q0 (bC fs).length f0) (.slice q1 (bS fs).length f1) 26)
    have HQ0 := hid (qv0.below (Nat.le_refl _) hA5)
    have HQ1 := hid (qv1.below (Nat.le_refl _) hA5)
    have hb15 := hb5.trans (hA5.mono hb5.size)
    have HTT5 := hid (HT5.out.below hb15 HT5.out.lt)
    have HPP0 := hid (HP0.out.below (Nat.le_refl _) hb15)
    have HPP1 := hid (HP1.out.below (Nat.le_refl _) hb15)
    have HVF5 := hid (HVF3.out.below (Nat.le_refl _) hb15)
    have HB5 := hid (HB3.out.trans (hb15.mono HB3.out.size))
    have HCW5 := hid (show Code (w5.alloc (.cells #[.slice q0 (bC fs).length f0, .slice q1 (bS fs).length f1] 26)) ao n (zs.take n) from ⟨HCW3.out.1, HCW3.out.2.1.below (Nat.le_refl _) hb15, HCW3.out.2.2⟩)
    have k0 : (bC fs).length ≤ 1048576 := by have := HLN.out.1; omega
    have k1 : (bS fs).length ≤ 1048576 := by have := HLN.out.2; omega
    have HOK := hid (fun q (h : CV q (.agg #[.slice p0 (bC fs).length d0, .slice p1 (bS fs).length d1]) (bC fs) (bS fs)) => impl_ok _ (bC fs) (bS fs) q k0 k1 h)
    rw [HRT.out] at HOK
    clear bo5 qv0 qv1 hb5 hA5 hb15 HT5 HP0 HP1 HVF3 HB3 HCW3 HS3
    generalize hcs : bC fs = CS at *
    generalize hss : bS fs = SS at *
    obtain ⟨s0, s1, s2, s3⟩ := HTT5.out.cells
    obtain ⟨t0, t1, t2, t3⟩ := HT7.out.cells
    have HO9 := hid (HOK.out _ ⟨_, _, _, _, rfl, HPP0.out, HPP1.out⟩)
    go_wp2_with (first | (go_at_call 9; fail) | fail)
    refine HO9.out.mono ?_
    generalize w5.alloc (.cells #[.slice q0 CS.length f0, .slice q1 SS.length f1] 26) = w6 at *
    generalize w5.heap.size = T7 at *
    rintro e w7 ⟨rfl, hb7⟩
    have HT5b := hid (HTT5.out.below hb7 HTT5.out.lt)
    have HT7b := hid (HT7.out.below hb7 HT7.out.lt)
    have A0 := hid (HPP0.out.below (Nat.le_refl _) hb7)
    have A1 := hid (HPP1.out.below (Nat.le_refl _) hb7)
    have Q0 := hid (HQ0.out.below (Nat.le_refl _) hb7)
    have Q1 := hid (HQ1.out.below (Nat.le_refl _) hb7)
    have V7 := hid (HVF5.out.below (Nat.le_refl _) hb7)
    have B7 := hid (HB5.out.trans (hb7.mono HB5.out.size))
    have C7 := hid (show Code w7 ao n (zs.take n) from ⟨HCW5.out.1, HCW5.out.2.1.below (Nat.le_refl _) hb7, HCW5.out.2.2⟩)
    clear hb7 HTT5 HT7 HPP0 HPP1 HQ0 HQ1 HVF5 HB5 HCW5 s0 s1 s2 s3 t0 t1 t2 t3 HO9 HOK
    obtain ⟨s0, s1, s2, s3⟩ := HT5b.out.cells
    obtain ⟨t0, t1, t2, t3⟩ := HT7b.out.cells
    have HE1 := hid (same_eq p1 q1 SS.length d1 f1 SS w7 (by have := HLN.out.2; omega) A1.out Q1.out)
    go_wp2_with (first | (go_at_call 11; fail) | fail)
    refine HE1.out.mono ?_
    rintro e w8 ⟨rfl, hb8⟩
    have HT5c := hid (HT5b.out.below hb8 HT5b.out.lt)
    have HT7c := hid (HT7b.out.below hb8 HT7b.out.lt)
    have A0' := hid (A0.out.below (Nat.le_refl _) hb8)
    have A1' := hid (A1.out.below (Nat.le_refl _) hb8)
    have Q0' := hid (Q0.out.below (Nat.le_refl _) hb8)
    have V8 := hid (V7.out.below (Nat.le_refl _) hb8)
    have B8 := hid (B7.out.trans (hb8.mono B7.out.size))
    have C8 := hid (show Code w8 ao n (zs.take n) from ⟨C7.out.1, C7.out.2.1.below (Nat.le_refl _) hb8, C7.out.2.2⟩)
    clear hb8 HT5b HT7b A0 A1 Q0 Q1 V7 B7 C7 s0 s1 s2 s3 t0 t1 t2 t3 HE1
    obtain ⟨s0, s1, s2, s3⟩ := HT5c.out.cells
    obtain ⟨t0, t1, t2, t3⟩ := HT7c.out.cells
    have HE2 := hid (same_eq p0 q0 CS.length d0 f0 CS w8 (by have := HLN.out.1; omega) A0'.out Q0'.out)
    go_wp2_with (first | (go_at_call 11; fail) | fail)
    refine HE2.out.mono ?_
    rintro e w9 ⟨rfl, hb9⟩
    have HT5d := hid (HT5c.out.below hb9 HT5c.out.lt)
    have A0d := hid (A0'.out.below (Nat.le_refl _) hb9)
    have A1d := hid (A1'.out.below (Nat.le_refl _) hb9)
    have V9 := hid (V8.out.below (Nat.le_refl _) hb9)
    have B9 := hid (B8.out.trans (hb9.mono B8.out.size))
    have C9 := hid (show Code w9 ao n (zs.take n) from ⟨C8.out.1, C8.out.2.1.below (Nat.le_refl _) hb9, C8.out.2.2⟩)
    clear hb9 HT5c HT7c A0' A1' Q0' V8 B8 C8 s0 s1 s2 s3 t0 t1 t2 t3 HE2
    obtain ⟨s0, s1, s2, s3⟩ := HT5d.out.cells
    have HM := hid (HMS.out (.agg #[.slice p0 CS.length d0, .slice p1 SS.length d1]) CS SS w9 k0 k1 ⟨_, _, _, _, rfl, A0d.out, A1d.out⟩ V9.out)
    go_wp2_with (first | (go_at_call 18; fail) | fail)
    refine HM.out.mono ?_
    rintro e wa ⟨rfl, hba⟩
    have HT5e := hid (HT5d.out.below hba HT5d.out.lt)
    have A0e := hid (A0d.out.below (Nat.le_refl _) hba)
    have Va := hid (V9.out.below (Nat.le_refl _) hba)
    have Ba := hid (B9.out.trans (hba.mono B9.out.size))
    have Ca := hid (show Code wa ao n (zs.take n) from ⟨C9.out.1, C9.out.2.1.below (Nat.le_refl _) hba, C9.out.2.2⟩)
    clear hba HT5d A0d A1d V9 B9 C9 s0 s1 s2 s3 HM
    have HDS := hid (draw_spent ao n cap _ wa Ca.out)
    go_wp2_with (first | (go_at_call 19; fail) | fail)
    refine HDS.out.mono ?_
    rintro e wb ⟨kv, ga, gc, cs2, ss2, fs2, rfl, l2, l3, l4, cv2, vv2, hbb⟩
    obtain ⟨g0, h0, g1, h1, rfl, gv0, gv1⟩ := cv2
    have hAb := (Below.refl wb.heap.size wb).alloc (Nat.le_refl _) (.cells #[.slice g0 cs2.length h0, .slice g1 ss2.length h1] 26)
    have hbx := hbb.trans (hAb.mono hbb.size)
    have HT5f := hid (HT5e.out.below hbx HT5e.out.lt)
    have A0f := hid (A0e.out.below (Nat.le_refl _) hbx)
    have Vc := hid (Va.out.below (Nat.le_refl _) hbx)
    have Bc := hid (Ba.out.trans (hbx.mono Ba.out.size))
    have HTA := hid (Two.new wb (.slice g0 cs2.length h0) (.slice g1 ss2.length h1) 26)
    have CVc := hid (show CV (wb.alloc (.cells #[.slice g0 cs2.length h0, .slice g1 ss2.length h1] 26)) (.agg #[.slice g0 cs2.length h0, .slice g1 ss2.length h1]) cs2 ss2 from ⟨_, _, _, _, rfl, gv0.below (Nat.le_refl _) hAb, gv1.below (Nat.le_refl _) hAb⟩)
    have VV2 := hid (vv2.below (Nat.le_refl _) hAb)
    have m0 : cs2.length ≤ 1048576 := by omega
    have m1 : ss2.length ≤ 1048576 := by omega
    have L4 := hid l4
    have HM2 := hid (HMS.out (.agg #[.slice g0 cs2.length h0, .slice g1 ss2.length h1]) cs2 ss2 _ m0 m1 CVc.out Vc.out)
    have HLW := HLAW.out cs2 ss2
    clear gv0 gv1 vv2 hAb hbx hbb HT5e A0e Va Ba Ca l2 l3 l4 HDS HLAW
    obtain ⟨s0, s1, s2, s3⟩ := HTA.out.cells
    go_wp2_with (first | (go_at_call 18; fail) | fail)
    refine HM2.out.mono ?_
    generalize wb.alloc (.cells #[.slice g0 cs2.length h0, .slice g1 ss2.length h1] 26) = wc at *
    generalize wb.heap.size = TA at *
    rintro e wd ⟨rfl, hbd⟩
    have HT5g := hid (HT5f.out.below hbd HT5f.out.lt)
    have A0g := hid (A0f.out.below (Nat.le_refl _) hbd)
    have Bd := hid (Bc.out.trans (hbd.mono Bc.out.size))
    have HTB := hid (HTA.out.below hbd HTA.out.lt)
    have CVd := hid (CVc.out.below hbd)
    have VVd := hid (VV2.out.below (Nat.le_refl _) hbd)
    clear hbd HT5f A0f Vc Bc HTA CVc VV2 s0 s1 s2 s3 HM2 HMS
    obtain ⟨s0, s1, s2, s3⟩ := HT5g.out.cells
    generalize spentR CS SS fs = M at *
    generalize spentR cs2 ss2 fs = Cc at *
    obtain ⟨cb, co, rfl, hc7⟩ := A0g.out.2 7 (by rw [HLN.out.1]; decide)
    have h16 : (7 : Int) < (CS.length : Int) := by rw [HLN.out.1]; decide
    have HFLAT := hid (show (CS.getD 7 0 == (SS.length : Int)) = decide (CS.getD 7 0 = (SS.length : Int)) from by rw [Bool.eq_iff_iff]; simp)
    generalize CS.getD 7 0 = F7 at *
    have H18 := hid (fun q (hq : Below wd.heap.size wd q) => (show Calls Try.prog 18 #[.agg #[.slice g0 cs2.length h0, .slice g1 ss2.length h1], .slice ga 256 gc] q fun e w' => e = .returned (.int .i64 (spentR cs2 ss2 fs2)) ∧ Below q.heap.size q w' from by
      have := impl_spent (.agg #[.slice g0 cs2.length h0, .slice g1 ss2.length h1]) cs2 ss2 fs2 ga gc q m0 m1 (by rw [L4.out]; decide) (CVd.out.below hq) (by rw [L4.out]; exact VVd.out.below (Nat.le_refl _) hq)
      rw [L4.out] at this
      exact this))
    have H20 := hid (fun q (hq : Below wd.heap.size wd q) => (show Calls Try.prog 20 #[.agg #[.slice g0 cs2.length h0, .slice g1 ss2.length h1], .slice ga 256 gc] q fun e w' => e = .returned (.int .i64 (spentR cs2 ss2 fs2)) ∧ Below q.heap.size q w' from by
      have := spec_spent (.agg #[.slice g0 cs2.length h0, .slice g1 ss2.length h1]) cs2 ss2 fs2 ga gc q m0 m1 (by rw [L4.out]; decide) (CVd.out.below hq) (by rw [L4.out]; exact VVd.out.below (Nat.le_refl _) hq)
      rw [L4.out] at this
      exact this))
    generalize spentR cs2 ss2 fs2 = X at *
    go_wp2_with fail
    go_quiet (fail)
    go_wp2_with fail
    have HX0 := hid (belowN (Below.refl wd.heap.size wd) nq)
    generalize hwe : wd.drewN nq = we at *
    have HTe := hid (HTB.out.below HX0.out HTB.out.lt)
    clear hwe s0 s1 s2 s3
    obtain ⟨s0, s1, s2, s3⟩ := HTe.out.cells
    have HX := HX0
    go_cut [14, 15] from 75 to 80 (fun p q wx => p = .int .i64 X ∧ q = .int .i64 X ∧ Below wd.heap.size wd wx)
    case first =>
      go_region_with (first
        | (go_at_call 18; refine (H18.out _ ?_).mono ?_; · first | exact HX.out | exact HX.out.drew | exact HX.out.drew.drew
           rintro e wx ⟨rfl, hbx⟩
           have HX := hid (show Below wd.heap.size wd wx from by first | exact HX.out.trans (hbx.mono HX.out.size) | exact HX.out.drew.trans (hbx.mono HX.out.size) | exact HX.out.drew.drew.trans (hbx.mono HX.out.size))
           obtain ⟨u0, u1, u2, u3⟩ := (HTB.out.below HX.out HTB.out.lt).cells
           clear hbx)
        | (go_at_call 20; refine (H20.out _ ?_).mono ?_; · first | exact HX.out | exact HX.out.drew | exact HX.out.drew.drew
           rintro e wx ⟨rfl, hbx⟩
           have HX := hid (show Below wd.heap.size wd wx from by first | exact HX.out.trans (hbx.mono HX.out.size) | exact HX.out.drew.trans (hbx.mono HX.out.size) | exact HX.out.drew.drew.trans (hbx.mono HX.out.size))
           obtain ⟨v0, v1, v2, v3⟩ := (HTB.out.below HX.out HTB.out.lt).cells
           clear hbx))
      all_goals
        go_wp2_with fail
        go_meet
        exact ⟨rfl, rfl, by first | exact HX.out | exact HX.out.drew⟩
    case rest =>
      obtain ⟨rfl, rfl, hb5⟩ := hcut
      generalize hwc : wc = wz at *
      clear hwc
      have HBZ := hid (Bd.out.trans (hb5.mono Bd.out.size))
      clear hb5 s0 s1 s2 s3
      have hM : decide (0 < M) = true := by simpa using HLW.1
      have hXX : (X == X) = true := by simp
      have hor := HLW.2
      clear HLW
      by_cases h1 : Cc < 0
      · have g1 : decide (Cc < 0) = true := by simpa using h1
        go_wp2_with fail
        go_ret
        exact ⟨rfl, HBZ.out⟩
      · have g1 : decide (Cc < 0) = false := by simpa using h1
        by_cases h2 : F7 = (SS.length : Int)
        · have g2 : (F7 == (SS.length : Int)) = true := by simpa using h2
          rw [g2] at *
          go_wp2_with fail
          go_ret
          exact ⟨rfl, HBZ.out⟩
        · have g2 : (F7 == (SS.length : Int)) = false := by simpa using h2
          have g3 : decide (M ≤ Cc) = true := by
            rcases hor with h | h | h
            · exact absurd h h1
            · exact absurd h h2
            · simpa using h
          go_wp2_with fail
          go_ret
          exact ⟨rfl, HBZ.out⟩
end Go.Proofs.Ytmdmolofiblbmaa
