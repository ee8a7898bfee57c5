/- The walk of the law FnExactCropPic. -/
import Derived.Test.YtnnakmgngkpghaaGreatIcr
import Derived.Deep.RegionHeld3
import Derived.Deep.CutRange
namespace Go.Proofs.YtnnakmgngkpghaaGreat
open Go.RowKit Go.Maps
set_option linter.unusedVariables false

set_option maxRecDepth 100000 in
set_option maxHeartbeats 6400000 in
theorem law_crop (v : Value) (p : Pk) (ax : Int) (ay : Int) (an : Int) (ah : Int) (w : World) (hB : p.Big) (hv : PV w v p) :
    Calls Tryz.prog 3 #[v, .int .i64 ax, .int .i64 ay, .int .i64 an, .int .i64 ah] w fun e w' => e = .returned (.bool true) ∧ Below w.heap.size w w' := by
  have HSZ := hid (fun q (hq : Below w.heap.size w q) => szPic_of p v q hB (hv.below hq))
  have HTO := hid (fun q (hf : p.Fits) (hq : Below w.heap.size w q) => toPic_own v p q hf (hv.below hq))
  obtain ⟨a0, c0, a1, c1, a2, c2, a3, c3, ao, cap, rfl, ht, hb⟩ := hv
  clear hB ht hb
  have HA := hid ((Below.refl w.heap.size w).alloc (Nat.le_refl _) (.cells #[.int .i64 p.W, .int .i64 p.H, .slice a0 p.T.cs.length c0, .slice a1 p.T.ss.length c1, .slice a2 p.T.ct.length c2, .slice a3 p.T.st.length c3, .string p.N, .slice ao p.L.length cap] 29))
  have HE := hid (Eig.new w (.int .i64 p.W) (.int .i64 p.H) (.slice a0 p.T.cs.length c0) (.slice a1 p.T.ss.length c1) (.slice a2 p.T.ct.length c2) (.slice a3 p.T.st.length c3) (.string p.N) (.slice ao p.L.length cap) 29)
  go_enter Tryz.func3, Tryz.ntmps3
  go_wp2_with fail
  refine (HSZ.out _ HA.out).mono ?_
  generalize w.alloc _ = wa at *
  rintro e w1 ⟨r, rfl, hr, hb1⟩
  have B1 := hid (HA.out.trans (hb1.mono HA.out.size))
  have E1 := hid (HE.out.below hb1 HE.out.lt)
  clear hb1 HSZ HA HE
  by_cases hneg : r < 0
  · clear hr
    go_wp2_with fail
    go_ret
    exact ⟨rfl, B1.out⟩
  · have hf := hr.resolve_left hneg
    have HF := hid hf
    have HT1 := hid (fun q hq => HTO.out q hf hq)
    have HSP := hid (fun q v vs (h1 : PVq q v p vs) (h2 : CapV v) (h3 : PV q v p) => spec_cr v p vs ax ay an ah q hf h1 h2 h3)
    have HIM := hid (fun q v vs (h1 : PVq q v p vs) (h2 : CapV v) (h3 : PV q v p) => impl_cr v p vs ax ay an ah q hf h1 h2 h3)
    have HEQ := hid (fun q v v' hv hv' => eqPic_same v v' p q hf hv hv')
    have hsm := crA_small ax ay an ah p hf
    generalize crB ax ay an ah p = R at *
    generalize crA ax ay an ah p = A at *
    have HSM := hid hsm
    have HEA := hid (fun q v v' hv hv' => eqPic_same v v' A q hsm.fits hv hv')
    have HNP := hid (numP_pos A hsm.rows)
    have hRR : (R != R) = false := by simp
    obtain ⟨q0, q1, q2, q3, q4, q5, q6, q7⟩ := E1.out.cells
    clear hr hf HTO hsm
    go_wp2_with fail
    refine (HT1.out _ B1.out).mono ?_
    rintro e w2 ⟨v2, rfl, hv2, hb2⟩
    have B2 := hid (B1.out.trans (hb2.mono B1.out.size))
    have E2 := hid (E1.out.below hb2 E1.out.lt)
    have V2 := hid hv2.pv
    obtain ⟨vs2, hq2, _⟩ := hv2.pvq
    have hc2 := hv2.capv
    have Q2 := hid hq2
    have K2 := hid hc2
    clear hb2 hv2 hq2 hc2 E1 q0 q1 q2 q3 q4 q5 q6 q7
    go_wp2_with fail
    refine (HSP.out _ _ _ Q2.out K2.out V2.out).mono ?_
    rintro e w3 ⟨y, rfl, hy, hb3⟩
    have HY := hid hy.pv
    obtain ⟨i0, e0, i1, e1, i2, e2, i3, e3, io, ic, rfl, _, _⟩ := hy.pv
    have hA3 := (Below.refl w3.heap.size w3).alloc (Nat.le_refl _) (.cells #[.int .i64 A.W, .int .i64 A.H, .slice i0 A.T.cs.length e0, .slice i1 A.T.ss.length e1, .slice i2 A.T.ct.length e2, .slice i3 A.T.st.length e3, .string A.N, .slice io A.L.length ic] 36)
    have hb3' := hb3.trans (hA3.mono hb3.size)
    have HY3 := hid (HY.out.below hA3)
    have W3 := hid (Eig.new w3 (.int .i64 A.W) (.int .i64 A.H) (.slice i0 A.T.cs.length e0) (.slice i1 A.T.ss.length e1) (.slice i2 A.T.ct.length e2) (.slice i3 A.T.st.length e3) (.string A.N) (.slice io A.L.length ic) 36)
    have E3 := hid (E2.out.below hb3' E2.out.lt)
    have B3 := hid (B2.out.trans (hb3'.mono B2.out.size))
    clear hy hb3 hb3' hA3 HY V2 E2 Q2 K2 HSP
    obtain ⟨q0, q1, q2, q3, q4, q5, q6, q7⟩ := E3.out.cells
    go_wp2_with fail
    refine (HT1.out _ B3.out).mono ?_
    generalize w3.alloc _ = wy at *
    rintro e w4 ⟨v4, rfl, hv4, hb4⟩
    have B4 := hid (B3.out.trans (hb4.mono B3.out.size))
    have E4 := hid (E3.out.below hb4 E3.out.lt)
    have W4 := hid (W3.out.below hb4 W3.out.lt)
    have Y4 := hid hb4
    have YLT := hid hb4.size
    have WY := hid W3.out
    have EY := hid E3.out
    have V4 := hid hv4.pv
    obtain ⟨vs4, hq4, _⟩ := hv4.pvq
    have hc4 := hv4.capv
    have K4 := hid hc4
    obtain ⟨x0, d0, x1, d1, x2, d2, x3, d3, g, rfl, ho4, hbs4, hg4⟩ := hv4
    obtain ⟨z0, e0', z1, e1', z2, e2', z3, e3', hze, o0, o1, o2, o3⟩ := ho4
    injection hze with hze
    injection hze with hze
    injection hze with hz0 hze
    injection hze with hz1 hze
    injection hze with hz2 hze
    injection hze with hz3 hze
    rw [← hz0] at o0
    rw [← hz1] at o1
    rw [← hz2] at o2
    rw [← hz3] at o3
    clear hze hz0 hz1 hz2 hz3
    have I0 := hid (o0.intB (m := w4.heap.size) (Nat.le_refl _) (fun a n c h => by have := o0; rw [h] at this; exact this.ge.2))
    have I1 := hid (o1.intB (m := w4.heap.size) (Nat.le_refl _) (fun a n c h => by have := o1; rw [h] at this; exact this.ge.2))
    have I2 := hid (o2.intB (m := w4.heap.size) (Nat.le_refl _) (fun a n c h => by have := o2; rw [h] at this; exact this.ge.2))
    have I3 := hid (o3.intB (m := w4.heap.size) (Nat.le_refl _) (fun a n c h => by have := o3; rw [h] at this; exact this.ge.2))
    obtain ⟨ys, hM4⟩ := hbs4.rowM
    have HM4 := hid (hM4.wider hg4 (Nat.le_refl _))
    have HG4 := hid (show g < w4.heap.size from by obtain ⟨arr, h1, _⟩ := hbs4; exact h1.lt)
    have HGB := hid hg4
    have hA4 := (Below.refl w4.heap.size w4).alloc (Nat.le_refl _) (.cells #[.int .i64 p.W, .int .i64 p.H, .slice x0 p.T.cs.length d0, .slice x1 p.T.ss.length d1, .slice x2 p.T.ct.length d2, .slice x3 p.T.st.length d3, .string p.N, .slice (some ⟨g, 0, none⟩) p.L.length p.L.length] 36)
    have X5 := hid (Eig.new w4 (.int .i64 p.W) (.int .i64 p.H) (.slice x0 p.T.cs.length d0) (.slice x1 p.T.ss.length d1) (.slice x2 p.T.ct.length d2) (.slice x3 p.T.st.length d3) (.string p.N) (.slice (some ⟨g, 0, none⟩) p.L.length p.L.length) 36)
    have B5 := hid (B4.out.trans (hA4.mono B4.out.size))
    have E5 := hid (E4.out.below hA4 E4.out.lt)
    have W5 := hid (W4.out.below hA4 W4.out.lt)
    have V5 := hid (V4.out.below hA4)
    have P5 := hid (hq4.below hA4)
    have Y5 := hid (Y4.out.trans (hA4.mono Y4.out.size))
    have Q5 := hid hA4
    clear hb4 hA4 hq4 hc4 E3 E4 W3 W4 V4 Y4 o0 o1 o2 o3 hbs4 hM4 hg4 q0 q1 q2 q3 q4 q5 q6 q7
    go_wp2_with fail
    refine (HIM.out _ _ _ P5.out K4.out V5.out).mono ?_
    generalize w4.alloc _ = w5 at *
    rintro e w6 ⟨g0, rfl, hg0, hb6⟩
    have HG6 := hid hg0
    obtain ⟨j0, f0, j1, f1, j2, f2, j3, f3, jo, jc, rfl, _, _⟩ := hg0.pq.pv
    have hA6 := (Below.refl w6.heap.size w6).alloc (Nat.le_refl _) (.cells #[.int .i64 A.W, .int .i64 A.H, .slice j0 A.T.cs.length f0, .slice j1 A.T.ss.length f1, .slice j2 A.T.ct.length f2, .slice j3 A.T.st.length f3, .string A.N, .slice jo A.L.length jc] 36)
    have hb6' := hb6.trans (hA6.mono hb6.size)
    have GB7 := hid (Eig.new w6 (.int .i64 A.W) (.int .i64 A.H) (.slice j0 A.T.cs.length f0) (.slice j1 A.T.ss.length f1) (.slice j2 A.T.ct.length f2) (.slice j3 A.T.st.length f3) (.string A.N) (.slice jo A.L.length jc) 36)
    have HG7 := hid (HG6.out.poh.below hA6)
    have B7 := hid (B5.out.trans (hb6'.mono B5.out.size))
    have E7 := hid (E5.out.below hb6' E5.out.lt)
    have W7 := hid (W5.out.below hb6' W5.out.lt)
    have X7 := hid (X5.out.below hb6' X5.out.lt)
    have V7 := hid (V5.out.below hb6')
    have Y7 := hid (Y5.out.trans (hb6'.mono Y5.out.size))
    have Q7 := hid (Q5.out.trans (hb6'.mono Q5.out.size))
    have h45 : w4.heap.size ≤ w5.heap.size := Q5.out.size
    have h56 : w5.heap.size ≤ w6.heap.size := hb6.size
    have h44 : wy.heap.size ≤ w4.heap.size := YLT.out
    clear hb6 hb6' hA6 hg0 HG6 P5 K4 E5 W5 X5 V5 Y5 Q5 B5
    obtain ⟨p0, p1, p2, p3, p4, p5, p6, p7⟩ := GB7.out.cells
    obtain ⟨q0, q1, q2, q3, q4, q5, q6, q7⟩ := W7.out.cells
    go_wp2_with fail
    refine (HEA.out _ _ _ HG7.out.po.pq.pv (HY3.out.below Y7.out)).mono ?_
    generalize w6.alloc _ = w7 at *
    rintro e u9 ⟨rfl, hbu⟩
    have HGu := hid (HG7.out.below hbu)
    have Bu := hid (B7.out.trans (hbu.mono B7.out.size))
    have Eu := hid (E7.out.below hbu E7.out.lt)
    have Xu := hid (X7.out.below hbu X7.out.lt)
    have Gu := hid (GB7.out.below hbu GB7.out.lt)
    have Wu := hid (W7.out.below hbu W7.out.lt)
    have Vu := hid (V7.out.below hbu)
    have Yu := hid (Y7.out.trans (hbu.mono Y7.out.size))
    have Qu := hid (Q7.out.trans (hbu.mono Q7.out.size))
    clear hbu HG7 B7 E7 W7 X7 GB7 V7 Y7 Q7 p0 p1 p2 p3 p4 p5 p6 p7 q0 q1 q2 q3 q4 q5 q6 q7
    obtain ⟨q0, q1, q2, q3, q4, q5, q6, q7⟩ := Eu.out.cells
    obtain ⟨p0, p1, p2, p3, p4, p5, p6, p7⟩ := Xu.out.cells
    have HEC := hid (fun q (hq : Below u9.heap.size u9 q) => (Eu.out.below hq Eu.out.lt).cells)
    have HGC := hid (fun q (hq : Below u9.heap.size u9 q) => (Xu.out.below hq Xu.out.lt).cells)
    go_wp2_with fail
    go_cut [61] from 57 to 61 (fun s wx => s = .bool false ∧ Below u9.heap.size u9 wx)
    case first =>
      go_region_held3 (fun q => q.cell? ⟨w.heap.size, 0, none⟩ = some (.int .i64 p.W) ∧ q.cell? ⟨w.heap.size, 1, none⟩ = some (.int .i64 p.H) ∧ q.cell? ⟨w.heap.size, 2, none⟩ = some (.slice a0 p.T.cs.length c0) ∧ q.cell? ⟨w.heap.size, 3, none⟩ = some (.slice a1 p.T.ss.length c1) ∧ q.cell? ⟨w.heap.size, 4, none⟩ = some (.slice a2 p.T.ct.length c2) ∧ q.cell? ⟨w.heap.size, 5, none⟩ = some (.slice a3 p.T.st.length c3) ∧ q.cell? ⟨w.heap.size, 6, none⟩ = some (.string p.N) ∧ q.cell? ⟨w.heap.size, 7, none⟩ = some (.slice ao p.L.length cap) ∧ q.cell? ⟨w4.heap.size, 0, none⟩ = some (.int .i64 p.W) ∧ q.cell? ⟨w4.heap.size, 1, none⟩ = some (.int .i64 p.H) ∧ q.cell? ⟨w4.heap.size, 2, none⟩ = some (.slice x0 p.T.cs.length d0) ∧ q.cell? ⟨w4.heap.size, 3, none⟩ = some (.slice x1 p.T.ss.length d1) ∧ q.cell? ⟨w4.heap.size, 4, none⟩ = some (.slice x2 p.T.ct.length d2) ∧ q.cell? ⟨w4.heap.size, 5, none⟩ = some (.slice x3 p.T.st.length d3) ∧ q.cell? ⟨w4.heap.size, 6, none⟩ = some (.string p.N) ∧ q.cell? ⟨w4.heap.size, 7, none⟩ = some (.slice (some ⟨g, 0, none⟩) p.L.length p.L.length)) (go_keep) (first
        | (go_at_call 8; refine (HT1.out _ ?_).mono ?_; · first | exact Bu.out | exact Bu.out.trans ((Below.refl _ _).drew.mono Bu.out.size)
           rintro e x7 ⟨v7, rfl, hv7, hbx7⟩
           have hcA : Below u9.heap.size u9 x7 := by first | exact hbx7 | exact Below.trans (Below.refl _ _).drew hbx7
           have hx7 := hv7.pv
           obtain ⟨z0, e0', z1, e1', z2, e2', z3, e3', zo, zcap, rfl, _, _⟩ := hv7.pv
           obtain ⟨f0', f1', f2', f3', f4', f5', f6', f7'⟩ := HEC.out _ hcA
           obtain ⟨g0', g1', g2', g3', g4', g5', g6', g7'⟩ := HGC.out _ hcA)
        | (go_at_call 10; refine (HEQ.out _ _ _ ?_ ?_).mono ?_; · first | exact Vu.out.below hcA | exact (Vu.out.below hcA).below (Below.refl _ _).drew
           · first | exact hx7 | exact hx7.below (Below.refl _ _).drew
           rintro e x8 ⟨rfl, hbx8⟩
           have hcB : Below u9.heap.size u9 x8 := by first | exact hcA.trans (hbx8.mono hcA.size) | exact hcA.trans ((Below.trans (Below.refl _ _).drew hbx8).mono hcA.size)
           obtain ⟨h0', h1', h2', h3', h4', h5', h6', h7'⟩ := HEC.out _ hcB
           obtain ⟨k0', k1', k2', k3', k4', k5', k6', k7'⟩ := HGC.out _ hcB))
      all_goals
        go_wp2_with fail
        go_meet
        exact ⟨rfl, hcB⟩
    case rest =>
      obtain ⟨rfl, hb9⟩ := hcut
      generalize hwc : wc = w9 at *
      clear hwc
      have HG9 := hid (HGu.out.below hb9)
      have G9 := hid (Gu.out.below hb9 Gu.out.lt)
      have X9 := hid (Xu.out.below hb9 Xu.out.lt)
      have Y9 := hid (Yu.out.trans (hb9.mono Yu.out.size))
      have Q9 := hid (Qu.out.trans (hb9.mono Qu.out.size))
      clear hb9 HGu Bu Gu Eu Yu Qu Vu Xu Wu q0 q1 q2 q3 q4 q5 q6 q7 p0 p1 p2 p3 p4 p5 p6 p7 HEC HGC
      obtain ⟨p0, p1, p2, p3, p4, p5, p6, p7⟩ := X9.out.cells
      have HMK := hid (markPicI wy.heap.size w4.heap.size p.W p.H p.N x0 x1 x2 x3 _ _ _ _ d0 d1 d2 d3 g p.L.length ys _ w9 HF.out.h0 HF.out.h1 HF.out.h2 HF.out.h3 Q9.out.size (I0.out.below Q9.out) (I1.out.below Q9.out) (I2.out.below Q9.out) (I3.out.below Q9.out) HF.out.hn HF.out.hs HGB.out HG4.out (HM4.out.below Q9.out))
      clear I0 I1 I2 I3 HM4
      go_wp2_with fail
      refine HMK.out.mono ?_
      rintro e w10 ⟨⟨r9, rfl, hr9⟩, hsp⟩
      have h36 : wy.heap.size ≤ w9.heap.size := Y9.out.size
      have HG10 := hid (HG9.out.spare hsp h45)
      have G10 := hid (show Eig w10 w6.heap.size _ _ _ _ _ _ _ _ 36 from (hsp.2.2.2.2 _ G9.out.lt (.inr (by omega))).trans G9.out)
      have Y10 := hid (Y9.out.trans (hsp.below h36))
      have W10 := hid (WY.out.below Y10.out WY.out.lt)
      have hd9 : decide (r9 < 0) = false := by simp; omega
      clear hsp HG9 Y9 Q9 G9 X9 HMK p0 p1 p2 p3 p4 p5 p6 p7
      obtain ⟨p0, p1, p2, p3, p4, p5, p6, p7⟩ := G10.out.cells
      obtain ⟨q0, q1, q2, q3, q4, q5, q6, q7⟩ := W10.out.cells
      go_wp2_with fail
      refine (HEA.out _ _ _ HG10.out.po.pq.pv (HY3.out.below Y10.out)).mono ?_
      rintro e w11 ⟨rfl, hb11⟩
      have HG11 := hid (HG10.out.below hb11)
      have G11 := hid (G10.out.below hb11 G10.out.lt)
      have Y11 := hid (Y10.out.trans (hb11.mono Y10.out.size))
      clear hb11 HG10 G10 Y10 W10 p0 p1 p2 p3 p4 p5 p6 p7 q0 q1 q2 q3 q4 q5 q6 q7
      obtain ⟨p0, p1, p2, p3, p4, p5, p6, p7⟩ := G11.out.cells
      have hw61 : w6.heap.size ≤ w11.heap.size := Nat.le_of_lt G11.out.lt
      have HMP := hid (markPO w5.heap.size w6.heap.size _ A w11 hw61 HSM.out.fits.h0 HSM.out.fits.h1 HSM.out.fits.h2 HSM.out.fits.h3 HSM.out.len HSM.out.rows HG11.out)
      go_wp2_with fail
      refine HMP.out.mono ?_
      rintro e w12 ⟨rfl, hg12, hsp⟩
      have HG12 := hid hg12
      have G12 := hid (show Eig w12 w6.heap.size _ _ _ _ _ _ _ _ 36 from (hsp.2.2.2.2 _ G11.out.lt (.inr (Nat.le_refl _))).trans G11.out)
      have Y12 := hid (Y11.out.trans ((hsp.below (show w5.heap.size ≤ w11.heap.size by omega)).mono (show wy.heap.size ≤ w5.heap.size by omega)))
      clear hg12 hsp HG11 G11 Y11 HMP p0 p1 p2 p3 p4 p5 p6 p7
      obtain ⟨p0, p1, p2, p3, p4, p5, p6, p7⟩ := G12.out.cells
      have HHD := hid (fun q (hq : Below w12.heap.size w12 q) => heldPV _ A q HSM.out.fits.h0 HSM.out.fits.h1 HSM.out.fits.h2 HSM.out.fits.h3 HSM.out.len HSM.out.rows (HG12.out.below hq).po.pq.pv)
      go_wp2_with fail
      refine (HHD.out _ (Below.refl _ _)).mono ?_
      rintro e w13 ⟨rfl, hb13⟩
      have Z13 := hid hb13
      have Y13 := hid (Y12.out.trans (hb13.mono Y12.out.size))
      have B13 := hid (B3.out.trans (Y13.out.mono B3.out.size))
      have E13 := hid (EY.out.below Y13.out EY.out.lt)
      have hp : ¬ (numP A < 0) := by have := HNP.out; omega
      generalize numP A = NP at *
      clear hb13 p0 p1 p2 p3 p4 p5 p6 p7
      obtain ⟨q0, q1, q2, q3, q4, q5, q6, q7⟩ := E13.out.cells
      go_wp2_with fail
      refine (HT1.out _ B13.out).mono ?_
      rintro e w14 ⟨v14, rfl, hv14, hb14⟩
      have V14 := hid hv14.pv
      obtain ⟨vs14, hq14, _⟩ := hv14.pvq
      have hc14 := hv14.capv
      have P14 := hid hq14
      have K14 := hid hc14
      have Z14 := hid (Z13.out.trans (hb14.mono Z13.out.size))
      have Y14 := hid (Y13.out.trans (hb14.mono Y13.out.size))
      clear hv14 hq14 hc14 hb14 Y13 Z13 B13 E13 q0 q1 q2 q3 q4 q5 q6 q7
      go_wp2_with fail
      refine (HIM.out _ _ _ P14.out K14.out V14.out).mono ?_
      rintro e w15 ⟨g4, rfl, hg4, hb15⟩
      obtain ⟨l0, o0, l1, o1, l2, o2, l3, o3, lo, lc, rfl, _, _⟩ := hg4.pq.pv
      have hA15 := (Below.refl w15.heap.size w15).alloc (Nat.le_refl _) (.cells #[.int .i64 A.W, .int .i64 A.H, .slice l0 A.T.cs.length o0, .slice l1 A.T.ss.length o1, .slice l2 A.T.ct.length o2, .slice l3 A.T.st.length o3, .string A.N, .slice lo A.L.length lc] 36)
      have hb15' := hb15.trans (hA15.mono hb15.size)
      have H15 := hid (Eig.new w15 (.int .i64 A.W) (.int .i64 A.H) (.slice l0 A.T.cs.length o0) (.slice l1 A.T.ss.length o1) (.slice l2 A.T.ct.length o2) (.slice l3 A.T.st.length o3) (.string A.N) (.slice lo A.L.length lc) 36)
      have HH15 := hid (hg4.pq.pv.below hA15)
      have Z15 := hid (Z14.out.trans (hb15'.mono Z14.out.size))
      have Y15 := hid (Y14.out.trans (hb15'.mono Y14.out.size))
      have W15 := hid (WY.out.below Y15.out WY.out.lt)
      clear hg4 hb15 hb15' hA15 Y14 Z14 P14 K14 V14
      obtain ⟨p0, p1, p2, p3, p4, p5, p6, p7⟩ := H15.out.cells
      obtain ⟨q0, q1, q2, q3, q4, q5, q6, q7⟩ := W15.out.cells
      go_wp2_with fail
      refine (HEA.out _ _ _ HH15.out (HY3.out.below Y15.out)).mono ?_
      generalize w15.alloc _ = wz at *
      rintro e w16 ⟨rfl, hb16⟩
      have Z16 := hid (Z15.out.trans (hb16.mono Z15.out.size))
      have Y16 := hid (Y15.out.trans (hb16.mono Y15.out.size))
      have G16 := hid (G12.out.below Z16.out G12.out.lt)
      clear hb16 HH15 H15 W15 Y15 Z15 p0 p1 p2 p3 p4 p5 p6 p7 q0 q1 q2 q3 q4 q5 q6 q7
      obtain ⟨p0, p1, p2, p3, p4, p5, p6, p7⟩ := G16.out.cells
      go_wp2_with fail
      refine (HHD.out _ Z16.out).mono ?_
      rintro e w17 ⟨rfl, hb17⟩
      have B17 := hid ((B3.out.trans (Y16.out.mono B3.out.size)).trans (hb17.mono (Nat.le_trans B3.out.size Y16.out.size)))
      go_wp2_with fail
      go_ret
      exact ⟨rfl, B17.out⟩
end Go.Proofs.YtnnakmgngkpghaaGreat
