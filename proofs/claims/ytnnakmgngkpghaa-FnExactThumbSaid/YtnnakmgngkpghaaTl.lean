/- The walk of the law FnExactThumb. -/
import Derived.Test.YtnnakmgngkpghaaTh
import Derived.Test.YtnnakmgngkpghaaMt
namespace Go.Proofs.Ytnnakmgngkpghaa
open Go.RowKit Go.Maps
set_option linter.unusedVariables false

set_option maxRecDepth 100000 in
set_option maxHeartbeats 6400000 in
theorem law_thumb (v : Value) (p : Pk) (w : World) (hB : p.Big) (hv : PV w v p) :
    Calls Try.prog 3 #[v] w fun e w' => e = .returned (.bool true) ∧ Below w.heap.size w w' := by
  have HV := hid hv
  have HSZ := hid (fun q (hq : Below w.heap.size w q) => szPic_of p v q hB (hv.below hq))
  have HTO := hid (fun q (hf : p.Fits) (hq : Below w.heap.size w q) => toPic_own v p q hf (hv.below hq))
  obtain ⟨a0, c0, a1, c1, a2, c2, a3, c3, ao, cap, rfl, ht, hb⟩ := hv
  clear hB ht hb
  generalize hm0 : Value.int .i64 p.W = m0 at *
  generalize hm1 : Value.int .i64 p.H = m1 at *
  generalize hm2 : Value.slice a0 p.T.cs.length c0 = m2 at *
  generalize hm3 : Value.slice a1 p.T.ss.length c1 = m3 at *
  generalize hm4 : Value.slice a2 p.T.ct.length c2 = m4 at *
  generalize hm5 : Value.slice a3 p.T.st.length c3 = m5 at *
  generalize hm6 : Value.string p.N = m6 at *
  generalize hm7 : Value.slice ao p.L.length cap = m7 at *
  have HA := hid ((Below.refl w.heap.size w).alloc (Nat.le_refl _) (.cells #[m0, m1, m2, m3, m4, m5, m6, m7] 29))
  have HE := hid (Eig.new w m0 m1 m2 m3 m4 m5 m6 m7 29)
  subst hm0 hm1 hm2 hm3 hm4 hm5 hm6 hm7
  go_enter Try.func3, Try.ntmps3
  go_wp2_with fail
  refine (HSZ.out _ HA.out).mono ?_
  generalize w.alloc _ = wa at *
  rintro e w1 ⟨r, rfl, hr, hb1⟩
  have B1 := hid (HA.out.trans (hb1.mono HA.out.size))
  have E1 := hid (HE.out.below hb1 HE.out.lt)
  clear hb1 HSZ HA HE
  by_cases hneg : r < 0
  · clear hr
    go_wp2_with fail
    go_ret
    exact ⟨rfl, B1.out⟩
  · have hf := hr.resolve_left hneg
    have HF := hid hf
    have HT1 := hid (fun q hq => HTO.out q hf hq)
    obtain ⟨U, F, hsp, him⟩ := both_scanText p.T p.L hf.h0 hf.h1 hf.h2 hf.h3 hf.hn hf.hs
    have HSP := hid (fun q v hv => spec_thumb v p q hf hv (p.ok && F) (fun q v hv => spec_picOk v p q hf hv U F hsp))
    have HIM := hid (fun q v hv => impl_thumb v p q hf hv (p.ok && F) (fun q v hv => impl_picOk v p q hf hv U F him))
    have HEQ := hid (fun q v v' hv hv' => eqPic_same v v' p q hf hv hv')
    generalize (p.ok && F) = R at *
    have hTl : (thR R p).length ≤ 1048576 := by
      have := hf.hn
      unfold thR
      split
      · rw [dcs_len]; exact this
      · decide
    generalize thR R p = T at *
    have hRR : (R != R) = false := by simp
    obtain ⟨q0, q1, q2, q3, q4, q5, q6, q7⟩ := E1.out.cells
    clear hr hsp him hf HTO
    go_wp2_with fail
    refine (HT1.out _ B1.out).mono ?_
    rintro e w2 ⟨v2, rfl, hv2, hb2⟩
    have B2 := hid (B1.out.trans (hb2.mono B1.out.size))
    have E2 := hid (E1.out.below hb2 E1.out.lt)
    have V2 := hid hv2.pv
    clear hb2 hv2 E1 q0 q1 q2 q3 q4 q5 q6 q7
    go_wp2_with fail
    refine (HSP.out _ _ V2.out).mono ?_
    rintro e w3 ⟨y0, rfl, hy0, hb3⟩
    have B3 := hid (B2.out.trans (hb3.mono B2.out.size))
    have E3 := hid (E2.out.below hb3 E2.out.lt)
    have HY3 : Hid (Vw w3 y0 T) := hid hy0.view
    obtain ⟨yo, yc, rfl⟩ := hy0.shape
    have E3w := hid E3.out
    obtain ⟨q0, q1, q2, q3, q4, q5, q6, q7⟩ := E3.out.cells
    clear hb3 hy0 V2 E2
    go_wp2_with fail
    refine (HT1.out _ B3.out).mono ?_
    rintro e w4 ⟨v4, rfl, hv4, hb4⟩
    have B4 := hid (B3.out.trans (hb4.mono B3.out.size))
    have E4 := hid (E3.out.below hb4 E3.out.lt)
    have Y4 := hid hb4
    have V4 := hid hv4.pv
    obtain ⟨x0, d0, x1, d1, x2, d2, x3, d3, g, rfl, ho4, hbs4, hg4⟩ := hv4
    obtain ⟨z0, e0, z1, e1, z2, e2, z3, e3, hze, o0, o1, o2, o3⟩ := ho4
    injection hze with hze
    injection hze with hze
    injection hze with hz0 hze
    injection hze with hz1 hze
    injection hze with hz2 hze
    injection hze with hz3 hze
    rw [← hz0] at o0
    rw [← hz1] at o1
    rw [← hz2] at o2
    rw [← hz3] at o3
    clear hze hz0 hz1 hz2 hz3
    have I0 := hid (o0.intB (m := w4.heap.size) (Nat.le_refl _) (fun a n c h => by have := o0; rw [h] at this; exact this.ge.2))
    have I1 := hid (o1.intB (m := w4.heap.size) (Nat.le_refl _) (fun a n c h => by have := o1; rw [h] at this; exact this.ge.2))
    have I2 := hid (o2.intB (m := w4.heap.size) (Nat.le_refl _) (fun a n c h => by have := o2; rw [h] at this; exact this.ge.2))
    have I3 := hid (o3.intB (m := w4.heap.size) (Nat.le_refl _) (fun a n c h => by have := o3; rw [h] at this; exact this.ge.2))
    obtain ⟨ys, hM4⟩ := hbs4.rowM
    have HM4 := hid (hM4.wider hg4 (Nat.le_refl _))
    have HG4 := hid (show g < w4.heap.size from by obtain ⟨arr, h1, _⟩ := hbs4; exact h1.lt)
    have HGB := hid hg4
    have hA4 := (Below.refl w4.heap.size w4).alloc (Nat.le_refl _) (.cells #[.int .i64 p.W, .int .i64 p.H, .slice x0 p.T.cs.length d0, .slice x1 p.T.ss.length d1, .slice x2 p.T.ct.length d2, .slice x3 p.T.st.length d3, .string p.N, .slice (some ⟨g, 0, none⟩) p.L.length p.L.length] 38)
    have G5 := hid (Eig.new w4 (.int .i64 p.W) (.int .i64 p.H) (.slice x0 p.T.cs.length d0) (.slice x1 p.T.ss.length d1) (.slice x2 p.T.ct.length d2) (.slice x3 p.T.st.length d3) (.string p.N) (.slice (some ⟨g, 0, none⟩) p.L.length p.L.length) 38)
    have B5 := hid (B4.out.trans (hA4.mono B4.out.size))
    have E5 := hid (E4.out.below hA4 E4.out.lt)
    have V5 := hid (V4.out.below hA4)
    have Y5 := hid (Y4.out.trans (hA4.mono Y4.out.size))
    have Q5 := hid hA4
    clear hb4 hA4 E3 E4 V4 Y4 o0 o1 o2 o3 hbs4 hM4 hg4 q0 q1 q2 q3 q4 q5 q6 q7
    go_wp2_with fail
    refine (HIM.out _ _ V5.out).mono ?_
    generalize w4.alloc _ = w5 at *
    rintro e w6 ⟨g0, rfl, hg0, hb6⟩
    obtain ⟨gp, gc, rfl⟩ := hg0.shape
    have HG6 := hid hg0
    have B6 := hid (B5.out.trans (hb6.mono B5.out.size))
    have E6 := hid (E5.out.below hb6 E5.out.lt)
    have G6 := hid (G5.out.below hb6 G5.out.lt)
    have V6 := hid (V5.out.below hb6)
    have Y6 := hid (Y5.out.trans (hb6.mono Y5.out.size))
    have Q6 := hid (Q5.out.trans (hb6.mono Q5.out.size))
    have h45 : w4.heap.size ≤ w5.heap.size := Q5.out.size
    clear hb6 hg0 E5 V5 G5 Y5 Q5 B5
    go_wp2_with fail
    refine (eq_vw w6 _ _ T (by omega) HG6.out.view (HY3.out.below Y6.out)).mono ?_
    rintro e u9 ⟨rfl, hbu⟩
    have HGu := hid (HG6.out.below hbu)
    have Bu := hid (B6.out.trans (hbu.mono B6.out.size))
    have Eu := hid (E6.out.below hbu E6.out.lt)
    have Gu := hid (G6.out.below hbu G6.out.lt)
    have Vu := hid (V6.out.below hbu)
    have Yu := hid (Y6.out.trans (hbu.mono Y6.out.size))
    have Qu := hid (Q6.out.trans (hbu.mono Q6.out.size))
    clear hbu HG6 B6 E6 G6 V6 Y6 Q6
    obtain ⟨q0, q1, q2, q3, q4, q5, q6, q7⟩ := Eu.out.cells
    obtain ⟨p0, p1, p2, p3, p4, p5, p6, p7⟩ := Gu.out.cells
    have HEC := hid (fun q (hq : Below u9.heap.size u9 q) => (Eu.out.below hq Eu.out.lt).cells)
    have HGC := hid (fun q (hq : Below u9.heap.size u9 q) => (Gu.out.below hq Gu.out.lt).cells)
    go_wp2_with fail
    go_cut [45] from 41 to 45 (fun s wx => s = .bool false ∧ Below u9.heap.size u9 wx)
    case first =>
      go_region_held3 (fun q => q.cell? ⟨w.heap.size, 0, none⟩ = some (.int .i64 p.W) ∧ q.cell? ⟨w.heap.size, 1, none⟩ = some (.int .i64 p.H) ∧ q.cell? ⟨w.heap.size, 2, none⟩ = some (.slice a0 p.T.cs.length c0) ∧ q.cell? ⟨w.heap.size, 3, none⟩ = some (.slice a1 p.T.ss.length c1) ∧ q.cell? ⟨w.heap.size, 4, none⟩ = some (.slice a2 p.T.ct.length c2) ∧ q.cell? ⟨w.heap.size, 5, none⟩ = some (.slice a3 p.T.st.length c3) ∧ q.cell? ⟨w.heap.size, 6, none⟩ = some (.string p.N) ∧ q.cell? ⟨w.heap.size, 7, none⟩ = some (.slice ao p.L.length cap) ∧ q.cell? ⟨w4.heap.size, 0, none⟩ = some (.int .i64 p.W) ∧ q.cell? ⟨w4.heap.size, 1, none⟩ = some (.int .i64 p.H) ∧ q.cell? ⟨w4.heap.size, 2, none⟩ = some (.slice x0 p.T.cs.length d0) ∧ q.cell? ⟨w4.heap.size, 3, none⟩ = some (.slice x1 p.T.ss.length d1) ∧ q.cell? ⟨w4.heap.size, 4, none⟩ = some (.slice x2 p.T.ct.length d2) ∧ q.cell? ⟨w4.heap.size, 5, none⟩ = some (.slice x3 p.T.st.length d3) ∧ q.cell? ⟨w4.heap.size, 6, none⟩ = some (.string p.N) ∧ q.cell? ⟨w4.heap.size, 7, none⟩ = some (.slice (some ⟨g, 0, none⟩) p.L.length p.L.length)) (go_keep) (first
        | (go_at_call 6; refine (HT1.out _ ?_).mono ?_; · first | exact Bu.out | exact Bu.out.trans ((Below.refl _ _).drew.mono Bu.out.size)
           rintro e x7 ⟨v7, rfl, hv7, hbx7⟩
           have hcA : Below u9.heap.size u9 x7 := by first | exact hbx7 | exact Below.trans (Below.refl _ _).drew hbx7
           have hx7 := hv7.pv
           obtain ⟨z0, e0, z1, e1, z2, e2, z3, e3, zo, zcap, rfl, _, _⟩ := hv7.pv
           obtain ⟨f0, f1, f2, f3, f4, f5, f6, f7⟩ := HEC.out _ hcA
           obtain ⟨g0, g1, g2, g3, g4, g5, g6, g7⟩ := HGC.out _ hcA)
        | (go_at_call 9; refine (HEQ.out _ _ _ ?_ ?_).mono ?_; · first | exact Vu.out.below hcA | exact (Vu.out.below hcA).below (Below.refl _ _).drew
           · first | exact hx7 | exact hx7.below (Below.refl _ _).drew
           rintro e x8 ⟨rfl, hbx8⟩
           have hcB : Below u9.heap.size u9 x8 := by first | exact hcA.trans (hbx8.mono hcA.size) | exact hcA.trans ((Below.trans (Below.refl _ _).drew hbx8).mono hcA.size)
           obtain ⟨f0', f1', f2', f3', f4', f5', f6', f7'⟩ := HEC.out _ hcB
           obtain ⟨g0', g1', g2', g3', g4', g5', g6', g7'⟩ := HGC.out _ hcB))
      all_goals
        go_wp2_with fail
        go_meet
        exact ⟨rfl, hcB⟩
    case rest =>
      obtain ⟨rfl, hb9⟩ := hcut
      generalize hwc : wc = w9 at *
      clear hwc
      have HG9 := hid (HGu.out.below hb9)
      have B9 := hid (Bu.out.trans (hb9.mono Bu.out.size))
      have G9 := hid (Gu.out.below hb9 Gu.out.lt)
      have E9 := hid (Eu.out.below hb9 Eu.out.lt)
      have Y9 := hid (Yu.out.trans (hb9.mono Yu.out.size))
      have Q9 := hid (Qu.out.trans (hb9.mono Qu.out.size))
      clear hb9 HGu Bu Gu Eu Yu Qu Vu q0 q1 q2 q3 q4 q5 q6 q7 p0 p1 p2 p3 p4 p5 p6 p7 HEC HGC
      obtain ⟨p0, p1, p2, p3, p4, p5, p6, p7⟩ := G9.out.cells
      have HMK := hid (markPicI w3.heap.size w4.heap.size p.W p.H p.N x0 x1 x2 x3 _ _ _ _ d0 d1 d2 d3 g p.L.length ys _ w9 HF.out.h0 HF.out.h1 HF.out.h2 HF.out.h3 Q9.out.size (I0.out.below Q9.out) (I1.out.below Q9.out) (I2.out.below Q9.out) (I3.out.below Q9.out) HF.out.hn HF.out.hs HGB.out HG4.out (HM4.out.below Q9.out))
      clear I0 I1 I2 I3 HM4
      go_wp2_with fail
      refine HMK.out.mono ?_
      rintro e w10 ⟨⟨r9, rfl, hr9⟩, hsp⟩
      have h36 : w3.heap.size ≤ w9.heap.size := Y9.out.size
      have HG10 := hid (hsp.own HG9.out h45)
      have Y10 := hid (Y9.out.trans (hsp.below h36))
      have hd9 : decide (r9 < 0) = false := by simp; omega
      clear hsp HG9 Y9 Q9 G9 E9 HMK p0 p1 p2 p3 p4 p5 p6 p7
      go_wp2_with fail
      refine (eq_vw w10 _ _ T (by omega) HG10.out.view (HY3.out.below Y10.out)).mono ?_
      rintro e w11 ⟨rfl, hb11⟩
      have HG11 := hid (HG10.out.below hb11)
      have Y11 := hid (Y10.out.trans (hb11.mono Y10.out.size))
      clear hb11 HG10 Y10
      go_wp2_with fail
      refine (mark_any w5.heap.size _ T w11 (by omega) HG11.out).mono ?_
      rintro e w12 ⟨rfl, hg12, hb12⟩
      have HG12 := hid hg12
      have h35 : w3.heap.size ≤ w5.heap.size := by have := HGB.out; have := HG4.out; omega
      have Y12 := hid (Y11.out.trans (hb12.mono h35))
      clear hg12 hb12 HG11 Y11
      go_wp2_with fail
      refine (held_vw w12 _ T.length (by omega) HG12.out.view).mono ?_
      rintro e w13 ⟨rfl, rfl⟩
      have B12 := hid (B3.out.trans (Y12.out.mono B3.out.size))
      have E12 := hid (E3w.out.below Y12.out E3w.out.lt)
      have hp : ¬ ((T.length : Int) + 1 < 0) := by omega
      obtain ⟨q0, q1, q2, q3, q4, q5, q6, q7⟩ := E12.out.cells
      go_wp2_with fail
      refine (HT1.out _ B12.out).mono ?_
      rintro e w14 ⟨v14, rfl, hv14, hb14⟩
      have V14 := hid hv14.pv
      have HG14 := hid (HG12.out.below hb14)
      have Y14 := hid (Y12.out.trans (hb14.mono Y12.out.size))
      clear hv14 hb14 HG12 Y12 q0 q1 q2 q3 q4 q5 q6 q7 E12
      go_wp2_with fail
      refine (HIM.out _ _ V14.out).mono ?_
      rintro e w15 ⟨g4, rfl, hg4, hb15⟩
      obtain ⟨go4, gc4, rfl⟩ := hg4.shape
      have HH15 := hid hg4
      have HG15 := hid (HG14.out.below hb15)
      have Y15 := hid (Y14.out.trans (hb15.mono Y14.out.size))
      clear hg4 hb15 HG14 Y14
      go_wp2_with fail
      refine (eq_vw w15 _ _ T (by omega) HH15.out.view (HY3.out.below Y15.out)).mono ?_
      rintro e w16 ⟨rfl, hb16⟩
      have HG16 := hid (HG15.out.below hb16)
      have Y16 := hid (Y15.out.trans (hb16.mono Y15.out.size))
      clear hb16 HG15 HH15
      go_wp2_with fail
      refine (held_vw w16 _ T.length (by omega) HG16.out.view).mono ?_
      rintro e w17 ⟨rfl, rfl⟩
      have B16 := hid (B3.out.trans (Y16.out.mono B3.out.size))
      go_wp2_with fail
      go_ret
      exact ⟨rfl, B16.out⟩
end Go.Proofs.Ytnnakmgngkpghaa
