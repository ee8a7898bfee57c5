/- PicCost of both sides come to one; the walk of the law FnExactPicCost. -/
import Derived.Test.YtflfgdgkpmlhnaaPw
namespace Go.Proofs.Ytflfgdgkpmlhnaa
open Go.RowKit Go.Maps
set_option linter.unusedVariables false

set_option maxRecDepth 100000 in
set_option maxHeartbeats 800000 in
theorem spec_cost (v : Value) (p : Pk) (w : World) (hv : PV w v p) (X : ByteArray) (G : Bool) (hX : X.size ≤ 60000) (hw : ∀ q v, PV q v p → Calls Try.prog 22 #[v] q fun e w' => e = .returned (.tuple #[.string X, .bool G]) ∧ Below q.heap.size q w') :
    Calls Try.prog 24 #[v] w fun e w' => e = .returned (.int .i64 (if G = true then (X.size : Int) else -1)) ∧ Below w.heap.size w w' := by
  have HW := hid (fun q (hq : Below w.heap.size w q) => hw q v (hv.below hq))
  obtain ⟨a0, c0, a1, c1, a2, c2, a3, c3, ao, cap, rfl, ht, hb⟩ := hv
  have HB := hid ((Below.refl w.heap.size w).alloc (Nat.le_refl _) (.cells #[.int .i64 p.W, .int .i64 p.H, .slice a0 p.T.cs.length c0, .slice a1 p.T.ss.length c1, .slice a2 p.T.ct.length c2, .slice a3 p.T.st.length c3, .string p.N, .slice ao p.L.length cap] 37))
  clear hw ht hb
  cases G with
  | true =>
    rw [if_pos rfl]
    go_enter Try.func24, Try.ntmps24
    go_wp2_with fail
    refine (HW.out _ HB.out).mono ?_
    rintro e w1 ⟨rfl, hb1⟩
    have B1 := hid (HB.out.trans (hb1.mono HB.out.size))
    clear hb1
    go_wp2_with fail
    go_ret
    exact ⟨rfl, B1.out⟩
  | false =>
    rw [if_neg (by decide)]
    go_enter Try.func24, Try.ntmps24
    go_wp2_with fail
    refine (HW.out _ HB.out).mono ?_
    rintro e w1 ⟨rfl, hb1⟩
    have B1 := hid (HB.out.trans (hb1.mono HB.out.size))
    clear hb1
    go_wp2_with fail
    go_ret
    exact ⟨rfl, B1.out⟩
set_option maxRecDepth 100000 in
set_option maxHeartbeats 800000 in
theorem impl_cost (v : Value) (p : Pk) (w : World) (hv : PV w v p) (X : ByteArray) (G : Bool) (hX : X.size ≤ 60000) (hw : ∀ q v, PV q v p → Calls Try.prog 23 #[v] q fun e w' => e = .returned (.tuple #[.string X, .bool G]) ∧ Below q.heap.size q w') :
    Calls Try.prog 25 #[v] w fun e w' => e = .returned (.int .i64 (if G = true then (X.size : Int) else -1)) ∧ Below w.heap.size w w' := by
  have HW := hid (fun q (hq : Below w.heap.size w q) => hw q v (hv.below hq))
  obtain ⟨a0, c0, a1, c1, a2, c2, a3, c3, ao, cap, rfl, ht, hb⟩ := hv
  have HB := hid ((Below.refl w.heap.size w).alloc (Nat.le_refl _) (.cells #[.int .i64 p.W, .int .i64 p.H, .slice a0 p.T.cs.length c0, .slice a1 p.T.ss.length c1, .slice a2 p.T.ct.length c2, .slice a3 p.T.st.length c3, .string p.N, .slice ao p.L.length cap] 37))
  clear hw ht hb
  cases G with
  | true =>
    rw [if_pos rfl]
    go_enter Try.func25, Try.ntmps25
    go_wp2_with fail
    refine (HW.out _ HB.out).mono ?_
    rintro e w1 ⟨rfl, hb1⟩
    have B1 := hid (HB.out.trans (hb1.mono HB.out.size))
    clear hb1
    go_wp2_with fail
    go_ret
    exact ⟨rfl, B1.out⟩
  | false =>
    rw [if_neg (by decide)]
    go_enter Try.func25, Try.ntmps25
    go_wp2_with fail
    refine (HW.out _ HB.out).mono ?_
    rintro e w1 ⟨rfl, hb1⟩
    have B1 := hid (HB.out.trans (hb1.mono HB.out.size))
    clear hb1
    go_wp2_with fail
    go_ret
    exact ⟨rfl, B1.out⟩

theorem both_cost (p : Pk) (hf : p.Fits) : ∃ R : Int,
    (∀ q v, PV q v p → Calls Try.prog 24 #[v] q fun e w' => e = .returned (.int .i64 R) ∧ Below q.heap.size q w') ∧
    (∀ q v, PV q v p → Calls Try.prog 25 #[v] q fun e w' => e = .returned (.int .i64 R) ∧ Below q.heap.size q w') := by
  obtain ⟨X, G, hX, hsp, him⟩ := both_write p hf
  exact ⟨_, fun q v hv => spec_cost v p q hv X G hX hsp, fun q v hv => impl_cost v p q hv X G hX him⟩

set_option maxRecDepth 100000 in
set_option maxHeartbeats 3200000 in
theorem law_picCost (v : Value) (p : Pk) (w : World) (hB : p.Big) (hv : PV w v p) :
    Calls Try.prog 7 #[v] w fun e w' => e = .returned (.bool true) ∧ Below w.heap.size w w' := by
  have HV := hid hv
  have HSZ := hid (fun q (hq : Below w.heap.size w q) => szPic_of p v q hB (hv.below hq))
  have HTO := hid (fun q (hf : p.Fits) (hq : Below w.heap.size w q) => toPic_any v p q hf (hv.below hq))
  obtain ⟨a0, c0, a1, c1, a2, c2, a3, c3, ao, cap, rfl, ht, hb⟩ := hv
  clear hB ht hb
  generalize hm0 : Value.int .i64 p.W = m0 at *
  generalize hm1 : Value.int .i64 p.H = m1 at *
  generalize hm2 : Value.slice a0 p.T.cs.length c0 = m2 at *
  generalize hm3 : Value.slice a1 p.T.ss.length c1 = m3 at *
  generalize hm4 : Value.slice a2 p.T.ct.length c2 = m4 at *
  generalize hm5 : Value.slice a3 p.T.st.length c3 = m5 at *
  generalize hm6 : Value.string p.N = m6 at *
  generalize hm7 : Value.slice ao p.L.length cap = m7 at *
  have HA := hid ((Below.refl w.heap.size w).alloc (Nat.le_refl _) (.cells #[m0, m1, m2, m3, m4, m5, m6, m7] 29))
  have HE := hid (Eig.new w m0 m1 m2 m3 m4 m5 m6 m7 29)
  subst hm0 hm1 hm2 hm3 hm4 hm5 hm6 hm7
  go_enter Try.func7, Try.ntmps7
  go_wp2_with fail
  refine (HSZ.out _ HA.out).mono ?_
  generalize w.alloc _ = wa at *
  rintro e w1 ⟨r, rfl, hr, hb1⟩
  have B1 := hid (HA.out.trans (hb1.mono HA.out.size))
  have E1 := hid (HE.out.below hb1 HE.out.lt)
  clear hb1 HSZ HA HE
  by_cases hneg : r < 0
  · clear hr
    go_wp2_with fail
    go_ret
    exact ⟨rfl, B1.out⟩
  · have hf := hr.resolve_left hneg
    have HT1 := hid (fun q hq => HTO.out q hf hq)
    obtain ⟨R, hsp, him⟩ := both_cost p hf
    have HSP := hid hsp
    have HIM := hid him
    have HEQ := hid (fun q v v' hv hv' => eqPic_same v v' p q hf hv hv')
    have hRR : (R != R) = false := by simp
    obtain ⟨q0, q1, q2, q3, q4, q5, q6, q7⟩ := E1.out.cells
    clear hr hsp him hf HTO
    go_wp2_with fail
    refine (HT1.out _ B1.out).mono ?_
    rintro e w2 ⟨v2, rfl, hv2, hb2⟩
    have B2 := hid (B1.out.trans (hb2.mono B1.out.size))
    have E2 := hid (E1.out.below hb2 E1.out.lt)
    have V2 := hid hv2
    clear hb2 hv2 E1 q0 q1 q2 q3 q4 q5 q6 q7
    go_wp2_with fail
    refine (HSP.out _ _ V2.out).mono ?_
    rintro e w3 ⟨rfl, hb3⟩
    have B3 := hid (B2.out.trans (hb3.mono B2.out.size))
    have E3 := hid (E2.out.below hb3 E2.out.lt)
    obtain ⟨q0, q1, q2, q3, q4, q5, q6, q7⟩ := E3.out.cells
    clear hb3 V2 E2
    go_wp2_with fail
    refine (HT1.out _ B3.out).mono ?_
    rintro e w4 ⟨v4, rfl, hv4, hb4⟩
    have B4 := hid (B3.out.trans (hb4.mono B3.out.size))
    have E4 := hid (E3.out.below hb4 E3.out.lt)
    have V4 := hid hv4
    obtain ⟨x0, d0, x1, d1, x2, d2, x3, d3, xo, xcap, rfl, _, _⟩ := hv4
    have hA4 := (Below.refl w4.heap.size w4).alloc (Nat.le_refl _) (.cells #[.int .i64 p.W, .int .i64 p.H, .slice x0 p.T.cs.length d0, .slice x1 p.T.ss.length d1, .slice x2 p.T.ct.length d2, .slice x3 p.T.st.length d3, .string p.N, .slice xo p.L.length xcap] 37)
    have G5 := hid (Eig.new w4 (.int .i64 p.W) (.int .i64 p.H) (.slice x0 p.T.cs.length d0) (.slice x1 p.T.ss.length d1) (.slice x2 p.T.ct.length d2) (.slice x3 p.T.st.length d3) (.string p.N) (.slice xo p.L.length xcap) 37)
    have B5 := hid (B4.out.trans (hA4.mono B4.out.size))
    have E5 := hid (E4.out.below hA4 E4.out.lt)
    have V5 := hid (V4.out.below hA4)
    clear hb4 hA4 E3 E4 V4 q0 q1 q2 q3 q4 q5 q6 q7
    go_wp2_with fail
    refine (HIM.out _ _ V5.out).mono ?_
    generalize w4.alloc _ = w5 at *
    rintro e w6 ⟨rfl, hb6⟩
    have B6 := hid (B5.out.trans (hb6.mono B5.out.size))
    have E6 := hid (E5.out.below hb6 E5.out.lt)
    have G6 := hid (G5.out.below hb6 G5.out.lt)
    have V6 := hid (V5.out.below hb6)
    clear hb6 E5 V5 G5
    obtain ⟨q0, q1, q2, q3, q4, q5, q6, q7⟩ := E6.out.cells
    obtain ⟨p0, p1, p2, p3, p4, p5, p6, p7⟩ := G6.out.cells
    have HEC := hid (fun q (hq : Below w6.heap.size w6 q) => (E6.out.below hq E6.out.lt).cells)
    have HGC := hid (fun q (hq : Below w6.heap.size w6 q) => (G6.out.below hq G6.out.lt).cells)
    go_wp2_with fail
    go_cut [26] from 22 to 27 (fun s wx => s = .bool false ∧ Below w6.heap.size w6 wx)
    case first =>
      go_region_held3 (fun q => q.cell? ⟨w.heap.size, 0, none⟩ = some (.int .i64 p.W) ∧ q.cell? ⟨w.heap.size, 1, none⟩ = some (.int .i64 p.H) ∧ q.cell? ⟨w.heap.size, 2, none⟩ = some (.slice a0 p.T.cs.length c0) ∧ q.cell? ⟨w.heap.size, 3, none⟩ = some (.slice a1 p.T.ss.length c1) ∧ q.cell? ⟨w.heap.size, 4, none⟩ = some (.slice a2 p.T.ct.length c2) ∧ q.cell? ⟨w.heap.size, 5, none⟩ = some (.slice a3 p.T.st.length c3) ∧ q.cell? ⟨w.heap.size, 6, none⟩ = some (.string p.N) ∧ q.cell? ⟨w.heap.size, 7, none⟩ = some (.slice ao p.L.length cap) ∧ q.cell? ⟨w4.heap.size, 0, none⟩ = some (.int .i64 p.W) ∧ q.cell? ⟨w4.heap.size, 1, none⟩ = some (.int .i64 p.H) ∧ q.cell? ⟨w4.heap.size, 2, none⟩ = some (.slice x0 p.T.cs.length d0) ∧ q.cell? ⟨w4.heap.size, 3, none⟩ = some (.slice x1 p.T.ss.length d1) ∧ q.cell? ⟨w4.heap.size, 4, none⟩ = some (.slice x2 p.T.ct.length d2) ∧ q.cell? ⟨w4.heap.size, 5, none⟩ = some (.slice x3 p.T.st.length d3) ∧ q.cell? ⟨w4.heap.size, 6, none⟩ = some (.string p.N) ∧ q.cell? ⟨w4.heap.size, 7, none⟩ = some (.slice xo p.L.length xcap)) (go_keep) (first
        | (go_at_call 10; refine (HT1.out _ ?_).mono ?_; · first | exact B6.out | exact B6.out.trans ((Below.refl _ _).drew.mono B6.out.size)
           rintro e w7 ⟨v7, rfl, hv7, hb7⟩
           have hcA : Below w6.heap.size w6 w7 := by first | exact hb7 | exact Below.trans (Below.refl _ _).drew hb7
           have hw7 := hv7
           obtain ⟨z0, e0, z1, e1, z2, e2, z3, e3, zo, zcap, rfl, _, _⟩ := hv7
           obtain ⟨f0, f1, f2, f3, f4, f5, f6, f7⟩ := HEC.out _ hcA
           obtain ⟨g0, g1, g2, g3, g4, g5, g6, g7⟩ := HGC.out _ hcA)
        | (go_at_call 12; refine (HEQ.out _ _ _ ?_ ?_).mono ?_; · first | exact V6.out.below hcA | exact (V6.out.below hcA).below (Below.refl _ _).drew
           · first | exact hw7 | exact hw7.below (Below.refl _ _).drew
           rintro e w8 ⟨rfl, hb8⟩
           have hcB : Below w6.heap.size w6 w8 := by first | exact hcA.trans (hb8.mono hcA.size) | exact hcA.trans ((Below.trans (Below.refl _ _).drew hb8).mono hcA.size)
           obtain ⟨f0', f1', f2', f3', f4', f5', f6', f7'⟩ := HEC.out _ hcB
           obtain ⟨g0', g1', g2', g3', g4', g5', g6', g7'⟩ := HGC.out _ hcB))
      all_goals
        go_wp2_with fail
        go_meet
        exact ⟨rfl, hcB⟩
    case rest =>
      obtain ⟨rfl, hb9⟩ := hcut
      have B9 := hid (B6.out.trans (hb9.mono B6.out.size))
      clear hb9
      go_wp2_with fail
      go_ret
      exact ⟨rfl, B9.out⟩
end Go.Proofs.Ytflfgdgkpmlhnaa
