/- The walk of the law FnExactTranspose. -/
import Derived.Test.YtcodmkampihphaaDoorLf
import Derived.Test.YtcodmkampihphaaDoorLc
namespace Go.Proofs.YtcodmkampihphaaDoor
open Go.RowKit
set_option linter.unusedVariables false

theorem tbA_len_transpose (M : List Int) (d : Int) (xs : List Int) : (tbA M d xs).length ≤ 63 := by
  unfold tbA
  split
  · rw [acTo_len]; exact Nat.le_refl _
  · simp

set_option maxRecDepth 100000 in
set_option maxHeartbeats 6400000 in
theorem law_transpose (d : Int) (a0 : Option Addr) (n0 c0 : Nat) (z0 : List Int) (w : World) (hr0 : IsRow .i64 w a0 n0 c0 z0) (hw : WayAt w) :
    Calls Tryd.prog 7 #[.agg #[.int .i64 d, .slice a0 n0 c0]] w fun e w' => e = .returned (.bool true) ∧ Below w.heap.size w w' := by
  have HW := hid hw
  clear hw
  have HCV := hid (hr0.bv (d := d))
  have hl0 := hr0.len.1
  have e0 := hr0.view.1
  have HSZ := hid (fun q : World => szBlock d a0 n0 c0 1048576 q hl0 (by decide) (by decide))
  have HTA := hid (Two.new w (.int .i64 d) (.slice a0 n0 c0) 35)
  have HB := hid ((Below.refl w.heap.size w).alloc (Nat.le_refl _) (.cells #[.int .i64 d, .slice a0 n0 c0] 35))
  generalize z0.take n0 = xs at *
  clear hr0
  subst e0
  go_enter Tryd.func7, Tryd.ntmps7
  go_wp2_with fail
  refine (HSZ.out _).mono ?_
  generalize w.alloc (.cells #[.int .i64 d, .slice a0 xs.length c0] 35) = wa at *
  rintro e w1 ⟨rfl, hb1⟩
  have B1 := hid (HB.out.trans (hb1.mono HB.out.size))
  have T1 := hid (HTA.out.below hb1 HTA.out.lt)
  clear hb1 HTA HSZ
  by_cases k0 : xs.length ≤ 1048576
  · have hlf : lft 1048576 xs.length = 1048576 - xs.length := by unfold lft; rw [if_neg (by omega)]
    rw [hlf]
    have hd : decide ((1048576 : Int) - xs.length < 0) = false := by simp; omega
    clear hlf
    have HTO := hid (fun q (hq : Below w.heap.size w q) => toBlock (.agg #[.int .i64 d, .slice a0 xs.length c0]) d xs q k0 (HCV.out.below hq))
    have HSP := hid (fun v q hv => spec_transpose v d xs q k0 hv)
    have HIM := hid (fun v q hv (hq : Below w.heap.size w q) => impl_transpose v d xs q k0 hv (HW.out.below hq))
    have hXl := tbA_len_transpose (trTo (sq d xs) 64) d xs
    generalize tbD (trTo (sq d xs) 64) d xs = D at *
    generalize tbA (trTo (sq d xs) 64) d xs = X at *
    obtain ⟨q1, q2, q3, q4⟩ := T1.out.cells
    have T1lt := T1.out.lt
    go_wp2_with fail
    refine (HTO.out _ B1.out).mono ?_
    rintro e w2 ⟨v1, rfl, hown1, hb2⟩
    have B2 := hid (B1.out.trans (hb2.mono B1.out.size))
    have T2 := hid (T1.out.below hb2 T1lt)
    have HV1 := hid hown1.bv
    clear hb2 hown1 q1 q2 q3 q4 T1
    go_wp2_with fail
    refine (HSP.out _ _ HV1.out).mono ?_
    rintro e w3 ⟨y0, rfl, ⟨ya, rfl, hy0⟩, hb3⟩
    obtain ⟨yo, yc, rfl⟩ := hy0.shape
    have B3' := hid (B2.out.trans (hb3.mono B2.out.size))
    have T3' := hid (T2.out.below hb3 T2.out.lt)
    have HT3 := hid (Two.new w3 (.int .i64 D) (.slice yo X.length yc) 28)
    have HB3 := hid ((Below.refl w3.heap.size w3).alloc (Nat.le_refl _) (.cells #[.int .i64 D, .slice yo X.length yc] 28))
    have B3 := hid (B3'.out.trans (HB3.out.mono B3'.out.size))
    have P3 := hid (T3'.out.below HB3.out T3'.out.lt)
    have HY3 := hid (show BV (w3.alloc (.cells #[.int .i64 D, .slice yo X.length yc] 28)) (.agg #[.int .i64 D, .slice yo X.length yc]) D X from BOwn.bv ⟨_, rfl, hy0.below HB3.out⟩)
    have h33 : w3.heap.size < (w3.alloc (.cells #[.int .i64 D, .slice yo X.length yc] 28)).heap.size := by simp
    have hP3 : w.heap.size < w3.heap.size := T3'.out.lt
    clear hb3 hy0 HSP T2 T3' B1 B2 B3' HV1
    obtain ⟨q1, q2, q3, q4⟩ := P3.out.cells
    go_wp2_with fail
    refine (HTO.out _ B3.out).mono ?_
    generalize w3.alloc (.cells #[.int .i64 D, .slice yo X.length yc] 28) = wb at *
    rintro e w4' ⟨x0, rfl, ⟨xa, rfl, hx0⟩, hb4⟩
    obtain ⟨xo, xc, rfl⟩ := hx0.shape
    have HT4 := hid (Two.new w4' (.int .i64 d) (.slice xo xs.length xc) 28)
    have HB4 := hid ((Below.refl w4'.heap.size w4').alloc (Nat.le_refl _) (.cells #[.int .i64 d, .slice xo xs.length xc] 28))
    have Y4 := hid (hb4.trans (HB4.out.mono hb4.size))
    have HX4 := hid (hx0.below HB4.out)
    have HXB := hid (fun m (e : (Value.slice xo xs.length xc).ownBlock = some m) => hx0.2.lt m e)
    have hn4 : wb.heap.size ≤ w4'.heap.size := hb4.size
    have h44 : w4'.heap.size < (w4'.alloc (.cells #[.int .i64 d, .slice xo xs.length xc] 28)).heap.size := by simp
    clear hb4 hx0 q1 q2 q3 q4
    obtain ⟨q1, q2, q3, q4⟩ := HT4.out.cells
    have HXV4 := hid (show BV (w4'.alloc (.cells #[.int .i64 d, .slice xo xs.length xc] 28)) (.agg #[.int .i64 d, .slice xo xs.length xc]) d xs from BOwn.bv ⟨_, rfl, HX4.out⟩)
    have B4 := hid (B3.out.trans (Y4.out.mono B3.out.size))
    go_wp2_with fail
    refine (HIM.out _ _ HXV4.out B4.out).mono ?_
    generalize w4'.alloc (.cells #[.int .i64 d, .slice xo xs.length xc] 28) = w4 at *
    rintro e w5 ⟨g0, rfl, ⟨ga, rfl, hg0⟩, hb5⟩
    obtain ⟨go, gc, rfl⟩ := hg0.shape
    have HT5 := hid (Two.new w5 (.int .i64 D) (.slice go X.length gc) 28)
    have HB5 := hid ((Below.refl w5.heap.size w5).alloc (Nat.le_refl _) (.cells #[.int .i64 D, .slice go X.length gc] 28))
    have hb5' : Below w4.heap.size w4 (w5.alloc (.cells #[.int .i64 D, .slice go X.length gc] 28)) := hb5.trans (HB5.out.mono hb5.size)
    have Y5 := hid (Y4.out.trans (hb5'.mono Y4.out.size))
    have HG5 := hid (hg0.below HB5.out)
    have HGB := hid (fun m (e : (Value.slice go X.length gc).ownBlock = some m) => hg0.2.lt m e)
    have T5 := hid (HT3.out.below Y5.out (by omega))
    have P5 := hid (P3.out.below Y5.out (by omega))
    have X5 := hid (HX4.out.below hb5')
    have U5 := hid (HT4.out.below hb5' HT4.out.lt)
    have h45 : w4.heap.size ≤ w5.heap.size := hb5.size
    have h55 : w5.heap.size < (w5.alloc (.cells #[.int .i64 D, .slice go X.length gc] 28)).heap.size := by simp
    have B5 := hid (B3.out.trans (Y5.out.mono B3.out.size))
    clear hb5 hb5' hg0 q1 q2 q3 q4 HX4 HXV4 HT4 B4
    obtain ⟨q1, q2, q3, q4⟩ := T5.out.cells
    obtain ⟨q5, q6, q7, q8⟩ := HT5.out.cells
    have HGV5 := hid (show BV (w5.alloc (.cells #[.int .i64 D, .slice go X.length gc] 28)) (.agg #[.int .i64 D, .slice go X.length gc]) D X from BOwn.bv ⟨_, rfl, HG5.out⟩)
    go_wp2_with fail
    refine (eqBlock_same _ _ D X _ (by omega) HGV5.out (HY3.out.below Y5.out)).mono ?_
    generalize w5.alloc (.cells #[.int .i64 D, .slice go X.length gc] 28) = w5b at *
    rintro e w6 ⟨rfl, hb6⟩
    have Y6 := hid (Y5.out.trans (hb6.mono Y5.out.size))
    have B6 := hid (B3.out.trans (Y6.out.mono B3.out.size))
    have HG6 := hid (HG5.out.below hb6)
    have T6 := hid (T5.out.below hb6 T5.out.lt)
    have P6 := hid (P5.out.below hb6 P5.out.lt)
    have X6 := hid (X5.out.below hb6)
    have U6 := hid (U5.out.below hb6 U5.out.lt)
    have G6 := hid (HT5.out.below hb6 HT5.out.lt)
    have h56 : w5.heap.size < w6.heap.size := by have := hb6.size; omega
    clear hb6 HG5 T5 HT5 P5 X5 U5 HGV5 q1 q2 q3 q4 q5 q6 q7 q8
    obtain ⟨q1, q2, q3, q4⟩ := P6.out.cells
    obtain ⟨q5, q6, q7, q8⟩ := U6.out.cells
    have HXV6 := hid (show BV w6 (.agg #[.int .i64 d, .slice xo xs.length xc]) d xs from BOwn.bv ⟨_, rfl, X6.out⟩)
    have U6lt := U6.out.lt
    go_upto_region 10 with fail
    have HTQ := hid (fun q (hq : Below w6.heap.size w6 q) => HTO.out q (B6.out.trans (hq.mono B6.out.size)))
    go_cut [31] from 11 to 68 (fun b wx => b = .bool false ∧ Below w6.heap.size w6 wx)
    case first =>
      go_region_with (first
        | (go_at_call 17; refine (HTQ.out _ ?_).mono ?_; · first | exact Below.refl _ _ | exact (Below.refl _ _).drew | exact (Below.refl _ _).drew.drew
           rintro e w7 ⟨v3, rfl, hown3, hb7⟩
           have hc7 : Below w6.heap.size w6 w7 := by first | exact hb7 | exact Below.trans (Below.refl _ _).drew hb7 | exact Below.trans (Below.refl _ _).drew.drew hb7
           obtain ⟨r1, r2, r3, r4⟩ := (U6.out.below hc7 U6lt).cells)
        | (go_at_call 18; refine (eqBlock_same _ v3 d xs _ k0 ?_ ?_).mono ?_; · first | exact HXV6.out.below hc7 | exact (HXV6.out.below hc7).below (Below.refl _ _).drew
           · first | exact hown3.bv | exact hown3.bv.below (Below.refl _ _).drew
           rintro e w8 ⟨rfl, hb8⟩))
      all_goals
        have hb9 := hid (hc7.trans (hb8.mono hc7.size))
        go_wp2_with fail
        go_meet
        exact ⟨rfl, hb9.out⟩
    case rest =>
      obtain ⟨rfl, hb8⟩ := hcut
      rename World => w8
      have Y8 := hid (Y6.out.trans (hb8.mono Y6.out.size))
      have HG8 := hid (HG6.out.below hb8)
      have T8 := hid (T6.out.below hb8 T6.out.lt)
      have P8 := hid (P6.out.below hb8 P6.out.lt)
      have X8 := hid (X6.out.below hb8)
      have U8 := hid (U6.out.below hb8 U6.out.lt)
      have G8 := hid (G6.out.below hb8 G6.out.lt)
      have h68 := hb8.size
      clear hb8 HG6 T6 P6 X6 U6 G6 HXV6 HTQ q1 q2 q3 q4 q5 q6 q7 q8 U6lt
      obtain ⟨q1, q2, q3, q4⟩ := U8.out.cells
      go_wp2_with fail
      refine (markBlock2 wb.heap.size d _ xs w8 k0 X8.out).mono ?_
      rintro e w9 ⟨rfl, hx9, hq9, hb9⟩
      have Y9 := hid (Y8.out.trans hb9)
      have HNR : ∀ m, w4'.heap.size ≤ m → (Value.slice xo xs.length xc).ownBlock ≠ some m := fun m hm e => by have := (HXB.out m e).2; omega
      have HG9 := hid (HG8.out.keptAt (fun m e => hq9 m (HNR m (by have := (HGB.out m e).1; omega)) (by have := (HGB.out m e).2; omega)) hb9.size)
      have T9 := hid (T8.out.below hb9 (by omega))
      have P9 := hid (P8.out.below hb9 (by omega))
      have G9 := hid (show Two w9 w5.heap.size (.int .i64 D) (.slice go X.length gc) 28 from (hq9 w5.heap.size (HNR _ (by omega)) G8.out.lt).trans G8.out)
      have hd9 : decide ((1 : Int) + (xs.length : Int) < 0) = false := by simp; omega
      have h89 := hb9.size
      clear hb9 hq9 hx9 HNR HG8 T8 P8 X8 U8 G8 q1 q2 q3 q4
      obtain ⟨q1, q2, q3, q4⟩ := T9.out.cells
      obtain ⟨q5, q6, q7, q8⟩ := G9.out.cells
      have HGV9 := hid (show BV w9 (.agg #[.int .i64 D, .slice go X.length gc]) D X from BOwn.bv ⟨_, rfl, HG9.out⟩)
      go_wp2_with fail
      refine (eqBlock_same _ _ D X w9 (by omega) HGV9.out (HY3.out.below Y9.out)).mono ?_
      rintro e w10 ⟨rfl, hb10⟩
      have Y10 := hid (Y9.out.trans (hb10.mono Y9.out.size))
      have HG10 := hid (HG9.out.below hb10)
      have T10 := hid (T9.out.below hb10 T9.out.lt)
      have P10 := hid (P9.out.below hb10 P9.out.lt)
      have G10 := hid (G9.out.below hb10 G9.out.lt)
      have h910 := hb10.size
      clear hb10 HG9 T9 P9 G9 HGV9 q1 q2 q3 q4 q5 q6 q7 q8
      obtain ⟨q5, q6, q7, q8⟩ := G10.out.cells
      go_wp2_with fail
      refine (markBlock2 w4.heap.size D _ X w10 (by omega) HG10.out).mono ?_
      rintro e w11 ⟨rfl, hg11, hq11, hb11⟩
      have Y11 := hid (Y10.out.trans (hb11.mono (by omega)))
      have HG11 := hid hg11
      have T11 := hid (T10.out.below hb11 (by omega))
      have P11 := hid (P10.out.below hb11 (by omega))
      have X11 := hid (show Two w11 w5.heap.size (.int .i64 D) (.slice go X.length gc) 28 from (hq11 w5.heap.size (fun e => by have := (HGB.out _ e).2; omega) G10.out.lt).trans G10.out)
      clear hb11 hg11 hq11 HG10 T10 P10 G10 q5 q6 q7 q8
      obtain ⟨q5, q6, q7, q8⟩ := X11.out.cells
      have hMM : (1 + (X.length : Int) != 1 + (X.length : Int)) = false := by simp
      have hM0 : ¬ (1 + (X.length : Int) < 0) := by omega
      go_wp2_with fail
      refine (heldBlock D _ X.length w11 (by omega) (markVw HG11.out)).mono ?_
      rintro e w12 ⟨rfl, hb12⟩
      have Y12 := hid (Y11.out.trans (hb12.mono Y11.out.size))
      have B12 := hid (B3.out.trans (Y12.out.mono B3.out.size))
      have HG12 := hid (HG11.out.below hb12)
      have T12 := hid (T11.out.below hb12 T11.out.lt)
      have P12 := hid (P11.out.below hb12 P11.out.lt)
      have X12 := hid (X11.out.below hb12 X11.out.lt)
      clear hb12 HG11 T11 X11 P11 q5 q6 q7 q8
      obtain ⟨q5, q6, q7, q8⟩ := P12.out.cells
      go_wp2_with fail
      refine (HTO.out _ B12.out).mono ?_
      rintro e w13 ⟨v13, rfl, hown13, hb13⟩
      have Y13 := hid (Y12.out.trans (hb13.mono Y12.out.size))
      have B13 := hid (B12.out.trans (hb13.mono B12.out.size))
      have HG13 := hid (HG12.out.below hb13)
      have T13 := hid (T12.out.below hb13 T12.out.lt)
      have X13 := hid (X12.out.below hb13 X12.out.lt)
      have HV13 := hid hown13.bv
      clear hb13 hown13 HG12 T12 X12 P12 q5 q6 q7 q8
      go_wp2_with fail
      refine (HIM.out _ _ HV13.out B13.out).mono ?_
      rintro e w14 ⟨h0, rfl, ⟨ha, rfl, hh0⟩, hb14⟩
      obtain ⟨ho, hc, rfl⟩ := hh0.shape
      have HT14 := hid (Two.new w14 (.int .i64 D) (.slice ho X.length hc) 28)
      have HB14 := hid ((Below.refl w14.heap.size w14).alloc (Nat.le_refl _) (.cells #[.int .i64 D, .slice ho X.length hc] 28))
      have hb14' : Below w13.heap.size w13 (w14.alloc (.cells #[.int .i64 D, .slice ho X.length hc] 28)) := hb14.trans (HB14.out.mono hb14.size)
      have Y14 := hid (Y13.out.trans (hb14'.mono Y13.out.size))
      have HG14 := hid (HG13.out.below hb14')
      have T14 := hid (T13.out.below hb14' T13.out.lt)
      have X14 := hid (X13.out.below hb14' X13.out.lt)
      have HX14 := hid (show BV (w14.alloc (.cells #[.int .i64 D, .slice ho X.length hc] 28)) (.agg #[.int .i64 D, .slice ho X.length hc]) D X from BOwn.bv ⟨_, rfl, hh0.below HB14.out⟩)
      clear hb14 hb14' hh0 HG13 T13 X13
      obtain ⟨q1, q2, q3, q4⟩ := T14.out.cells
      obtain ⟨q5, q6, q7, q8⟩ := HT14.out.cells
      go_wp2_with fail
      refine (eqBlock_same _ _ D X _ (by omega) HX14.out (HY3.out.below Y14.out)).mono ?_
      generalize w14.alloc (.cells #[.int .i64 D, .slice ho X.length hc] 28) = wd at *
      rintro e w15 ⟨rfl, hb15⟩
      have Y15 := hid (Y14.out.trans (hb15.mono Y14.out.size))
      have HG15 := hid (HG14.out.below hb15)
      have X15 := hid (X14.out.below hb15 X14.out.lt)
      clear hb15 HG14 T14 X14 HX14 q1 q2 q3 q4 q5 q6 q7 q8 HT14
      obtain ⟨q5, q6, q7, q8⟩ := X15.out.cells
      go_wp2_with fail
      refine (heldBlock D _ X.length w15 (by omega) (markVw HG15.out)).mono ?_
      rintro e w16 ⟨rfl, hb16⟩
      have Y16 := hid (Y15.out.trans (hb16.mono Y15.out.size))
      have B16 := hid (B3.out.trans (Y16.out.mono B3.out.size))
      clear hb16
      go_wp2
      go_ret
      exact ⟨rfl, B16.out⟩
  · have hlf : lft 1048576 xs.length = -1 := by unfold lft; rw [if_pos (by omega)]
    rw [hlf]
    obtain ⟨q1, q2, q3, q4⟩ := T1.out.cells
    go_wp2
    go_ret
    exact ⟨rfl, B1.out⟩
end Go.Proofs.YtcodmkampihphaaDoor
