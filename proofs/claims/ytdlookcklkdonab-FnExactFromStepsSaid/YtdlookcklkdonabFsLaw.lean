/- The walk of the law FnExactFromSteps. -/
import Derived.Test.YtdlookcklkdonabStpG
import Derived.Test.YtdlookcklkdonabStpN
namespace Go.Proofs.Ytdlookcklkdonab
open Go.RowKit
set_option linter.unusedVariables false

theorem fromR_len (dc : Int) (L : List (Int × Int × List Int)) : ((fromR dc L).getD []).length ≤ 63 := by
  cases e : fromR dc L with
  | none => simp
  | some ac =>
    have h := (from_spec dc L ac e).2.1
    unfold blkOk at h
    simp only [Bool.and_eq_true, decide_eq_true_eq] at h
    show ac.length ≤ 63
    omega
/-- Own numbers whose row has not turned. -/
theorem Own.keptAt {w w' : World} {base : Nat} {v : Value} {xs : List Int} (h : Own w base 3 .i64 v xs) (hq : ∀ m, v.ownBlock = some m → w'.heap[m]? = w.heap[m]?) (hz : w.heap.size ≤ w'.heap.size) : Own w' base 3 .i64 v xs := by
  refine ⟨Nat.le_trans h.1 hz, h.2.1, ?_⟩
  rcases h.2.2 with h0 | ⟨g, cap, cur, hv, hg, hh, r⟩
  · exact .inl h0
  · exact .inr ⟨g, cap, cur, hv, hg, (hq g (by rw [hv]; rfl)).trans hh, r⟩

set_option maxRecDepth 100000 in
set_option maxHeartbeats 6400000 in
theorem law_fromSteps (dc : Int) (ao : Option Addr) (cap : Nat) (L : List (Int × Int × List Int)) (w : World) (hn : L.length ≤ 9223372036854775807) (hs : ∀ j, j < L.length → (nthS L j).2.2.length ≤ 9223372036854775807) (hv : SRow w ao L) :
    Calls Try.prog 7 #[.int .i64 dc, .slice ao L.length cap] w fun e w' => e = .returned (.bool true) ∧ Below w.heap.size w w' := by
  have HV := hid hv
  have HSZ := hid (szStepS ao cap L w hn hs hv)
  clear hv hs
  go_enter Try.func7, Try.ntmps7
  go_wp2_with fail
  refine HSZ.out.mono ?_
  rintro e w1 ⟨r, rfl, hr, hb1⟩
  have B1 := hid hb1
  clear hb1 HSZ
  by_cases hneg : r < 0
  · clear hr
    go_wp2_with fail
    go_ret
    exact ⟨rfl, B1.out⟩
  · obtain ⟨hl, hall⟩ := hr.resolve_left hneg
    have HALL := hid hall
    have HTO := hid (fun q (hq : Below w.heap.size w q) => toStepS ao cap L q hl hall (HV.out.below hq))
    have hRl := fromR_len dc L
    have HSP := hid (fun ao cap q hv => spec_fromSteps dc ao cap L q hl hall hv)
    have HIM := hid (fun ao cap q hv => impl_fromSteps dc ao cap L q hl hall hv)
    generalize fromR dc L = R at *
    unfold FrP at HSP HIM
    generalize hD : (if R.isSome then dc else 0 : Int) = D at *
    generalize hX : R.getD [] = X at *
    generalize hF : R.isSome = F at *
    have hFF : (F != F) = false := by simp
    clear hr hall hD hX hF
    go_wp2_with fail
    refine (HTO.out _ B1.out).mono ?_
    rintro e w2 ⟨rfl, hbs2, hb2⟩
    have B2 := hid (B1.out.trans (hb2.mono B1.out.size))
    have HR2 := hid hbs2.srow
    clear hb2 hbs2
    go_wp2_with fail
    refine (HSP.out _ _ _ HR2.out).mono ?_
    rintro e w3 ⟨hb3, y0, rfl, hy0⟩
    obtain ⟨yo, yc, rfl⟩ := hy0.shape
    have B3' := hid (B2.out.trans (hb3.mono B2.out.size))
    have HT3 := hid (Two.new w3 (.int .i64 D) (.slice yo X.length yc) 37)
    have HB3 := hid ((Below.refl w3.heap.size w3).alloc (Nat.le_refl _) (.cells #[.int .i64 D, .slice yo X.length yc] 37))
    have B3 := hid (B3'.out.trans (HB3.out.mono B3'.out.size))
    have HY3 := hid (show BV (w3.alloc (.cells #[.int .i64 D, .slice yo X.length yc] 37)) (.agg #[.int .i64 D, .slice yo X.length yc]) D X from BOwn.bv ⟨_, rfl, hy0.below HB3.out⟩)
    have h33 : w3.heap.size < (w3.alloc (.cells #[.int .i64 D, .slice yo X.length yc] 37)).heap.size := by simp
    clear hb3 hy0 HR2 HSP
    go_wp2_with fail
    refine (HTO.out _ B3.out).mono ?_
    generalize w3.alloc (.cells #[.int .i64 D, .slice yo X.length yc] 37) = wb at *
    rintro e w4 ⟨rfl, hbs4, hb4⟩
    have Y4 := hid hb4
    have HR4 := hid hbs4.srow
    obtain ⟨ys, hM4⟩ := hbs4.rowN
    have HM4 := hid hM4
    have hg4 : wb.heap.size < w4.heap.size := by obtain ⟨arr, h1, _⟩ := hbs4; exact h1.lt
    clear hb4 hbs4 hM4
    go_wp2_with fail
    refine (HIM.out _ _ _ HR4.out).mono ?_
    rintro e w5 ⟨hb5, g0, rfl, hg0⟩
    obtain ⟨go, gc, rfl⟩ := hg0.shape
    have HT5 := hid (Two.new w5 (.int .i64 D) (.slice go X.length gc) 37)
    have HB5 := hid ((Below.refl w5.heap.size w5).alloc (Nat.le_refl _) (.cells #[.int .i64 D, .slice go X.length gc] 37))
    have hb5' : Below w4.heap.size w4 (w5.alloc (.cells #[.int .i64 D, .slice go X.length gc] 37)) := hb5.trans (HB5.out.mono hb5.size)
    have Y5 := hid (Y4.out.trans (hb5'.mono Y4.out.size))
    have HG5 := hid (hg0.below HB5.out)
    have HGB := hid (fun m (e : (Value.slice go X.length gc).ownBlock = some m) => hg0.2.lt m e)
    have HR5 := hid (HR4.out.below hb5')
    have HM5 := hid (HM4.out.below hb5')
    have T5 := hid (HT3.out.below Y5.out (by omega))
    have h45 : w4.heap.size ≤ w5.heap.size := hb5.size
    have h55 : w5.heap.size < (w5.alloc (.cells #[.int .i64 D, .slice go X.length gc] 37)).heap.size := by simp
    clear hb5 hb5' hg0 HR4 HM4
    obtain ⟨q1, q2, q3, q4⟩ := T5.out.cells
    obtain ⟨q5, q6, q7, q8⟩ := HT5.out.cells
    have HX5 := hid (show BV (w5.alloc (.cells #[.int .i64 D, .slice go X.length gc] 37)) (.agg #[.int .i64 D, .slice go X.length gc]) D X from BOwn.bv ⟨_, rfl, HG5.out⟩)
    go_wp2_with fail
    refine (eqBlock_same _ _ D X _ (by omega) HX5.out (HY3.out.below Y5.out)).mono ?_
    generalize w5.alloc (.cells #[.int .i64 D, .slice go X.length gc] 37) = wc at *
    rintro e w6 ⟨rfl, hb6⟩
    have Y6 := hid (Y5.out.trans (hb6.mono Y5.out.size))
    have B6 := hid (B3.out.trans (Y6.out.mono B3.out.size))
    have HR6 := hid (HR5.out.below hb6)
    have HM6 := hid (HM5.out.below hb6)
    have HG6 := hid (HG5.out.below hb6)
    have T6 := hid (T5.out.below hb6 T5.out.lt)
    have X6 := hid (HT5.out.below hb6 HT5.out.lt)
    clear hb6 HR5 HM5 HG5 T5 HT5 HX5 q1 q2 q3 q4 q5 q6 q7 q8
    go_wp2_with fail
    refine (HTO.out _ B6.out).mono ?_
    rintro e w7 ⟨rfl, hbs7, hb7⟩
    have Y7 := hid (Y6.out.trans (hb7.mono Y6.out.size))
    have HR7 := hid (HR6.out.below hb7)
    have HX7 := hid hbs7.srow
    have HM7 := hid (HM6.out.below hb7)
    have HG7 := hid (HG6.out.below hb7)
    have T7 := hid (T6.out.below hb7 T6.out.lt)
    have X7 := hid (X6.out.below hb7 X6.out.lt)
    clear hb7 hbs7 HR6 HM6 HG6 T6 X6
    go_wp2_with fail
    refine (eqStepS_all _ _ _ _ L w7 hl HALL.out HR7.out HX7.out).mono ?_
    rintro e w8 ⟨rfl, hb8⟩
    have Y8 := hid (Y7.out.trans (hb8.mono Y7.out.size))
    have HM8 := hid (HM7.out.below hb8)
    have HG8 := hid (HG7.out.below hb8)
    have T8 := hid (T7.out.below hb8 T7.out.lt)
    have X8 := hid (X7.out.below hb8 X7.out.lt)
    clear hb8 HR7 HX7 HM7 HG7 T7 X7
    have h48 : wb.heap.size ≤ w8.heap.size := Y8.out.size
    go_wp2_with fail
    refine (markRowN wb.heap.size w4.heap.size wb.heap.size L.length ys _ w8 hl HALL.out (Nat.le_refl _) hg4 HM8.out).mono ?_
    rintro e w9 ⟨⟨r9, rfl, hr9⟩, hsp⟩
    have Y9 := hid (Y8.out.trans (hsp.below h48))
    have HG9 := hid (hsp.own HG8.out (Nat.le_refl _))
    have T9 := hid (hsp.two T8.out (.inl (by omega)))
    have X9 := hid (hsp.two X8.out (.inr (by omega)))
    have hd9 : decide (r9 < 0) = false := by simp; omega
    clear hsp HM8 HG8 T8 X8
    obtain ⟨q1, q2, q3, q4⟩ := T9.out.cells
    obtain ⟨q5, q6, q7, q8⟩ := X9.out.cells
    have HX9 := hid (show BV w9 (.agg #[.int .i64 D, .slice go X.length gc]) D X from BOwn.bv ⟨_, rfl, HG9.out⟩)
    go_wp2_with fail
    refine (eqBlock_same _ _ D X w9 (by omega) HX9.out (HY3.out.below Y9.out)).mono ?_
    rintro e w10 ⟨rfl, hb10⟩
    have Y10 := hid (Y9.out.trans (hb10.mono Y9.out.size))
    have HG10 := hid (HG9.out.below hb10)
    have T10 := hid (T9.out.below hb10 T9.out.lt)
    have X10 := hid (X9.out.below hb10 X9.out.lt)
    clear hb10 HG9 T9 X9 HX9 q1 q2 q3 q4 q5 q6 q7 q8
    obtain ⟨q5, q6, q7, q8⟩ := X10.out.cells
    go_wp2_with fail
    refine (markBlock2 w4.heap.size D _ X w10 (by omega) HG10.out).mono ?_
    rintro e w11 ⟨rfl, hg11, hq11, hb11⟩
    have Y11 := hid (Y10.out.trans (hb11.mono (by omega)))
    have HG11 := hid hg11
    have T11 := hid (T10.out.below hb11 (by omega))
    have X11 := hid (show Two w11 w5.heap.size (.int .i64 D) (.slice go X.length gc) 37 from (hq11 w5.heap.size (fun e => by have := (HGB.out _ e).2; omega) X10.out.lt).trans X10.out)
    clear hb11 hg11 hq11 HG10 T10 X10 q5 q6 q7 q8
    obtain ⟨q5, q6, q7, q8⟩ := X11.out.cells
    have hMM : (1 + (X.length : Int) != 1 + (X.length : Int)) = false := by simp
    have hM0 : ¬ (1 + (X.length : Int) < 0) := by omega
    have HVW11 := hid (show ∃ ao c, Value.slice go X.length gc = .slice ao X.length c ∧ View .i64 w11 ao X.length (mks 1 X.length) by
      obtain ⟨a, c, e, hvw⟩ := HG11.out.view
      rw [mks_length] at e hvw
      exact ⟨a, c, e, hvw⟩)
    go_wp2_with fail
    refine (heldBlock D _ X.length w11 (by omega) HVW11.out).mono ?_
    rintro e w12 ⟨rfl, hb12⟩
    have Y12 := hid (Y11.out.trans (hb12.mono Y11.out.size))
    have B12 := hid (B3.out.trans (Y12.out.mono B3.out.size))
    have HG12 := hid (HG11.out.below hb12)
    have T12 := hid (T11.out.below hb12 T11.out.lt)
    have X12 := hid (X11.out.below hb12 X11.out.lt)
    clear hb12 HG11 T11 X11 HVW11 q5 q6 q7 q8
    go_wp2_with fail
    refine (HTO.out _ B12.out).mono ?_
    rintro e w13 ⟨rfl, hbs13, hb13⟩
    have Y13 := hid (Y12.out.trans (hb13.mono Y12.out.size))
    have HR13 := hid hbs13.srow
    have HG13 := hid (HG12.out.below hb13)
    have T13 := hid (T12.out.below hb13 T12.out.lt)
    have X13 := hid (X12.out.below hb13 X12.out.lt)
    clear hb13 hbs13 HG12 T12 X12
    go_wp2_with fail
    refine (HIM.out _ _ _ HR13.out).mono ?_
    rintro e w14 ⟨hb14, h0, rfl, hh0⟩
    obtain ⟨ho, hc, rfl⟩ := hh0.shape
    have HT14 := hid (Two.new w14 (.int .i64 D) (.slice ho X.length hc) 37)
    have HB14 := hid ((Below.refl w14.heap.size w14).alloc (Nat.le_refl _) (.cells #[.int .i64 D, .slice ho X.length hc] 37))
    have hb14' : Below w13.heap.size w13 (w14.alloc (.cells #[.int .i64 D, .slice ho X.length hc] 37)) := hb14.trans (HB14.out.mono hb14.size)
    have Y14 := hid (Y13.out.trans (hb14'.mono Y13.out.size))
    have HG14 := hid (HG13.out.below hb14')
    have T14 := hid (T13.out.below hb14' T13.out.lt)
    have X14 := hid (X13.out.below hb14' X13.out.lt)
    have HX14 := hid (show BV (w14.alloc (.cells #[.int .i64 D, .slice ho X.length hc] 37)) (.agg #[.int .i64 D, .slice ho X.length hc]) D X from BOwn.bv ⟨_, rfl, hh0.below HB14.out⟩)
    clear hb14 hb14' hh0 HR13 HG13 T13 X13
    obtain ⟨q1, q2, q3, q4⟩ := T14.out.cells
    obtain ⟨q5, q6, q7, q8⟩ := HT14.out.cells
    go_wp2_with fail
    refine (eqBlock_same _ _ D X _ (by omega) HX14.out (HY3.out.below Y14.out)).mono ?_
    generalize w14.alloc (.cells #[.int .i64 D, .slice ho X.length hc] 37) = wd at *
    rintro e w15 ⟨rfl, hb15⟩
    have Y15 := hid (Y14.out.trans (hb15.mono Y14.out.size))
    have HG15 := hid (HG14.out.below hb15)
    have X15 := hid (X14.out.below hb15 X14.out.lt)
    clear hb15 HG14 T14 X14 HX14 q1 q2 q3 q4 q5 q6 q7 q8 HT14
    obtain ⟨q5, q6, q7, q8⟩ := X15.out.cells
    have HVW15 := hid (show ∃ ao c, Value.slice go X.length gc = .slice ao X.length c ∧ View .i64 w15 ao X.length (mks 1 X.length) by
      obtain ⟨a, c, e, hvw⟩ := HG15.out.view
      rw [mks_length] at e hvw
      exact ⟨a, c, e, hvw⟩)
    go_wp2_with fail
    refine (heldBlock D _ X.length w15 (by omega) HVW15.out).mono ?_
    rintro e w16 ⟨rfl, hb16⟩
    have Y16 := hid (Y15.out.trans (hb16.mono Y15.out.size))
    have B16 := hid (B3.out.trans (Y16.out.mono B3.out.size))
    clear hb16
    go_wp2
    go_ret
    exact ⟨rfl, B16.out⟩
end Go.Proofs.Ytdlookcklkdonab
