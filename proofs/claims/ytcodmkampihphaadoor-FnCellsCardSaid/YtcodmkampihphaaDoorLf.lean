/- The walk of the law FnExactFromCells. -/
import Derived.Test.YtcodmkampihphaaDoorMk
namespace Go.Proofs.YtcodmkampihphaaDoor
open Go.RowKit
set_option linter.unusedVariables false

/-- The first k cells copied. -/
def cpTo (S : List Int) : Nat → List Int
  | 0 => z64
  | k + 1 => (cpTo S k).set k (S.getD k 0)
theorem cpTo_len (S : List Int) : ∀ k, (cpTo S k).length = 64
  | 0 => rfl
  | k + 1 => by rw [cpTo, List.length_set, cpTo_len S k]
theorem cpTo_at (S : List Int) : ∀ k, k ≤ 64 → ∀ i, i < k → (cpTo S k).getD i 0 = S.getD i 0
  | k + 1, hk, i, hi => by
    rw [cpTo]
    by_cases e : k = i
    · subst e
      exact getD_set_self (by rw [cpTo_len]; omega)
    · rw [getD_set_ne e]
      exact cpTo_at S k (by omega) i (by omega)
theorem cpTo_all (S : List Int) (h : S.length = 64) : cpTo S 64 = S :=
  list_eq_of_getD (by rw [cpTo_len, h]) (fun i hi => cpTo_at S 64 (Nat.le_refl _) i (by rw [cpTo_len] at hi; exact hi))

set_option maxRecDepth 20000 in
set_option maxHeartbeats 800000 in
theorem toA64 (S : List Int) (hS : S.length = 64) (w : World) :
    Calls Tryd.prog 20 #[.agg (ivs S).toArray] w fun e w' => e = .returned (.agg (ivs S).toArray) ∧ Below w.heap.size w w' := by
  have HL := hid hS
  have HB := hid ((((Below.refl w.heap.size w).alloc (Nat.le_refl _) (.cells (ivs S).toArray 30)).alloc (by simp) (.cells (ivs z64).toArray 30)).alloc (by simp; omega) (.cells (ivs z64).toArray 30))
  have HS := hid (((Blk.new w (ivs S) 30).alloc (.cells (ivs z64).toArray 30)).alloc (.cells (ivs z64).toArray 30))
  have HR := hid ((Blk.newG (w := w.alloc (.cells (ivs S).toArray 30)) (g := w.heap.size + 1) (by simp) (ivs z64) 30).alloc (.cells (ivs z64).toArray 30))
  have HD := hid (Blk.newG (w := (w.alloc (.cells (ivs S).toArray 30)).alloc (.cells (ivs z64).toArray 30)) (g := w.heap.size + 1 + 1) (by simp) (ivs z64) 30)
  clear hS
  go_enter Tryd.func20, Tryd.ntmps20
  go_wp2_with (with_reducible refine at_alloc 30 ?_; refine wpList_newZ _ rfl 30 rfl (ivs z64) zero30 ?_)
  generalize ((w.alloc (.cells (ivs S).toArray 30)).alloc (.cells (ivs z64).toArray 30)).alloc (.cells (ivs z64).toArray 30) = w1 at *
  go_loopw [4] (fun i wr => ∃ k : Nat, k ≤ 64 ∧ i = .int .i64 k ∧ Hid (Blk wr (w.heap.size + 1 + 1) (ivs (cpTo S k)) 30) ∧ Hid (Ef (w.heap.size + 1 + 1) w1 wr)) (fun i _ => 64 - (intOf i).toNat)
  case atStart => exact ⟨0, by omega, rfl, HD.out, Ef.refl _ _⟩
  case round =>
    obtain ⟨k, hk, rfl, hD, hE⟩ := hrel
    by_cases hlt : k < 64
    · have hlt' : (k : Int) < 64 := by omega
      have hsc := (HS.out.ef hE.out (by omega)).cell (ivs_get S k (by rw [HL.out]; exact hlt))
      have hcl := hD.out.cell (ivs_get (cpTo S k) k (by rw [cpTo_len]; exact hlt))
      have hfr := hD.out.free k
      have HN : Hid (cpTo S (k + 1) = (cpTo S k).set k (S.getD k 0)) := rfl
      generalize S.getD k 0 = Y at *
      go_wp2_with fail
      go_roundw
      case rel => exact ⟨k + 1, by omega, by go_num, by rw [HN.out, ← ivs_set]; exact hD.out.set _ _, hE.out.trans (Ef.set _ _ _)⟩
      case measure => simp [intOf]; omega
    · obtain rfl : k = 64 := by omega
      have hD2 := hid hD.out
      rw [cpTo_all S HL.out] at hD2
      have hR2 := hid (HR.out.ef hE.out (by omega))
      have hB2 := hid (HB.out.trans (hE.out.below (by omega) HB.out.size))
      clear hD hE hlt hk
      go_wp2_with (first | (with_reducible refine at_load 30 ?_; refine wpList_loadR _ rfl 30 _ rfl (w.heap.size + 1 + 1) (ivs S) hD2.out (by go_simp) 64 3 Tryd.underlying30 (size30L HL.out) ?_) | (with_reducible refine at_store 30 ?_; refine wpList_storeR _ rfl 30 _ _ rfl (w.heap.size + 1) (ivs z64) (ivs S) hR2.out (by go_simp) rfl (ivs_len2 z64_len HL.out) (size30L HL.out) (ivs_one _) ?_))
      intro w3 hb3 he3
      go_wp2_with fail
      refine bodyPost_ret (v := .agg (ivs S).toArray) ?_ rfl ⟨rfl, hB2.out.trans (he3.below (by omega) hB2.out.size)⟩
      have hld := run_loadVar_row (P := Tryd.prog) w3 (w.heap.size + 1) 30 30 (ivs S).toArray (0, 0) _ hb3 Tryd.underlying30 rfl (by simpa using size30L HL.out)
      exact results_one_cell rfl _ _ _ _ _ rfl hld

theorem fcA_len (S : List Int) : (fcA S).length ≤ 63 := by
  unfold fcA
  split
  · rw [acTo_len]; exact Nat.le_refl _
  · simp
theorem markVw {w : World} {go : Option Addr} {n gc base : Nat} (h : Own w base 3 .i64 (.slice go n gc) (mks 1 n)) : ∃ ao c, Value.slice go n gc = .slice ao n c ∧ View .i64 w ao n (mks 1 n) := by
  obtain ⟨a, c, e, hvw⟩ := h.view
  rw [mks_length] at e hvw
  exact ⟨a, c, e, hvw⟩

set_option maxRecDepth 100000 in
set_option maxHeartbeats 6400000 in
theorem law_from (S : List Int) (w : World) (hS : S.length = 64) (hw : WayAt w) :
    Calls Tryd.prog 5 #[.agg (ivs S).toArray] w fun e w' => e = .returned (.bool true) ∧ Below w.heap.size w w' := by
  have HL := hid hS
  have HTO := hid (fun q => toA64 S hS q)
  have HSP := hid (fun q => spec_from S hS q)
  have HIM := hid (fun q (hq : Below w.heap.size w q) => impl_from S hS q (hw.below hq))
  have hXl := fcA_len S
  have B0 := hid ((Below.refl w.heap.size w).alloc (Nat.le_refl _) (.cells (ivs S).toArray 30))
  have S0 := hid (Blk.new w (ivs S) 30)
  generalize fcD S = D at *
  generalize fcA S = X at *
  generalize fcOk S = F at *
  have hFF : (F != F) = false := by simp
  clear hS hw
  go_enter Tryd.func5, Tryd.ntmps5
  go_wp2_with (with_reducible refine at_load 30 ?_; refine wpList_loadR _ rfl 30 _ rfl w.heap.size (ivs S) S0.out (by go_simp) 64 3 Tryd.underlying30 (size30L HL.out) ?_)
  refine (HTO.out _).mono ?_
  generalize w.alloc (.cells (ivs S).toArray 30) = w0 at *
  rintro e w1 ⟨rfl, hb1⟩
  have B1 := hid (B0.out.trans (hb1.mono B0.out.size))
  have S1 := hid (S0.out.below hb1 S0.out.lt)
  clear hb1 B0 S0
  go_wp2_with fail
  refine (HSP.out _).mono ?_
  rintro e w3 ⟨y0, rfl, ⟨ya, rfl, hy0⟩, hb3⟩
  obtain ⟨yo, yc, rfl⟩ := hy0.shape
  have B3' := hid (B1.out.trans (hb3.mono B1.out.size))
  have S3' := hid (S1.out.below hb3 S1.out.lt)
  have HT3 := hid (Two.new w3 (.int .i64 D) (.slice yo X.length yc) 28)
  have HB3 := hid ((Below.refl w3.heap.size w3).alloc (Nat.le_refl _) (.cells #[.int .i64 D, .slice yo X.length yc] 28))
  have B3 := hid (B3'.out.trans (HB3.out.mono B3'.out.size))
  have S3 := hid (S3'.out.below HB3.out S3'.out.lt)
  have HY3 := hid (show BV (w3.alloc (.cells #[.int .i64 D, .slice yo X.length yc] 28)) (.agg #[.int .i64 D, .slice yo X.length yc]) D X from BOwn.bv ⟨_, rfl, hy0.below HB3.out⟩)
  have h33 : w3.heap.size < (w3.alloc (.cells #[.int .i64 D, .slice yo X.length yc] 28)).heap.size := by simp
  clear hb3 hy0 HSP S1 S3' B1
  go_wp2_with (with_reducible refine at_load 30 ?_; refine wpList_loadR _ rfl 30 _ rfl w.heap.size (ivs S) S3.out (by go_simp) 64 3 Tryd.underlying30 (size30L HL.out) ?_)
  refine (HTO.out _).mono ?_
  generalize w3.alloc (.cells #[.int .i64 D, .slice yo X.length yc] 28) = wb at *
  rintro e w4 ⟨rfl, hb4⟩
  have Y4 := hid hb4
  have S4 := hid (S3.out.below hb4 S3.out.lt)
  have B4 := hid (B3.out.trans (hb4.mono B3.out.size))
  clear hb4 S3
  go_wp2_with fail
  refine (HIM.out _ B4.out).mono ?_
  rintro e w5 ⟨g0, rfl, ⟨ga, rfl, hg0⟩, hb5⟩
  obtain ⟨go, gc, rfl⟩ := hg0.shape
  have HT5 := hid (Two.new w5 (.int .i64 D) (.slice go X.length gc) 28)
  have HB5 := hid ((Below.refl w5.heap.size w5).alloc (Nat.le_refl _) (.cells #[.int .i64 D, .slice go X.length gc] 28))
  have hb5' : Below w4.heap.size w4 (w5.alloc (.cells #[.int .i64 D, .slice go X.length gc] 28)) := hb5.trans (HB5.out.mono hb5.size)
  have Y5 := hid (Y4.out.trans (hb5'.mono Y4.out.size))
  have HG5 := hid (hg0.below HB5.out)
  have HGB := hid (fun m (e : (Value.slice go X.length gc).ownBlock = some m) => hg0.2.lt m e)
  have S5 := hid (S4.out.below hb5' S4.out.lt)
  have T5 := hid (HT3.out.below Y5.out (by omega))
  have h45 : w4.heap.size ≤ w5.heap.size := hb5.size
  have h44 : wb.heap.size ≤ w4.heap.size := Y4.out.size
  have h55 : w5.heap.size < (w5.alloc (.cells #[.int .i64 D, .slice go X.length gc] 28)).heap.size := by simp
  have hSl := S4.out.lt
  clear hb5 hb5' hg0 S4 B4
  obtain ⟨q1, q2, q3, q4⟩ := T5.out.cells
  obtain ⟨q5, q6, q7, q8⟩ := HT5.out.cells
  have HX5 := hid (show BV (w5.alloc (.cells #[.int .i64 D, .slice go X.length gc] 28)) (.agg #[.int .i64 D, .slice go X.length gc]) D X from BOwn.bv ⟨_, rfl, HG5.out⟩)
  go_wp2_with fail
  refine (eqBlock_same _ _ D X _ (by omega) HX5.out (HY3.out.below Y5.out)).mono ?_
  generalize w5.alloc (.cells #[.int .i64 D, .slice go X.length gc] 28) = wc at *
  rintro e w6 ⟨rfl, hb6⟩
  have Y6 := hid (Y5.out.trans (hb6.mono Y5.out.size))
  have HG6 := hid (HG5.out.below hb6)
  have T6 := hid (T5.out.below hb6 T5.out.lt)
  have X6 := hid (HT5.out.below hb6 HT5.out.lt)
  have S6 := hid (S5.out.below hb6 S5.out.lt)
  have h46 : w4.heap.size ≤ w6.heap.size := by have := hb6.size; omega
  clear hb6 HG5 T5 HT5 HX5 S5 q1 q2 q3 q4 q5 q6 q7 q8
  obtain ⟨q5, q6, q7, q8⟩ := X6.out.cells
  go_wp2_with fail
  refine (markBlock2 w4.heap.size D _ X w6 (by omega) HG6.out).mono ?_
  rintro e w11 ⟨rfl, hg11, hq11, hb11⟩
  have Y11 := hid (Y6.out.trans (hb11.mono (by omega)))
  have HG11 := hid hg11
  have T11 := hid (T6.out.below hb11 (by omega))
  have S11 := hid (S6.out.below hb11 (by omega))
  have X11 := hid (show Two w11 w5.heap.size (.int .i64 D) (.slice go X.length gc) 28 from (hq11 w5.heap.size (fun e => by have := (HGB.out _ e).2; omega) X6.out.lt).trans X6.out)
  clear hb11 hg11 hq11 HG6 T6 X6 S6 q5 q6 q7 q8
  obtain ⟨q5, q6, q7, q8⟩ := X11.out.cells
  have hMM : (1 + (X.length : Int) != 1 + (X.length : Int)) = false := by simp
  have hM0 : ¬ (1 + (X.length : Int) < 0) := by omega
  go_wp2_with fail
  refine (heldBlock D _ X.length w11 (by omega) (markVw HG11.out)).mono ?_
  rintro e w12 ⟨rfl, hb12⟩
  have Y12 := hid (Y11.out.trans (hb12.mono Y11.out.size))
  have B12 := hid (B3.out.trans (Y12.out.mono B3.out.size))
  have HG12 := hid (HG11.out.below hb12)
  have T12 := hid (T11.out.below hb12 T11.out.lt)
  have X12 := hid (X11.out.below hb12 X11.out.lt)
  have S12 := hid (S11.out.below hb12 S11.out.lt)
  clear hb12 HG11 T11 X11 S11 q5 q6 q7 q8
  go_wp2_with (with_reducible refine at_load 30 ?_; refine wpList_loadR _ rfl 30 _ rfl w.heap.size (ivs S) S12.out (by go_simp) 64 3 Tryd.underlying30 (size30L HL.out) ?_)
  refine (HTO.out _).mono ?_
  rintro e w13 ⟨rfl, hb13⟩
  have Y13 := hid (Y12.out.trans (hb13.mono Y12.out.size))
  have B13 := hid (B12.out.trans (hb13.mono B12.out.size))
  have HG13 := hid (HG12.out.below hb13)
  have T13 := hid (T12.out.below hb13 T12.out.lt)
  have X13 := hid (X12.out.below hb13 X12.out.lt)
  clear hb13 HG12 T12 X12 S12
  go_wp2_with fail
  refine (HIM.out _ B13.out).mono ?_
  rintro e w14 ⟨h0, rfl, ⟨ha, rfl, hh0⟩, hb14⟩
  obtain ⟨ho, hc, rfl⟩ := hh0.shape
  have HT14 := hid (Two.new w14 (.int .i64 D) (.slice ho X.length hc) 28)
  have HB14 := hid ((Below.refl w14.heap.size w14).alloc (Nat.le_refl _) (.cells #[.int .i64 D, .slice ho X.length hc] 28))
  have hb14' : Below w13.heap.size w13 (w14.alloc (.cells #[.int .i64 D, .slice ho X.length hc] 28)) := hb14.trans (HB14.out.mono hb14.size)
  have Y14 := hid (Y13.out.trans (hb14'.mono Y13.out.size))
  have HG14 := hid (HG13.out.below hb14')
  have T14 := hid (T13.out.below hb14' T13.out.lt)
  have X14 := hid (X13.out.below hb14' X13.out.lt)
  have HX14 := hid (show BV (w14.alloc (.cells #[.int .i64 D, .slice ho X.length hc] 28)) (.agg #[.int .i64 D, .slice ho X.length hc]) D X from BOwn.bv ⟨_, rfl, hh0.below HB14.out⟩)
  clear hb14 hb14' hh0 HG13 T13 X13
  obtain ⟨q1, q2, q3, q4⟩ := T14.out.cells
  obtain ⟨q5, q6, q7, q8⟩ := HT14.out.cells
  go_wp2_with fail
  refine (eqBlock_same _ _ D X _ (by omega) HX14.out (HY3.out.below Y14.out)).mono ?_
  generalize w14.alloc (.cells #[.int .i64 D, .slice ho X.length hc] 28) = wd at *
  rintro e w15 ⟨rfl, hb15⟩
  have Y15 := hid (Y14.out.trans (hb15.mono Y14.out.size))
  have HG15 := hid (HG14.out.below hb15)
  have X15 := hid (X14.out.below hb15 X14.out.lt)
  clear hb15 HG14 T14 X14 HX14 q1 q2 q3 q4 q5 q6 q7 q8 HT14
  obtain ⟨q5, q6, q7, q8⟩ := X15.out.cells
  go_wp2_with fail
  refine (heldBlock D _ X.length w15 (by omega) (markVw HG15.out)).mono ?_
  rintro e w16 ⟨rfl, hb16⟩
  have Y16 := hid (Y15.out.trans (hb16.mono Y15.out.size))
  have B16 := hid (B3.out.trans (Y16.out.mono B3.out.size))
  clear hb16
  go_wp2
  go_ret
  exact ⟨rfl, B16.out⟩
end Go.Proofs.YtcodmkampihphaaDoor
