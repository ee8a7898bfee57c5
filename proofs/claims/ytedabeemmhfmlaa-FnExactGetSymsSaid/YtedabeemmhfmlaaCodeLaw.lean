/- The walk of the law FnExactCodeOf. -/
import Derived.Test.YtedabeemmhfmlaaCodeImpl
import Derived.Test.YtedabeemmhfmlaaCodeSpec
import Derived.Test.YtedabeemmhfmlaaMarks
import Derived.Test.YtedabeemmhfmlaaOkLaw
import Derived.Deep.CutRange
namespace Go.Proofs.Ytedabeemmhfmlaa
open Go.RowKit
set_option linter.unusedVariables false

theorem codeR_len (cs ss : List Int) (sym : Int) : (codeR cs ss sym).length ≤ 16 := by
  unfold codeR
  split
  · rename_i hr
    unfold codeL
    split
    · rw [bitsK, bl_length]
      rcases book_key cs ss hr sym.toNat with h | h
      · rw [h]; decide
      · exact h.1.2
    · simp
  · simp

/-- Two own slices of the same numbers. -/
theorem eq_own (w : World) (v v' : Value) (xs : List Int) (hl : xs.length ≤ 4194304) (h : ∃ ao cap, v = .slice ao xs.length cap ∧ View .i64 w ao xs.length xs) (h' : ∃ ao cap, v' = .slice ao xs.length cap ∧ View .i64 w ao xs.length xs) :
    Calls Try.prog 26 #[v, v'] w fun e w' => e = .returned (.bool true) ∧ Below w.heap.size w w' := by
  obtain ⟨ao, c, rfl, hv⟩ := h
  obtain ⟨bo, d, rfl, hv'⟩ := h'
  exact eqInts_same ao bo xs.length c d xs w hl hv hv'
theorem held_own (w : World) (v : Value) (n : Nat) (hn : n ≤ 1000000000) (h : ∃ ao cap, v = .slice ao (marks n).length cap ∧ View .i64 w ao (marks n).length (marks n)) :
    Calls Try.prog 30 #[v, .int .i64 1] w fun e w' => e = .returned (.int .i64 ((n : Int) + 1)) ∧ w = w' := by
  obtain ⟨ao, c, rfl, hv⟩ := h
  rw [marks_length] at hv ⊢
  exact held_any ao n c w hn hv
theorem view_below {w w' : World} {v : Value} {xs : List Int} (h : ∃ ao cap, v = .slice ao xs.length cap ∧ View .i64 w ao xs.length xs) (hb : Below w.heap.size w w') : ∃ ao cap, v = .slice ao xs.length cap ∧ View .i64 w' ao xs.length xs := by
  obtain ⟨ao, c, hv, hw⟩ := h
  exact ⟨ao, c, hv, hw.below (Nat.le_refl _) hb⟩

set_option maxRecDepth 100000 in
set_option maxHeartbeats 6400000 in
theorem law_codeOf (a0 a1 : Option Addr) (n0 n1 c0 c1 : Nat) (z0 z1 : List Int) (sym : Int) (w : World) (hr0 : IsRow .i64 w a0 n0 c0 z0) (hr1 : IsRow .i64 w a1 n1 c1 z1) :
    Calls Try.prog 5 #[.agg #[.slice a0 n0 c0, .slice a1 n1 c1], .int .i64 sym] w fun e w' => e = .returned (.bool true) ∧ Below w.heap.size w w' := by
  have HCV := hid (hr0.cv hr1)
  have hl0 := hr0.len.1
  have hl1 := hr1.len.1
  have e0 := hr0.view.1
  have e1 := hr1.view.1
  have HSZ := hid (fun q : World => szCodes a0 a1 n0 n1 c0 c1 q hl0 hl1)
  have HTA := hid (Two.new w (.slice a0 n0 c0) (.slice a1 n1 c1) 43)
  have HB := hid ((Below.refl w.heap.size w).alloc (Nat.le_refl _) (.cells #[.slice a0 n0 c0, .slice a1 n1 c1] 43))
  generalize z0.take n0 = cs at *
  generalize z1.take n1 = ss at *
  clear hr0 hr1
  subst e0
  subst e1
  go_enter Try.func5, Try.ntmps5
  go_wp2_with fail
  refine (HSZ.out _).mono ?_
  generalize w.alloc (.cells #[.slice a0 cs.length c0, .slice a1 ss.length c1] 43) = wa at *
  rintro e w1 ⟨r, rfl, hr, hb1⟩
  have B1 := hid (HB.out.trans (hb1.mono HB.out.size))
  have T1 := hid (HTA.out.below hb1 HTA.out.lt)
  clear hb1 HTA HSZ
  rcases hr with ⟨hr0, hsum, hr1⟩ | ⟨rfl, hbig⟩
  · have hd : decide (r < 0) = false := by simp; omega
    have k0 : cs.length ≤ 1048576 := by omega
    have k1 : ss.length ≤ 1048576 := by omega
    have HRL := hid (codeR_len cs ss sym)
    have HTO := hid (fun q (hq : Below w.heap.size w q) => toCodes (.agg #[.slice a0 cs.length c0, .slice a1 ss.length c1]) cs ss q k0 k1 (HCV.out.below hq))
    have HSP := hid (fun v q hq => spec_codeOf v cs ss sym q k0 k1 hq)
    have HIM := hid (fun v q hq => impl_codeOf v cs ss sym q k0 k1 hq)
    generalize codeR cs ss sym = R at *
    have hRl : R.length ≤ 4194304 := by have := HRL.out; omega
    obtain ⟨q1, q2, q3, q4⟩ := T1.out.cells
    have T1lt := T1.out.lt
    clear hl0 hl1
    go_wp2_with fail
    refine (HTO.out _ B1.out).mono ?_
    rintro e w2 ⟨v1, rfl, hown1, hb2⟩
    have B2 := hid (B1.out.trans (hb2.mono B1.out.size))
    have T2 := hid (T1.out.below hb2 T1lt)
    have HS := hid (HSP.out v1 w2 hown1.cv)
    clear hb2 hown1 q1 q2 q3 q4 T1 HSP
    go_wp2_with fail
    refine HS.out.mono ?_
    rintro e w3 ⟨y0, rfl, hy0, hb3⟩
    have B3 := hid (B2.out.trans (hb3.mono B2.out.size))
    have T3 := hid (T2.out.below hb3 T2.out.lt)
    have HY0 := hid hy0.view
    clear hb3 HS T2 hy0
    obtain ⟨q1, q2, q3, q4⟩ := T3.out.cells
    go_wp2_with fail
    refine (HTO.out _ B3.out).mono ?_
    rintro e w4 ⟨v2, rfl, hown2, hb4⟩
    have Y4 := hid hb4
    have HX4 := hid hown2
    obtain ⟨b0, d0, b1, d1, rfl, y1, y2⟩ := hown2.cv
    clear hb4 hown2 q1 q2 q3 q4 y1 y2
    have HB5 := hid ((Below.refl w4.heap.size w4).alloc (Nat.le_refl _) (.cells #[.slice b0 cs.length d0, .slice b1 ss.length d1] 26))
    have X5 := hid (Two.new w4 (.slice b0 cs.length d0) (.slice b1 ss.length d1) 26)
    have Y5 := hid (Y4.out.trans (HB5.out.mono Y4.out.size))
    have HX5 := hid (HX4.out.below HB5.out)
    have h45 : w4.heap.size ≤ (w4.alloc (.cells #[.slice b0 cs.length d0, .slice b1 ss.length d1] 26)).heap.size := HB5.out.size
    go_wp2_with fail
    refine (HIM.out _ _ HX5.out.cv).mono ?_
    generalize w4.alloc (.cells #[.slice b0 cs.length d0, .slice b1 ss.length d1] 26) = w5 at *
    rintro e w6 ⟨g0, rfl, hg0, hb6⟩
    have Y6 := hid (Y5.out.trans (hb6.mono Y5.out.size))
    have X6 := hid (X5.out.below hb6 X5.out.lt)
    have HX6 := hid (HX5.out.below hb6)
    have HG6 := hid hg0
    have h56 : w5.heap.size ≤ w6.heap.size := hb6.size
    clear hb6 hg0 X5 HX5 HB5
    go_wp2_with fail
    refine (eq_own w6 g0 y0 R hRl HG6.out.view (view_below HY0.out Y6.out)).mono ?_
    rintro e w7 ⟨rfl, hb7⟩
    have Y7 := hid (Y6.out.trans (hb7.mono Y6.out.size))
    have h67' : w6.heap.size ≤ w7.heap.size := hb7.size
    have X7 := hid (X6.out.below hb7 X6.out.lt)
    have HX7 := hid (HX6.out.below hb7)
    have HG7 := hid (HG6.out.below hb7)
    have T7 := hid (T3.out.below Y7.out T3.out.lt)
    have B7 := hid (B3.out.trans (Y7.out.mono B3.out.size))
    clear hb7 X6 HX6 HG6
    obtain ⟨q1, q2, q3, q4⟩ := T7.out.cells
    obtain ⟨q5, q6, q7, q8⟩ := X7.out.cells
    have X7lt := X7.out.lt
    have HTO7 := hid (fun q (hq : Below w7.heap.size w7 q) => HTO.out q (B7.out.trans (hq.mono B7.out.size)))
    go_wp2_with fail
    go_cut [35] from 31 to 73 (fun s wx => s = .bool false ∧ Below w7.heap.size w7 wx)
    case first =>
      go_region_with (first
        | (go_at_call 25; refine (HTO7.out _ ?_).mono ?_; · first | exact Below.refl _ _ | exact (Below.refl _ _).drew | exact (Below.refl _ _).drew.drew
           rintro e w8 ⟨v3, rfl, hown3, hb8⟩
           have hc8 : Below w7.heap.size w7 w8 := by first | exact hb8 | exact Below.trans (Below.refl _ _).drew hb8 | exact Below.trans (Below.refl _ _).drew.drew hb8
           obtain ⟨r1, r2, r3, r4⟩ := (X7.out.below hc8 X7lt).cells)
        | (go_at_call 27; refine (eqCodes_same _ v3 cs ss _ k0 k1 ?_ ?_).mono ?_; · first | exact HX7.out.cv.below hc8 | exact (HX7.out.cv.below hc8).below (Below.refl _ _).drew
           · first | exact hown3.cv | exact hown3.cv.below (Below.refl _ _).drew
           rintro e w9 ⟨rfl, hb9⟩))
      all_goals
        have hb10 := hc8.trans (hb9.mono hc8.size)
        go_wp2_with fail
        go_meet
        exact ⟨rfl, hb10⟩
    case rest =>
      obtain ⟨rfl, hb8⟩ := hcut
      generalize hwc : wc = w8 at *
      clear hwc
      have Y8 := hid (Y7.out.trans (hb8.mono Y7.out.size))
      have X8 := hid (X7.out.below hb8 X7lt)
      have HX8 := hid (HX7.out.below hb8)
      have HG8 := hid (HG7.out.below hb8)
      have h78 : w7.heap.size ≤ w8.heap.size := hb8.size
      clear q1 q2 q3 q4 q5 q6 q7 q8 hb8 HTO7 X7 HX7 HG7 T7
      obtain ⟨q5, q6, q7, q8⟩ := X8.out.cells
      have h34 : w3.heap.size ≤ w4.heap.size := Y4.out.size
      have hcond : ∃ va vb, Value.agg #[.slice b0 cs.length d0, .slice b1 ss.length d1] = .agg #[va, vb] ∧ Own w8 w3.heap.size 3 .i64 va cs ∧ (∃ mid, w3.heap.size ≤ mid ∧ Own w8 mid 3 .i64 vb ss ∧ ∀ a n c, va = .slice (some a) n c → a.block < mid) ∧ (∀ a n c, va = .slice (some a) n c → a.block < w5.heap.size) ∧ ∀ a n c, vb = .slice (some a) n c → a.block < w5.heap.size := by
        obtain ⟨va, vb, mid, e, hm, o1, o2, o3⟩ := HX8.out
        obtain ⟨va', vb', mid', e', hm', o1', o2', o3'⟩ := HX4.out
        obtain ⟨rfl, rfl⟩ : va = va' ∧ vb = vb' := by rw [e] at e'; simpa using e'
        refine ⟨va, vb, e, o1, ⟨mid, hm, o2, o3⟩, fun a n c h => ?_, fun a n c h => ?_⟩
        · subst h; have := o1'.ge.2; omega
        · subst h; have := o2'.ge.2; omega
      have HMK := hid (markCodes w3.heap.size w5.heap.size _ cs ss w8 k0 k1 (by omega) hcond)
      clear hcond
      go_wp2_with fail
      refine HMK.out.mono ?_
      rintro e w9 ⟨⟨r9, rfl, hr9⟩, hsp⟩
      have Y9 := hid (Y8.out.trans (hsp.below (by omega)))
      have HG9 := hid (hsp.own HG8.out (Nat.le_refl _))
      have hd9 : decide (r9 < 0) = false := by simp; omega
      clear hsp HMK q5 q6 q7 q8 HG8 X8 HX8
      go_wp2_with fail
      refine (eq_own w9 g0 y0 R hRl HG9.out.view (view_below HY0.out Y9.out)).mono ?_
      rintro e w10 ⟨rfl, hb10⟩
      have Y10 := hid (Y9.out.trans (hb10.mono Y9.out.size))
      have HG10 := hid (HG9.out.below hb10)
      clear hb10 HG9
      go_wp2_with fail
      refine (mark_any w5.heap.size g0 R w10 (by omega) HG10.out).mono ?_
      rintro e w11 ⟨rfl, hg11, hb11⟩
      have Y11 := hid (Y10.out.trans (hb11.mono Y5.out.size))
      have HG11 := hid hg11
      clear hb11 hg11 HG10
      go_wp2_with fail
      refine (held_own w11 g0 R.length (by omega) HG11.out.view).mono ?_
      rintro e w12 ⟨rfl, rfl⟩
      have T11 := hid (T3.out.below Y11.out T3.out.lt)
      have B11 := hid (B3.out.trans (Y11.out.mono B3.out.size))
      obtain ⟨q1, q2, q3, q4⟩ := T11.out.cells
      go_wp2_with fail
      refine (HTO.out _ B11.out).mono ?_
      rintro e w12 ⟨v4, rfl, hown4, hb12⟩
      have Y12 := hid (Y11.out.trans (hb12.mono Y11.out.size))
      have HG12 := hid (HG11.out.below hb12)
      have HI4 := hid (HIM.out v4 w12 hown4.cv)
      clear hb12 hown4 HG11 q1 q2 q3 q4 T11
      go_wp2_with fail
      refine HI4.out.mono ?_
      rintro e w13 ⟨g4, rfl, hg4, hb13⟩
      have Y13 := hid (Y12.out.trans (hb13.mono Y12.out.size))
      have HG13 := hid (HG12.out.below hb13)
      have HG4 := hid hg4
      clear hb13 hg4 HG12 HI4
      go_wp2_with fail
      refine (eq_own w13 g4 y0 R hRl HG4.out.view (view_below HY0.out Y13.out)).mono ?_
      rintro e w14 ⟨rfl, hb14⟩
      have Y14 := hid (Y13.out.trans (hb14.mono Y13.out.size))
      have HG14 := hid (HG13.out.below hb14)
      clear hb14 HG13 HG4
      go_wp2_with fail
      refine (held_own w14 g0 R.length (by omega) HG14.out.view).mono ?_
      rintro e w15 ⟨rfl, rfl⟩
      have B14 := hid (B3.out.trans (Y14.out.mono B3.out.size))
      go_wp2
      go_ret
      exact ⟨rfl, B14.out⟩
  · obtain ⟨q1, q2, q3, q4⟩ := T1.out.cells
    go_wp2
    go_ret
    exact ⟨rfl, B1.out⟩
end Go.Proofs.Ytedabeemmhfmlaa
