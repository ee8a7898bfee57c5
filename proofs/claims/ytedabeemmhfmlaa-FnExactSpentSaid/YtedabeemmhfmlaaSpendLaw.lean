/- The walk of the law FnExactSpent. -/
import Derived.Test.YtedabeemmhfmlaaSpend
import Derived.Test.YtedabeemmhfmlaaOkLaw
import Derived.BigQuiet
import Derived.Deep.CutRange
namespace Go.Proofs.Ytedabeemmhfmlaa
open Go.RowKit Go.Maps
set_option linter.unusedVariables false

set_option maxRecDepth 100000 in
set_option maxHeartbeats 3200000 in
theorem law_spent (a0 a1 : Option Addr) (n0 n1 c0 c1 : Nat) (z0 z1 : List Int) (lo : Option Addr) (n lc : Nat) (z2 : List Int) (w : World) (hr0 : IsRow .i64 w a0 n0 c0 z0) (hr1 : IsRow .i64 w a1 n1 c1 z1) (hr2 : IsRow .i64 w lo n lc z2) :
    Calls Try.prog 8 #[.agg #[.slice a0 n0 c0, .slice a1 n1 c1], .slice lo n lc] w fun e w' => e = .returned (.bool true) ∧ Below w.heap.size w w' := by
  have HCV := hid (hr0.cv hr1)
  have hl0 := hr0.len.1
  have hl1 := hr1.len.1
  have hl2 := hr2.len.1
  have e0 := hr0.view.1
  have e1 := hr1.view.1
  have hv2 := hr2.view
  have e2 := hv2.1
  have HSZ := hid (fun q : World => szCodes a0 a1 n0 n1 c0 c1 q hl0 hl1)
  have HTA := hid (Two.new w (.slice a0 n0 c0) (.slice a1 n1 c1) 43)
  have HB := hid ((Below.refl w.heap.size w).alloc (Nat.le_refl _) (.cells #[.slice a0 n0 c0, .slice a1 n1 c1] 43))
  generalize z0.take n0 = cs at *
  generalize z1.take n1 = ss at *
  generalize z2.take n = xs at *
  clear hr0 hr1 hr2
  subst e0
  subst e1
  subst e2
  have HVL := hid hv2
  clear hv2
  by_cases hbig : (1048576 : Int) < (xs.length : Int)
  · go_enter Try.func8, Try.ntmps8
    go_wp2
    go_ret
    exact ⟨rfl, HB.out⟩
  · have k2 : xs.length ≤ 1048576 := by omega
    go_enter Try.func8, Try.ntmps8
    go_wp2_with fail
    refine (HSZ.out _).mono ?_
    generalize w.alloc (.cells #[.slice a0 cs.length c0, .slice a1 ss.length c1] 43) = wa at *
    rintro e w1 ⟨r, rfl, hr, hb1⟩
    have B1 := hid (HB.out.trans (hb1.mono HB.out.size))
    have T1 := hid (HTA.out.below hb1 HTA.out.lt)
    clear hb1 HTA HSZ
    rcases hr with ⟨hr0, hsum, hr1⟩ | ⟨rfl, hbig2⟩
    · have hd : decide (r < 0) = false := by simp; omega
      have k0 : cs.length ≤ 1048576 := by omega
      have k1 : ss.length ≤ 1048576 := by omega
      have HTO := hid (fun q (hq : Below w.heap.size w q) => toCodes (.agg #[.slice a0 cs.length c0, .slice a1 ss.length c1]) cs ss q k0 k1 (HCV.out.below hq))
      have HTL := hid (fun q (hq : Below w.heap.size w q) => toInts lo xs.length lc xs q k2 (HVL.out.below (Nat.le_refl _) hq))
      obtain ⟨q1, q2, q3, q4⟩ := T1.out.cells
      have T1lt := T1.out.lt
      clear hl0 hl1 hl2
      go_wp2_with fail
      refine (HTO.out _ B1.out).mono ?_
      rintro e w2 ⟨v1, rfl, hown1, hb2⟩
      have B2 := hid (B1.out.trans (hb2.mono B1.out.size))
      have T2 := hid (T1.out.below hb2 T1lt)
      have HC1 := hid hown1.cv
      clear hb2 hown1 q1 q2 q3 q4 T1
      go_wp2_with fail
      refine (HTL.out _ B2.out).mono ?_
      rintro e w2b ⟨l1, rfl, hl1, hb2b⟩
      obtain ⟨la, lb, rfl, hlv⟩ := hl1.view
      have B2b := hid (B2.out.trans (hb2b.mono B2.out.size))
      have T2b := hid (T2.out.below hb2b T2.out.lt)
      have HS := hid (spec_spent v1 cs ss xs la lb w2b k0 k1 k2 (HC1.out.below hb2b) hlv)
      clear hb2b hl1 T2 HC1 hlv
      go_wp2_with fail
      refine HS.out.mono ?_
      rintro e w3 ⟨rfl, hb3⟩
      have B3 := hid (B2b.out.trans (hb3.mono B2b.out.size))
      have T3 := hid (T2b.out.below hb3 T2b.out.lt)
      clear hb3 HS T2b
      obtain ⟨q1, q2, q3, q4⟩ := T3.out.cells
      go_wp2_with fail
      refine (HTO.out _ B3.out).mono ?_
      rintro e w4 ⟨v2, rfl, hown2, hb4⟩
      have Y4 := hid hb4
      have HX4 := hid hown2.cv
      obtain ⟨b0, d0, b1, d1, rfl, y1, y2⟩ := hown2.cv
      clear hb4 hown2 q1 q2 q3 q4 y1 y2
      have HB5 := hid ((Below.refl w4.heap.size w4).alloc (Nat.le_refl _) (.cells #[.slice b0 cs.length d0, .slice b1 ss.length d1] 26))
      have X5 := hid (Two.new w4 (.slice b0 cs.length d0) (.slice b1 ss.length d1) 26)
      have Y5 := hid (Y4.out.trans (HB5.out.mono Y4.out.size))
      have B5 := hid (B3.out.trans (Y5.out.mono B3.out.size))
      have HX5 := hid (HX4.out.below HB5.out)
      go_wp2_with fail
      refine (HTL.out _ B5.out).mono ?_
      generalize w4.alloc (.cells #[.slice b0 cs.length d0, .slice b1 ss.length d1] 26) = w5 at *
      rintro e w6 ⟨x1, rfl, hx1, hb6⟩
      obtain ⟨xa, xb, rfl, hxv⟩ := hx1.view
      have Y6 := hid (Y5.out.trans (hb6.mono Y5.out.size))
      have X6 := hid (X5.out.below hb6 X5.out.lt)
      have HX6 := hid (HX5.out.below hb6)
      have HL6 := hid hxv
      clear hb6 hx1 hxv X5 HX5 HB5
      obtain ⟨q5, q6, q7, q8⟩ := X6.out.cells
      go_wp2_with fail
      refine (impl_spent _ cs ss xs xa xb w6 k0 k1 k2 HX6.out HL6.out).mono ?_
      rintro e w7 ⟨rfl, hb7⟩
      have Y7 := hid (Y6.out.trans (hb7.mono Y6.out.size))
      have X7 := hid (X6.out.below hb7 X6.out.lt)
      have HX7 := hid (HX6.out.below hb7)
      have HL7 := hid (HL6.out.below (Nat.le_refl _) hb7)
      have T7 := hid (T3.out.below Y7.out T3.out.lt)
      have B7 := hid (B3.out.trans (Y7.out.mono B3.out.size))
      clear hb7 X6 HX6 HL6 q5 q6 q7 q8 T3 Y4 Y5 Y6 B5
      generalize spentR cs ss xs = S at *
      have h00 : (S != S) = false := by simp
      obtain ⟨q1, q2, q3, q4⟩ := T7.out.cells
      obtain ⟨q5, q6, q7, q8⟩ := X7.out.cells
      have X7lt := X7.out.lt
      have HTO7 := hid (fun q (hq : Below w7.heap.size w7 q) => HTO.out q (B7.out.trans (hq.mono B7.out.size)))
      go_wp2_with fail
      go_cut [37] from 33 to 42 (fun s wx => s = .bool false ∧ Below w7.heap.size w7 wx)
      case first =>
        go_region_with (first
          | (go_at_call 25; refine (HTO7.out _ ?_).mono ?_; · first | exact Below.refl _ _ | exact (Below.refl _ _).drew | exact (Below.refl _ _).drew.drew
             rintro e w9 ⟨v3, rfl, hown3, hb9⟩
             have hc9 : Below w7.heap.size w7 w9 := by first | exact hb9 | exact Below.trans (Below.refl _ _).drew hb9 | exact Below.trans (Below.refl _ _).drew.drew hb9
             obtain ⟨r1, r2, r3, r4⟩ := (X7.out.below hc9 X7lt).cells)
          | (go_at_call 27; refine (eqCodes_same _ v3 cs ss _ k0 k1 ?_ ?_).mono ?_; · first | exact HX7.out.below hc9 | exact (HX7.out.below hc9).below (Below.refl _ _).drew
             · first | exact hown3.cv | exact hown3.cv.below (Below.refl _ _).drew
             rintro e w10 ⟨rfl, hb10⟩))
        all_goals
          have hb11 := hc9.trans (hb10.mono hc9.size)
          go_wp2_with fail
          go_meet
          exact ⟨rfl, hb11⟩
      case rest =>
        obtain ⟨rfl, hb9⟩ := hcut
        generalize hwc : wc = w9 at *
        clear hwc
        have HL9 := hid (HL7.out.below (Nat.le_refl _) hb9)
        have B9 := hid (B7.out.trans (hb9.mono B7.out.size))
        clear q1 q2 q3 q4 q5 q6 q7 q8 hb9 HTO7 X7 HX7 T7 HL7
        go_wp2_with fail
        refine (HTL.out _ B9.out).mono ?_
        rintro e w10 ⟨l3, rfl, hl3, hb10⟩
        obtain ⟨ya, yb, rfl, hyv⟩ := hl3.view
        have HL10 := hid (HL9.out.below (Nat.le_refl _) hb10)
        have HY10 := hid hyv
        have B10 := hid (B9.out.trans (hb10.mono B9.out.size))
        clear hb10 hl3 hyv
        go_wp2_with fail
        refine (eqInts_same _ _ xs.length _ _ xs w10 (by omega) HL10.out HY10.out).mono ?_
        rintro e w11 ⟨rfl, hb11⟩
        go_wp2
        go_ret
        exact ⟨rfl, B10.out.trans (hb11.mono B10.out.size)⟩
    · obtain ⟨q1, q2, q3, q4⟩ := T1.out.cells
      go_wp2
      go_ret
      exact ⟨rfl, B1.out⟩
end Go.Proofs.Ytedabeemmhfmlaa
