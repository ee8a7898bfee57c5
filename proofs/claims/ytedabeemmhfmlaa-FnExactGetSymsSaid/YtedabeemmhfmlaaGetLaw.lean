/- The walk of the law FnExactGetSyms. -/
import Derived.Test.YtedabeemmhfmlaaGetSpec
import Derived.Test.YtedabeemmhfmlaaCodeLaw
namespace Go.Proofs.Ytedabeemmhfmlaa
open Go.RowKit Go.Maps
set_option linter.unusedVariables false

/-- A slice that reads as xs. -/
def Vw (w : World) (v : Value) (xs : List Int) : Prop := ∃ ao cap, v = .slice ao xs.length cap ∧ View .i64 w ao xs.length xs

theorem toInts_v (v : Value) (xs : List Int) (w : World) (hl : xs.length ≤ 1048576) (h : Vw w v xs) :
    Calls Try.prog 32 #[v] w fun e w' => ∃ v', e = .returned v' ∧ Own w' w.heap.size 3 .i64 v' xs ∧ Below w.heap.size w w' := by
  obtain ⟨ao, c, rfl, hv⟩ := h
  exact toInts ao xs.length c xs w hl hv
theorem impl_get_v (v l : Value) (cs ss xs : List Int) (n : Int) (R : List Int) (F : Bool) (hR : GetR cs ss xs n R F) (w : World) (h0 : cs.length ≤ 1048576) (h1 : ss.length ≤ 1048576) (h2 : xs.length ≤ 1048576) (hv : CV w v cs ss) (hl : Vw w l xs) :
    Calls Try.prog 17 #[v, l, .int .i64 n] w fun e w' => ∃ v', e = .returned (.tuple #[v', .bool F]) ∧ Own w' w.heap.size 3 .i64 v' R ∧ Below w.heap.size w w' := by
  obtain ⟨ao, c, rfl, hx⟩ := hl
  refine (impl_getSyms v cs ss xs ao c n w h0 h1 h2 hv hx).mono ?_
  rintro e w' ⟨v', R', F', rfl, hr, ho, hb⟩
  obtain ⟨rfl, rfl⟩ := hR.one hr
  exact ⟨v', rfl, ho, hb⟩
theorem spec_get_v (v l : Value) (cs ss xs : List Int) (n : Int) (R : List Int) (F : Bool) (hR : GetR cs ss xs n R F) (w : World) (h0 : cs.length ≤ 1048576) (h1 : ss.length ≤ 1048576) (h2 : xs.length ≤ 1048576) (hv : CV w v cs ss) (hl : Vw w l xs) :
    Calls Try.prog 33 #[v, l, .int .i64 n] w fun e w' => ∃ v', e = .returned (.tuple #[v', .bool F]) ∧ Own w' w.heap.size 3 .i64 v' R ∧ Below w.heap.size w w' := by
  obtain ⟨ao, c, rfl, hx⟩ := hl
  refine (spec_getSyms v cs ss xs ao c n w h0 h1 h2 hv hx).mono ?_
  rintro e w' ⟨v', R', F', rfl, hr, ho, hb⟩
  obtain ⟨rfl, rfl⟩ := hR.one hr
  exact ⟨v', rfl, ho, hb⟩

set_option maxRecDepth 100000 in
set_option maxHeartbeats 12800000 in
theorem law_getSyms (a0 a1 : Option Addr) (n0 n1 c0 c1 : Nat) (z0 z1 : List Int) (lo : Option Addr) (n lc : Nat) (z2 : List Int) (nn : Int) (w : World) (hr0 : IsRow .i64 w a0 n0 c0 z0) (hr1 : IsRow .i64 w a1 n1 c1 z1) (hr2 : IsRow .i64 w lo n lc z2) :
    Calls Try.prog 7 #[.agg #[.slice a0 n0 c0, .slice a1 n1 c1], .slice lo n lc, .int .i64 nn] w fun e w' => e = .returned (.bool true) ∧ Below w.heap.size w w' := by
  have HCV := hid (hr0.cv hr1)
  have hl0 := hr0.len.1
  have hl1 := hr1.len.1
  have hl2 := hr2.len.1
  have e0 := hr0.view.1
  have e1 := hr1.view.1
  have hv2 := hr2.view
  have e2 := hv2.1
  have HSZ := hid (fun q : World => szCodes a0 a1 n0 n1 c0 c1 q hl0 hl1)
  have HTA := hid (Two.new w (.slice a0 n0 c0) (.slice a1 n1 c1) 43)
  have HB := hid ((Below.refl w.heap.size w).alloc (Nat.le_refl _) (.cells #[.slice a0 n0 c0, .slice a1 n1 c1] 43))
  generalize z0.take n0 = cs at *
  generalize z1.take n1 = ss at *
  generalize z2.take n = xs at *
  clear hr0 hr1 hr2
  subst e0
  subst e1
  subst e2
  have HVL := hid (show Vw w (.slice lo xs.length lc) xs from ⟨lo, lc, rfl, hv2⟩)
  clear hv2
  by_cases hbig : (1048576 : Int) < (xs.length : Int)
  · go_enter Try.func7, Try.ntmps7
    go_wp2
    go_ret
    exact ⟨rfl, HB.out⟩
  · have k2 : xs.length ≤ 1048576 := by omega
    go_enter Try.func7, Try.ntmps7
    go_wp2_with fail
    refine (HSZ.out _).mono ?_
    generalize w.alloc (.cells #[.slice a0 cs.length c0, .slice a1 ss.length c1] 43) = wa at *
    rintro e w1 ⟨r, rfl, hr, hb1⟩
    have B1 := hid (HB.out.trans (hb1.mono HB.out.size))
    have T1 := hid (HTA.out.below hb1 HTA.out.lt)
    clear hb1 HTA HSZ
    rcases hr with ⟨hr0, hsum, hr1⟩ | ⟨rfl, hbig2⟩
    · have hd : decide (r < 0) = false := by simp; omega
      have k0 : cs.length ≤ 1048576 := by omega
      have k1 : ss.length ≤ 1048576 := by omega
      obtain ⟨R, F, hRF⟩ := GetR.total cs ss xs nn
      have HRL := hid hRF.len
      have HTO := hid (fun q (hq : Below w.heap.size w q) => toCodes (.agg #[.slice a0 cs.length c0, .slice a1 ss.length c1]) cs ss q k0 k1 (HCV.out.below hq))
      have HTL := hid (fun q (hq : Below w.heap.size w q) => toInts_v (.slice lo xs.length lc) xs q k2 (view_below HVL.out hq))
      have HSP := hid (fun v l q hv hl => spec_get_v v l cs ss xs nn R F hRF q k0 k1 k2 hv hl)
      have HIM := hid (fun v l q hv hl => impl_get_v v l cs ss xs nn R F hRF q k0 k1 k2 hv hl)
      clear hRF
      have hRl : R.length ≤ 4194304 := by have := HRL.out; omega
      have hFF : (F != F) = false := by simp
      obtain ⟨q1, q2, q3, q4⟩ := T1.out.cells
      have T1lt := T1.out.lt
      clear hl0 hl1 hl2 HRL
      go_wp2_with fail
      refine (HTO.out _ B1.out).mono ?_
      rintro e w2 ⟨v1, rfl, hown1, hb2⟩
      have B2 := hid (B1.out.trans (hb2.mono B1.out.size))
      have T2 := hid (T1.out.below hb2 T1lt)
      have HC1 := hid hown1.cv
      clear hb2 hown1 q1 q2 q3 q4 T1
      go_wp2_with fail
      refine (HTL.out _ B2.out).mono ?_
      rintro e w2b ⟨l1, rfl, hl1, hb2b⟩
      have B2b := hid (B2.out.trans (hb2b.mono B2.out.size))
      have T2b := hid (T2.out.below hb2b T2.out.lt)
      have HS := hid (HSP.out v1 l1 w2b (HC1.out.below hb2b) hl1.view)
      clear hb2b hl1 T2 HC1 HSP
      go_wp2_with fail
      refine HS.out.mono ?_
      rintro e w3 ⟨y0, rfl, hy0, hb3⟩
      have B3 := hid (B2b.out.trans (hb3.mono B2b.out.size))
      have T3 := hid (T2b.out.below hb3 T2b.out.lt)
      have HY0 := hid hy0.view
      clear hb3 HS T2b hy0
      obtain ⟨q1, q2, q3, q4⟩ := T3.out.cells
      go_wp2_with fail
      refine (HTO.out _ B3.out).mono ?_
      rintro e w4 ⟨v2, rfl, hown2, hb4⟩
      have Y4 := hid hb4
      have HX4 := hid hown2
      obtain ⟨b0, d0, b1, d1, rfl, y1, y2⟩ := hown2.cv
      clear hb4 hown2 q1 q2 q3 q4 y1 y2
      have HB5 := hid ((Below.refl w4.heap.size w4).alloc (Nat.le_refl _) (.cells #[.slice b0 cs.length d0, .slice b1 ss.length d1] 26))
      have X5 := hid (Two.new w4 (.slice b0 cs.length d0) (.slice b1 ss.length d1) 26)
      have Y5 := hid (Y4.out.trans (HB5.out.mono Y4.out.size))
      have B5 := hid (B3.out.trans (Y5.out.mono B3.out.size))
      have HX5 := hid (HX4.out.below HB5.out)
      have h45 : w4.heap.size ≤ (w4.alloc (.cells #[.slice b0 cs.length d0, .slice b1 ss.length d1] 26)).heap.size := HB5.out.size
      go_wp2_with fail
      refine (HTL.out _ B5.out).mono ?_
      generalize w4.alloc (.cells #[.slice b0 cs.length d0, .slice b1 ss.length d1] 26) = w5 at *
      rintro e w6 ⟨x1, rfl, hx1, hb6⟩
      have Y6 := hid (Y5.out.trans (hb6.mono Y5.out.size))
      have X6 := hid (X5.out.below hb6 X5.out.lt)
      have HX6 := hid (HX5.out.below hb6)
      have HL6 := hid hx1
      have h56 : w5.heap.size ≤ w6.heap.size := hb6.size
      clear hb6 hx1 X5 HX5 HB5
      obtain ⟨q5, q6, q7, q8⟩ := X6.out.cells
      go_wp2_with fail
      refine (HIM.out _ x1 w6 HX6.out.cv HL6.out.view).mono ?_
      rintro e w7 ⟨g0, rfl, hg0, hb7⟩
      have Y7 := hid (Y6.out.trans (hb7.mono Y6.out.size))
      have X7 := hid (X6.out.below hb7 X6.out.lt)
      have HX7 := hid (HX6.out.below hb7)
      have HL7 := hid (HL6.out.below hb7)
      have HG7 := hid hg0
      have h67 : w6.heap.size ≤ w7.heap.size := hb7.size
      clear hb7 hg0 X6 HX6 q5 q6 q7 q8
      go_wp2_with fail
      refine (eq_own w7 g0 y0 R hRl HG7.out.view (view_below HY0.out Y7.out)).mono ?_
      rintro e w8 ⟨rfl, hb8⟩
      have Y8 := hid (Y7.out.trans (hb8.mono Y7.out.size))
      have X8 := hid (X7.out.below hb8 X7.out.lt)
      have HX8 := hid (HX7.out.below hb8)
      have HL8 := hid (HL7.out.below hb8)
      have HG8 := hid (HG7.out.below hb8)
      have T8 := hid (T3.out.below Y8.out T3.out.lt)
      have B8 := hid (B3.out.trans (Y8.out.mono B3.out.size))
      have h78 : w7.heap.size ≤ w8.heap.size := hb8.size
      clear hb8 X7 HX7 HG7 HL7
      obtain ⟨q1, q2, q3, q4⟩ := T8.out.cells
      obtain ⟨q5, q6, q7, q8⟩ := X8.out.cells
      have X8lt := X8.out.lt
      have HTO8 := hid (fun q (hq : Below w8.heap.size w8 q) => HTO.out q (B8.out.trans (hq.mono B8.out.size)))
      go_wp2_with fail
      go_cut [60] from 56 to 121 (fun s wx => s = .bool false ∧ Below w8.heap.size w8 wx)
      case first =>
        go_region_with (first
          | (go_at_call 25; refine (HTO8.out _ ?_).mono ?_; · first | exact Below.refl _ _ | exact (Below.refl _ _).drew | exact (Below.refl _ _).drew.drew
             rintro e w9 ⟨v3, rfl, hown3, hb9⟩
             have hc9 : Below w8.heap.size w8 w9 := by first | exact hb9 | exact Below.trans (Below.refl _ _).drew hb9 | exact Below.trans (Below.refl _ _).drew.drew hb9
             obtain ⟨r1, r2, r3, r4⟩ := (X8.out.below hc9 X8lt).cells)
          | (go_at_call 27; refine (eqCodes_same _ v3 cs ss _ k0 k1 ?_ ?_).mono ?_; · first | exact HX8.out.cv.below hc9 | exact (HX8.out.cv.below hc9).below (Below.refl _ _).drew
             · first | exact hown3.cv | exact hown3.cv.below (Below.refl _ _).drew
             rintro e w10 ⟨rfl, hb10⟩))
        all_goals
          have hb11 := hc9.trans (hb10.mono hc9.size)
          go_wp2_with fail
          go_meet
          exact ⟨rfl, hb11⟩
      case rest =>
        obtain ⟨rfl, hb9⟩ := hcut
        generalize hwc : wc = w9 at *
        clear hwc
        have Y9 := hid (Y8.out.trans (hb9.mono Y8.out.size))
        have X9 := hid (X8.out.below hb9 X8lt)
        have HX9 := hid (HX8.out.below hb9)
        have HL9 := hid (HL8.out.below hb9)
        have HG9 := hid (HG8.out.below hb9)
        have B9 := hid (B3.out.trans (Y9.out.mono B3.out.size))
        have h89 : w8.heap.size ≤ w9.heap.size := hb9.size
        clear q1 q2 q3 q4 q5 q6 q7 q8 hb9 HTO8 X8 HX8 HG8 T8 HL8
        go_wp2_with fail
        refine (HTL.out _ B9.out).mono ?_
        rintro e w10 ⟨l3, rfl, hl3, hb10⟩
        have Y10 := hid (Y9.out.trans (hb10.mono Y9.out.size))
        have X10 := hid (X9.out.below hb10 X9.out.lt)
        have HX10 := hid (HX9.out.below hb10)
        have HL10 := hid (HL9.out.below hb10)
        have HG10 := hid (HG9.out.below hb10)
        have HL3 := hid hl3
        have h910 : w9.heap.size ≤ w10.heap.size := hb10.size
        clear hb10 hl3 X9 HX9 HL9 HG9
        go_wp2_with fail
        refine (eq_own w10 x1 l3 xs (by omega) HL10.out.view HL3.out.view).mono ?_
        rintro e w11 ⟨rfl, hb11⟩
        have Y11 := hid (Y10.out.trans (hb11.mono Y10.out.size))
        have X11 := hid (X10.out.below hb11 X10.out.lt)
        have HX11 := hid (HX10.out.below hb11)
        have HL11 := hid (HL10.out.below hb11)
        have HG11 := hid (HG10.out.below hb11)
        have h1011 : w10.heap.size ≤ w11.heap.size := hb11.size
        clear hb11 X10 HX10 HL10 HG10 HL3
        obtain ⟨q5, q6, q7, q8⟩ := X11.out.cells
        have h34 : w3.heap.size ≤ w4.heap.size := Y4.out.size
        have hcond : ∃ va vb, Value.agg #[.slice b0 cs.length d0, .slice b1 ss.length d1] = .agg #[va, vb] ∧ Own w11 w3.heap.size 3 .i64 va cs ∧ (∃ mid, w3.heap.size ≤ mid ∧ Own w11 mid 3 .i64 vb ss ∧ ∀ a n c, va = .slice (some a) n c → a.block < mid) ∧ (∀ a n c, va = .slice (some a) n c → a.block < w5.heap.size) ∧ ∀ a n c, vb = .slice (some a) n c → a.block < w5.heap.size := by
          obtain ⟨va, vb, mid, e, hm, o1, o2, o3⟩ := HX11.out
          obtain ⟨va', vb', mid', e', hm', o1', o2', o3'⟩ := HX4.out
          obtain ⟨rfl, rfl⟩ : va = va' ∧ vb = vb' := by rw [e] at e'; simpa using e'
          refine ⟨va, vb, e, o1, ⟨mid, hm, o2, o3⟩, fun a n c h => ?_, fun a n c h => ?_⟩
          · subst h; have := o1'.ge.2; omega
          · subst h; have := o2'.ge.2; omega
        have HMK := hid (markCodes w3.heap.size w5.heap.size _ cs ss w11 k0 k1 (by omega) hcond)
        clear hcond
        go_wp2_with fail
        refine HMK.out.mono ?_
        rintro e w12 ⟨⟨r9, rfl, hr9, hr9b⟩, hsp⟩
        have Y12 := hid (Y11.out.trans (hsp.below (by omega)))
        have HG12 := hid (hsp.own HG11.out (by omega))
        have HL12 := hid (hsp.own HL11.out (Nat.le_refl _))
        have hxm : ∀ (a : Addr) n c, x1 = .slice (some a) n c → a.block < w6.heap.size := fun a n c h => by
          have o := HL6.out
          subst h
          exact o.ge.2
        have HMX := hid (mark_from w5.heap.size w6.heap.size x1 xs r9 w12 (by omega) hr9 (by omega) hxm HL12.out)
        clear hsp HMK q5 q6 q7 q8 HG11 X11 HX11 HL11 HL12 hxm
        go_wp2_with fail
        refine HMX.out.mono ?_
        rintro e w13 ⟨rfl, hsp2, _⟩
        have h35 : w3.heap.size ≤ w5.heap.size := by omega
        have hs12 : w5.heap.size ≤ w12.heap.size := Nat.le_trans h56 HG12.out.1
        have Y13 := hid (Y12.out.trans ((hsp2.below hs12).mono h35))
        have HG13 := hid (hsp2.own HG12.out (Nat.le_refl _))
        have hd9 : decide (r9 + (xs.length : Int) < 0) = false := by simp; omega
        clear hsp2 HMX HG12
        go_wp2_with fail
        refine (eq_own w13 g0 y0 R hRl HG13.out.view (view_below HY0.out Y13.out)).mono ?_
        rintro e w14 ⟨rfl, hb14⟩
        have Y14 := hid (Y13.out.trans (hb14.mono Y13.out.size))
        have HG14 := hid (HG13.out.below hb14)
        clear hb14 HG13
        go_wp2_with fail
        refine (mark_any w6.heap.size g0 R w14 (by omega) HG14.out).mono ?_
        rintro e w15 ⟨rfl, hg15, hb15⟩
        have Y15 := hid (Y14.out.trans (hb15.mono (Nat.le_trans h35 h56)))
        have HG15 := hid hg15
        clear hb15 hg15 HG14
        go_wp2_with fail
        refine (held_own w15 g0 R.length (by omega) HG15.out.view).mono ?_
        rintro e w16 ⟨rfl, rfl⟩
        have T15 := hid (T3.out.below Y15.out T3.out.lt)
        have B15 := hid (B3.out.trans (Y15.out.mono B3.out.size))
        obtain ⟨q1, q2, q3, q4⟩ := T15.out.cells
        go_wp2_with fail
        refine (HTO.out _ B15.out).mono ?_
        rintro e w16 ⟨v4, rfl, hown4, hb16⟩
        have Y16 := hid (Y15.out.trans (hb16.mono Y15.out.size))
        have HG16 := hid (HG15.out.below hb16)
        have B16 := hid (B15.out.trans (hb16.mono B15.out.size))
        have HC4 := hid hown4.cv
        clear hb16 hown4 HG15 q1 q2 q3 q4 T15
        go_wp2_with fail
        refine (HTL.out _ B16.out).mono ?_
        rintro e w17 ⟨l4, rfl, hl4, hb17⟩
        have Y17 := hid (Y16.out.trans (hb17.mono Y16.out.size))
        have HG17 := hid (HG16.out.below hb17)
        have HI4 := hid (HIM.out v4 l4 w17 (HC4.out.below hb17) hl4.view)
        clear hb17 hl4 HG16 HC4
        go_wp2_with fail
        refine HI4.out.mono ?_
        rintro e w18 ⟨g4, rfl, hg4, hb18⟩
        have Y18 := hid (Y17.out.trans (hb18.mono Y17.out.size))
        have HG18 := hid (HG17.out.below hb18)
        have HG4 := hid hg4
        clear hb18 hg4 HG17 HI4
        go_wp2_with fail
        refine (eq_own w18 g4 y0 R hRl HG4.out.view (view_below HY0.out Y18.out)).mono ?_
        rintro e w19 ⟨rfl, hb19⟩
        have Y19 := hid (Y18.out.trans (hb19.mono Y18.out.size))
        have HG19 := hid (HG18.out.below hb19)
        clear hb19 HG18 HG4
        go_wp2_with fail
        refine (held_own w19 g0 R.length (by omega) HG19.out.view).mono ?_
        rintro e w20 ⟨rfl, rfl⟩
        have B19 := hid (B3.out.trans (Y19.out.mono B3.out.size))
        go_wp2
        go_ret
        exact ⟨rfl, B19.out⟩
    · obtain ⟨q1, q2, q3, q4⟩ := T1.out.cells
      go_wp2
      go_ret
      exact ⟨rfl, B1.out⟩
end Go.Proofs.Ytedabeemmhfmlaa
