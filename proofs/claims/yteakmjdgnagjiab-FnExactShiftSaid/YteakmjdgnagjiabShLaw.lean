/- The walk of the law FnExactShift. -/
import Derived.Test.YteakmjdgnagjiabRows4
namespace Go.Proofs.Yteakmjdgnagjiab
open Go.RowKit
set_option linter.unusedVariables false

theorem RowM.below {B m : Nat} {w w' : World} {g n : Nat} {ys : Nat → Value} {ns : Nat → Nat} (h : RowM B m w g n ys ns) (hb : Below w.heap.size w w') : RowM B m w' g n ys ns := by
  obtain ⟨arr, h1, h2⟩ := h
  refine ⟨arr, h1.below hb h1.lt, fun j hj => ?_⟩
  obtain ⟨k1, k2, k3⟩ := h2 j hj
  refine ⟨k1, k2, ?_⟩
  rcases k3 with k3 | ⟨b, cap, cur, q1, q2, q3, q4, q5⟩
  · exact .inl k3
  · exact .inr ⟨b, cap, cur, q1, q2, q3, q4.below hb q4.lt, q5⟩
theorem BSTo.rowM {w : World} {g : Nat} {L : List (Int × List Int)} {n : Nat} (h : BSTo w g L n n) : ∃ ys, RowM g w.heap.size w g n ys (fun j => (nth L j).2.length) := by
  obtain ⟨arr, h1, h2, h3⟩ := h
  refine ⟨fun j => (arr[j * 2 + 1]?).getD (.bool false), arr, h1, fun j hj => ?_⟩
  obtain ⟨e1, y, e2, e3⟩ := h3 j hj
  refine ⟨⟨_, e1⟩, by simp [e2], ?_⟩
  have : (arr[j * 2 + 1]?).getD (.bool false) = y := by simp [e2]
  show IntB g w.heap.size w ((arr[j * 2 + 1]?).getD (.bool false)) (nth L j).2.length
  rw [this]
  exact e3.intB (by omega) (fun a k c h => by subst h; exact e3.ge.2)

/-- A slice that reads as xs. -/
def Vw (w : World) (v : Value) (xs : List Int) : Prop := ∃ ao cap, v = .slice ao xs.length cap ∧ View .i64 w ao xs.length xs
theorem Vw.below {w w' : World} {v : Value} {xs : List Int} (h : Vw w v xs) (hb : Below w.heap.size w w') : Vw w' v xs := by
  obtain ⟨ao, c, hv, hw⟩ := h
  exact ⟨ao, c, hv, hw.below (Nat.le_refl _) hb⟩
theorem eq_vw (w : World) (v v' : Value) (xs : List Int) (hl : xs.length ≤ 4194304) (h : Vw w v xs) (h' : Vw w v' xs) :
    Calls Try.prog 13 #[v, v'] w fun e w' => e = .returned (.bool true) ∧ Below w.heap.size w w' := by
  obtain ⟨ao, c, rfl, hv⟩ := h
  obtain ⟨bo, d, rfl, hv'⟩ := h'
  exact eqInts_same ao bo xs.length c d xs w hl hv hv'
theorem held_vw (w : World) (v : Value) (n : Nat) (hn : n ≤ 1000000000) (h : Vw w v (marks n)) :
    Calls Try.prog 15 #[v, .int .i64 1] w fun e w' => e = .returned (.int .i64 ((n : Int) + 1)) ∧ w = w' := by
  obtain ⟨ao, c, rfl, hv⟩ := h
  rw [marks_length] at hv ⊢
  exact held_any ao n c w hn hv

set_option maxRecDepth 100000 in
set_option maxHeartbeats 6400000 in
theorem law_shift (ao : Option Addr) (cap : Nat) (L : List (Int × List Int)) (up : Bool) (w : World) (hn : L.length ≤ 9223372036854775807) (hs : ∀ j, j < L.length → (nth L j).2.length ≤ 9223372036854775807) (hv : BRow w ao L) :
    Calls Try.prog 8 #[.slice ao L.length cap, .bool up] w fun e w' => e = .returned (.bool true) ∧ Below w.heap.size w w' := by
  have HV := hid hv
  have HSZ := hid (szBlockS ao cap L w hn hs hv)
  clear hv hs
  go_enter Try.func8, Try.ntmps8
  go_wp2_with fail
  refine HSZ.out.mono ?_
  rintro e w1 ⟨r, rfl, hr, hb1⟩
  have B1 := hid hb1
  clear hb1 HSZ
  by_cases hneg : r < 0
  · clear hr
    go_wp2_with fail
    go_ret
    exact ⟨rfl, B1.out⟩
  · obtain ⟨hl, hall⟩ := hr.resolve_left hneg
    have HALL := hid hall
    have HTO := hid (fun q (hq : Below w.heap.size w q) => toBlockS ao cap L q hl hall (HV.out.below hq))
    have HRL := shR_len up L
    have HSP := hid (fun ao cap q hv => spec_shift ao cap L up q hl hall hv)
    have HIM := hid (fun ao cap q hv => impl_shift ao cap L up q hl hall hv)
    generalize (shR up L).1 = R at *
    generalize (shR up L).2 = F at *
    have hRl : R.length ≤ 4194304 := by omega
    have hFF : (F != F) = false := by simp
    clear hr hall
    go_wp2_with fail
    refine (HTO.out _ B1.out).mono ?_
    rintro e w2 ⟨rfl, hbs2, hb2⟩
    have B2 := hid (B1.out.trans (hb2.mono B1.out.size))
    have HR2 := hid hbs2.brow
    clear hb2 hbs2
    go_wp2_with fail
    refine (HSP.out _ _ _ HR2.out).mono ?_
    rintro e w3 ⟨y0, rfl, hy0, hb3⟩
    have B3 := hid (B2.out.trans (hb3.mono B2.out.size))
    have HY3 : Hid (Vw w3 y0 R) := hid hy0.view
    clear hb3 hy0 HR2 HSP
    go_wp2_with fail
    refine (HTO.out _ B3.out).mono ?_
    rintro e w4 ⟨rfl, hbs4, hb4⟩
    have Y4 := hid hb4
    have HR4 := hid hbs4.brow
    obtain ⟨ys, hM4⟩ := hbs4.rowM
    have HM4 := hid hM4
    have hg4 : w3.heap.size < w4.heap.size := by obtain ⟨arr, h1, _⟩ := hbs4; exact h1.lt
    clear hb4 hbs4 hM4
    go_wp2_with fail
    refine (HIM.out _ _ _ HR4.out).mono ?_
    rintro e w5 ⟨g0, rfl, hg0, hb5⟩
    have Y5 := hid (Y4.out.trans (hb5.mono Y4.out.size))
    have B5 := hid (B3.out.trans (Y5.out.mono B3.out.size))
    have HR5 := hid (HR4.out.below hb5)
    have HM5 := hid (HM4.out.below hb5)
    have HG5 := hid hg0
    have h45 : w4.heap.size ≤ w5.heap.size := hb5.size
    clear hb5 hg0 HR4 HM4
    go_wp2_with fail
    refine (eq_vw w5 g0 y0 R hRl HG5.out.view (HY3.out.below Y5.out)).mono ?_
    rintro e w6 ⟨rfl, hb6⟩
    have Y6 := hid (Y5.out.trans (hb6.mono Y5.out.size))
    have B6 := hid (B3.out.trans (Y6.out.mono B3.out.size))
    have HR6 := hid (HR5.out.below hb6)
    have HM6 := hid (HM5.out.below hb6)
    have HG6 := hid (HG5.out.below hb6)
    clear hb6 HR5 HM5 HG5
    go_wp2_with fail
    refine (HTO.out _ B6.out).mono ?_
    rintro e w7 ⟨rfl, hbs7, hb7⟩
    have Y7 := hid (Y6.out.trans (hb7.mono Y6.out.size))
    have B7 := hid (B3.out.trans (Y7.out.mono B3.out.size))
    have HR7 := hid (HR6.out.below hb7)
    have HX7 := hid hbs7.brow
    have HM7 := hid (HM6.out.below hb7)
    have HG7 := hid (HG6.out.below hb7)
    clear hb7 hbs7 HR6 HM6 HG6
    go_wp2_with fail
    refine (eqBlockS_same _ _ _ _ L w7 hl HALL.out HR7.out HX7.out).mono ?_
    rintro e w8 ⟨rfl, hb8⟩
    have Y8 := hid (Y7.out.trans (hb8.mono Y7.out.size))
    have HM8 := hid (HM7.out.below hb8)
    have HG8 := hid (HG7.out.below hb8)
    have h48 : w4.heap.size ≤ w8.heap.size := HG8.out.1
    clear hb8 HR7 HX7 HM7 HG7
    go_wp2_with fail
    refine (markBlockS w3.heap.size w4.heap.size w3.heap.size L.length ys _ w8 hl HALL.out (Nat.le_refl _) hg4 HM8.out).mono ?_
    rintro e w9 ⟨⟨r9, rfl, hr9⟩, hsp⟩
    have Y9 := hid (Y8.out.trans (hsp.below (by omega)))
    have HG9 := hid (hsp.own HG8.out (Nat.le_refl _))
    have hd9 : decide (r9 < 0) = false := by simp; omega
    clear hsp HM8 HG8
    go_wp2_with fail
    refine (eq_vw w9 g0 y0 R hRl HG9.out.view (HY3.out.below Y9.out)).mono ?_
    rintro e w10 ⟨rfl, hb10⟩
    have Y10 := hid (Y9.out.trans (hb10.mono Y9.out.size))
    have HG10 := hid (HG9.out.below hb10)
    clear hb10 HG9
    go_wp2_with fail
    refine (mark_any w4.heap.size g0 R w10 (by omega) HG10.out).mono ?_
    rintro e w11 ⟨rfl, hg11, hb11⟩
    have Y11 := hid (Y10.out.trans (hb11.mono (by omega)))
    have HG11 := hid hg11
    clear hb11 hg11 HG10
    go_wp2_with fail
    refine (held_vw w11 g0 R.length (by omega) HG11.out.view).mono ?_
    rintro e w12 ⟨rfl, rfl⟩
    have B11 := hid (B3.out.trans (Y11.out.mono B3.out.size))
    have hp : ¬ ((R.length : Int) + 1 < 0) := by omega
    go_wp2_with fail
    refine (HTO.out _ B11.out).mono ?_
    rintro e w12 ⟨rfl, hbs12, hb12⟩
    have Y12 := hid (Y11.out.trans (hb12.mono Y11.out.size))
    have HG12 := hid (HG11.out.below hb12)
    have HR12 := hid hbs12.brow
    clear hb12 hbs12 HG11
    go_wp2_with fail
    refine (HIM.out _ _ _ HR12.out).mono ?_
    rintro e w13 ⟨g4, rfl, hg4', hb13⟩
    have Y13 := hid (Y12.out.trans (hb13.mono Y12.out.size))
    have HG13 := hid (HG12.out.below hb13)
    have HH13 := hid hg4'
    clear hb13 hg4' HG12
    go_wp2_with fail
    refine (eq_vw w13 g4 y0 R hRl HH13.out.view (HY3.out.below Y13.out)).mono ?_
    rintro e w14 ⟨rfl, hb14⟩
    have Y14 := hid (Y13.out.trans (hb14.mono Y13.out.size))
    have HG14 := hid (HG13.out.below hb14)
    clear hb14 HG13 HH13
    go_wp2_with fail
    refine (held_vw w14 g0 R.length (by omega) HG14.out.view).mono ?_
    rintro e w15 ⟨rfl, rfl⟩
    have B14 := hid (B3.out.trans (Y14.out.mono B3.out.size))
    go_wp2
    go_ret
    exact ⟨rfl, B14.out⟩
end Go.Proofs.Yteakmjdgnagjiab
