/- The law of CodeAll. -/
import Derived.Test.YtahknoeloclofaaCs
import Derived.Test.YtahknoeloclofaaMk
namespace Go.Proofs.Ytahknoeloclofaa
open Go.RowKit
set_option linter.unusedVariables false

theorem impl_all_v (v u : Value) (bs ps : List Int) (w : World) (hn : bs.length ≤ 1048576) (hm : ps.length ≤ 1048576) (hv : Vw w v bs) (hu : Vw w u ps) :
    Calls Try.prog 11 #[v, u] w fun e w' => e = .returned (.tuple #[.string (allR bs ps).1, .bool (allR bs ps).2]) ∧ Below w.heap.size w w' := by
  obtain ⟨ao, c, rfl, hv⟩ := hv
  obtain ⟨bo, c', rfl, hu⟩ := hu
  exact impl_all ao bo c c' bs ps w hn hm hv hu
theorem spec_all_v (v u : Value) (bs ps : List Int) (w : World) (hn : bs.length ≤ 1048576) (hm : ps.length ≤ 1048576) (hv : Vw w v bs) (hu : Vw w u ps) :
    Calls Try.prog 12 #[v, u] w fun e w' => e = .returned (.tuple #[.string (allR bs ps).1, .bool (allR bs ps).2]) ∧ Below w.heap.size w w' := by
  obtain ⟨ao, c, rfl, hv⟩ := hv
  obtain ⟨bo, c', rfl, hu⟩ := hu
  exact spec_all ao bo c c' bs ps w hn hm hv hu

set_option maxRecDepth 100000 in
set_option maxHeartbeats 3200000 in
theorem law_all (ao bo : Option Addr) (n m cap cap' : Nat) (z0 z1 : List Int) (w : World) (hr0 : IsRow .i64 w ao n cap z0) (hr1 : IsRow .i64 w bo m cap' z1) :
    Calls Try.prog 7 #[.slice ao n cap, .slice bo m cap'] w fun e w' => e = .returned (.bool true) ∧ Below w.heap.size w w' := by
  have hv := hr0.view
  have hu := hr1.view
  have e0 := hv.1
  have e1 := hu.1
  generalize z0.take n = bs at *
  generalize z1.take m = ps at *
  clear hr0 hr1
  subst e0
  subst e1
  have HV := hid (show Vw w (.slice ao bs.length cap) bs from ⟨ao, cap, rfl, hv⟩)
  have HU := hid (show Vw w (.slice bo ps.length cap') ps from ⟨bo, cap', rfl, hu⟩)
  clear hv hu
  by_cases hb0 : (1048576 : Int) < (bs.length : Int)
  · generalize bs.length = n at *
    go_enter Try.func7, Try.ntmps7
    go_wp2_with fail
    go_ret
    exact ⟨rfl, Below.refl _ _⟩
  · by_cases hb1 : (1048576 : Int) < (ps.length : Int)
    · have hd0 : decide ((1048576 : Int) < (bs.length : Int)) = false := decide_eq_false hb0
      clear hb0
      generalize bs.length = n at *
      generalize ps.length = m at *
      go_enter Try.func7, Try.ntmps7
      go_wp2_with fail
      go_ret
      exact ⟨rfl, Below.refl _ _⟩
    · have hd0 : decide ((1048576 : Int) < (bs.length : Int)) = false := decide_eq_false hb0
      have hd1 : decide ((1048576 : Int) < (ps.length : Int)) = false := decide_eq_false hb1
      have k0 : bs.length ≤ 1048576 := by omega
      have k1 : ps.length ≤ 1048576 := by omega
      have HT0 := hid (fun q (hq : Below w.heap.size w q) => toInts_v (.slice ao bs.length cap) bs q k0 (HV.out.below (Nat.le_refl _) hq))
      have HT1 := hid (fun q (hq : Below w.heap.size w q) => toInts_v (.slice bo ps.length cap') ps q k1 (HU.out.below (Nat.le_refl _) hq))
      have HS := hid (fun v u q hv hu => spec_all_v v u bs ps q k0 k1 hv hu)
      have HI := hid (fun v u q hv hu => impl_all_v v u bs ps q k0 k1 hv hu)
      have HQ0 := hid (fun v u q h1 h2 => eq_own v u bs q k0 h1 h2)
      have HQ1 := hid (fun v u q h1 h2 => eq_own v u ps q k1 h1 h2)
      generalize allR bs ps = R at *
      obtain ⟨RS, RB⟩ := R
      clear hb0 hb1 k0 k1
      generalize bs.length = N at *
      generalize ps.length = M at *
      go_enter Try.func7, Try.ntmps7
      go_wp2_with fail
      refine (HT0.out _ (Below.refl _ _)).mono ?_
      rintro e w1 ⟨v1, rfl, ho1, B1⟩
      have B1 := hid B1
      have V1 := hid ho1.vw
      clear ho1
      go_wp2_with fail
      refine (HT1.out _ B1.out).mono ?_
      rintro e w2 ⟨v2, rfl, ho2, hb2⟩
      have B2 := hid (B1.out.trans (hb2.mono B1.out.size))
      have V1' := hid (V1.out.below (Nat.le_refl _) hb2)
      have V2 := hid ho2.vw
      clear ho2 hb2 V1 B1
      go_wp2_with fail
      refine (HS.out v1 v2 w2 V1'.out V2.out).mono ?_
      rintro e w3 ⟨rfl, hb3⟩
      have B3 := hid (B2.out.trans (hb3.mono B2.out.size))
      clear hb3 V1' V2 B2
      go_wp2_with fail
      refine (HT0.out _ B3.out).mono ?_
      rintro e w4 ⟨x0, rfl, ho4, hb4⟩
      have B4 := hid (B3.out.trans (hb4.mono B3.out.size))
      have X0 := hid ho4.vw
      clear ho4 hb4 B3
      go_wp2_with fail
      refine (HT1.out _ B4.out).mono ?_
      rintro e w5 ⟨x1, rfl, ho5, hb5⟩
      have B5 := hid (B4.out.trans (hb5.mono B4.out.size))
      have X0' := hid (X0.out.below (Nat.le_refl _) hb5)
      have X1 := hid ho5.vw
      clear ho5 hb5 X0 B4
      go_wp2_with fail
      refine (HI.out x0 x1 w5 X0'.out X1.out).mono ?_
      rintro e w6 ⟨rfl, hb6⟩
      have B6 := hid (B5.out.trans (hb6.mono B5.out.size))
      have Y0 := hid (X0'.out.below (Nat.le_refl _) hb6)
      have Y1 := hid (X1.out.below (Nat.le_refl _) hb6)
      clear hb6 X0' X1 B5
      go_wp2_with fail
      refine (HT0.out _ B6.out).mono ?_
      rintro e w7 ⟨v7, rfl, ho7, hb7⟩
      have B7 := hid (B6.out.trans (hb7.mono B6.out.size))
      have Z0 := hid (Y0.out.below (Nat.le_refl _) hb7)
      have Z1 := hid (Y1.out.below (Nat.le_refl _) hb7)
      have V7 := hid ho7.vw
      clear ho7 hb7 Y0 Y1 B6
      go_wp2_with fail
      refine (HQ0.out x0 v7 w7 Z0.out V7.out).mono ?_
      rintro e w8 ⟨rfl, hb8⟩
      have B8 := hid (B7.out.trans (hb8.mono B7.out.size))
      have Q1 := hid (Z1.out.below (Nat.le_refl _) hb8)
      clear hb8 Z0 Z1 V7 B7
      go_wp2_with fail
      refine (HT1.out _ B8.out).mono ?_
      rintro e w9 ⟨v9, rfl, ho9, hb9⟩
      have B9 := hid (B8.out.trans (hb9.mono B8.out.size))
      have Q1' := hid (Q1.out.below (Nat.le_refl _) hb9)
      have V9 := hid ho9.vw
      clear ho9 hb9 Q1 B8
      go_wp2_with fail
      refine (HQ1.out x1 v9 w9 Q1'.out V9.out).mono ?_
      rintro e w10 ⟨rfl, hb10⟩
      have B10 := hid (B9.out.trans (hb10.mono B9.out.size))
      clear hb10 Q1' V9 B9
      go_wp2_with fail
      go_ret
      exact ⟨rfl, B10.out⟩
end Go.Proofs.Ytahknoeloclofaa
