/- The law of ModelOk. -/
import Derived.Test.YtphllcljljcmlaaMc
namespace Go.Proofs.Ytphllcljljcmlaa
open Go.RowKit
set_option linter.unusedVariables false

set_option maxRecDepth 100000 in
set_option maxHeartbeats 1600000 in
theorem law_modelOk (ao : Option Addr) (n cap : Nat) (z0 : List Int) (w : World) (hr0 : IsRow .i64 w ao n cap z0) :
    Calls Try.prog 7 #[.agg #[.slice ao n cap]] w fun e w' => e = .returned (.bool true) ∧ Below w.heap.size w w' := by
  have hv := hr0.view
  have hlen := hr0.len.1
  have hcap : n ≤ cap := by
    rcases hr0 with ⟨_, rfl, rfl, _⟩ | ⟨x, _, h, _⟩
    · exact Nat.le_refl _
    · exact h
  have e0 := hv.1
  generalize z0.take n = bs at *
  clear hr0
  subst e0
  have HV := hid (show Vw w (.slice ao bs.length cap) bs from ⟨ao, cap, rfl, hv, hcap⟩)
  have HZ := hid (fun q => sz_model ao bs.length cap 1048576 q (by decide) (by decide) hlen)
  clear hv hcap
  by_cases hb0 : bs.length ≤ 1048576
  · have hlf : ¬ lft 1048576 bs.length < 0 := by unfold lft; rw [if_neg (by omega)]; omega
    have HT0 := hid (fun q (hq : Below w.heap.size w q) => to_model (.slice ao bs.length cap) bs q hb0 (HV.out.below (Nat.le_refl _) hq))
    have HS := hid (fun v q hv => spec_modelOk v bs q hb0 hv)
    have HI := hid (fun v q hv => impl_modelOk v bs q hv)
    have HQ0 := hid (fun v u q h1 h2 => eq_model v u bs q hb0 h1 h2)
    generalize okM bs = R at *
    generalize lft 1048576 bs.length = LF at *
    have hFF : (R != R) = false := by simp
    clear hb0 hlen
    generalize bs.length = N at *
    have P0 := hid (Blk.new w [.slice ao N cap] 37)
    have B0 := hid ((Below.refl w.heap.size w).alloc (Nat.le_refl _) (.cells #[.slice ao N cap] 37))
    go_enter Try.func7, Try.ntmps7
    go_wp2_with fail
    refine (HZ.out _).mono ?_
    generalize w.alloc (.cells #[.slice ao N cap] 37) = w0 at *
    rintro e w1 ⟨rfl, hb1⟩
    have P1 := hid (P0.out.below hb1 P0.out.lt)
    have B1 := hid (B0.out.trans (hb1.mono B0.out.size))
    have q1 := P1.out.cell (i := 0) rfl
    clear hb1 P0 B0
    go_wp2_with fail
    refine (HT0.out _ B1.out).mono ?_
    rintro e w2 ⟨v2, rfl, ho2, hb2⟩
    have P2 := hid (P1.out.below hb2 P1.out.lt)
    have B2 := hid (B1.out.trans (hb2.mono B1.out.size))
    have V2 := hid ho2.vw
    clear ho2 hb2 P1 B1 q1
    go_wp2_with fail
    refine (HS.out v2 w2 V2.out).mono ?_
    rintro e w3 ⟨rfl, hb3⟩
    have P3 := hid (P2.out.below hb3 P2.out.lt)
    have B3 := hid (B2.out.trans (hb3.mono B2.out.size))
    have q3 := P3.out.cell (i := 0) rfl
    clear hb3 P2 B2 V2
    go_wp2_with fail
    refine (HT0.out _ B3.out).mono ?_
    rintro e w4 ⟨x0, rfl, ho4, hb4⟩
    have P4 := hid (P3.out.below hb4 P3.out.lt)
    have B4 := hid (B3.out.trans (hb4.mono B3.out.size))
    obtain ⟨xa, xc, rfl⟩ := ho4.shape
    have X4 := hid ho4.vw
    have NB := hid ((Below.refl w4.heap.size w4).alloc (Nat.le_refl _) (.cells #[.slice xa bs.length xc] 40))
    have X5 := hid (X4.out.below (Nat.le_refl _) NB.out)
    have P5 := hid (P4.out.below NB.out P4.out.lt)
    have B5 := hid (B4.out.trans (NB.out.mono B4.out.size))
    have XB := hid (Blk.new w4 [.slice xa bs.length xc] 40)
    clear ho4 hb4 P3 B3 q3 P4 B4 NB X4
    go_wp2_with fail
    refine (HI.out _ _ X5.out).mono ?_
    generalize w4.alloc (.cells #[.slice xa bs.length xc] 40) = w5 at *
    generalize w4.heap.size = G at *
    rintro e w6 ⟨rfl, hb6⟩
    have P6 := hid (P5.out.below hb6 P5.out.lt)
    have B6 := hid (B5.out.trans (hb6.mono B5.out.size))
    have X6 := hid (X5.out.below (Nat.le_refl _) hb6)
    have XB6 := hid (XB.out.below hb6 XB.out.lt)
    have q6 := P6.out.cell (i := 0) rfl
    have x6 := XB6.out.cell (i := 0) rfl
    clear hb6 P5 B5 X5 XB
    go_wp2_with fail
    have D6 := hid (below_drewN w6 1)
    go_region_with (first
      | (go_at_call 25; refine (HT0.out w6.drew (belowN B6.out 1)).mono ?_; rintro e w7 ⟨v7, rfl, ho7, hb7⟩; have x7 := (XB6.out.below (D6.out.trans hb7) XB6.out.lt).cell (i := 0) rfl; have X7 := hid (X6.out.below (Nat.le_refl _) (D6.out.trans hb7)); have V7 := hid ho7.vw; have B7 := hid (B6.out.trans ((D6.out.trans hb7).mono B6.out.size)))
      | (go_at_call 27; refine (HQ0.out _ _ w7 X7.out V7.out).mono ?_; rintro e w8 ⟨rfl, hb8⟩; have B8 := hid (B7.out.trans (hb8.mono B7.out.size))))
    all_goals
      clear hb7 hb8 ho7
      go_wp2_with fail
      go_ret
      exact ⟨rfl, B8.out⟩
  · have hlf : lft 1048576 bs.length < 0 := by unfold lft; rw [if_pos (by omega)]; decide
    generalize lft 1048576 bs.length = LF at *
    clear hb0 hlen
    generalize bs.length = N at *
    go_enter Try.func7, Try.ntmps7
    go_wp2_with fail
    refine (HZ.out _).mono ?_
    rintro e w1 ⟨rfl, hb1⟩
    have B1 := hid (((Below.refl w.heap.size w).alloc (Nat.le_refl _) (.cells #[.slice ao N cap] 37)).trans (hb1.mono (by simp)))
    clear hb1
    go_wp2_with fail
    go_ret
    exact ⟨rfl, B1.out⟩
end Go.Proofs.Ytphllcljljcmlaa
