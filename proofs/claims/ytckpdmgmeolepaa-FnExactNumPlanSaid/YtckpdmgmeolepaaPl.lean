/- The law of NumPlan. -/
import Derived.Test.YtckpdmgmeolepaaPn
import Derived.Test.YtckpdmgmeolepaaMk
namespace Go.Proofs.Ytckpdmgmeolepaa
open Go.RowKit
set_option linter.unusedVariables false

theorem planP_len (x : Int) : (planP x).length ≤ 1000 := by
  have hle := sz_le x
  unfold planP
  split
  · simp
  · split
    · simp
    · simp only [List.length_cons, List.length_append, sb_length, bl_length]
      omega
theorem own_ge {w : World} {base : Nat} {e : TypeId} {k : IntKind} {a : Addr} {n c : Nat} {xs : List Int} (h : Own w base e k (.slice (some a) n c) xs) : base ≤ a.block := by
  rcases h.2.2 with ⟨e2, h0⟩ | ⟨g, cap', cur, e2, hg, _⟩
  · cases e2
  · cases e2
    exact hg

set_option maxRecDepth 100000 in
set_option maxHeartbeats 1600000 in
theorem law_numPlan (x : Int) (w : World) (h0 : -9223372036854775808 ≤ x) (h1 : x ≤ 9223372036854775807) :
    Calls Try.prog 4 #[.int .i64 x] w fun e w' => e = .returned (.bool true) ∧ Below w.heap.size w w' := by
  have HS := hid (fun q => spec_numPlan x q h0 h1)
  have HI := hid (fun q => impl_numPlan x q h0 h1)
  have hl := planP_len x
  generalize planP x = RL at *
  have HQ := hid (fun v u q h1 h2 => eq_own v u RL q (by omega) h1 h2)
  have HM2 := hid (fun B v q ho => mark_any B v RL q (by omega) ho)
  have HH2 := hid (fun v q h => held_own v RL.length q (by omega) h)
  have hqq : ¬ ((RL.length : Int) + 1 < 0) := by omega
  clear hl h0 h1
  generalize RL.length = L at *
  go_enter Try.func4, Try.ntmps4
  go_wp2_with fail
  refine (HS.out w).mono ?_
  rintro e w1 ⟨y0, rfl, hy0, hb1⟩
  have B1 := hid hb1
  have Y1 := hid hy0.vw
  clear hy0 hb1
  go_wp2_with fail
  refine (HI.out w1).mono ?_
  rintro e w2 ⟨g0, rfl, hg0, hb2⟩
  have C2 := hid hb2
  have G2 := hid hg0
  have Y2 := hid (Y1.out.below (Nat.le_refl _) hb2)
  clear hb2 hg0
  go_wp2_with fail
  refine (HQ.out g0 y0 w2 G2.out.vw Y2.out).mono ?_
  rintro e w3 ⟨rfl, hb3⟩
  have C3 := hid (C2.out.trans (hb3.mono C2.out.size))
  have G3 := hid (G2.out.below hb3)
  clear hb3 C2 G2 Y2
  go_wp2_with fail
  refine (HM2.out w1.heap.size g0 w3 G3.out).mono ?_
  rintro e w4 ⟨rfl, hG4, ht4⟩
  have C4 := hid (C3.out.trans (ht4.below (fun a n c h => by have o := G3.out; subst h; exact own_ge o) C3.out.size))
  have G4 := hid hG4
  have Y4 := hid (Y1.out.below (Nat.le_refl _) C4.out)
  clear hG4 ht4 G3 C3
  go_wp2_with fail
  refine (HH2.out g0 w4 G4.out.vw).mono ?_
  rintro e w5 ⟨rfl, rfl⟩
  go_wp2_with fail
  refine (HI.out w4).mono ?_
  rintro e w6 ⟨g6, rfl, hg6, hb6⟩
  have C6 := hid (C4.out.trans (hb6.mono C4.out.size))
  have G6 := hid (G4.out.below hb6)
  have Y6 := hid (Y4.out.below (Nat.le_refl _) hb6)
  have V6 := hid hg6.vw
  clear hb6 hg6 C4 G4 Y4
  go_wp2_with fail
  refine (HQ.out g6 y0 w6 V6.out Y6.out).mono ?_
  rintro e w7 ⟨rfl, hb7⟩
  have C7 := hid (C6.out.trans (hb7.mono C6.out.size))
  have G7 := hid (G6.out.below hb7)
  clear hb7 C6 G6 Y6 V6
  go_wp2_with fail
  refine (HH2.out g0 w7 G7.out.vw).mono ?_
  rintro e w8 ⟨rfl, rfl⟩
  have B7 := hid (B1.out.trans (C7.out.mono B1.out.size))
  go_wp2_with fail
  go_ret
  exact ⟨rfl, B7.out⟩
end Go.Proofs.Ytckpdmgmeolepaa
