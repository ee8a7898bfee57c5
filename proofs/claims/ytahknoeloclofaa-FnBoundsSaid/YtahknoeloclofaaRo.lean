/- The law of ReadAll. -/
import Derived.Test.YtahknoeloclofaaRn
namespace Go.Proofs.Ytahknoeloclofaa
open Go.RowKit
set_option linter.unusedVariables false

theorem impl_read_v (s : ByteArray) (u : Value) (ps : List Int) (w : World) (hs : s.size ≤ 1048576) (hu : Vw w u ps) :
    Calls Try.prog 13 #[.string s, u] w fun e w' => ∃ v, e = .returned (.tuple #[v, .bool (readR s ps).2]) ∧ Own w' w.heap.size 3 .i64 v (readR s ps).1 ∧ Below w.heap.size w w' := by
  obtain ⟨bo, c', rfl, hu⟩ := hu
  exact impl_read s bo c' ps w hs hu
theorem spec_read_v (s : ByteArray) (u : Value) (ps : List Int) (w : World) (hs : s.size ≤ 1048576) (hu : Vw w u ps) :
    Calls Try.prog 31 #[.string s, u] w fun e w' => ∃ v, e = .returned (.tuple #[v, .bool (readR s ps).2]) ∧ Own w' w.heap.size 3 .i64 v (readR s ps).1 ∧ Below w.heap.size w w' := by
  obtain ⟨bo, c', rfl, hu⟩ := hu
  exact spec_read s bo c' ps w hs hu
theorem rAt_len (s : ByteArray) (ps : List Int) : ∀ k o r, rAt s ps k = some (o, r) → o.length = k
  | 0, o, r, e => by cases e; rfl
  | k + 1, o, r, e => by
    cases e0 : rAt s ps k with
    | none => rw [rAt, e0] at e; cases e
    | some q =>
      obtain ⟨o', r'⟩ := q
      have ih := rAt_len s ps k o' r' e0
      cases hg : okG r' (ps.getD k 0) with
      | true =>
        rw [rAt_some e0 hg] at e
        cases e
        simp [ih]
      | false =>
        rw [rAt_stop e0 hg] at e
        cases e
theorem readR_len (s : ByteArray) (ps : List Int) : (readR s ps).1.length ≤ 480000 := by
  unfold readR
  split
  · simp
  · cases e : rAt s ps ps.length with
    | none => simp
    | some q =>
      obtain ⟨o, r⟩ := q
      have := rAt_len s ps _ o r e
      simp only
      omega

set_option maxRecDepth 100000 in
set_option maxHeartbeats 6400000 in
theorem law_read (s : ByteArray) (bo : Option Addr) (m cap' : Nat) (z1 : List Int) (w : World) (hm : s.size ≤ 9223372036854775807) (hr1 : IsRow .i64 w bo m cap' z1) :
    Calls Try.prog 8 #[.string s, .slice bo m cap'] w fun e w' => e = .returned (.bool true) ∧ Below w.heap.size w w' := by
  have hu := hr1.view
  have e1 := hu.1
  generalize z1.take m = ps at *
  clear hr1
  subst e1
  have HU := hid (show Vw w (.slice bo ps.length cap') ps from ⟨bo, cap', rfl, hu⟩)
  clear hu
  by_cases hb0 : (1048576 : Int) < (s.size : Int)
  · clear hm
    generalize ps.length = n at *
    go_enter Try.func8, Try.ntmps8
    go_wp2_with fail
    go_ret
    exact ⟨rfl, Below.refl _ _⟩
  · by_cases hb1 : (1048576 : Int) < (ps.length : Int)
    · have hd0 : decide ((1048576 : Int) < (s.size : Int)) = false := decide_eq_false hb0
      clear hb0 hm
      generalize ps.length = m at *
      go_enter Try.func8, Try.ntmps8
      go_wp2_with fail
      go_ret
      exact ⟨rfl, Below.refl _ _⟩
    · have hd0 : decide ((1048576 : Int) < (s.size : Int)) = false := decide_eq_false hb0
      have hd1 : decide ((1048576 : Int) < (ps.length : Int)) = false := decide_eq_false hb1
      have k0 : s.size ≤ 1048576 := by omega
      have k1 : ps.length ≤ 1048576 := by omega
      have HT1 := hid (fun q (hq : Below w.heap.size w q) => toInts_v (.slice bo ps.length cap') ps q k1 (HU.out.below (Nat.le_refl _) hq))
      have HS := hid (fun u q hu => spec_read_v s u ps q k0 hu)
      have HI := hid (fun u q hu => impl_read_v s u ps q k0 hu)
      have hRl := readR_len s ps
      generalize readR s ps = R at *
      obtain ⟨RL, RB⟩ := R
      simp only at hRl HS HI
      have HQ := hid (fun v u q h1 h2 => eq_own v u RL q (by omega) h1 h2)
      have HQ1 := hid (fun v u q h1 h2 => eq_own v u ps q k1 h1 h2)
      have hFF : (RB != RB) = false := by simp
      have HRL := hid hRl
      have HM1 := hid (fun B v q ho => mark_any B v ps q (by omega) ho)
      have HM2 := hid (fun B v q ho => mark_any B v RL q (by omega) ho)
      have HH2 := hid (fun v q h => held_own v RL.length q (by omega) h)
      have hkk : ¬ ((ps.length : Int) + 1 < 0) := by omega
      have hqq : ¬ ((RL.length : Int) + 1 < 0) := by omega
      clear hb0 hb1 k0 k1 hm hRl
      generalize ps.length = M at *
      generalize RL.length = L at *
      go_enter Try.func8, Try.ntmps8
      go_wp2_with fail
      refine (HT1.out _ (Below.refl _ _)).mono ?_
      rintro e w1 ⟨v1, rfl, ho1, hb1⟩
      have B1 := hid hb1
      have V1 := hid ho1.vw
      clear ho1 hb1
      go_wp2_with fail
      refine (HS.out v1 w1 V1.out).mono ?_
      rintro e w2 ⟨y0, rfl, hy0, hb2⟩
      have B2 := hid (B1.out.trans (hb2.mono B1.out.size))
      have Y0 := hid hy0.vw
      clear hb2 hy0 V1 B1
      go_wp2_with fail
      refine (HT1.out _ B2.out).mono ?_
      rintro e w3 ⟨x1, rfl, hx1, hb3⟩
      have Y3 := hid hb3
      have X3 := hid hx1
      have h23 := hid hb3.size
      have hx3 : Hid (∀ (a : Addr) n c, x1 = .slice (some a) n c → w2.heap.size ≤ a.block ∧ a.block < w3.heap.size) := fun a n c h => by
        subst h
        exact hx1.ge
      clear hb3 hx1
      go_wp2_with fail
      refine (HI.out x1 w3 X3.out.vw).mono ?_
      rintro e w4 ⟨g0, rfl, hg0, hb4⟩
      have Y4 := hid (Y3.out.trans (hb4.mono Y3.out.size))
      have X4 := hid (X3.out.below hb4)
      have G4 := hid hg0
      clear hb4 hg0 X3 Y3
      go_wp2_with fail
      refine (HQ.out g0 y0 w4 G4.out.vw (Y0.out.below (Nat.le_refl _) Y4.out)).mono ?_
      rintro e w5 ⟨rfl, hb5⟩
      have Y5 := hid (Y4.out.trans (hb5.mono Y4.out.size))
      have X5 := hid (X4.out.below hb5)
      have G5 := hid (G4.out.below hb5)
      have B5 := hid (B2.out.trans (Y5.out.mono B2.out.size))
      clear hb5 X4 G4 Y4
      go_wp2_with fail
      refine (HT1.out _ B5.out).mono ?_
      rintro e w6 ⟨v6, rfl, ho6, hb6⟩
      have Y6 := hid (Y5.out.trans (hb6.mono Y5.out.size))
      have X6 := hid (X5.out.below hb6)
      have G6 := hid (G5.out.below hb6)
      have V6 := hid ho6.vw
      clear hb6 X5 G5 Y5 B5 ho6
      go_wp2_with fail
      refine (HQ1.out x1 v6 w6 X6.out.vw V6.out).mono ?_
      rintro e w7 ⟨rfl, hb7⟩
      have Y7 := hid (Y6.out.trans (hb7.mono Y6.out.size))
      have X7 := hid (X6.out.below hb7)
      have G7 := hid (G6.out.below hb7)
      clear hb7 X6 G6 Y6 V6
      go_wp2_with fail
      refine (HM1.out w2.heap.size x1 w7 X7.out).mono ?_
      rintro e w8 ⟨rfl, _, ht8⟩
      have Y8 := hid (Y7.out.trans (ht8.below (fun a n c h => (hx3.out a n c h).1) Y7.out.size))
      have G8 := hid (ht8.own G7.out (fun a n c h => (hx3.out a n c h).2))
      clear ht8 X7 G7 Y7
      go_wp2_with fail
      refine (HQ.out g0 y0 w8 G8.out.vw (Y0.out.below (Nat.le_refl _) Y8.out)).mono ?_
      rintro e w9 ⟨rfl, hb9⟩
      have Y9 := hid (Y8.out.trans (hb9.mono Y8.out.size))
      have G9 := hid (G8.out.below hb9)
      clear hb9 G8 Y8
      go_wp2_with fail
      refine (HM2.out w3.heap.size g0 w9 G9.out).mono ?_
      rintro e w10 ⟨rfl, hG10, ht10⟩
      have Y10 := hid (Y9.out.trans (ht10.below (fun a n c h => by have o := G9.out; subst h; exact Nat.le_trans h23.out o.ge.1) Y9.out.size))
      have G10 := hid hG10
      clear ht10 hG10 G9 Y9
      go_wp2_with fail
      refine (HH2.out g0 w10 G10.out.vw).mono ?_
      rintro e w11 ⟨rfl, rfl⟩
      have B10 := hid (B2.out.trans (Y10.out.mono B2.out.size))
      go_wp2_with fail
      refine (HT1.out _ B10.out).mono ?_
      rintro e w12 ⟨v12, rfl, ho12, hb12⟩
      have Y12 := hid (Y10.out.trans (hb12.mono Y10.out.size))
      have G12 := hid (G10.out.below hb12)
      have V12 := hid ho12.vw
      clear hb12 ho12 G10 Y10 B10
      go_wp2_with fail
      refine (HI.out v12 w12 V12.out).mono ?_
      rintro e w13 ⟨g4, rfl, hg4, hb13⟩
      have Y13 := hid (Y12.out.trans (hb13.mono Y12.out.size))
      have G13 := hid (G12.out.below hb13)
      have V13 := hid hg4.vw
      clear hb13 hg4 G12 Y12
      go_wp2_with fail
      refine (HQ.out g4 y0 w13 V13.out (Y0.out.below (Nat.le_refl _) Y13.out)).mono ?_
      rintro e w14 ⟨rfl, hb14⟩
      have Y14 := hid (Y13.out.trans (hb14.mono Y13.out.size))
      have G14 := hid (G13.out.below hb14)
      clear hb14 G13 Y13
      go_wp2_with fail
      refine (HH2.out g0 w14 G14.out.vw).mono ?_
      rintro e w15 ⟨rfl, rfl⟩
      have B14 := hid (B2.out.trans (Y14.out.mono B2.out.size))
      go_wp2_with fail
      go_ret
      exact ⟨rfl, B14.out⟩
end Go.Proofs.Ytahknoeloclofaa
