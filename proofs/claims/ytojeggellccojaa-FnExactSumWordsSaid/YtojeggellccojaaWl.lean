/- The law FnExactSumWords walked. -/
import Derived.Test.YtojeggellccojaaMk
namespace Go.Proofs.Ytojeggellccojaa
open Go.RowKit
set_option linter.unusedVariables false

/-- What SumWords tells of a text. -/
def wsR (s : ByteArray) : List Int := if s.size = 64 then ws s 64 else []
theorem wsR_len (s : ByteArray) : (wsR s).length ≤ 64 := by
  unfold wsR
  split
  · rw [ws_len]
    omega
  · simp
theorem impl_words_any (s : ByteArray) (hs : s.size ≤ 1048576) (w : World) :
    Calls Try.prog 6 #[.string s] w fun e w' => ∃ v, e = .returned v ∧ Own w' w.heap.size 28 .u32 v (wsR s) ∧ Below w.heap.size w w' := by
  by_cases h : s.size = 64
  · unfold wsR
    rw [if_pos h]
    exact impl_words s h w
  · unfold wsR
    rw [if_neg h]
    have h1 : ((s.size : Int) == 64) = false := by simp; omega
    clear h
    go_enter Try.func6, Try.ntmps6
    go_wp2_with fail
    go_ret
    exact ⟨_, rfl, Own.empty _ _ _ _ (Nat.le_refl _), (Below.refl _ _).alloc (Nat.le_refl _) _⟩
theorem spec_words_any (s : ByteArray) (hs : s.size ≤ 1048576) (w : World) :
    Calls Try.prog 5 #[.string s] w fun e w' => ∃ v, e = .returned v ∧ Own w' w.heap.size 28 .u32 v (wsR s) ∧ Below w.heap.size w w' := by
  by_cases h : s.size = 64
  · unfold wsR
    rw [if_pos h]
    exact spec_words s h w
  · unfold wsR
    rw [if_neg h]
    have h1 : ((s.size : Int) == 64) = false := by simp; omega
    clear h
    go_enter Try.func5, Try.ntmps5
    go_wp2_with fail
    go_ret
    exact ⟨_, rfl, Own.empty _ _ _ _ (Nat.le_refl _), (Below.refl _ _).alloc (Nat.le_refl _) _⟩

set_option maxHeartbeats 1600000 in
theorem law_words (s : ByteArray) (w : World) (hm : s.size ≤ 9223372036854775807) :
    Calls Try.prog 3 #[.string s] w fun e w' => e = .returned (.bool true) ∧ Below w.heap.size w w' := by
  by_cases hl : (1048576 : Int) < (s.size : Int)
  · clear hm
    go_enter Try.func3, Try.ntmps3
    go_wp2_with fail
    go_ret
    exact ⟨rfl, Below.refl _ _⟩
  · have hs : s.size ≤ 1048576 := by omega
    have hd : decide ((1048576 : Int) < (s.size : Int)) = false := decide_eq_false hl
    have HI := hid (fun q => impl_words_any s hs q)
    have HS := hid (fun q => spec_words_any s hs q)
    have hL := wsR_len s
    generalize wsR s = R at *
    have HQ := hid (fun v u q h1 h2 => eq_own v u R q (by omega) h1 h2)
    have HM := hid (fun B v q ho => mark_any B v R q (by omega) ho)
    have HH := hid (fun v q h => held_own v R.length q (by omega) h)
    have hqq : ¬ ((R.length : Int) + 1 < 0) := by omega
    clear hl hs hm hL
    generalize R.length = L at *
    go_enter Try.func3, Try.ntmps3
    go_wp2_with fail
    refine (HS.out _).mono ?_
    rintro e w1 ⟨v0, rfl, ho0, hb1⟩
    have B1 := hid hb1
    have V0 := hid ho0.vw
    clear ho0 hb1
    go_wp2_with fail
    refine (HI.out _).mono ?_
    rintro e w2 ⟨g0, rfl, hg0, hb2⟩
    have G2 := hid hg0
    have B2 := hid hb2
    clear hg0 hb2
    go_wp2_with fail
    refine (HQ.out _ _ _ G2.out.vw (V0.out.below (Nat.le_refl _) B2.out)).mono ?_
    rintro e w3 ⟨rfl, hb3⟩
    have G3 := hid (G2.out.below hb3)
    have B3 := hid (B2.out.trans (hb3.mono B2.out.size))
    clear hb3 G2 B2
    go_wp2_with fail
    refine (HM.out _ _ _ G3.out).mono ?_
    rintro e w4 ⟨rfl, hg4, ht4⟩
    have G4 := hid hg4
    have B4 := hid (B3.out.trans (ht4.below (fun a n c h => by subst h; exact G3.out.ge.1) B3.out.size))
    clear hg4 ht4 G3 B3
    go_wp2_with fail
    refine (HH.out _ _ G4.out.vw).mono ?_
    rintro e w5 ⟨rfl, rfl⟩
    go_wp2_with fail
    refine (HI.out _).mono ?_
    rintro e w6 ⟨h0, rfl, hh0, hb6⟩
    have H6 := hid hh0
    have G6 := hid (G4.out.below hb6)
    have B6 := hid (B4.out.trans (hb6.mono B4.out.size))
    clear hh0 hb6 G4 B4
    go_wp2_with fail
    refine (HQ.out _ _ _ H6.out.vw (V0.out.below (Nat.le_refl _) B6.out)).mono ?_
    rintro e w7 ⟨rfl, hb7⟩
    have G7 := hid (G6.out.below hb7)
    have B7 := hid (B6.out.trans (hb7.mono B6.out.size))
    clear hb7 G6 B6 H6
    go_wp2_with fail
    refine (HH.out _ _ G7.out.vw).mono ?_
    rintro e w8 ⟨rfl, rfl⟩
    go_wp2_with fail
    go_ret
    exact ⟨rfl, B1.out.trans (B7.out.mono B1.out.size)⟩
end Go.Proofs.Ytojeggellccojaa
