/- Contracts of the small functions over Codes: their size, their copy, their comparison. -/
import Derived.Test.YtnnakmgngkpghaaRows4
namespace Go.Proofs.Ytnnakmgngkpghaa
open Go.RowKit
set_option linter.unusedVariables false

theorem szCodes (a0 a1 : Option Addr) (n0 n1 c0 c1 : Nat) (w : World) (hn0 : n0 ≤ 9223372036854775807) (hn1 : n1 ≤ 9223372036854775807) :
    Calls Try.prog 25 #[.agg #[.slice a0 n0 c0, .slice a1 n1 c1], .int .i64 1048576] w fun e w' => ∃ r : Int, e = .returned (.int .i64 r) ∧ (0 ≤ r ∧ n0 + n1 ≤ 1048576 ∧ r ≤ 1048576 ∨ r = -1 ∧ 1048576 < n0 + n1) ∧ Below w.heap.size w w' := by
  by_cases h : n0 ≤ 1048576
  · have e0 : lft 1048576 n0 = 1048576 - n0 := by unfold lft; rw [if_neg (by omega)]
    by_cases h2 : n0 + n1 ≤ 1048576
    · have e1 : lft (1048576 - n0) n1 = 1048576 - n0 - n1 := by unfold lft; rw [if_neg (by omega)]
      go_enter Try.func25, Try.ntmps25
      go_wp2_with fail
      refine (szInts a0 n0 c0 1048576 _ hn0 (by decide) (by decide)).mono ?_
      rw [e0]
      rintro e w1 ⟨rfl, rfl⟩
      go_wp2_with fail
      refine (szInts a1 n1 c1 (1048576 - n0) _ hn1 (by omega) (by omega)).mono ?_
      rw [e1]
      rintro e w1 ⟨rfl, rfl⟩
      go_wp2
      go_ret
      exact ⟨_, rfl, .inl ⟨by omega, by omega, by omega⟩, (Below.refl _ _).alloc (Nat.le_refl _) _⟩
    · have e1 : lft (1048576 - n0) n1 = -1 := by unfold lft; rw [if_pos (by omega)]
      go_enter Try.func25, Try.ntmps25
      go_wp2_with fail
      refine (szInts a0 n0 c0 1048576 _ hn0 (by decide) (by decide)).mono ?_
      rw [e0]
      rintro e w1 ⟨rfl, rfl⟩
      go_wp2_with fail
      refine (szInts a1 n1 c1 (1048576 - n0) _ hn1 (by omega) (by omega)).mono ?_
      rw [e1]
      rintro e w1 ⟨rfl, rfl⟩
      go_wp2
      go_ret
      exact ⟨_, rfl, .inr ⟨rfl, by omega⟩, (Below.refl _ _).alloc (Nat.le_refl _) _⟩
  · have e0 : lft 1048576 n0 = -1 := by unfold lft; rw [if_pos (by omega)]
    go_enter Try.func25, Try.ntmps25
    go_wp2_with fail
    refine (szInts a0 n0 c0 1048576 _ hn0 (by decide) (by decide)).mono ?_
    rw [e0]
    rintro e w1 ⟨rfl, rfl⟩
    go_wp2
    go_ret
    exact ⟨_, rfl, .inr ⟨rfl, by omega⟩, (Below.refl _ _).alloc (Nat.le_refl _) _⟩

/-- Codes that are read: two slices of ints. -/
def CV (w : World) (v : Value) (cs ss : List Int) : Prop :=
  ∃ a0 c0 a1 c1, v = .agg #[.slice a0 cs.length c0, .slice a1 ss.length c1] ∧ View .i64 w a0 cs.length cs ∧ View .i64 w a1 ss.length ss

theorem CV.below {w w' : World} {v : Value} {cs ss : List Int} (h : CV w v cs ss) (hb : Below w.heap.size w w') : CV w' v cs ss := by
  obtain ⟨a0, c0, a1, c1, rfl, h0, h1⟩ := h
  exact ⟨a0, c0, a1, c1, rfl, h0.below (Nat.le_refl _) hb, h1.below (Nat.le_refl _) hb⟩

/-- Codes that are the call's own: two slices that share no block. -/
def COwn (w : World) (base : Nat) (v : Value) (cs ss : List Int) : Prop :=
  ∃ va vb m, v = .agg #[va, vb] ∧ base ≤ m ∧ Own w base 3 .i64 va cs ∧ Own w m 3 .i64 vb ss ∧ ∀ a n c, va = .slice (some a) n c → a.block < m
theorem COwn.cv {w : World} {base : Nat} {v : Value} {cs ss : List Int} (h : COwn w base v cs ss) : CV w v cs ss := by
  obtain ⟨va, vb, m, rfl, _, h0, h1, _⟩ := h
  obtain ⟨a0, c0, rfl, v0⟩ := h0.view
  obtain ⟨a1, c1, rfl, v1⟩ := h1.view
  exact ⟨a0, c0, a1, c1, rfl, v0, v1⟩
theorem COwn.below {w w' : World} {base : Nat} {v : Value} {cs ss : List Int} (h : COwn w base v cs ss) (hb : Below w.heap.size w w') : COwn w' base v cs ss := by
  obtain ⟨va, vb, m, rfl, hm, h0, h1, h2⟩ := h
  exact ⟨va, vb, m, rfl, hm, h0.below hb, h1.below hb, h2⟩

set_option maxHeartbeats 800000 in
theorem toCodes (v : Value) (cs ss : List Int) (w : World) (h0 : cs.length ≤ 1048576) (h1 : ss.length ≤ 1048576) (hv : CV w v cs ss) :
    Calls Try.prog 29 #[v] w fun e w' => ∃ v', e = .returned v' ∧ COwn w' w.heap.size v' cs ss ∧ Below w.heap.size w w' := by
  obtain ⟨a0, c0, a1, c1, rfl, hv0, hv1⟩ := hv
  have H0 := hid hv0
  have H1 := hid hv1
  clear hv0 hv1
  have t0 := Two.new w (.slice a0 cs.length c0) (.slice a1 ss.length c1) 24
  have t1 := Two.new (w.alloc (.cells #[.slice a0 cs.length c0, .slice a1 ss.length c1] 24)) (.slice none 0 0) (.slice none 0 0) 33
  have t2 := Two.new ((w.alloc (.cells #[.slice a0 cs.length c0, .slice a1 ss.length c1] 24)).alloc (.cells #[.slice none 0 0, .slice none 0 0] 33)) (.slice none 0 0) (.slice none 0 0) 33
  have T0 := hid ((t0.alloc (.cells #[.slice none 0 0, .slice none 0 0] 33)).alloc (.cells #[.slice none 0 0, .slice none 0 0] 33))
  have T1 := hid (t1.alloc (.cells #[.slice none 0 0, .slice none 0 0] 33))
  have T2 := hid t2
  have B0 := hid ((((Below.refl w.heap.size w).alloc (Nat.le_refl _) (.cells #[.slice a0 cs.length c0, .slice a1 ss.length c1] 24)).alloc (by simp) (.cells #[.slice none 0 0, .slice none 0 0] 33)).alloc (by simp; omega) (.cells #[.slice none 0 0, .slice none 0 0] 33))
  simp only [World.size_alloc] at T1 T2
  clear t0 t1 t2
  go_enter Try.func29, Try.ntmps29
  go_wp2_with fail
  refine (toInts a0 cs.length c0 cs _ h0 (H0.out.below (Nat.le_refl _) B0.out)).mono ?_
  generalize ((w.alloc _).alloc _).alloc _ = wa at *
  rintro e w1 ⟨va, rfl, hown1, hb1⟩
  obtain ⟨ao, cap, rfl⟩ := hown1.shape
  have HO1 := hid hown1
  have U0 := hid (T0.out.below hb1 T0.out.lt)
  have U1 := hid (T1.out.below hb1 T1.out.lt)
  have U2 := hid (T2.out.below hb1 T2.out.lt)
  have BB1 := hid (B0.out.trans (hb1.mono B0.out.size))
  have T2lt : w.heap.size + 1 + 1 < wa.heap.size := T2.out.lt
  clear hown1 hb1 T0 T1 T2
  obtain ⟨q1, q2, q3, q4⟩ := U0.out.cells
  obtain ⟨q5, q6, q7, q8⟩ := U2.out.cells
  go_wp2_with fail
  have V1 := hid ((U1.out.other (show w.heap.size + 1 ≠ w.heap.size + 1 + 1 by omega) (i := 0) (.slice ao cs.length cap)))
  have V0 := hid ((U0.out.other (show w.heap.size ≠ w.heap.size + 1 + 1 by omega) (i := 0) (.slice ao cs.length cap)))
  have V2 := hid (U2.out.set0 (.slice ao cs.length cap))
  have BB2 := hid (BB1.out.setCell (p := ⟨w.heap.size + 1 + 1, 0, none⟩) (by show w.heap.size ≤ w.heap.size + 1 + 1; omega) (.slice ao cs.length cap))
  have HO2 := hid (HO1.out.setCell_below (a := ⟨w.heap.size + 1 + 1, 0, none⟩) T2lt (.slice ao cs.length cap))
  refine (toInts a1 ss.length c1 ss _ h1 (H1.out.below (Nat.le_refl _) BB2.out)).mono ?_
  generalize w1.setCell _ _ = wb at *
  rintro e w2 ⟨vb, rfl, hown2, hb2⟩
  obtain ⟨bo, bcap, rfl⟩ := hown2.shape
  clear q1 q2 q3 q4 q5 q6 q7 q8
  have HO3 := hid (HO2.out.below hb2)
  have HP3 := hid hown2
  have X0 := hid (V0.out.below hb2 V0.out.lt)
  have X1 := hid (V1.out.below hb2 V1.out.lt)
  have X2 := hid (V2.out.below hb2 V2.out.lt)
  have X2lt : w.heap.size + 1 + 1 < wb.heap.size := V2.out.lt
  have BB3 := hid (BB2.out.trans (hb2.mono BB2.out.size))
  have HL : ∀ (a : Addr) n c, Value.slice ao cs.length cap = .slice (some a) n c → a.block < wb.heap.size := by
    intro a n c e
    cases e
    exact HO2.out.ge.2
  clear hown2 hb2 V0 V1 V2 HO1 HO2 BB1 BB2 U0 U1 U2
  obtain ⟨q1, q2, q3, q4⟩ := X1.out.cells
  obtain ⟨q5, q6, q7, q8⟩ := X2.out.cells
  go_wp2
  refine bodyPost_ret (v := .agg #[.slice ao cs.length cap, .slice bo ss.length bcap]) (by simp [results, Try.results29, go_sem, q1, q2]) rfl ⟨_, rfl, ⟨_, _, wb.heap.size, rfl, ?_, ?_, ?_, HL⟩, ?_⟩
  · omega
  · exact (((HO3.out.setCell_below (a := ⟨w.heap.size + 1 + 1, 1, none⟩) (by show w.heap.size + 1 + 1 < wa.heap.size; omega) _).setCell_below (a := ⟨w.heap.size + 1, 0, none⟩) (by show w.heap.size + 1 < wa.heap.size; omega) _).setCell_below (a := ⟨w.heap.size + 1, 1, none⟩) (by show w.heap.size + 1 < wa.heap.size; omega) _).mono (by omega)
  · exact ((HP3.out.setCell_below (a := ⟨w.heap.size + 1 + 1, 1, none⟩) (by show w.heap.size + 1 + 1 < wb.heap.size; omega) _).setCell_below (a := ⟨w.heap.size + 1, 0, none⟩) (by show w.heap.size + 1 < wb.heap.size; omega) _).setCell_below (a := ⟨w.heap.size + 1, 1, none⟩) (by show w.heap.size + 1 < wb.heap.size; omega) _
  · exact ((BB3.out.setCell (p := ⟨w.heap.size + 1 + 1, 1, none⟩) (by show w.heap.size ≤ w.heap.size + 1 + 1; omega) _).setCell (p := ⟨w.heap.size + 1, 0, none⟩) (by show w.heap.size ≤ w.heap.size + 1; omega) _).setCell (p := ⟨w.heap.size + 1, 1, none⟩) (by show w.heap.size ≤ w.heap.size + 1; omega) _

set_option maxHeartbeats 800000 in
/-- Two Codes that read as the same numbers. -/
theorem eqCodes_same (v v' : Value) (cs ss : List Int) (w : World) (h0 : cs.length ≤ 1048576) (h1 : ss.length ≤ 1048576) (hv : CV w v cs ss) (hv' : CV w v' cs ss) :
    Calls Try.prog 32 #[v, v'] w fun e w' => e = .returned (.bool true) ∧ Below w.heap.size w w' := by
  obtain ⟨a0, c0, a1, c1, rfl, u0, u1⟩ := hv
  obtain ⟨b0, d0, b1, d1, rfl, x0, x1⟩ := hv'
  have t0 := Two.new w (.slice a0 cs.length c0) (.slice a1 ss.length c1) 33
  have t1 := Two.new (w.alloc (.cells #[.slice a0 cs.length c0, .slice a1 ss.length c1] 33)) (.slice b0 cs.length d0) (.slice b1 ss.length d1) 33
  have T0 := hid (t0.alloc (.cells #[.slice b0 cs.length d0, .slice b1 ss.length d1] 33))
  have T1 := hid t1
  have B0 := hid (((Below.refl w.heap.size w).alloc (Nat.le_refl _) (.cells #[.slice a0 cs.length c0, .slice a1 ss.length c1] 33)).alloc (by simp) (.cells #[.slice b0 cs.length d0, .slice b1 ss.length d1] 33))
  simp only [World.size_alloc] at T1
  have U0 := hid u0
  have U1 := hid u1
  have X0 := hid x0
  have X1 := hid x1
  clear t0 t1 u0 u1 x0 x1
  go_enter Try.func32, Try.ntmps32
  go_wp2_with fail
  refine (eqInts_same a0 b0 cs.length c0 d0 cs _ (by omega) (U0.out.below (Nat.le_refl _) B0.out) (X0.out.below (Nat.le_refl _) B0.out)).mono ?_
  generalize (w.alloc _).alloc _ = wa at *
  rintro e w1 ⟨rfl, hb1⟩
  have Y0 := hid (T0.out.below hb1 T0.out.lt)
  have Y1 := hid (T1.out.below hb1 T1.out.lt)
  have BB1 := hid (B0.out.trans (hb1.mono B0.out.size))
  clear hb1 T0 T1
  obtain ⟨q1, q2, q3, q4⟩ := Y0.out.cells
  obtain ⟨q5, q6, q7, q8⟩ := Y1.out.cells
  go_wp2_with fail
  refine (eqInts_same a1 b1 ss.length c1 d1 ss _ (by omega) (U1.out.below (Nat.le_refl _) BB1.out) (X1.out.below (Nat.le_refl _) BB1.out)).mono ?_
  rintro e w2 ⟨rfl, hb2⟩
  have BB2 := hid (BB1.out.trans (hb2.mono BB1.out.size))
  clear hb2
  go_wp2
  go_ret
  exact ⟨rfl, BB2.out⟩
end Go.Proofs.Ytnnakmgngkpghaa
