/- Texts joined: Cod, OkPlain, OkImpl, OkBoth, Keys, Book, All, CodePlain. No statement is proved here. -/
import Derived.Test.YtnnakmgngkpghaaGreatGc
import Derived.Deep.WholeRow
import Derived.Deep.RegionWith
import Derived.Deep.QuietTactic
import Derived.BigQuiet
import Derived.Test.YtnnakmgngkpghaaGreatGb
import Derived.Maps.Own
import Derived.Maps.OwnOps
import Derived.DeepKeys4
import Derived.MapViews
import Derived.ChangeSame

/- Contracts of the small functions over Codes: their size, their copy, their comparison. -/
namespace Go.Proofs.YtnnakmgngkpghaaGreat
open Go.RowKit
set_option linter.unusedVariables false

theorem szCodes (a0 a1 : Option Addr) (n0 n1 c0 c1 : Nat) (w : World) (hn0 : n0 ≤ 9223372036854775807) (hn1 : n1 ≤ 9223372036854775807) :
    Calls Tryz.prog 39 #[.agg #[.slice a0 n0 c0, .slice a1 n1 c1], .int .i64 1048576] w fun e w' => ∃ r : Int, e = .returned (.int .i64 r) ∧ (0 ≤ r ∧ n0 + n1 ≤ 1048576 ∧ r ≤ 1048576 ∨ r = -1 ∧ 1048576 < n0 + n1) ∧ Below w.heap.size w w' := by
  by_cases h : n0 ≤ 1048576
  · have e0 : lft 1048576 n0 = 1048576 - n0 := by unfold lft; rw [if_neg (by omega)]
    by_cases h2 : n0 + n1 ≤ 1048576
    · have e1 : lft (1048576 - n0) n1 = 1048576 - n0 - n1 := by unfold lft; rw [if_neg (by omega)]
      go_enter Tryz.func39, Tryz.ntmps39
      go_wp2_with fail
      refine (szInts a0 n0 c0 1048576 _ hn0 (by decide) (by decide)).mono ?_
      rw [e0]
      rintro e w1 ⟨rfl, rfl⟩
      go_wp2_with fail
      refine (szInts a1 n1 c1 (1048576 - n0) _ hn1 (by omega) (by omega)).mono ?_
      rw [e1]
      rintro e w1 ⟨rfl, rfl⟩
      go_wp2
      go_ret
      exact ⟨_, rfl, .inl ⟨by omega, by omega, by omega⟩, (Below.refl _ _).alloc (Nat.le_refl _) _⟩
    · have e1 : lft (1048576 - n0) n1 = -1 := by unfold lft; rw [if_pos (by omega)]
      go_enter Tryz.func39, Tryz.ntmps39
      go_wp2_with fail
      refine (szInts a0 n0 c0 1048576 _ hn0 (by decide) (by decide)).mono ?_
      rw [e0]
      rintro e w1 ⟨rfl, rfl⟩
      go_wp2_with fail
      refine (szInts a1 n1 c1 (1048576 - n0) _ hn1 (by omega) (by omega)).mono ?_
      rw [e1]
      rintro e w1 ⟨rfl, rfl⟩
      go_wp2
      go_ret
      exact ⟨_, rfl, .inr ⟨rfl, by omega⟩, (Below.refl _ _).alloc (Nat.le_refl _) _⟩
  · have e0 : lft 1048576 n0 = -1 := by unfold lft; rw [if_pos (by omega)]
    go_enter Tryz.func39, Tryz.ntmps39
    go_wp2_with fail
    refine (szInts a0 n0 c0 1048576 _ hn0 (by decide) (by decide)).mono ?_
    rw [e0]
    rintro e w1 ⟨rfl, rfl⟩
    go_wp2
    go_ret
    exact ⟨_, rfl, .inr ⟨rfl, by omega⟩, (Below.refl _ _).alloc (Nat.le_refl _) _⟩

/-- Codes that are read: two slices of ints. -/
def CV (w : World) (v : Value) (cs ss : List Int) : Prop :=
  ∃ a0 c0 a1 c1, v = .agg #[.slice a0 cs.length c0, .slice a1 ss.length c1] ∧ View .i64 w a0 cs.length cs ∧ View .i64 w a1 ss.length ss

theorem CV.below {w w' : World} {v : Value} {cs ss : List Int} (h : CV w v cs ss) (hb : Below w.heap.size w w') : CV w' v cs ss := by
  obtain ⟨a0, c0, a1, c1, rfl, h0, h1⟩ := h
  exact ⟨a0, c0, a1, c1, rfl, h0.below (Nat.le_refl _) hb, h1.below (Nat.le_refl _) hb⟩

/-- Codes that are the call's own: two slices that share no block. -/
def COwn (w : World) (base : Nat) (v : Value) (cs ss : List Int) : Prop :=
  ∃ va vb m, v = .agg #[va, vb] ∧ base ≤ m ∧ Own w base 3 .i64 va cs ∧ Own w m 3 .i64 vb ss ∧ ∀ a n c, va = .slice (some a) n c → a.block < m
theorem COwn.cv {w : World} {base : Nat} {v : Value} {cs ss : List Int} (h : COwn w base v cs ss) : CV w v cs ss := by
  obtain ⟨va, vb, m, rfl, _, h0, h1, _⟩ := h
  obtain ⟨a0, c0, rfl, v0⟩ := h0.view
  obtain ⟨a1, c1, rfl, v1⟩ := h1.view
  exact ⟨a0, c0, a1, c1, rfl, v0, v1⟩
theorem COwn.below {w w' : World} {base : Nat} {v : Value} {cs ss : List Int} (h : COwn w base v cs ss) (hb : Below w.heap.size w w') : COwn w' base v cs ss := by
  obtain ⟨va, vb, m, rfl, hm, h0, h1, h2⟩ := h
  exact ⟨va, vb, m, rfl, hm, h0.below hb, h1.below hb, h2⟩

set_option maxHeartbeats 800000 in
theorem toCodes (v : Value) (cs ss : List Int) (w : World) (h0 : cs.length ≤ 1048576) (h1 : ss.length ≤ 1048576) (hv : CV w v cs ss) :
    Calls Tryz.prog 44 #[v] w fun e w' => ∃ v', e = .returned v' ∧ COwn w' w.heap.size v' cs ss ∧ Below w.heap.size w w' := by
  obtain ⟨a0, c0, a1, c1, rfl, hv0, hv1⟩ := hv
  have H0 := hid hv0
  have H1 := hid hv1
  clear hv0 hv1
  have t0 := Two.new w (.slice a0 cs.length c0) (.slice a1 ss.length c1) 24
  have t1 := Two.new (w.alloc (.cells #[.slice a0 cs.length c0, .slice a1 ss.length c1] 24)) (.slice none 0 0) (.slice none 0 0) 31
  have t2 := Two.new ((w.alloc (.cells #[.slice a0 cs.length c0, .slice a1 ss.length c1] 24)).alloc (.cells #[.slice none 0 0, .slice none 0 0] 31)) (.slice none 0 0) (.slice none 0 0) 31
  have T0 := hid ((t0.alloc (.cells #[.slice none 0 0, .slice none 0 0] 31)).alloc (.cells #[.slice none 0 0, .slice none 0 0] 31))
  have T1 := hid (t1.alloc (.cells #[.slice none 0 0, .slice none 0 0] 31))
  have T2 := hid t2
  have B0 := hid ((((Below.refl w.heap.size w).alloc (Nat.le_refl _) (.cells #[.slice a0 cs.length c0, .slice a1 ss.length c1] 24)).alloc (by simp) (.cells #[.slice none 0 0, .slice none 0 0] 31)).alloc (by simp; omega) (.cells #[.slice none 0 0, .slice none 0 0] 31))
  simp only [World.size_alloc] at T1 T2
  clear t0 t1 t2
  go_enter Tryz.func44, Tryz.ntmps44
  go_wp2_with fail
  refine (toInts a0 cs.length c0 cs _ h0 (H0.out.below (Nat.le_refl _) B0.out)).mono ?_
  generalize ((w.alloc _).alloc _).alloc _ = wa at *
  rintro e w1 ⟨va, rfl, hown1, hb1⟩
  obtain ⟨ao, cap, rfl⟩ := hown1.shape
  have HO1 := hid hown1
  have U0 := hid (T0.out.below hb1 T0.out.lt)
  have U1 := hid (T1.out.below hb1 T1.out.lt)
  have U2 := hid (T2.out.below hb1 T2.out.lt)
  have BB1 := hid (B0.out.trans (hb1.mono B0.out.size))
  have T2lt : w.heap.size + 1 + 1 < wa.heap.size := T2.out.lt
  clear hown1 hb1 T0 T1 T2
  obtain ⟨q1, q2, q3, q4⟩ := U0.out.cells
  obtain ⟨q5, q6, q7, q8⟩ := U2.out.cells
  go_wp2_with fail
  have V1 := hid ((U1.out.other (show w.heap.size + 1 ≠ w.heap.size + 1 + 1 by omega) (i := 0) (.slice ao cs.length cap)))
  have V0 := hid ((U0.out.other (show w.heap.size ≠ w.heap.size + 1 + 1 by omega) (i := 0) (.slice ao cs.length cap)))
  have V2 := hid (U2.out.set0 (.slice ao cs.length cap))
  have BB2 := hid (BB1.out.setCell (p := ⟨w.heap.size + 1 + 1, 0, none⟩) (by show w.heap.size ≤ w.heap.size + 1 + 1; omega) (.slice ao cs.length cap))
  have HO2 := hid (HO1.out.setCell_below (a := ⟨w.heap.size + 1 + 1, 0, none⟩) T2lt (.slice ao cs.length cap))
  refine (toInts a1 ss.length c1 ss _ h1 (H1.out.below (Nat.le_refl _) BB2.out)).mono ?_
  generalize w1.setCell _ _ = wb at *
  rintro e w2 ⟨vb, rfl, hown2, hb2⟩
  obtain ⟨bo, bcap, rfl⟩ := hown2.shape
  clear q1 q2 q3 q4 q5 q6 q7 q8
  have HO3 := hid (HO2.out.below hb2)
  have HP3 := hid hown2
  have X0 := hid (V0.out.below hb2 V0.out.lt)
  have X1 := hid (V1.out.below hb2 V1.out.lt)
  have X2 := hid (V2.out.below hb2 V2.out.lt)
  have X2lt : w.heap.size + 1 + 1 < wb.heap.size := V2.out.lt
  have BB3 := hid (BB2.out.trans (hb2.mono BB2.out.size))
  have HL : ∀ (a : Addr) n c, Value.slice ao cs.length cap = .slice (some a) n c → a.block < wb.heap.size := by
    intro a n c e
    cases e
    exact HO2.out.ge.2
  clear hown2 hb2 V0 V1 V2 HO1 HO2 BB1 BB2 U0 U1 U2
  obtain ⟨q1, q2, q3, q4⟩ := X1.out.cells
  obtain ⟨q5, q6, q7, q8⟩ := X2.out.cells
  go_wp2
  refine bodyPost_ret (v := .agg #[.slice ao cs.length cap, .slice bo ss.length bcap]) (by simp [results, Tryz.results44, go_sem, q1, q2]) rfl ⟨_, rfl, ⟨_, _, wb.heap.size, rfl, ?_, ?_, ?_, HL⟩, ?_⟩
  · omega
  · exact (((HO3.out.setCell_below (a := ⟨w.heap.size + 1 + 1, 1, none⟩) (by show w.heap.size + 1 + 1 < wa.heap.size; omega) _).setCell_below (a := ⟨w.heap.size + 1, 0, none⟩) (by show w.heap.size + 1 < wa.heap.size; omega) _).setCell_below (a := ⟨w.heap.size + 1, 1, none⟩) (by show w.heap.size + 1 < wa.heap.size; omega) _).mono (by omega)
  · exact ((HP3.out.setCell_below (a := ⟨w.heap.size + 1 + 1, 1, none⟩) (by show w.heap.size + 1 + 1 < wb.heap.size; omega) _).setCell_below (a := ⟨w.heap.size + 1, 0, none⟩) (by show w.heap.size + 1 < wb.heap.size; omega) _).setCell_below (a := ⟨w.heap.size + 1, 1, none⟩) (by show w.heap.size + 1 < wb.heap.size; omega) _
  · exact ((BB3.out.setCell (p := ⟨w.heap.size + 1 + 1, 1, none⟩) (by show w.heap.size ≤ w.heap.size + 1 + 1; omega) _).setCell (p := ⟨w.heap.size + 1, 0, none⟩) (by show w.heap.size ≤ w.heap.size + 1; omega) _).setCell (p := ⟨w.heap.size + 1, 1, none⟩) (by show w.heap.size ≤ w.heap.size + 1; omega) _

set_option maxHeartbeats 800000 in
/-- Two Codes that read as the same numbers. -/
theorem eqCodes_same (v v' : Value) (cs ss : List Int) (w : World) (h0 : cs.length ≤ 1048576) (h1 : ss.length ≤ 1048576) (hv : CV w v cs ss) (hv' : CV w v' cs ss) :
    Calls Tryz.prog 49 #[v, v'] w fun e w' => e = .returned (.bool true) ∧ Below w.heap.size w w' := by
  obtain ⟨a0, c0, a1, c1, rfl, u0, u1⟩ := hv
  obtain ⟨b0, d0, b1, d1, rfl, x0, x1⟩ := hv'
  have t0 := Two.new w (.slice a0 cs.length c0) (.slice a1 ss.length c1) 31
  have t1 := Two.new (w.alloc (.cells #[.slice a0 cs.length c0, .slice a1 ss.length c1] 31)) (.slice b0 cs.length d0) (.slice b1 ss.length d1) 31
  have T0 := hid (t0.alloc (.cells #[.slice b0 cs.length d0, .slice b1 ss.length d1] 31))
  have T1 := hid t1
  have B0 := hid (((Below.refl w.heap.size w).alloc (Nat.le_refl _) (.cells #[.slice a0 cs.length c0, .slice a1 ss.length c1] 31)).alloc (by simp) (.cells #[.slice b0 cs.length d0, .slice b1 ss.length d1] 31))
  simp only [World.size_alloc] at T1
  have U0 := hid u0
  have U1 := hid u1
  have X0 := hid x0
  have X1 := hid x1
  clear t0 t1 u0 u1 x0 x1
  go_enter Tryz.func49, Tryz.ntmps49
  go_wp2_with fail
  refine (eqInts_same a0 b0 cs.length c0 d0 cs _ (by omega) (U0.out.below (Nat.le_refl _) B0.out) (X0.out.below (Nat.le_refl _) B0.out)).mono ?_
  generalize (w.alloc _).alloc _ = wa at *
  rintro e w1 ⟨rfl, hb1⟩
  have Y0 := hid (T0.out.below hb1 T0.out.lt)
  have Y1 := hid (T1.out.below hb1 T1.out.lt)
  have BB1 := hid (B0.out.trans (hb1.mono B0.out.size))
  clear hb1 T0 T1
  obtain ⟨q1, q2, q3, q4⟩ := Y0.out.cells
  obtain ⟨q5, q6, q7, q8⟩ := Y1.out.cells
  go_wp2_with fail
  refine (eqInts_same a1 b1 ss.length c1 d1 ss _ (by omega) (U1.out.below (Nat.le_refl _) BB1.out) (X1.out.below (Nat.le_refl _) BB1.out)).mono ?_
  rintro e w2 ⟨rfl, hb2⟩
  have BB2 := hid (BB1.out.trans (hb2.mono BB1.out.size))
  clear hb2
  go_wp2
  go_ret
  exact ⟨rfl, BB2.out⟩
end Go.Proofs.YtnnakmgngkpghaaGreat

/- Plain facts on right codes, and a block that holds an array. No function of the program is named here. -/
namespace Go.Proofs.YtnnakmgngkpghaaGreat
open Go.RowKit
set_option linter.unusedVariables false

theorem Arr.new (w : World) (cs : Array Value) (t : TypeId) : Arr (w.alloc (.cells cs t)) w.heap.size cs t := heap_alloc_new w _
/-- x is a symbol. -/
def inB (x : Int) : Bool := decide (0 ≤ x ∧ x ≤ 255)
/-- x is one of the first k numbers. -/
def hasTo (xs : List Int) : Nat → Int → Bool
  | 0, _ => false
  | k + 1, x => x == xs.getD k 0 || hasTo xs k x
/-- The first k numbers are symbols, no two alike. -/
def apartTo (xs : List Int) : Nat → Bool
  | 0 => true
  | k + 1 => apartTo xs k && (inB (xs.getD k 0) && !hasTo xs k (xs.getD k 0))
theorem apartTo_bad (xs : List Int) (k : Nat) (h : (inB (xs.getD k 0) && !hasTo xs k (xs.getD k 0)) = false) : ∀ n, k < n → apartTo xs n = false
  | n + 1, hn => by
    rw [apartTo]
    by_cases e : k = n
    · subst e; rw [h, Bool.and_false]
    · rw [apartTo_bad xs k h n (by omega), Bool.false_and]
theorem apartTo_le (xs : List Int) : ∀ n k, k ≤ n → apartTo xs n = true → apartTo xs k = true
  | 0, k, hk, h => by rw [show k = 0 by omega]; rfl
  | n + 1, k, hk, h => by
    by_cases e : k = n + 1
    · rw [e]; exact h
    · rw [apartTo] at h
      exact apartTo_le xs n k (by omega) (by simp only [Bool.and_eq_true] at h; exact h.1)
theorem hasTo_iff (xs : List Int) (x : Int) : ∀ k, hasTo xs k x = true ↔ ∃ j, j < k ∧ xs.getD j 0 = x
  | 0 => by simp [hasTo]
  | k + 1 => by
    rw [hasTo, Bool.or_eq_true, hasTo_iff xs x k]
    constructor
    · rintro (h | ⟨j, hj, h⟩)
      · exact ⟨k, by omega, by simpa using (beq_iff_eq.1 h).symm⟩
      · exact ⟨j, by omega, h⟩
    · rintro ⟨j, hj, h⟩
      by_cases e : j = k
      · subst e; left; rw [h]; simp
      · exact .inr ⟨j, by omega, h⟩

/-- How many symbols the first k counts tell. -/
def told (cs : List Int) : Nat → Int
  | 0 => 0
  | k + 1 => told cs k + cs.getD k 0
/-- How much room their codes take. -/
def room (cs : List Int) : Nat → Int
  | 0 => 0
  | k + 1 => room cs k + cs.getD k 0 * 2 ^ (15 - k)
def okTo (cs : List Int) : Nat → Bool
  | 0 => true
  | k + 1 => okTo cs k && inB (cs.getD k 0)
theorem okTo_bad (cs : List Int) (k : Nat) (h : inB (cs.getD k 0) = false) : ∀ n, k < n → okTo cs n = false
  | n + 1, hn => by
    rw [okTo]
    by_cases e : k = n
    · subst e; rw [h, Bool.and_false]
    · rw [okTo_bad cs k h n (by omega), Bool.false_and]
theorem inB_iff (x : Int) : inB x = true ↔ 0 ≤ x ∧ x ≤ 255 := by simp [inB]
theorem inB_no (x : Int) : inB x = false ↔ ¬ (0 ≤ x ∧ x ≤ 255) := by simp [inB]
theorem okTo_at (cs : List Int) : ∀ n, okTo cs n = true → ∀ k, k < n → 0 ≤ cs.getD k 0 ∧ cs.getD k 0 ≤ 255
  | n + 1, h, k, hk => by
    simp only [okTo, Bool.and_eq_true] at h
    by_cases e : k = n
    · subst e; exact (inB_iff _).1 h.2
    · exact okTo_at cs n h.1 k (by omega)
theorem told_bounds (cs : List Int) : ∀ n, okTo cs n = true → 0 ≤ told cs n ∧ told cs n ≤ 255 * n
  | 0, _ => by simp [told]
  | n + 1, h => by
    simp only [okTo, Bool.and_eq_true] at h
    have := told_bounds cs n h.1
    have := (inB_iff _).1 h.2
    rw [told]
    omega
theorem pow2_le (k : Nat) (h : k ≤ 15) : (1 : Int) ≤ 2 ^ k ∧ (2 : Int) ^ k ≤ 32768 := by
  have h1 := pow2_mono 0 k
  have h2 := pow2_mono k (15 - k)
  rw [Nat.zero_add] at h1
  rw [show k + (15 - k) = 15 by omega] at h2
  exact ⟨h1, h2⟩
theorem mul_bounds (x p : Int) (h0 : 0 ≤ x) (h1 : x ≤ 255) (p0 : 1 ≤ p) (p1 : p ≤ 32768) : 0 ≤ x * p ∧ x * p ≤ 8355840 := by
  refine ⟨Int.mul_nonneg h0 (by omega), ?_⟩
  have := Int.mul_le_mul h1 p1 (by omega) (by omega)
  omega
theorem room_bounds (cs : List Int) : ∀ n, n ≤ 16 → okTo cs n = true → 0 ≤ room cs n ∧ room cs n ≤ 8355840 * n
  | 0, _, _ => by simp [room]
  | n + 1, hn, h => by
    simp only [okTo, Bool.and_eq_true] at h
    have := room_bounds cs n (by omega) h.1
    have hx := (inB_iff _).1 h.2
    have hp := pow2_le (15 - n) (by omega)
    have := mul_bounds _ _ hx.1 hx.2 hp.1 hp.2
    rw [room]
    omega

/-- The counts are those of codes. -/
def goodC (cs : List Int) : Bool := decide (cs.length = 16) && (okTo cs 16 && (decide (1 ≤ told cs 16 ∧ told cs 16 ≤ 255) && decide (room cs 16 ≤ 65535)))
/-- How many symbols good counts tell; -1 for others. -/
def toldR (cs : List Int) : Int := if goodC cs = true then told cs 16 else -1
/-- The codes are right. -/
def rightC (cs ss : List Int) : Bool := decide (toldR cs = (ss.length : Int)) && apartTo ss ss.length

theorem goodC_iff (cs : List Int) : goodC cs = true ↔ cs.length = 16 ∧ okTo cs 16 = true ∧ (1 ≤ told cs 16 ∧ told cs 16 ≤ 255) ∧ room cs 16 ≤ 65535 := by
  simp [goodC]
theorem toldR_no {cs : List Int} (h : ¬ (cs.length = 16 ∧ okTo cs 16 = true ∧ (1 ≤ told cs 16 ∧ told cs 16 ≤ 255) ∧ room cs 16 ≤ 65535)) : toldR cs = -1 := by
  unfold toldR
  rw [if_neg (fun e => h ((goodC_iff cs).1 e))]
theorem toldR_yes {cs : List Int} (h : cs.length = 16 ∧ okTo cs 16 = true ∧ (1 ≤ told cs 16 ∧ told cs 16 ≤ 255) ∧ room cs 16 ≤ 65535) : toldR cs = told cs 16 := by
  unfold toldR
  rw [if_pos ((goodC_iff cs).2 h)]
theorem right_iff (cs ss : List Int) : rightC cs ss = true ↔ (cs.length = 16 ∧ okTo cs 16 = true ∧ (1 ≤ told cs 16 ∧ told cs 16 ≤ 255) ∧ room cs 16 ≤ 65535) ∧ told cs 16 = ss.length ∧ apartTo ss ss.length = true := by
  unfold rightC
  rw [Bool.and_eq_true, decide_eq_true_eq]
  by_cases h : cs.length = 16 ∧ okTo cs 16 = true ∧ (1 ≤ told cs 16 ∧ told cs 16 ≤ 255) ∧ room cs 16 ≤ 65535
  · rw [toldR_yes h]
    exact ⟨fun ⟨a, b⟩ => ⟨h, a, b⟩, fun ⟨_, a, b⟩ => ⟨a, b⟩⟩
  · rw [toldR_no h]
    exact ⟨fun ⟨a, b⟩ => by omega, fun ⟨a, _⟩ => absurd a h⟩
theorem right_no {cs ss : List Int} (h : ¬ ((cs.length = 16 ∧ okTo cs 16 = true ∧ (1 ≤ told cs 16 ∧ told cs 16 ≤ 255) ∧ room cs 16 ≤ 65535) ∧ told cs 16 = ss.length ∧ apartTo ss ss.length = true)) : rightC cs ss = false := by
  rw [← Bool.not_eq_true, right_iff]
  exact h
end Go.Proofs.YtnnakmgngkpghaaGreat

/- Contracts of countsTold, areSymsApart and CodesOk of the program. -/
namespace Go.Proofs.YtnnakmgngkpghaaGreat
open Go.RowKit
set_option linter.unusedVariables false

theorem isSym_any (x : Int) (w : World) :
    Calls Tryz.prog 129 #[.int .i64 x] w fun e w' => e = .returned (.bool (inB x)) ∧ w' = w := by
  by_cases h1 : 0 ≤ x <;> by_cases h2 : x < 256
  all_goals
    go_enter Tryz.func129, Tryz.ntmps129
    go_wp2
    go_ret
    exact ⟨by simp [inB, h1]; omega, rfl⟩

theorem zero87 : Tryz.zeroCells178.size = 256 ∧ (Tryz.zeroCells178.all (·.oneCell')) = true ∧ (Tryz.prog.info? 178).map (·.size) = some 256 := ⟨by kernel_rfl, by kernel_rfl, by kernel_rfl⟩
theorem zero87_eq : Tryz.zeroCells178 = Array.replicate 256 (.bool false) := by kernel_rfl
theorem zero87_at (j : Nat) (h : j < 256) : Tryz.zeroCells178[j]? = some (.bool false) := by
  rw [zero87_eq]
  simp [h]

set_option maxHeartbeats 1600000 in
theorem apart_any (ao : Option Addr) (n cap : Nat) (xs : List Int) (w : World) (hn : n ≤ 1048576) (hv : View .i64 w ao n xs) :
    Calls Tryz.prog 125 #[.slice ao n cap] w fun e w' => e = .returned (.bool (apartTo xs n)) ∧ Below w.heap.size w w' := by
  have HV := hid hv
  have hst : Sem.run Tryz.prog (storeCells ⟨w.heap.size, 0, none⟩ Tryz.zeroCells178.toList) (w.alloc (.cells Tryz.zeroCells178 178)) = .ok () (w.alloc (.cells Tryz.zeroCells178 178)) :=
    run_storeCells_new w 178 _ _ (by rw [zero87.1]; exact zero87.2.2) rfl zero87.2.1
  clear hv
  go_enter Tryz.func125, Tryz.ntmps125
  go_wp2
  clear hst
  go_loopw [9] (fun i wr => ∃ (k : Nat) (cs : Array Value), k ≤ n ∧ i = .int .i64 k ∧ Hid (apartTo xs k = true) ∧ Hid (Arr wr w.heap.size cs 178) ∧ Hid (∀ j, j < 256 → cs[j]? = some (.bool (hasTo xs k j))) ∧ Hid (Below w.heap.size w wr)) (fun i _ => n - (intOf i).toNat)
  case atStart => exact ⟨0, Tryz.zeroCells178, by omega, rfl, rfl, Arr.new _ _ _, zero87_at, (Below.refl _ _).alloc (Nat.le_refl _) _⟩
  case round =>
    obtain ⟨k, cs, hk, rfl, hap, harr, hcs, hb⟩ := hrel
    by_cases hlt : k < n
    · obtain ⟨b, off, rfl, hc⟩ := HV.out.2 k hlt
      have hcr : wr.cell? ⟨b, off + k, none⟩ = some (.int .i64 (xs.getD k 0)) := (hb.out.cell (p := ⟨b, off + k, none⟩) (World.block_lt_of_cell? w _ hc)).trans hc
      have hlt' : (k : Int) < (n : Int) := by omega
      have HBAD := hid (fun h => apartTo_bad xs k h n hlt)
      have HST := hid (show apartTo xs (k + 1) = (apartTo xs k && (inB (xs.getD k 0) && !hasTo xs k (xs.getD k 0))) from rfl)
      have HHAS := hid (fun j : Nat => (show hasTo xs (k + 1) j = ((j : Int) == xs.getD k 0 || hasTo xs k j) from rfl))
      generalize xs.getD k 0 = X at *
      clear hc
      by_cases hX : 0 ≤ X ∧ X ≤ 255
      · have hin : inB X = true := (inB_iff X).2 hX
        obtain ⟨j, rfl⟩ := Int.eq_ofNat_of_zero_le hX.1
        have hj : j < 256 := by omega
        have hj' : (j : Int) < 256 := by omega
        have hcell : wr.cell? ⟨w.heap.size, j, none⟩ = some (.bool (hasTo xs k j)) := (harr.out.cell j).trans (hcs.out j hj)
        have hfree := harr.out.free j
        cases hS : hasTo xs k j with
        | true =>
          rw [hS] at hcell HBAD
          have HR := hid (HBAD.out (by simp))
          clear HBAD HST HHAS hS
          go_wp2_with (go_at_call 129; refine (isSym_any _ _).mono ?_; rw [hin]; rintro e w' ⟨rfl, rfl⟩)
          go_ret
          exact ⟨ret_bool HR.out.symm, hb.out⟩
        | false =>
          rw [hS] at hcell HST
          have HR := hid (show apartTo xs (k + 1) = true by rw [HST.out, hap.out, hin]; rfl)
          have HA := hid (harr.out.set j (.bool true))
          clear HBAD HST hS
          go_wp2_with (go_at_call 129; refine (isSym_any _ _).mono ?_; rw [hin]; rintro e w' ⟨rfl, rfl⟩)
          go_roundw
          case rel =>
            refine ⟨k + 1, _, by omega, by go_num, HR.out, HA.out, fun i hi => ?_, hb.out.setCell (p := ⟨w.heap.size, j, none⟩) (Nat.le_refl _) _⟩
            have hsz : j < cs.size := by
              have := hcs.out j hj
              exact (Array.getElem?_eq_some_iff.1 this).1
            rw [HHAS.out i]
            by_cases e : i = j
            · subst e
              simp [hsz]
            · rw [Array.getElem?_setIfInBounds_ne (fun h => e h.symm), hcs.out i hi]
              have : ((i : Int) == (j : Int)) = false := by simp; omega
              rw [this, Bool.false_or]
          case measure => simp [intOf]; omega
      · have hin : inB X = false := (inB_no X).2 hX
        have HR := hid (HBAD.out (by rw [hin]; rfl))
        clear HBAD HST HHAS hX
        go_wp2_with (go_at_call 129; refine (isSym_any _ _).mono ?_; rw [hin]; rintro e w' ⟨rfl, rfl⟩)
        go_ret
        exact ⟨ret_bool HR.out.symm, hb.out⟩
    · obtain rfl : k = n := by omega
      go_wp2
      go_ret
      exact ⟨ret_bool hap.out.symm, hb.out⟩

set_option maxHeartbeats 1600000 in
theorem told_any (ao : Option Addr) (n cap : Nat) (xs : List Int) (w : World) (hn : n ≤ 1048576) (hv : View .i64 w ao n xs) :
    Calls Tryz.prog 124 #[.slice ao n cap] w fun e w' => e = .returned (.int .i64 (toldR xs)) ∧ w' = w := by
  have HV := hid hv
  have hl := hv.1
  clear hv
  by_cases h16 : n = 16
  · subst h16
    go_enter Tryz.func124, Tryz.ntmps124
    go_wp2
    go_loop [3, 4, 12] (fun t r i => ∃ k : Nat, k ≤ 16 ∧ i = .int .i64 k ∧ t = .int .i64 (told xs k) ∧ r = .int .i64 (room xs k) ∧ Hid (okTo xs k = true)) (fun _ _ i => 16 - (intOf i).toNat)
    case atStart => exact ⟨0, by omega, rfl, rfl, rfl, rfl⟩
    case round =>
      obtain ⟨k, hk, rfl, rfl, rfl, hok⟩ := hrel
      have tb := told_bounds xs k hok.out
      have rb := room_bounds xs k hk hok.out
      by_cases hlt : k < 16
      · obtain ⟨b, off, rfl, hc⟩ := HV.out.2 k hlt
        have HT := hid (show told xs (k + 1) = told xs k + xs.getD k 0 from rfl)
        have HR := hid (show room xs (k + 1) = room xs k + xs.getD k 0 * 2 ^ (15 - k) from rfl)
        have HO := hid (show okTo xs (k + 1) = (okTo xs k && inB (xs.getD k 0)) from rfl)
        have HBAD := hid (fun h => okTo_bad xs k h 16 hlt)
        generalize told xs k = T at *
        generalize room xs k = R at *
        generalize xs.getD k 0 = X at *
        by_cases hX : 0 ≤ X ∧ X ≤ 255
        · obtain ⟨hx0, hx1⟩ := hX
          have hp := pow2_le (15 - k) (by omega)
          have hm := mul_bounds X _ hx0 hx1 hp.1 hp.2
          have hok2 := hid (show okTo xs (k + 1) = true by rw [HO.out, hok.out, (inB_iff X).2 ⟨hx0, hx1⟩]; rfl)
          clear HBAD HO
          go_wp2
          go_round
          case rel => exact ⟨k + 1, by omega, by go_num, val_int HT.out.symm, val_int HR.out.symm, hok2.out⟩
          case measure => simp [intOf]; omega
        · have hout : Hid (toldR xs = -1) := hid (toldR_no (fun h => by rw [HBAD.out ((inB_no X).2 hX)] at h; exact Bool.noConfusion h.2.1))
          clear HBAD HO HT HR
          by_cases hx0 : X < 0
          · have hd : decide (X < 0) = true := by simpa using hx0
            go_wp2
            go_ret
            exact ⟨ret_int hout.out.symm, rfl⟩
          · have hd : decide (X < 0) = false := by simpa using hx0
            have hx1 : 255 < X := by omega
            go_wp2
            go_ret
            exact ⟨ret_int hout.out.symm, rfl⟩
      · obtain rfl : k = 16 := by omega
        have HY := hid (toldR_yes (cs := xs))
        have HN := hid (toldR_no (cs := xs))
        generalize told xs 16 = T at *
        generalize room xs 16 = R at *
        by_cases h1 : T < 1
        · have hd : decide (T < 1) = true := by simpa using h1
          have hout := hid (HN.out (by omega))
          clear HY HN
          go_wp2
          go_ret
          exact ⟨ret_int hout.out.symm, rfl⟩
        · have hd : decide (T < 1) = false := by simpa using h1
          by_cases h2 : 255 < T
          · have hd2 : decide (255 < T) = true := by simpa using h2
            have hout := hid (HN.out (by omega))
            clear HY HN
            go_wp2
            go_ret
            exact ⟨ret_int hout.out.symm, rfl⟩
          · have hd2 : decide (255 < T) = false := by simpa using h2
            by_cases h3 : 65535 < R
            · have hout := hid (HN.out (by omega))
              clear HY HN
              go_wp2
              go_ret
              exact ⟨ret_int hout.out.symm, rfl⟩
            · have hout := hid (HY.out ⟨hl, hok.out, ⟨by omega, by omega⟩, by omega⟩)
              clear HY HN
              go_wp2
              go_ret
              exact ⟨ret_int hout.out.symm, rfl⟩
  · have hout := hid (toldR_no (cs := xs) (fun h => h16 (by omega)))
    have hd : ((n : Int) != 16) = true := by simp; omega
    go_enter Tryz.func124, Tryz.ntmps124
    go_wp2
    go_ret
    exact ⟨ret_int hout.out.symm, rfl⟩
end Go.Proofs.YtnnakmgngkpghaaGreat

/- Contracts of CodesOk, of the program and of the specification. -/
namespace Go.Proofs.YtnnakmgngkpghaaGreat
open Go.RowKit
set_option linter.unusedVariables false

set_option maxHeartbeats 1600000 in
theorem impl_ok (v : Value) (cs ss : List Int) (w : World) (h0 : cs.length ≤ 1048576) (h1 : ss.length ≤ 1048576) (hv : CV w v cs ss) :
    Calls Tryz.prog 108 #[v] w fun e w' => e = .returned (.bool (rightC cs ss)) ∧ Below w.heap.size w w' := by
  obtain ⟨a0, c0, a1, c1, rfl, u0, u1⟩ := hv
  have HR := hid (show rightC cs ss = (decide (toldR cs = (ss.length : Int)) && apartTo ss ss.length) from rfl)
  obtain ⟨B0, hB0⟩ : ∃ B : Nat, B = w.heap.size := ⟨_, rfl⟩
  have HT := hid (fun (q : World) (hq : Below w.heap.size w q) => told_any a0 cs.length c0 cs q h0 (u0.below (Nat.le_refl _) hq))
  have HA := hid (fun (q : World) (hq : Below w.heap.size w q) => apart_any a1 ss.length c1 ss q h1 (u1.below (Nat.le_refl _) hq))
  have HB := hid ((Below.refl w.heap.size w).alloc (Nat.le_refl _) (.cells #[.slice a0 cs.length c0, .slice a1 ss.length c1] 31))
  generalize toldR cs = T at *
  generalize apartTo ss ss.length = F at *
  generalize rightC cs ss = R at *
  clear u0 u1
  by_cases h : T = (ss.length : Int)
  · have hd : (T == (ss.length : Int)) = true := by simpa using h
    have HRR := hid (show R = F by rw [HR.out, decide_eq_true h, Bool.true_and])
    clear h HR
    go_enter Tryz.func108, Tryz.ntmps108
    go_wp2_with fail
    go_region_with (first
      | (go_at_call 124; refine (HT.out _ ?_).mono ?_; · first | exact HB.out | exact HB.out.drew | exact belowN HB.out _
         rintro e w' ⟨rfl, rfl⟩)
      | (go_at_call 125; refine (HA.out _ ?_).mono ?_; · first | exact HB.out | exact HB.out.drew | exact belowN HB.out _
         rintro e w' ⟨rfl, hb⟩))
    all_goals
      go_wp2
      go_ret
      exact ⟨ret_bool HRR.out.symm, HB.out.drew.trans (hb.mono HB.out.size)⟩
  · have hd : (T == (ss.length : Int)) = false := by simpa using h
    have HRR := hid (show R = false by rw [HR.out, decide_eq_false h, Bool.false_and])
    clear h HR HA
    go_enter Tryz.func108, Tryz.ntmps108
    go_wp2_with fail
    go_quiet ((go_at_call 124; exact Calls.quiet_of_same (HT.out _ (belowN HB.out _))))
    go_wp2
    go_ret
    exact ⟨ret_bool HRR.out.symm, belowN HB.out _⟩

theorem in_no {x a b : Int} (h : ¬ (a ≤ x ∧ x ≤ b)) : decide (a ≤ x ∧ x ≤ b) = false := by simpa using h
theorem in_yes {x a b : Int} (h : a ≤ x ∧ x ≤ b) : decide (a ≤ x ∧ x ≤ b) = true := by simpa using h

theorem pow2_q (m : Nat) (h : m ≤ 32) (P : Int) (hP : (2 : Int) ^ m = P) (q : World) : Calls Tryz.prog 89 #[.int .i64 m] q fun e w' => e = .returned (.int .i64 P) ∧ w' = q := by
  subst hP
  exact (pow2_any m q h).mono fun _ _ ⟨a, b⟩ => ⟨a, b.symm⟩

set_option maxRecDepth 100000 in
set_option maxHeartbeats 6400000 in
theorem spec_ok (v : Value) (cs ss : List Int) (w : World) (h0 : cs.length ≤ 1048576) (h1 : ss.length ≤ 1048576) (hv : CV w v cs ss) :
    Calls Tryz.prog 69 #[v] w fun e w' => e = .returned (.bool (rightC cs ss)) ∧ Below w.heap.size w w' := by
  obtain ⟨a0, c0, a1, c1, rfl, u0, u1⟩ := hv
  have HB := hid ((Below.refl w.heap.size w).alloc (Nat.le_refl _) (.cells #[.slice a0 cs.length c0, .slice a1 ss.length c1] 31))
  have HU0 := hid (u0.below (Nat.le_refl _) HB.out)
  have HU1 := hid (u1.below (Nat.le_refl _) HB.out)
  have HT := hid (Two.new w (.slice a0 cs.length c0) (.slice a1 ss.length c1) 31)
  have HY := hid ((right_iff cs ss).2)
  have HN := hid (right_no (cs := cs) (ss := ss))
  clear u0 u1
  by_cases hl : cs.length = 16
  · have hl' : ((cs.length : Int) != 16) = false := by simp; omega
    by_cases hn : 1 ≤ (ss.length : Int) ∧ (ss.length : Int) ≤ 255
    · have hin := in_yes hn
      obtain ⟨S, hS⟩ : ∃ S : Nat, S = ss.length := ⟨_, rfl⟩
      rw [← hS] at hn hin h1 HB HU0 HU1 HT HY HN
      rw [hl] at hl' HB HU0 HU1 HT HY HN
      rw [hl, ← hS]
      clear hS
      go_enter Tryz.func69, Tryz.ntmps69
      go_wp2_with (go_at_call 20; refine (spec_in _ _ _ _).mono ?_; rw [hin]; rintro e w' ⟨rfl, rfl⟩)
      generalize w.alloc (.cells #[.slice a0 16 c0, .slice a1 S c1] 31) = wa at *
      obtain ⟨q1, q2, q3, q4⟩ := HT.out.cells
      clear hin hl'
      go_loopw [3, 4, 5] (fun s t i wr => ∃ k : Nat, k ≤ 16 ∧ i = .int .i64 k ∧ s = .int .i64 (room cs k) ∧ t = .int .i64 (told cs k) ∧ Hid (okTo cs k = true) ∧ ∃ q, wr = wa.drewN q) (fun _ _ i _ => 16 - (intOf i).toNat)
      case atStart => exact ⟨0, by omega, rfl, rfl, rfl, rfl, 0, rfl⟩
      case round =>
        obtain ⟨k, hk, rfl, rfl, rfl, hok, q, rfl⟩ := hrel
        have tb := told_bounds cs k hok.out
        have rb := room_bounds cs k hk hok.out
        by_cases hlt : k < 16
        · obtain ⟨b, off, rfl, hc⟩ := HU0.out.2 k hlt
          obtain ⟨m, hm⟩ : ∃ m : Nat, m = 15 - k := ⟨_, rfl⟩
          have hm15 : (15 : Int) - (k : Int) = (m : Int) := by omega
          have hm9 : (m : Int) ≤ 15 := by omega
          have hmw : IntKind.i64.wrap (m : Int) = (m : Int) := by rw [IntKind.wrap_i64]; omega
          have hT := hid (show told cs (k + 1) = told cs k + cs.getD k 0 from rfl)
          have hR := hid (show room cs (k + 1) = room cs k + cs.getD k 0 * 2 ^ (15 - k) from rfl)
          have hO := hid (show okTo cs (k + 1) = (okTo cs k && inB (cs.getD k 0)) from rfl)
          have HBAD := hid (fun h => okTo_bad cs k h 16 hlt)
          rw [← hm] at hR
          have hp := pow2_le m (by omega)
          generalize told cs k = T at *
          generalize room cs k = R at *
          generalize cs.getD k 0 = X at *
          generalize hPP : (2 : Int) ^ m = P at *
          have HP := hid (pow2_q m (by omega) P hPP)
          have hlt' : (k : Int) < 16 := by omega
          clear hPP hm
          by_cases hX : 0 ≤ X ∧ X ≤ 255
          · have hin := in_yes hX
            obtain ⟨hx0, hx1⟩ := hX
            have hm2 := mul_bounds X P hx0 hx1 hp.1 hp.2
            have hok2 := hid (show okTo cs (k + 1) = true by rw [hO.out, hok.out, (inB_iff X).2 ⟨hx0, hx1⟩]; rfl)
            clear HBAD hO
            go_wp2_with (go_at_call 20; refine (spec_in _ _ _ _).mono ?_; rw [hin]; rintro e w' ⟨rfl, rfl⟩)
            go_quiet ((go_at_call 89; exact (HP.out _).mono fun _ _ ⟨a, b⟩ => ⟨a, _, b⟩))
            go_wp2
            go_roundw
            case rel => exact ⟨k + 1, by omega, by go_num, val_int hR.out.symm, val_int hT.out.symm, hok2.out, _, rfl⟩
            case measure => simp [intOf]; omega
          · have hin := in_no hX
            have hout := hid (HN.out (fun h => by rw [HBAD.out ((inB_no X).2 hX)] at h; exact Bool.noConfusion h.1.2.1))
            clear HBAD hO hX
            go_wp2_with (go_at_call 20; refine (spec_in _ _ _ _).mono ?_; rw [hin]; rintro e w' ⟨rfl, rfl⟩)
            go_ret
            exact ⟨ret_bool hout.out.symm, belowN HB.out _⟩
        · obtain rfl : k = 16 := by omega
          generalize hTT : told cs 16 = T at *
          generalize hRR : room cs 16 = R at *
          have HTT := hid hTT
          have HRR := hid hRR
          clear hTT hRR
          by_cases hTS : T = (S : Int)
          · subst hTS
            by_cases hRb : 65535 < R
            · have hout := hid (HN.out (fun h => by have := h.1.2.2.2; omega))
              clear HY HN
              go_wp2
              go_ret
              exact ⟨ret_bool hout.out.symm, belowN HB.out _⟩
            · have HY2 := hid (fun h => HY.out ⟨⟨by trivial, hok.out, ⟨by omega, by omega⟩, by omega⟩, by trivial, h⟩)
              have HN2 := hid (fun h : apartTo ss S = false => HN.out (fun h2 => by rw [h] at h2; exact Bool.noConfusion h2.2.2))
              clear HY HN
              go_wp2
              go_loopw [6] (fun i wr => ∃ k : Nat, k ≤ S ∧ i = .int .i64 k ∧ Hid (apartTo ss k = true) ∧ ∃ q, wr = wa.drewN q) (fun i _ => S - (intOf i).toNat)
              case atStart => exact ⟨0, by omega, rfl, rfl, _, rfl⟩
              case round =>
                obtain ⟨i, hi, rfl, hap, q, rfl⟩ := hrel
                by_cases hlt : i < S
                · obtain ⟨b, off, rfl, hc⟩ := HU1.out.2 i hlt
                  have hlt' : (i : Int) < (S : Int) := by omega
                  have HBAD := hid (fun h => apartTo_bad ss i h S hlt)
                  have HST := hid (show apartTo ss (i + 1) = (apartTo ss i && (inB (ss.getD i 0) && !hasTo ss i (ss.getD i 0))) from rfl)
                  generalize hXX : ss.getD i 0 = X at *
                  clear hXX
                  by_cases hX : 0 ≤ X ∧ X ≤ 255
                  · have hin := in_yes hX
                    have hinB := hid ((inB_iff X).2 hX)
                    clear hX
                    go_wp2_with (go_at_call 20; refine (spec_in _ _ _ _).mono ?_; rw [hin]; rintro e w' ⟨rfl, rfl⟩)
                    go_loopw [7] (fun j wr => ∃ k : Nat, k ≤ i ∧ j = .int .i64 k ∧ Hid (hasTo ss k X = false) ∧ ∃ q, wr = wa.drewN q) (fun j _ => i - (intOf j).toNat)
                    case atStart => exact ⟨0, by omega, rfl, rfl, _, rfl⟩
                    case round =>
                      obtain ⟨k, hk, rfl, hha, q', rfl⟩ := hrel
                      by_cases hki : k < i
                      · obtain ⟨b2, off2, hb2, hc2⟩ := HU1.out.2 k (by omega)
                        obtain ⟨rfl, rfl⟩ : b2 = b ∧ off2 = off := by cases hb2; exact ⟨rfl, rfl⟩
                        have hki' : (k : Int) < (i : Int) := by omega
                        have hkS : (k : Int) < (S : Int) := by omega
                        have HH := hid (show hasTo ss (k + 1) X = (X == ss.getD k 0 || hasTo ss k X) from rfl)
                        have HE := hid (fun h : ss.getD k 0 = X => (hasTo_iff ss X i).2 ⟨k, hki, h⟩)
                        generalize ss.getD k 0 = Y at *
                        by_cases hYX : Y = X
                        · have hd : (Y == X) = true := by simpa using hYX
                          have hout := hid (HN2.out (HBAD.out (by rw [HE.out hYX, hinB.out]; rfl)))
                          clear HBAD HST HH HE hYX
                          go_wp2
                          go_quiet (fail)
                          go_wp2
                          go_ret
                          exact ⟨ret_bool hout.out.symm, belowN (belowN HB.out _) _⟩
                        · have hd : (Y == X) = false := by simpa using hYX
                          have hnext := hid (show hasTo ss (k + 1) X = false by rw [HH.out, hha.out, Bool.or_false]; simp; exact fun e => hYX e.symm)
                          clear HBAD HH HE hYX
                          go_wp2
                          go_quiet (fail)
                          go_wp2
                          go_roundw
                          case rel => exact ⟨k + 1, by omega, by go_num, hnext.out, _, rfl⟩
                          case measure => simp [intOf]; omega
                      · obtain rfl : k = i := by omega
                        have hnext := hid (show apartTo ss (k + 1) = true by rw [HST.out, hap.out, hinB.out, hha.out]; rfl)
                        clear HBAD HST
                        go_wp2
                        go_roundw
                        case rel => exact ⟨k + 1, by omega, by go_num, hnext.out, _, rfl⟩
                        case measure => simp [intOf]; omega
                  · have hin := in_no hX
                    have hout := hid (HN2.out (HBAD.out (by rw [(inB_no X).2 hX]; rfl)))
                    clear HBAD HST hX
                    go_wp2_with (go_at_call 20; refine (spec_in _ _ _ _).mono ?_; rw [hin]; rintro e w' ⟨rfl, rfl⟩)
                    go_ret
                    exact ⟨ret_bool hout.out.symm, belowN HB.out _⟩
                · obtain rfl : i = S := by omega
                  have hout := hid (HY2.out hap.out)
                  clear HY2 HN2
                  go_wp2
                  go_ret
                  exact ⟨ret_bool hout.out.symm, belowN HB.out _⟩
          · have hout := hid (HN.out (fun h => hTS h.2.1))
            have hd : (T != (S : Int)) = true := by simpa using hTS
            clear HY HN hTS
            go_wp2
            go_ret
            exact ⟨ret_bool hout.out.symm, belowN HB.out _⟩
    · have hin := in_no hn
      have hout := hid (HN.out (fun h => hn (by have := h.1.2.2.1; have := h.2.1; omega)))
      clear HY HN hn
      rw [hl] at HB
      go_enter Tryz.func69, Tryz.ntmps69
      go_wp2_with (go_at_call 20; refine (spec_in _ _ _ _).mono ?_; rw [hin]; rintro e w' ⟨rfl, rfl⟩)
      go_ret
      exact ⟨ret_bool hout.out.symm, HB.out⟩
  · have hl' : ((cs.length : Int) != 16) = true := by simp; omega
    have hout := hid (HN.out (fun h => hl h.1.1))
    clear HY HN
    go_enter Tryz.func69, Tryz.ntmps69
    go_wp2
    go_ret
    exact ⟨ret_bool hout.out.symm, HB.out⟩
end Go.Proofs.YtnnakmgngkpghaaGreat

/- Plain facts on the codes of right Codes: which key (length and code) each symbol has. And the map's key type. -/
namespace Go.Proofs.YtnnakmgngkpghaaGreat
open Go.RowKit Go.Maps
set_option linter.unusedVariables false

/-- The first code of each length. -/
def sc (cs : List Int) : Nat → Int
  | 0 => 0
  | i + 1 => (sc cs i + cs.getD i 0) * 2
theorem sc_room (cs : List Int) : ∀ i, i ≤ 15 → sc cs i * 2 ^ (15 - i) = room cs i
  | 0, _ => by simp [sc, room]
  | i + 1, h => by
    have := sc_room cs i (by omega)
    rw [sc, room, ← this, show 15 - i = (15 - (i + 1)) + 1 by omega, Int.pow_succ, Int.add_mul, Int.add_mul, Int.mul_assoc, Int.mul_assoc, Int.mul_comm 2]
theorem room_mono (cs : List Int) (h : okTo cs 16 = true) : ∀ d i, i + d = 16 → room cs i ≤ room cs 16
  | 0, i, e => by rw [show i = 16 by omega]; exact Int.le_refl _
  | d + 1, i, e => by
    have h1 := room_mono cs h d (i + 1) (by omega)
    have hx := okTo_at cs 16 h i (by omega)
    have hp := pow2_le (15 - i) (by omega)
    have := mul_bounds _ _ hx.1 hx.2 hp.1 hp.2
    rw [room] at h1
    omega
theorem sc_nonneg (cs : List Int) (h : okTo cs 16 = true) : ∀ i, i ≤ 16 → 0 ≤ sc cs i
  | 0, _ => by simp [sc]
  | i + 1, hi => by
    have := sc_nonneg cs h i (by omega)
    have hx := okTo_at cs 16 h i (by omega)
    rw [sc]
    omega
/-- Codes of i + 1 bits are less than 2^(i + 1). -/
theorem sc_lt (cs : List Int) (h : okTo cs 16 = true) (hr : room cs 16 ≤ 65535) (i : Nat) (hi : i < 16) : sc cs i + cs.getD i 0 ≤ 2 ^ (i + 1) ∧ sc cs i + cs.getD i 0 ≤ 65536 := by
  have h1 := sc_room cs i (by omega)
  have h2 := room_mono cs h (16 - (i + 1)) (i + 1) (by omega)
  rw [room, ← h1, ← Int.add_mul] at h2
  have hs := sc_nonneg cs h i (by omega)
  have hx := okTo_at cs 16 h i hi
  have hp := pow2_le (15 - i) (by omega)
  have hp2 : (2 : Int) ^ (i + 1) * 2 ^ (15 - i) = 65536 := by rw [← Int.pow_add, show i + 1 + (15 - i) = 16 by omega]; decide
  have hq : (1 : Int) ≤ 2 ^ (i + 1) := by have := pow2_mono 0 (i + 1); rw [Nat.zero_add] at this; exact this
  have hC0 : 0 ≤ sc cs i + cs.getD i 0 := by omega
  generalize sc cs i + cs.getD i 0 = C at *
  generalize (2 : Int) ^ (15 - i) = P at *
  generalize (2 : Int) ^ (i + 1) = Q at *
  have hC : C ≤ Q := by
    refine Classical.byContradiction fun hn => ?_
    have h3 : Q * P ≤ C * P := Int.mul_le_mul_of_nonneg_right (by omega) (by omega)
    omega
  refine ⟨hC, ?_⟩
  have : C * 1 ≤ C * P := Int.mul_le_mul_of_nonneg_left hp.1 (by omega)
  omega

/-- The keys of the first k symbols with codes of i + 1 bits. -/
def rowKeys (cs : List Int) (i : Nat) : Nat → List (Nat × Int)
  | 0 => []
  | k + 1 => rowKeys cs i k ++ [(i + 1, sc cs i + k)]
/-- The keys of all symbols with codes of at most i bits. -/
def keysTo (cs : List Int) : Nat → List (Nat × Int)
  | 0 => []
  | i + 1 => keysTo cs i ++ rowKeys cs i (cs.getD i 0).toNat
def keysAt (cs : List Int) (i k : Nat) : List (Nat × Int) := keysTo cs i ++ rowKeys cs i k
theorem rowKeys_length (cs : List Int) (i : Nat) : ∀ k, (rowKeys cs i k).length = k
  | 0 => rfl
  | k + 1 => by simp [rowKeys, rowKeys_length cs i k]
theorem keysTo_length (cs : List Int) : ∀ i, okTo cs i = true → ((keysTo cs i).length : Int) = told cs i
  | 0, _ => rfl
  | i + 1, h => by
    simp only [okTo, Bool.and_eq_true] at h
    have := keysTo_length cs i h.1
    have hx := (inB_iff _).1 h.2
    rw [keysTo, told, List.length_append, rowKeys_length]
    omega
theorem keysAt_zero (cs : List Int) (i : Nat) : keysAt cs i 0 = keysTo cs i := by simp [keysAt, rowKeys]
theorem keysAt_succ (cs : List Int) (i k : Nat) : keysAt cs i (k + 1) = keysAt cs i k ++ [(i + 1, sc cs i + k)] := by simp [keysAt, rowKeys]
theorem keysAt_full (cs : List Int) (i k : Nat) (h : (cs.getD i 0).toNat = k) : keysAt cs i k = keysTo cs (i + 1) := by rw [keysAt, keysTo, h]

/-- The book behind the keys: what each symbol's key is; (0, 0) for none. -/
def bookTo (ss : List Int) : List (Nat × Int) → Nat → Nat × Int
  | K, j => go ss K K.length j
where go (ss : List Int) (K : List (Nat × Int)) : Nat → Nat → Nat × Int
  | 0, _ => (0, 0)
  | t + 1, j => if (j : Int) = ss.getD t 0 then K.getD t (0, 0) else go ss K t j

theorem laidOut : laidOutB Tryz.prog = true := by kernel_rfl
theorem row72 : (164 : TypeId) < Tryz.prog.types.size := of_decide_eq_true (by kernel_rfl)
theorem cells72 : Tryz.prog.cellsOf 164 = 2 := by kernel_rfl
theorem deep72 : Tryz.prog.keyTypeAt (Tryz.prog.types.size + 1) 164 = true := by kernel_rfl
theorem wide72 : (match Tryz.prog.underlying 164 with | some (.array _ _) | some (.struct _) => true | _ => false) = true := by kernel_rfl
set_option maxRecDepth 100000 in
theorem law72 : Keyed Tryz.prog 164 := Keyed.of_law (deep_law_laid laidOut (m := 2) (by omega) row72 (by kernel_rfl) wide72)
theorem formed72 {c0 c1 : Value} : (Value.agg #[c0, c1]).formed Tryz.prog 164 = true := by
  simp [Value.formed, Tryz.underlying164, cells72]
/-- What a key of the map reads as. -/
def kl72 (a b : Int) : Lit := (DataW.agg [.lit (.int .i64 a), .lit (.int .i64 b)] : DataW Unit).asKey
theorem cells3 : Tryz.prog.cellsOf 3 = 1 := by kernel_rfl
set_option maxRecDepth 100000 in
theorem key72 (w : World) (a b : Int) (ha : (Lit.int .i64 a).wf = true) (hb : (Lit.int .i64 b).wf = true) : keyOf Tryz.prog 164 (.agg #[.int .i64 a, .int .i64 b]) = some (kl72 a b) := by
  have h : DataW.Trod (H := Unit) (fun _ => ()) Tryz.prog w 0 (fun _ => true) true 164 (.agg #[.int .i64 a, .int .i64 b]) (.agg [.lit (.int .i64 a), .lit (.int .i64 b)]) [] :=
    ⟨2, by simp [DataW.trod, Value.cells, Tryz.underlying164, Tryz.underlying3, cells72, cells3, ha, hb]⟩
  exact (keyOf_asKey deep72 wide72 formed72 h).1
end Go.Proofs.YtnnakmgngkpghaaGreat

/- The contract of newCodeBook: the keys of all symbols, in a row and in a map. -/
namespace Go.Proofs.YtnnakmgngkpghaaGreat
open Go.RowKit Go.Maps
set_option linter.unusedVariables false

theorem zero76 : Tryz.zeroCells167 = #[.map none] ++ Array.replicate 512 (.int .i64 0) := by kernel_rfl

theorem go_snoc (ss : List Int) (K : List (Nat × Int)) (x : Nat × Int) (j : Nat) : ∀ t, t ≤ K.length → bookTo.go ss (K ++ [x]) t j = bookTo.go ss K t j
  | 0, _ => rfl
  | t + 1, h => by
    rw [bookTo.go, bookTo.go, go_snoc ss K x j t (by omega)]
    have : (K ++ [x]).getD t (0, 0) = K.getD t (0, 0) := by simp only [List.getD]; rw [List.getElem?_append_left (by omega)]
    rw [this]
theorem bookTo_snoc (ss : List Int) (K : List (Nat × Int)) (x : Nat × Int) (j : Nat) : bookTo ss (K ++ [x]) j = if (j : Int) = ss.getD K.length 0 then x else bookTo ss K j := by
  rw [bookTo, List.length_append]
  show bookTo.go ss (K ++ [x]) (K.length + 1) j = _
  rw [bookTo.go, go_snoc ss K x j _ (Nat.le_refl _)]
  have : (K ++ [x]).getD K.length (0, 0) = x := by simp
  rw [this]
  rfl

/-- The map behind the keys. -/
def mapGo (ss : List Int) (K : List (Nat × Int)) : Nat → DataW Unit
  | 0 => .map []
  | t + 1 => (mapGo ss K t).put (kl72 (K.getD t (0, 0)).1 (K.getD t (0, 0)).2) (.lit (.int .i64 (ss.getD t 0)))
def mapTo (ss : List Int) (K : List (Nat × Int)) : DataW Unit := mapGo ss K K.length
theorem mapGo_snoc (ss : List Int) (K : List (Nat × Int)) (x : Nat × Int) : ∀ t, t ≤ K.length → mapGo ss (K ++ [x]) t = mapGo ss K t
  | 0, _ => rfl
  | t + 1, h => by
    have : (K ++ [x]).getD t (0, 0) = K.getD t (0, 0) := by simp only [List.getD]; rw [List.getElem?_append_left (by omega)]
    rw [mapGo, mapGo, mapGo_snoc ss K x t (by omega), this]
theorem mapTo_snoc (ss : List Int) (K : List (Nat × Int)) (x : Nat × Int) : mapTo ss (K ++ [x]) = (mapTo ss K).put (kl72 x.1 x.2) (.lit (.int .i64 (ss.getD K.length 0))) := by
  rw [mapTo, List.length_append]
  show mapGo ss (K ++ [x]) (K.length + 1) = _
  rw [mapGo, mapGo_snoc ss K x _ (Nat.le_refl _)]
  have : (K ++ [x]).getD K.length (0, 0) = x := by simp
  rw [this]
  rfl

/-- Block C holds the book of the keys K, its map at block M. -/
def BookAt (w : World) (C M : Nat) (ss : List Int) (K : List (Nat × Int)) : Prop :=
  (∃ arr : Array Value, Arr w C arr 167 ∧ arr.size = 513 ∧ arr[0]? = some (.map (some M)) ∧ ∀ j, j < 256 → arr[1 + j * 2]? = some (.int .i64 (bookTo ss K j).1) ∧ arr[1 + j * 2 + 1]? = some (.int .i64 (bookTo ss K j).2)) ∧
  w.ownsMap Tryz.prog 164 (plainElem (H := Unit) Tryz.prog 3) M K.length (mapTo ss K)

theorem BookAt.below {w w' : World} {C M : Nat} {ss : List Int} {K : List (Nat × Int)} (h : BookAt w C M ss K) (hb : Below w.heap.size w w') : BookAt w' C M ss K := by
  obtain ⟨⟨arr, h1, h2⟩, h3⟩ := h
  refine ⟨⟨arr, h1.below hb h1.lt, h2⟩, ?_⟩
  have hlt := h3.lt
  obtain ⟨es, clock, hh, r⟩ := h3
  exact ⟨es, clock, (hb.block M hlt).trans hh, r⟩

theorem BookAt.drew {w : World} {C M : Nat} {ss : List Int} {K : List (Nat × Int)} (h : BookAt w C M ss K) : BookAt w.drew C M ss K := h

/-- The state of the walk. -/
def BS (w wr : World) (s0 s1 : Value) (ss : List Int) (K : List (Nat × Int)) : Prop :=
  Two wr w.heap.size s0 s1 31 ∧ BookAt wr (w.heap.size + 1 + 1) (w.heap.size + 1) ss K ∧ Below w.heap.size w wr

theorem book_start (w : World) (s0 s1 : Value) (ss : List Int) :
    BS w (((w.alloc (.cells #[s0, s1] 31)).alloc (.map #[] 0)).alloc (.cells (Tryz.zeroCells167.setIfInBounds 0 (.map (some (w.heap.size + 1)))) 167)) s0 s1 ss [] := by
  have b1 := (Below.refl w.heap.size w).alloc (Nat.le_refl _) (.cells #[s0, s1] 31)
  have b2 := b1.alloc (show w.heap.size ≤ (w.alloc (.cells #[s0, s1] 31)).heap.size by simp) (.map #[] 0)
  have b3 := b2.alloc (show w.heap.size ≤ ((w.alloc (.cells #[s0, s1] 31)).alloc (.map #[] 0)).heap.size by simp; omega) (.cells (Tryz.zeroCells167.setIfInBounds 0 (.map (some (w.heap.size + 1)))) 167)
  refine ⟨((Two.new w s0 s1 31).alloc _).alloc _, ⟨⟨Tryz.zeroCells167.setIfInBounds 0 (.map (some (w.heap.size + 1))), ?_, ?_, ?_, ?_⟩, ?_⟩, b3⟩
  · have := Arr.new ((w.alloc (.cells #[s0, s1] 31)).alloc (.map #[] 0)) (Tryz.zeroCells167.setIfInBounds 0 (.map (some (w.heap.size + 1)))) 167
    simp only [World.size_alloc] at this
    exact this
  · rw [zero76]; simp
  · rw [zero76]; simp
  · intro j hj
    rw [zero76]
    refine ⟨?_, ?_⟩
    · rw [Array.getElem?_setIfInBounds_ne (by omega), Array.getElem?_append_right (by simp), Array.getElem?_replicate]
      simp [bookTo, bookTo.go]
      omega
    · rw [Array.getElem?_setIfInBounds_ne (by omega), Array.getElem?_append_right (by simp), Array.getElem?_replicate]
      simp [bookTo, bookTo.go]
      omega
  · have := (World.ownsMap_made (H := Unit) (w.alloc (.cells #[s0, s1] 31)) Tryz.prog 164 (plainElem Tryz.prog 3)).alloc (.cells (Tryz.zeroCells167.setIfInBounds 0 (.map (some (w.heap.size + 1)))) 167)
    simp only [World.size_alloc] at this
    exact this

theorem grown_below {w w' : World} {B b : Nat} (h : w.drew.grownBy w' (some b)) (hb : B ≤ b) (hB : B ≤ w.heap.size) : Below B w w' :=
  ⟨h.os, h.tape, h.output, h.size, fun k hk => h.block k (Nat.lt_of_lt_of_le hk hB) (fun e => by have := Option.some.inj e; omega)⟩
theorem okTo_le (cs : List Int) : ∀ n k, k ≤ n → okTo cs n = true → okTo cs k = true
  | 0, k, hk, h => by rw [show k = 0 by omega]; rfl
  | n + 1, k, hk, h => by
    by_cases e : k = n + 1
    · rw [e]; exact h
    · simp only [okTo, Bool.and_eq_true] at h
      exact okTo_le cs n k (by omega) h.1
theorem told_mono (cs : List Int) (h : okTo cs 16 = true) : ∀ d i, i + d = 16 → told cs i ≤ told cs 16
  | 0, i, e => by rw [show i = 16 by omega]; exact Int.le_refl _
  | d + 1, i, e => by
    have h1 := told_mono cs h d (i + 1) (by omega)
    have hx := okTo_at cs 16 h i (by omega)
    rw [told] at h1
    omega
theorem told_le (cs : List Int) (h : okTo cs 16 = true) (i : Nat) (hi : i < 16) (N : Nat) (hN : cs.getD i 0 = N) : told cs i + N ≤ told cs 16 := by
  have := told_mono cs h (16 - (i + 1)) (i + 1) (by omega)
  rw [told, hN] at this
  exact this

theorem apart_in (xs : List Int) : ∀ n, apartTo xs n = true → ∀ p, p < n → 0 ≤ xs.getD p 0 ∧ xs.getD p 0 ≤ 255
  | n + 1, h, p, hp => by
    simp only [apartTo, Bool.and_eq_true] at h
    by_cases e : p = n
    · subst e; exact (inB_iff _).1 h.2.1
    · exact apart_in xs n h.1 p (by omega)

theorem book_step {w w2 : World} {s0 s1 : Value} {ss : List Int} {K : List (Nat × Int)} {x : Nat × Int} {y : Int} {arr : Array Value} {j : Nat} (hj : j < 256) (hy : y = (x.1 : Int))
    (hT : Two w2 w.heap.size s0 s1 31) (hA : Arr w2 (w.heap.size + 1 + 1) arr 167) (hsz : arr.size = 513) (h0 : arr[0]? = some (.map (some (w.heap.size + 1))))
    (hs : ∀ j, j < 256 → arr[1 + j * 2]? = some (.int .i64 (bookTo ss K j).1) ∧ arr[1 + j * 2 + 1]? = some (.int .i64 (bookTo ss K j).2))
    (hM : w2.ownsMap Tryz.prog 164 (plainElem (H := Unit) Tryz.prog 3) (w.heap.size + 1) (K.length + 1) ((mapTo ss K).put (kl72 y x.2) (.lit (.int .i64 (j : Int)))))
    (h1 : ∀ x q, bookTo ss (K ++ [x]) q = if (q : Int) = (j : Int) then x else bookTo ss K q) (h2 : ∀ x : Nat × Int, mapTo ss (K ++ [x]) = (mapTo ss K).put (kl72 x.1 x.2) (.lit (.int .i64 (j : Int)))) (hB : Below w.heap.size w w2) :
    BS w ((w2.drew.setCell ⟨w.heap.size + 1 + 1, 1 + j * 2, none⟩ (.int .i64 y)).setCell ⟨w.heap.size + 1 + 1, 1 + j * 2 + 1, none⟩ (.int .i64 x.2)) s0 s1 ss (K ++ [x]) := by
  subst hy
  have hA' : Arr w2.drew (w.heap.size + 1 + 1) arr 167 := hA
  have hT' : Two w2.drew w.heap.size s0 s1 31 := hT
  refine ⟨(hT'.other (by omega) _).other (by omega) _, ⟨⟨_, (hA'.set _ _).set _ _, by simp [hsz], ?_, fun q hq => ?_⟩, ?_⟩, (hB.drew.setCell (p := ⟨w.heap.size + 1 + 1, 1 + j * 2, none⟩) (by show w.heap.size ≤ w.heap.size + 1 + 1; omega) _).setCell (p := ⟨w.heap.size + 1 + 1, 1 + j * 2 + 1, none⟩) (by show w.heap.size ≤ w.heap.size + 1 + 1; omega) _⟩
  · rw [Array.getElem?_setIfInBounds_ne (by omega), Array.getElem?_setIfInBounds_ne (by omega)]
    exact h0
  · rw [h1 x q]
    by_cases e : q = j
    · subst e
      rw [if_pos rfl, Array.getElem?_setIfInBounds_ne (by omega)]
      refine ⟨?_, ?_⟩
      · rw [Array.getElem?_setIfInBounds_self_of_lt (by omega)]
      · rw [Array.getElem?_setIfInBounds_self_of_lt (by simp; omega)]
    · rw [if_neg (by omega), Array.getElem?_setIfInBounds_ne (by omega), Array.getElem?_setIfInBounds_ne (by omega), Array.getElem?_setIfInBounds_ne (by omega), Array.getElem?_setIfInBounds_ne (by omega)]
      exact hs q hq
  · rw [h2 x, List.length_append]
    have g1 := (World.ownsMap.drew hM)
    obtain ⟨es, clock, hh, r⟩ := g1
    refine ⟨es, clock, ?_, r⟩
    rw [Below.heap_setCell _ _ _ _ (show w.heap.size + 1 ≠ w.heap.size + 1 + 1 by omega), Below.heap_setCell _ _ _ _ (show w.heap.size + 1 ≠ w.heap.size + 1 + 1 by omega)]
    exact hh

set_option maxRecDepth 100000 in
set_option maxHeartbeats 6400000 in
theorem book_any (v : Value) (cs ss : List Int) (w : World) (hr : rightC cs ss = true) (hv : CV w v cs ss) :
    Calls Tryz.prog 109 #[v] w fun e w' => ∃ C M, e = .returned (.pointer (some ⟨C, 0, none⟩)) ∧ BookAt w' C M ss (keysTo cs 16) ∧ Below w.heap.size w w' := by
  obtain ⟨a0, c0, a1, c1, rfl, u0, u1⟩ := hv
  obtain ⟨⟨hl, hok, ht, hroom⟩, htold, hap⟩ := (right_iff cs ss).1 hr
  have HST := hid (book_start w (.slice a0 cs.length c0) (.slice a1 ss.length c1) ss)
  have HU0 := hid u0
  have HU1 := hid u1
  have HOK := hid hok
  have HAP := hid hap
  have hmm := @run_makeMap Tryz.prog
  obtain ⟨S, hS⟩ : ∃ S : Nat, S = ss.length := ⟨_, rfl⟩
  rw [← hS] at htold HAP HST HU1
  rw [hl] at HST HU0
  rw [hl, ← hS]
  clear u0 u1 hr hS hap hok
  go_enter Tryz.func109, Tryz.ntmps109
  go_wp2_with fail
  clear hmm
  generalize ((w.alloc _).alloc _).alloc _ = wa at *
  go_loopw [4, 5, 15] (fun c a i wr => ∃ k : Nat, k ≤ 16 ∧ i = .int .i64 k ∧ c = .int .i64 (sc cs k) ∧ a = .int .i64 ((keysTo cs k).length) ∧ Hid (BS w wr (.slice a0 16 c0) (.slice a1 S c1) ss (keysTo cs k))) (fun _ _ i _ => 16 - (intOf i).toNat)
  case atStart => exact ⟨0, by omega, rfl, rfl, rfl, HST.out⟩
  case round =>
    obtain ⟨i, hi, rfl, rfl, rfl, hbs⟩ := hrel
    by_cases hlt : i < 16
    · obtain ⟨b, off, rfl, hc⟩ := HU0.out.2 i hlt
      have hcr : wr.cell? ⟨b, off + i, none⟩ = some (.int .i64 (cs.getD i 0)) := (hbs.out.2.2.cell (p := ⟨b, off + i, none⟩) (World.block_lt_of_cell? w _ hc)).trans hc
      have hx := okTo_at cs 16 HOK.out i hlt
      obtain ⟨N, hN⟩ := Int.eq_ofNat_of_zero_le hx.1
      rw [hN] at hcr hx
      have hlt' : (i : Int) < 16 := by omega
      have HFULL := hid (keysAt_full cs i N (by omega))
      have HSC := hid (show sc cs (i + 1) = (sc cs i + N) * 2 by rw [sc, hN])
      have hs0 := sc_nonneg cs HOK.out i (by omega)
      have hs1 := (sc_lt cs HOK.out hroom i hlt).2
      rw [hN] at hs1
      have HBS := hid (show BS w wr _ _ ss (keysAt cs i 0) by rw [keysAt_zero]; exact hbs.out)
      have HLEN := hid (show (keysTo cs i).length = (keysAt cs i 0).length by rw [keysAt_zero])
      have HKL := hid (fun k (hk : k ≤ N) => (show ((keysAt cs i k).length : Int) = told cs i + k by
        have := keysTo_length cs i (okTo_le cs 16 i (by omega) HOK.out)
        rw [keysAt, List.length_append, rowKeys_length]; omega))
      have HTS := hid (told_le cs HOK.out i hlt N hN)
      clear hc hN
      rw [HLEN.out]
      go_wp2_with fail
      go_loopw [4, 5, 21] (fun c a m wq => ∃ k : Nat, k ≤ N ∧ m = .int .i64 k ∧ c = .int .i64 (sc cs i + k) ∧ a = .int .i64 ((keysAt cs i k).length) ∧ Hid (BS w wq (.slice (some ⟨b, off, none⟩) 16 c0) (.slice a1 S c1) ss (keysAt cs i k))) (fun _ _ m _ => N - (intOf m).toNat)
      case atStart => exact ⟨0, by omega, rfl, by simp, rfl, HBS.out⟩
      case round =>
        obtain ⟨k, hk, rfl, rfl, rfl, hbs2⟩ := hrel
        by_cases hkN : k < N
        · have hkl := HKL.out k hk
          have HK1 := hid (keysAt_succ cs i k)
          have hpS : (keysAt cs i k).length < S := by have := HTS.out; omega
          obtain ⟨b1, off1, rfl, hc1⟩ := HU1.out.2 _ hpS
          have hc2 : wr.cell? ⟨b1, off1 + (keysAt cs i k).length, none⟩ = some (.int .i64 (ss.getD (keysAt cs i k).length 0)) := (hbs2.out.2.2.cell (p := ⟨b1, off1 + (keysAt cs i k).length, none⟩) (World.block_lt_of_cell? w _ hc1)).trans hc1
          have hX := apart_in ss S HAP.out _ hpS
          have HBS1 := hid (fun x => bookTo_snoc ss (keysAt cs i k) x)
          have HMS1 := hid (fun x => mapTo_snoc ss (keysAt cs i k) x)
          obtain ⟨j, hj⟩ := Int.eq_ofNat_of_zero_le hX.1
          rw [hj] at hc2 hX HBS1 HMS1
          have hkN' : (k : Int) < (N : Int) := by omega
          obtain ⟨hT, hBk, hB⟩ := hbs2.out
          clear hj hbs2
          generalize keysAt cs i k = K at *
          generalize sc cs i = Sc at *
          obtain ⟨⟨arr, harr, hsz, harr0, harrs⟩, hmap⟩ := hBk
          have wfa : (Lit.int .i64 ((i : Int) + 1)).wf = true := WalkArith.wf_i64 (by omega)
          have wfb : (Lit.int .i64 (Sc + (k : Int))).wf = true := WalkArith.wf_i64 (by omega)
          have wfx : (Lit.int .i64 (j : Int)).wf = true := WalkArith.wf_i64 (by omega)
          obtain ⟨w2, hrun, hmap2, hg2⟩ := World.ownsMap.update (t := 162) (hmap.alloc (.cells #[.int .i64 ((i : Int) + 1), .int .i64 (Sc + (k : Int))] 164)).drew law72 Tryz.underlying162 (by unfold maxLen; omega) (key72 wr _ _ wfa wfb) (plainElem_int Tryz.underlying3 wfx)
          have HK := hid (Two.new wr (.int .i64 ((i : Int) + 1)) (.int .i64 (Sc + (k : Int))) 164)
          have HT1 := hid (hT.alloc (.cells #[.int .i64 ((i : Int) + 1), .int .i64 (Sc + (k : Int))] 164))
          have hBa := (Below.refl wr.heap.size wr).alloc (Nat.le_refl _) (.cells #[.int .i64 ((i : Int) + 1), .int .i64 (Sc + (k : Int))] 164)
          have HA1 := hid (harr.below hBa harr.lt)
          have hc3 : (wr.alloc (.cells #[.int .i64 ((i : Int) + 1), .int .i64 (Sc + (k : Int))] 164)).cell? ⟨b1, off1 + K.length, none⟩ = some (.int .i64 (j : Int)) := (hBa.cell (p := ⟨b1, off1 + K.length, none⟩) (World.block_lt_of_cell? wr _ hc2)).trans hc2
          have HB1 := hid (hB.trans (hBa.mono hB.size))
          have HTlt := hT.lt
          have hmlt : w.heap.size + 1 < wr.heap.size := hmap.lt
          have hb1 : b1 < w.heap.size := World.block_lt_of_cell? w _ hc1
          clear hT hmap harr hB hBa hkl hc1
          go_wp2_with fail
          generalize hw1 : wr.alloc (.cells #[.int .i64 ((i : Int) + 1), .int .i64 (Sc + (k : Int))] 164) = w1 at *
          obtain ⟨q1, q2, q3, q4⟩ := HT1.out.cells
          obtain ⟨q5, q6, q7, q8⟩ := HK.out.cells
          have q9 : w1.cell? ⟨w.heap.size + 1 + 1, 0, none⟩ = some (.map (some (w.heap.size + 1))) := (HA1.out.cell 0).trans harr0
          have hpS' : (K.length : Int) < (S : Int) := by omega
          go_region
          have hDne : wr.heap.size ≠ w.heap.size + 1 := by omega
          have T2 : Two w2 w.heap.size _ _ 31 := (hg2.block _ HT1.out.lt (fun e => by have := Option.some.inj e; omega)).trans HT1.out
          have K2 : Two w2 wr.heap.size _ _ 164 := (hg2.block _ HK.out.lt (fun e => hDne (Option.some.inj e))).trans HK.out
          have A2 : Arr w2 (w.heap.size + 1 + 1) arr 167 := (hg2.block _ HA1.out.lt (fun e => by have := Option.some.inj e; omega)).trans HA1.out
          have hc4 : w2.cell? ⟨b1, off1 + K.length, none⟩ = some (.int .i64 (j : Int)) := hg2.cell hc3 (fun e => by have h2 : b1 = w.heap.size + 1 := Option.some.inj e; omega)
          have HB2 := hid (HB1.out.trans (grown_below hg2 (by omega) HB1.out.size))
          have HM2 := hid hmap2
          have HHT := hid T2
          have HHA := hid A2
          obtain ⟨p1, p2, p3, p4⟩ := T2.cells
          obtain ⟨p5, p6, p7, p8⟩ := K2.cells
          obtain ⟨e0, e1⟩ := harrs j (by omega)
          have p9 : w2.cell? ⟨w.heap.size + 1 + 1, 1 + j * 2, none⟩ = _ := (A2.cell _).trans e0
          have p10 : w2.cell? ⟨w.heap.size + 1 + 1, 1 + j * 2 + 1, none⟩ = _ := (A2.cell _).trans e1
          have p11 := A2.free (1 + j * 2)
          have p12 := A2.free (1 + j * 2 + 1)
          have hj6 : (j : Int) < 256 := by omega
          clear q1 q2 q3 q4 q5 q6 q7 q8 q9 hrun hmap2 hg2 T2 K2 A2 e0 e1
          go_wp2_with fail
          go_region
          all_goals
            go_wp2
            go_roundw
            case rel =>
              refine ⟨k + 1, by omega, by go_num, by go_num, ?_, ?_⟩
              · rw [HK1.out, List.length_append]; go_num
              · rw [HK1.out]
                exact book_step (x := (i + 1, Sc + (k : Int))) (by omega) (by simp) HHT.out HHA.out hsz harr0 harrs HM2.out HBS1.out HMS1.out HB2.out
            case measure => simp [intOf]; omega
        · obtain rfl : k = N := by omega
          have HF2 := hid (show BS w wr _ _ ss (keysTo cs (i + 1)) by rw [← HFULL.out]; exact hbs2.out)
          have HL2 := hid (show (keysAt cs i k).length = (keysTo cs (i + 1)).length by rw [HFULL.out])
          clear hbs2
          generalize sc cs i = Sc at *
          rw [HL2.out]
          go_wp2
          go_roundw
          case rel => exact ⟨i + 1, by omega, by go_num, val_int HSC.out.symm, rfl, HF2.out⟩
          case measure => simp [intOf]; omega
    · obtain rfl : i = 16 := by omega
      go_wp2
      go_ret
      exact ⟨_, _, rfl, hbs.out.2.1, hbs.out.2.2⟩
end Go.Proofs.YtnnakmgngkpghaaGreat

/- The contract of the specification's list of all codes: a slice of slices. -/
namespace Go.Proofs.YtnnakmgngkpghaaGreat
open Go.RowKit Go.Maps
set_option linter.unusedVariables false

theorem Tryz.info22 : (Tryz.prog.info? 22).map (fun i => (i.zero, i.size, i.bytes)) = some (some (.slice none 0 0), 1, 24) := by kernel_rfl

/-- The slice v is the call's own and holds the slices vs. -/
def OwnS (w : World) (base : Nat) (v : Value) (vs : List Value) : Prop := base ≤ w.heap.size ∧ w.ownsRow base 22 1 v vs.length vs
/-- Blocks that hold no slices stay what they are. -/
def Keep3 (w w' : World) : Prop := ∀ (g : Nat) (cur : Array Value) (t : TypeId), t ≠ 22 → w.heap[g]? = some (.cells cur t (0, 0)) → w'.heap[g]? = some (.cells cur t (0, 0))
theorem Keep3.own {w w' : World} {base : Nat} {v : Value} {xs : List Int} (h : Keep3 w w') (hs : w.heap.size ≤ w'.heap.size) (ho : Own w base 3 .i64 v xs) : Own w' base 3 .i64 v xs := by
  refine ⟨Nat.le_trans ho.1 hs, ho.2.1, ?_⟩
  rcases ho.2.2 with h0 | ⟨g, cap, cur, hv, hg, hh, r⟩
  · exact .inl h0
  · exact .inr ⟨g, cap, cur, hv, hg, h g cur 3 (by decide) hh, r⟩

theorem OwnS.empty (w : World) (base : Nat) (hb : base ≤ w.heap.size) : OwnS (w.alloc (.cells #[] 22)) base (.slice (some ⟨w.heap.size, 0, none⟩) 0 0) [] :=
  ⟨Nat.le_trans hb (by simp), World.ownsRow_made w #[] 0 hb (by simp [maxLen]) rfl⟩
theorem OwnS.below {w w' : World} {base : Nat} {v : Value} {vs : List Value} (h : OwnS w base v vs) (hb : Below w.heap.size w w') : OwnS w' base v vs := by
  refine ⟨Nat.le_trans h.1 hb.size, h.2.1, ?_⟩
  rcases h.2.2 with h0 | ⟨g, cap, cur, hv, hg, hh, r⟩
  · exact .inl h0
  · exact .inr ⟨g, cap, cur, hv, hg, (hb.block g (Array.getElem?_eq_some_iff.1 hh).1).trans hh, r⟩
theorem OwnS.shape {w : World} {base : Nat} {v : Value} {vs : List Value} (h : OwnS w base v vs) : ∃ ao cap, v = .slice ao vs.length cap := by
  rcases h.2.2 with ⟨rfl, h0⟩ | ⟨g, cap, cur, rfl, _⟩
  · exact ⟨none, 0, by rw [h0]⟩
  · exact ⟨_, _, rfl⟩
theorem OwnS.cell {w : World} {base : Nat} {ao : Option Addr} {n c : Nat} {vs : List Value} (h : OwnS w base (.slice ao n c) vs) (j : Nat) (y : Value) (hj : vs[j]? = some y) :
    ∃ g, ao = some ⟨g, 0, none⟩ ∧ w.cell? ⟨g, j, none⟩ = some y := by
  obtain ⟨_, h⟩ := h
  rcases h.2 with ⟨hn, h0⟩ | ⟨g, cap, cur, hv, _⟩
  · have := (List.getElem?_eq_some_iff.1 hj).1
    omega
  · have ha : ao = some ⟨g, 0, none⟩ := by cases hv; rfl
    subst ha
    refine ⟨g, rfl, ?_⟩
    have := h.cells (g := g) (by simp [Value.ownBlock]) j y hj
    rw [Addr.add_lit, Nat.zero_add] at this
    exact this

/-- 'out = append(out, y)', y a slice laid in a new block of its own first. -/
theorem wpList_pushA {P : Program} {ops : Array Oper} {rest : List Oper} {o : Oper} {a : Act} {Q : Exit → Act → World → Prop} (w : World) (hgd : o.guard = none) (s x : Operand) (t : TypeId)
    (ho : o.op = .call { callee := .builtin .append, args := #[s, x], argTypes := #[t, t] })
    (base : Nat) (ht : P.underlying t = some (.slice 22)) (hinfo : (P.info? 22).map (fun i => (i.zero, i.size, i.bytes)) = some (some (.slice none 0 0), 1, 24))
    (v : Value) (vs : List Value) (hs : a.eval s = v) (hown : OwnS w base v vs) (ya : Option Addr) (yn yc : Nat) (hx : a.eval x = .slice (some ⟨w.heap.size, 0, none⟩) 1 1)
    (hlen : vs.length < 1000000000)
    (h : ∀ v' w', OwnS w' base v' (vs ++ [.slice ya yn yc]) → Keep3 w w' → Below base w w' → wpList P ops Q rest (a.put o.dst v') w') : wpList P ops Q (o :: rest) a (w.alloc (.cells #[.slice ya yn yc] 22)) := by
  obtain ⟨i, hi, hz0, hz1, hz2⟩ := info_parts hinfo
  have hb := hown.1
  have hlt := hown.2.lt
  refine wpList_append_own _ hgd s x t ho base 22 i (.slice none 0 0) 1 24 ht hi hz0 hz1 hz2 rfl (by decide) v vs.length _ hs (hown.2.alloc _) ⟨w.heap.size, 0, none⟩ 1 1 [.slice ya yn yc] hx rfl ?_ ?_ (by unfold maxLen; omega) (by omega) (Nat.le_trans hb (by simp)) ?_
  · intro j u hj
    match j, hj with
    | 0, hj => simp at hj; subst hj; simp [Addr.add]
  · intro u hu; simp at hu; subst hu; rfl
  · intro v' w' hown' hgrow _
    refine h v' w' ⟨Nat.le_trans hb (Nat.le_trans (by simp) hgrow.size), ?_⟩ ?_ ?_
    · simpa using hown'
    · intro g cur tt htt hg
      have hglt : g < w.heap.size := (Array.getElem?_eq_some_iff.1 hg).1
      have h1 : (w.alloc (.cells #[.slice ya yn yc] 22)).heap[g]? = some (.cells cur tt (0, 0)) := (((Below.refl w.heap.size w).alloc (Nat.le_refl _) _).block g hglt).trans hg
      refine (hgrow.block g (Nat.lt_trans hglt (by simp)) ?_).trans h1
      intro e
      rcases hown.2.2 with ⟨hv, _⟩ | ⟨g', cap, cur', hv, hg', hh, _⟩
      · subst hv; cases e
      · subst hv
        have : g = g' := by simpa [Value.ownBlock] using e
        subst this
        rw [hg] at hh
        cases hh
        exact htt rfl
    · exact ((Below.refl base w).alloc hb _).grown hgrow (Nat.le_trans hb (by simp)) (fun g hg => (hlt g hg).1)

/-- The bits of a key. -/
def bitsK (x : Nat × Int) : List Int := bl (rbX x.2 x.1) x.1

/-- The slices at v read as the codes of the keys K. -/
def AllAt (w : World) (base : Nat) (v : Value) (K : List (Nat × Int)) : Prop :=
  ∃ vs, vs.length = K.length ∧ OwnS w base v vs ∧ ∀ (p : Nat) (x : Nat × Int), K[p]? = some x → ∃ y, vs[p]? = some y ∧ Own w base 3 .i64 y (bitsK x)

theorem AllAt.snoc {w w' : World} {base : Nat} {v' : Value} {K : List (Nat × Int)} {x : Nat × Int} {vs : List Value} {y : Value} (hl : vs.length = K.length) (hk : Keep3 w w') (hs : w.heap.size ≤ w'.heap.size)
    (hel : ∀ (p : Nat) (x : Nat × Int), K[p]? = some x → ∃ y, vs[p]? = some y ∧ Own w base 3 .i64 y (bitsK x)) (hy : Own w base 3 .i64 y (bitsK x)) (ho : OwnS w' base v' (vs ++ [y])) : AllAt w' base v' (K ++ [x]) := by
  refine ⟨vs ++ [y], by simp [hl], ho, fun p z hp => ?_⟩
  by_cases h : p < K.length
  · rw [List.getElem?_append_left h] at hp
    obtain ⟨y0, h1, h2⟩ := hel p z hp
    exact ⟨y0, by rw [List.getElem?_append_left (by omega)]; exact h1, hk.own hs h2⟩
  · have hp2 : p = K.length := by
      have := (List.getElem?_eq_some_iff.1 hp).1
      simp at this
      omega
    subst hp2
    rw [List.getElem?_append_right (Nat.le_refl _)] at hp
    simp at hp
    subst hp
    refine ⟨y, by rw [← hl, List.getElem?_append_right (Nat.le_refl _)]; simp, hk.own hs hy⟩

set_option maxRecDepth 100000 in
set_option maxHeartbeats 6400000 in
theorem all_codes (v : Value) (cs ss : List Int) (w : World) (hr : rightC cs ss = true) (hv : CV w v cs ss) :
    Calls Tryz.prog 70 #[v] w fun e w' => ∃ v', e = .returned v' ∧ AllAt w' w.heap.size v' (keysTo cs 16) ∧ Below w.heap.size w w' := by
  obtain ⟨a0, c0, a1, c1, rfl, u0, u1⟩ := hv
  obtain ⟨⟨hl, hok, ht, hroom⟩, htold, hap⟩ := (right_iff cs ss).1 hr
  have HB := hid ((Below.refl w.heap.size w).alloc (Nat.le_refl _) (.cells #[.slice a0 cs.length c0, .slice a1 ss.length c1] 31))
  have HT := hid (Two.new w (.slice a0 cs.length c0) (.slice a1 ss.length c1) 31)
  have HU0 := hid u0
  have HOK := hid hok
  rw [hl] at HB HT HU0 ⊢
  clear u0 u1 hr hap hok
  go_enter Tryz.func70, Tryz.ntmps70
  have hwas : (w.alloc (.cells #[.slice a0 16 c0, .slice a1 ss.length c1] 31)).heap.size = w.heap.size + 1 := by simp
  go_wp2_with fail
  generalize w.alloc (.cells #[.slice a0 16 c0, .slice a1 ss.length c1] 31) = wa at *
  have HWAS := hid hwas
  clear hwas
  have hwa : w.heap.size ≤ wa.heap.size := HB.out.size
  go_loopw [3, 4, 5] (fun o c i wr => ∃ k : Nat, k ≤ 16 ∧ i = .int .i64 k ∧ c = .int .i64 (sc cs k) ∧ Hid (AllAt wr w.heap.size o (keysTo cs k)) ∧ Hid (Below w.heap.size w wr) ∧ Hid (Two wr w.heap.size (.slice a0 16 c0) (.slice a1 ss.length c1) 31)) (fun _ _ i _ => 16 - (intOf i).toNat)
  case atStart =>
    exact ⟨0, by omega, rfl, rfl, ⟨[], rfl, by rw [← HWAS.out]; exact OwnS.empty wa _ hwa, fun p x hp => by simp [keysTo] at hp⟩, HB.out.alloc hwa _, HT.out.alloc _⟩
  case round =>
    obtain ⟨i, hi, rfl, rfl, hall, hb, htwo⟩ := hrel
    by_cases hlt : i < 16
    · obtain ⟨b, off, rfl, hc⟩ := HU0.out.2 i hlt
      have hx := okTo_at cs 16 HOK.out i hlt
      obtain ⟨N, hN⟩ := Int.eq_ofNat_of_zero_le hx.1
      rw [hN] at hc hx
      have hlt' : (i : Int) < 16 := by omega
      have HFULL := hid (keysAt_full cs i N (by omega))
      have HSC := hid (show sc cs (i + 1) = (sc cs i + N) * 2 by rw [sc, hN])
      have hs0 := sc_nonneg cs HOK.out i (by omega)
      obtain ⟨hs2, hs1⟩ := sc_lt cs HOK.out hroom i hlt
      rw [hN] at hs1 hs2
      have HS2 := hid hs2
      have HA0 := hid (show AllAt wr w.heap.size _ (keysAt cs i 0) by rw [keysAt_zero]; exact hall.out)
      have hblt := World.block_lt_of_cell? w _ hc
      clear hN hs2 hall
      go_wp2_with fail
      go_loopw [3, 4, 6] (fun o c m wq => ∃ k : Nat, k ≤ N ∧ m = .int .i64 k ∧ c = .int .i64 (sc cs i + k) ∧ Hid (AllAt wq w.heap.size o (keysAt cs i k)) ∧ Hid (Below w.heap.size w wq) ∧ Hid (Two wq w.heap.size (.slice (some ⟨b, off, none⟩) 16 c0) (.slice a1 ss.length c1) 31)) (fun _ _ m _ => N - (intOf m).toNat)
      case atStart => exact ⟨0, by omega, rfl, by simp, HA0.out, hb.out, htwo.out⟩
      case round =>
        obtain ⟨k, hk, rfl, rfl, hall2, hb2, htwo2⟩ := hrel
        have hc2 : wr.cell? ⟨b, off + i, none⟩ = some (.int .i64 (N : Int)) := (hb2.out.cell (p := ⟨b, off + i, none⟩) hblt).trans hc
        obtain ⟨q1, q2, q3, q4⟩ := htwo2.out.cells
        have htlt := htwo2.out.lt
        by_cases hkN : k < N
        · have hkN' : (k : Int) < (N : Int) := by omega
          have HK1 := hid (keysAt_succ cs i k)
          have HNB := hid (spec_numBits (sc cs i + k) (i + 1) wr (by omega) (by omega) (by have := HS2.out; omega))
          obtain ⟨vs, hvl, howns, hels⟩ := hall2.out
          have HOS := hid howns
          have HEL := hid hels
          have hvl2 : vs.length < 1000000000 := by
            rw [hvl, keysAt, List.length_append, rowKeys_length]
            have h1 := keysTo_length cs i (okTo_le cs 16 i (by omega) HOK.out)
            have h2 := told_bounds cs i (okTo_le cs 16 i (by omega) HOK.out)
            omega
          have HVL := hid hvl
          generalize keysAt cs i k = K at *
          generalize sc cs i = Sc at *
          clear howns hels hvl hall2
          go_wp2_with fail
          refine HNB.out.mono ?_
          rintro e w1 ⟨y, rfl, hy, hb3⟩
          obtain ⟨yo, yc, rfl⟩ := hy.shape
          have HY := hid (show Own w1 w.heap.size 3 .i64 _ (bitsK (i + 1, Sc + (k : Int))) from hy.mono hb2.out.size)
          have hown1 := HOS.out.below hb3
          have HEL1 := hid (fun (p : Nat) (x : Nat × Int) (hp : K[p]? = some x) => (let ⟨y, h1, h2⟩ := HEL.out p x hp; (⟨y, h1, h2.below hb3⟩ : ∃ y, vs[p]? = some y ∧ Own w1 w.heap.size 3 .i64 y (bitsK x))))
          have HB3 := hid (hb2.out.trans (hb3.mono hb2.out.size))
          have T3 := hid (htwo2.out.below hb3 htlt)
          clear hy hb3 q1 q2 q3 q4 HEL HOS hc2
          go_wp2_with (at_builtin; refine wpList_pushA w1 rfl _ _ 96 rfl w.heap.size Tryz.underlying96 Tryz.info22 _ vs (by rfl) hown1 yo _ yc (by rfl) hvl2 ?_)
          intro v2 w2 hown2 hk3 hb4
          have hsz2 : w1.heap.size ≤ w2.heap.size := hb4.size
          have HA2 := hid (AllAt.snoc HVL.out hk3 hsz2 HEL1.out HY.out hown2)
          have HB4 := hid (HB3.out.trans hb4)
          have HH := T3.out
          clear hown1 hown2
          go_wp2
          go_roundw
          case rel =>
            refine ⟨k + 1, by omega, by go_num, by go_num, ?_, HB4.out, ?_⟩
            · rw [HK1.out]; exact HA2.out
            · exact hk3 _ _ 31 (by decide) T3.out
          case measure => simp [intOf]; omega
        · obtain rfl : k = N := by omega
          have HF2 := hid (show AllAt wr w.heap.size _ (keysTo cs (i + 1)) by rw [← HFULL.out]; exact hall2.out)
          clear hall2
          generalize sc cs i = Sc at *
          go_wp2
          go_roundw
          case rel => exact ⟨i + 1, by omega, by go_num, val_int (by rw [HSC.out, Int.mul_comm]), HF2.out, hb2.out, htwo2.out⟩
          case measure => simp [intOf]; omega
    · obtain rfl : i = 16 := by omega
      go_wp2
      go_ret
      exact ⟨_, rfl, hall.out, hb.out⟩
end Go.Proofs.YtnnakmgngkpghaaGreat

/- Plain facts: which code a symbol has. No function of the program is named here. -/
namespace Go.Proofs.YtnnakmgngkpghaaGreat
open Go.RowKit Go.Maps
set_option linter.unusedVariables false

/-- A length and a code that fits it. -/
def KeyOk (x : Nat × Int) : Prop := (1 ≤ x.1 ∧ x.1 ≤ 16) ∧ 0 ≤ x.2 ∧ x.2 < 2 ^ x.1
theorem rowKeys_ok (cs : List Int) (h : okTo cs 16 = true) (hr : room cs 16 ≤ 65535) (i : Nat) (hi : i < 16) : ∀ (k : Nat), (k : Int) ≤ cs.getD i 0 → ∀ x ∈ rowKeys cs i k, KeyOk x
  | 0, _, x, hx => by simp [rowKeys] at hx
  | k + 1, hk, x, hx => by
    rw [rowKeys, List.mem_append] at hx
    rcases hx with hx | hx
    · exact rowKeys_ok cs h hr i hi k (by omega) x hx
    · have e : x = (i + 1, sc cs i + k) := by simpa using hx
      subst e
      have h1 := sc_nonneg cs h i (by omega)
      have h2 := (sc_lt cs h hr i hi).1
      exact ⟨⟨by omega, by omega⟩, by show 0 ≤ sc cs i + k; omega, by show sc cs i + k < 2 ^ (i + 1); omega⟩
theorem keysTo_ok (cs : List Int) (h : okTo cs 16 = true) (hr : room cs 16 ≤ 65535) : ∀ i, i ≤ 16 → ∀ x ∈ keysTo cs i, KeyOk x
  | 0, _, x, hx => by simp [keysTo] at hx
  | i + 1, hi, x, hx => by
    rw [keysTo, List.mem_append] at hx
    have hb := okTo_at cs 16 h i (by omega)
    rcases hx with hx | hx
    · exact keysTo_ok cs h hr i (by omega) x hx
    · exact rowKeys_ok cs h hr i (by omega) (cs.getD i 0).toNat (by omega) x hx

theorem go_mem (ss : List Int) (K : List (Nat × Int)) (j : Nat) : ∀ t, t ≤ K.length → bookTo.go ss K t j = (0, 0) ∨ bookTo.go ss K t j ∈ K
  | 0, _ => .inl rfl
  | t + 1, h => by
    rw [bookTo.go]
    split
    · right
      have : K.getD t (0, 0) = K[t] := by simp [List.getD, show t < K.length by omega]
      rw [this]
      exact List.getElem_mem _
    · exact go_mem ss K j t (by omega)
theorem book_mem (ss : List Int) (K : List (Nat × Int)) (j : Nat) : bookTo ss K j = (0, 0) ∨ bookTo ss K j ∈ K := go_mem ss K j _ (Nat.le_refl _)
theorem go_miss (ss : List Int) (K : List (Nat × Int)) (j : Nat) : ∀ t, (∀ p, p < t → ss.getD p 0 ≠ j) → bookTo.go ss K t j = (0, 0)
  | 0, _ => rfl
  | t + 1, h => by
    rw [bookTo.go, if_neg (fun e => h t (by omega) e.symm)]
    exact go_miss ss K j t (fun p hp => h p (by omega))
theorem go_hit (ss : List Int) (K : List (Nat × Int)) (j : Nat) : ∀ t, apartTo ss t = true → ∀ p, p < t → ss.getD p 0 = j → bookTo.go ss K t j = K.getD p (0, 0)
  | t + 1, h, p, hp, e => by
    simp only [apartTo, Bool.and_eq_true, Bool.not_eq_true'] at h
    rw [bookTo.go]
    by_cases ep : p = t
    · subst ep; rw [if_pos e.symm]
    · rw [if_neg]
      · exact go_hit ss K j t h.1 p (by omega) e
      · intro e2
        have : hasTo ss t (ss.getD t 0) = true := (hasTo_iff ss _ t).2 ⟨p, by omega, by rw [e, e2]⟩
        rw [this] at h
        exact Bool.noConfusion h.2.2

/-- The bits of a symbol's code, of right codes. -/
def codeL (cs ss : List Int) (sym : Int) : List Int := if inB sym = true then bitsK (bookTo ss (keysTo cs 16) sym.toNat) else []
/-- The bits of a symbol's code; nothing for codes that are not right. -/
def codeR (cs ss : List Int) (sym : Int) : List Int := if rightC cs ss = true then codeL cs ss sym else []
theorem codeL_out (cs ss : List Int) (sym : Int) (h : inB sym = false) : codeL cs ss sym = [] := by unfold codeL; rw [h]; rfl
theorem keys_len (cs ss : List Int) (h : rightC cs ss = true) : (keysTo cs 16).length = ss.length := by
  obtain ⟨⟨hl, hok, ht, hroom⟩, htold, hap⟩ := (right_iff cs ss).1 h
  have := keysTo_length cs 16 hok
  omega
theorem codeL_hit (cs ss : List Int) (h : rightC cs ss = true) (p : Nat) (hp : p < ss.length) (x : Nat × Int) (hx : (keysTo cs 16)[p]? = some x) : codeL cs ss (ss.getD p 0) = bitsK x := by
  obtain ⟨⟨hl, hok, ht, hroom⟩, htold, hap⟩ := (right_iff cs ss).1 h
  have hin := apart_in ss _ hap p hp
  unfold codeL
  rw [if_pos ((inB_iff _).2 hin), bookTo, keys_len cs ss h, go_hit ss _ _ _ hap p hp (by omega)]
  simp [List.getD, hx]
theorem codeL_miss (cs ss : List Int) (h : rightC cs ss = true) (sym : Int) (hm : ∀ p, p < ss.length → ss.getD p 0 ≠ sym) : codeL cs ss sym = [] := by
  unfold codeL
  split
  · rename_i hin
    have hb := (inB_iff _).1 hin
    rw [bookTo, keys_len cs ss h, go_miss ss _ _ _ (fun p hp e => hm p hp (by omega))]
    rfl
  · rfl
/-- What the book says of a symbol. -/
theorem book_key (cs ss : List Int) (h : rightC cs ss = true) (j : Nat) : bookTo ss (keysTo cs 16) j = (0, 0) ∨ KeyOk (bookTo ss (keysTo cs 16) j) := by
  obtain ⟨⟨hl, hok, ht, hroom⟩, htold, hap⟩ := (right_iff cs ss).1 h
  rcases book_mem ss (keysTo cs 16) j with h1 | h1
  · exact .inl h1
  · exact .inr (keysTo_ok cs hok hroom 16 (by omega) _ h1)
end Go.Proofs.YtnnakmgngkpghaaGreat
