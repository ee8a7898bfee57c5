/- Contracts of the small functions over blocks: their size, their copy, their comparison, and BlockOk of the program and of the specification. -/
import Derived.Test.YtnnakmgngkpghaaInts
namespace Go.Proofs.Ytnnakmgngkpghaa
open Go.RowKit
set_option linter.unusedVariables false

/-- What is left of a measure when n are taken; -1 when it is not enough. -/
def lft (l : Int) (n : Nat) : Int := if l - n < 0 then -1 else l - n
theorem szInts (ao : Option Addr) (n cap : Nat) (l : Int) (w : World) (hn : n ≤ 9223372036854775807) (h0 : 0 ≤ l) (h1 : l ≤ 1048576) :
    Calls Try.prog 35 #[.slice ao n cap, .int .i64 l] w fun e w' => e = .returned (.int .i64 (lft l n)) ∧ w = w' := by
  by_cases h : l - (n : Int) < 0
  · go_enter Try.func35, Try.ntmps35
    go_wp2
    go_ret
    exact ⟨ret_int (by unfold lft; rw [if_pos h]), rfl⟩
  · go_enter Try.func35, Try.ntmps35
    go_wp2
    go_ret
    exact ⟨ret_int (by unfold lft; rw [if_neg (by omega)]), rfl⟩

theorem Own.mono {w : World} {base base' : Nat} {e : TypeId} {k : IntKind} {v : Value} {xs : List Int} (h : Own w base e k v xs) (hb : base' ≤ base) : Own w base' e k v xs := by
  refine ⟨Nat.le_trans hb h.1, h.2.1, ?_⟩
  rcases h.2.2 with h0 | ⟨g, cap, cur, hv, hg, r⟩
  · exact .inl h0
  · exact .inr ⟨g, cap, cur, hv, Nat.le_trans hb hg, r⟩

/-- Block b holds a struct of two cells. -/
def Two (w : World) (b : Nat) (x y : Value) (t : TypeId) : Prop := w.heap[b]? = some (.cells #[x, y] t (0, 0))
theorem Two.cells {w : World} {b : Nat} {x y : Value} {t : TypeId} (h : Two w b x y t) :
    w.cell? ⟨b, 0, none⟩ = some x ∧ w.cell? ⟨b, 1, none⟩ = some y ∧ w.frozen? ⟨b, 0, none⟩ = false ∧ w.frozen? ⟨b, 1, none⟩ = false := by
  unfold Two at h
  simp [World.cell?, World.frozen?, h]
theorem Two.lt {w : World} {b : Nat} {x y : Value} {t : TypeId} (h : Two w b x y t) : b < w.heap.size := (Array.getElem?_eq_some_iff.1 h).1
theorem Two.new (w : World) (x y : Value) (t : TypeId) : Two (w.alloc (.cells #[x, y] t)) w.heap.size x y t := heap_alloc_new w _
theorem Two.below {w w' : World} {B b : Nat} {x y : Value} {t : TypeId} (h : Two w b x y t) (hb : Below B w w') (hB : b < B) : Two w' b x y t := (hb.block b hB).trans h
theorem Two.alloc {w : World} {b : Nat} {x y : Value} {t : TypeId} (h : Two w b x y t) (o : Obj) : Two (w.alloc o) b x y t := h.below ((Below.refl _ _).alloc (Nat.le_refl _) _) h.lt
theorem Two.set0 {w : World} {b : Nat} {x y : Value} {t : TypeId} (h : Two w b x y t) (u : Value) : Two (w.setCell ⟨b, 0, none⟩ u) b u y t := heap_setCell_same w b 0 _ t u h
theorem Two.set1 {w : World} {b : Nat} {x y : Value} {t : TypeId} (h : Two w b x y t) (u : Value) : Two (w.setCell ⟨b, 1, none⟩ u) b x u t := heap_setCell_same w b 1 _ t u h
theorem Two.other {w : World} {b c i : Nat} {x y : Value} {t : TypeId} (h : Two w b x y t) (hne : b ≠ c) (u : Value) : Two (w.setCell ⟨c, i, none⟩ u) b x y t := (Below.heap_setCell _ _ _ _ (fun e => hne (by rw [e]))).trans h


theorem szBlock (d : Int) (a0 : Option Addr) (n0 c0 : Nat) (l : Int) (w : World) (hn0 : n0 ≤ 9223372036854775807) (h0 : 0 ≤ l) (h1 : l ≤ 1048576) :
    Calls Try.prog 26 #[.agg #[.int .i64 d, .slice a0 n0 c0], .int .i64 l] w fun e w' => e = .returned (.int .i64 (lft l n0)) ∧ Below w.heap.size w w' := by
  have HS := hid (szInts a0 n0 c0 l (w.alloc (.cells #[.int .i64 d, .slice a0 n0 c0] 60)) hn0 h0 h1)
  by_cases h : l - (n0 : Int) < 0
  · have e0 : lft l n0 = -1 := by unfold lft; rw [if_pos h]
    rw [e0] at HS ⊢
    go_enter Try.func26, Try.ntmps26
    go_wp2_with fail
    refine HS.out.mono ?_
    rintro e w1 ⟨rfl, rfl⟩
    go_wp2
    go_ret
    exact ⟨rfl, (Below.refl _ _).alloc (Nat.le_refl _) _⟩
  · have e0 : lft l n0 = l - n0 := by unfold lft; rw [if_neg h]
    rw [e0] at HS ⊢
    go_enter Try.func26, Try.ntmps26
    go_wp2_with fail
    refine HS.out.mono ?_
    rintro e w1 ⟨rfl, rfl⟩
    go_wp2
    go_ret
    exact ⟨rfl, (Below.refl _ _).alloc (Nat.le_refl _) _⟩

/-- A block that is read. -/
def BV (w : World) (v : Value) (d : Int) (xs : List Int) : Prop :=
  ∃ a c, v = .agg #[.int .i64 d, .slice a xs.length c] ∧ View .i64 w a xs.length xs
theorem BV.below {w w' : World} {v : Value} {d : Int} {xs : List Int} (h : BV w v d xs) (hb : Below w.heap.size w w') : BV w' v d xs := by
  obtain ⟨a, c, rfl, h0⟩ := h
  exact ⟨a, c, rfl, h0.below (Nat.le_refl _) hb⟩
/-- A block that is the call's own. -/
def BOwn (w : World) (base : Nat) (v : Value) (d : Int) (xs : List Int) : Prop := ∃ va, v = .agg #[.int .i64 d, va] ∧ Own w base 3 .i64 va xs
theorem BOwn.bv {w : World} {base : Nat} {v : Value} {d : Int} {xs : List Int} (h : BOwn w base v d xs) : BV w v d xs := by
  obtain ⟨va, rfl, h0⟩ := h
  obtain ⟨a0, c0, rfl, v0⟩ := h0.view
  exact ⟨a0, c0, rfl, v0⟩
theorem BOwn.below {w w' : World} {base : Nat} {v : Value} {d : Int} {xs : List Int} (h : BOwn w base v d xs) (hb : Below w.heap.size w w') : BOwn w' base v d xs := by
  obtain ⟨va, rfl, h0⟩ := h
  exact ⟨va, rfl, h0.below hb⟩

set_option maxHeartbeats 800000 in
theorem toBlock (v : Value) (d : Int) (xs : List Int) (w : World) (h0 : xs.length ≤ 1048576) (hv : BV w v d xs) :
    Calls Try.prog 30 #[v] w fun e w' => ∃ v', e = .returned v' ∧ BOwn w' w.heap.size v' d xs ∧ Below w.heap.size w w' := by
  obtain ⟨a0, c0, rfl, hv0⟩ := hv
  have H0 := hid hv0
  clear hv0
  have t0 := Two.new w (.int .i64 d) (.slice a0 xs.length c0) 60
  have t1 := Two.new (w.alloc (.cells #[.int .i64 d, .slice a0 xs.length c0] 60)) (.int .i64 0) (.slice none 0 0) 49
  have t2 := Two.new ((w.alloc (.cells #[.int .i64 d, .slice a0 xs.length c0] 60)).alloc (.cells #[.int .i64 0, .slice none 0 0] 49)) (.int .i64 d) (.slice none 0 0) 49
  have V0 := hid ((t0.alloc (.cells #[.int .i64 0, .slice none 0 0] 49)).alloc (.cells #[.int .i64 d, .slice none 0 0] 49))
  have V1 := hid (t1.alloc (.cells #[.int .i64 d, .slice none 0 0] 49))
  have V2 := hid t2
  have BB := hid ((((Below.refl w.heap.size w).alloc (Nat.le_refl _) (.cells #[.int .i64 d, .slice a0 xs.length c0] 60)).alloc (by simp) (.cells #[.int .i64 0, .slice none 0 0] 49)).alloc (by simp; omega) (.cells #[.int .i64 d, .slice none 0 0] 49))
  simp only [World.size_alloc] at V1 V2
  clear t0 t1 t2
  go_enter Try.func30, Try.ntmps30
  go_wp2_with fail
  refine (toInts a0 xs.length c0 xs _ h0 (H0.out.below (Nat.le_refl _) BB.out)).mono ?_
  generalize ((w.alloc _).alloc _).alloc _ = wa at *
  rintro e w1 ⟨va, rfl, hown1, hb1⟩
  obtain ⟨ao, cap, rfl⟩ := hown1.shape
  have HO1 := hid hown1
  have U0 := hid (V0.out.below hb1 V0.out.lt)
  have U1 := hid (V1.out.below hb1 V1.out.lt)
  have U2 := hid (V2.out.below hb1 V2.out.lt)
  have BB1 := hid (BB.out.trans (hb1.mono BB.out.size))
  have T2lt : w.heap.size + 1 + 1 < wa.heap.size := V2.out.lt
  clear hown1 hb1 V0 V1 V2
  obtain ⟨q1, q2, q3, q4⟩ := U1.out.cells
  obtain ⟨q5, q6, q7, q8⟩ := U2.out.cells
  go_wp2
  refine bodyPost_ret (v := .agg #[.int .i64 d, .slice ao xs.length cap]) (by simp [results, Try.results30, go_sem, q1, q2]) rfl ⟨_, rfl, ⟨_, rfl, ?_⟩, ?_⟩
  · exact (((HO1.out.setCell_below (a := ⟨w.heap.size + 1 + 1, 1, none⟩) (by show w.heap.size + 1 + 1 < wa.heap.size; omega) _).setCell_below (a := ⟨w.heap.size + 1, 0, none⟩) (by show w.heap.size + 1 < wa.heap.size; omega) _).setCell_below (a := ⟨w.heap.size + 1, 1, none⟩) (by show w.heap.size + 1 < wa.heap.size; omega) _).mono (by omega)
  · exact ((BB1.out.setCell (p := ⟨w.heap.size + 1 + 1, 1, none⟩) (by show w.heap.size ≤ w.heap.size + 1 + 1; omega) _).setCell (p := ⟨w.heap.size + 1, 0, none⟩) (by show w.heap.size ≤ w.heap.size + 1; omega) _).setCell (p := ⟨w.heap.size + 1, 1, none⟩) (by show w.heap.size ≤ w.heap.size + 1; omega) _

set_option maxHeartbeats 800000 in
/-- Two blocks that read as the same numbers. -/
theorem eqBlock_same (v v' : Value) (d : Int) (xs : List Int) (w : World) (h0 : xs.length ≤ 1048576) (hv : BV w v d xs) (hv' : BV w v' d xs) :
    Calls Try.prog 33 #[v, v'] w fun e w' => e = .returned (.bool true) ∧ Below w.heap.size w w' := by
  obtain ⟨a0, c0, rfl, u0⟩ := hv
  obtain ⟨b0, d0, rfl, x0⟩ := hv'
  have B0 := hid (((Below.refl w.heap.size w).alloc (Nat.le_refl _) (.cells #[.int .i64 d, .slice a0 xs.length c0] 49)).alloc (by simp) (.cells #[.int .i64 d, .slice b0 xs.length d0] 49))
  have U0 := hid u0
  have X0 := hid x0
  clear u0 x0
  have hdd : (d != d) = false := by simp
  go_enter Try.func33, Try.ntmps33
  go_wp2_with fail
  refine (eqInts_same a0 b0 xs.length c0 d0 xs _ (by omega) (U0.out.below (Nat.le_refl _) B0.out) (X0.out.below (Nat.le_refl _) B0.out)).mono ?_
  generalize (w.alloc _).alloc _ = wa at *
  rintro e w1 ⟨rfl, hb1⟩
  have BB1 := hid (B0.out.trans (hb1.mono B0.out.size))
  clear hb1
  go_wp2
  go_ret
  exact ⟨rfl, BB1.out⟩

/-- A number that a block may have. -/
def inC (x : Int) : Bool := decide (-1023 ≤ x ∧ x ≤ 1023)
/-- The first k numbers are such. -/
def coefTo (xs : List Int) : Nat → Bool
  | 0 => true
  | k + 1 => coefTo xs k && inC (xs.getD k 0)
theorem coefTo_bad (xs : List Int) (k : Nat) (h : inC (xs.getD k 0) = false) : ∀ n, k < n → coefTo xs n = false
  | n + 1, hn => by
    rw [coefTo]
    by_cases e : k = n
    · subst e; rw [h, Bool.and_false]
    · rw [coefTo_bad xs k h n (by omega), Bool.false_and]
theorem coefTo_at (xs : List Int) : ∀ n, coefTo xs n = true → ∀ k, k < n → inC (xs.getD k 0) = true
  | n + 1, h, k, hk => by
    simp only [coefTo, Bool.and_eq_true] at h
    by_cases e : k = n
    · subst e; exact h.2
    · exact coefTo_at xs n h.1 k (by omega)
/-- The block is right. -/
def blkOk (d : Int) (xs : List Int) : Bool := inC d && (decide (xs.length = 63) && coefTo xs 63)

theorem isCoef_any (x : Int) (w : World) : Calls Try.prog 80 #[.int .i64 x] w fun e w' => e = .returned (.bool (inC x)) ∧ w = w' := by
  by_cases h1 : -1023 ≤ x <;> by_cases h2 : x ≤ 1023
  all_goals
    go_enter Try.func80, Try.ntmps80
    go_wp2
    go_ret
    exact ⟨by simp [inC, h1, h2], rfl⟩

set_option maxHeartbeats 1600000 in
theorem impl_blockOk (v : Value) (d : Int) (xs : List Int) (w : World) (hl : xs.length ≤ 1048576) (hv : BV w v d xs) :
    Calls Try.prog 76 #[v] w fun e w' => e = .returned (.bool (blkOk d xs)) ∧ Below w.heap.size w w' := by
  obtain ⟨a0, c0, rfl, u0⟩ := hv
  have HD := hid (isCoef_any d)
  have HB := hid ((Below.refl w.heap.size w).alloc (Nat.le_refl _) (.cells #[.int .i64 d, .slice a0 xs.length c0] 49))
  have HV := hid (u0.below (Nat.le_refl _) HB.out)
  clear u0
  cases hD : inC d with
  | false =>
    have hR : Hid (blkOk d xs = false) := hid (by unfold blkOk; rw [hD]; rfl)
    rw [hD] at HD
    go_enter Try.func76, Try.ntmps76
    go_wp2_with (go_at_call 80; refine (HD.out _).mono ?_; rintro e w1 ⟨rfl, rfl⟩)
    go_ret
    exact ⟨ret_bool hR.out.symm, HB.out⟩
  | true =>
    rw [hD] at HD
    by_cases h63 : xs.length = 63
    · have HBAD := hid (fun k hk h => coefTo_bad xs k h 63 hk)
      have hR : Hid (blkOk d xs = coefTo xs 63) := hid (by unfold blkOk; rw [hD, decide_eq_true h63]; rfl)
      have h63' : ((xs.length : Int) != 63) = false := by simp; omega
      rw [h63] at HV
      have HBX := hid HB.out
      rw [h63] at HBX
      go_enter Try.func76, Try.ntmps76
      go_wp2_with (go_at_call 80; refine (HD.out _).mono ?_; rintro e w1 ⟨rfl, rfl⟩)
      go_loop [18] (fun i => ∃ k : Nat, k ≤ 63 ∧ i = .int .i64 k ∧ Hid (coefTo xs k = true)) (fun i => 63 - (intOf i).toNat)
      case atStart => exact ⟨0, by omega, rfl, rfl⟩
      case round =>
        obtain ⟨k, hk, rfl, hap⟩ := hrel
        by_cases hlt : k < 63
        · obtain ⟨b, off, rfl, hc⟩ := HV.out.2 k hlt
          have HBK := hid (HBAD.out k hlt)
          have HST := hid (show coefTo xs (k + 1) = (coefTo xs k && inC (xs.getD k 0)) from rfl)
          have HI := hid (isCoef_any (xs.getD k 0))
          generalize xs.getD k 0 = X at *
          cases hX : inC X with
          | true =>
            rw [hX] at HI HST
            have HN := hid (show coefTo xs (k + 1) = true by rw [HST.out, hap.out]; rfl)
            clear HST HBK HBAD
            go_wp2_with (go_at_call 80; refine (HI.out _).mono ?_; rintro e w1 ⟨rfl, rfl⟩)
            go_round
            case rel => exact ⟨k + 1, by omega, by go_num, HN.out⟩
            case measure => simp [intOf]; omega
          | false =>
            rw [hX] at HI
            have HN := hid (HBK.out hX)
            clear HST HBK HBAD
            go_wp2_with (go_at_call 80; refine (HI.out _).mono ?_; rintro e w1 ⟨rfl, rfl⟩)
            go_ret
            exact ⟨ret_bool (by rw [hR.out, HN.out]), HBX.out⟩
        · obtain rfl : k = 63 := by omega
          go_wp2
          go_ret
          exact ⟨ret_bool (by rw [hR.out, hap.out]), HBX.out⟩
    · have hR : Hid (blkOk d xs = false) := hid (by unfold blkOk; rw [decide_eq_false h63, Bool.false_and, Bool.and_false])
      have h63' : ((xs.length : Int) != 63) = true := by simp; omega
      go_enter Try.func76, Try.ntmps76
      go_wp2_with (go_at_call 80; refine (HD.out _).mono ?_; rintro e w1 ⟨rfl, rfl⟩)
      go_ret
      exact ⟨ret_bool hR.out.symm, HB.out⟩

set_option maxHeartbeats 1600000 in
theorem spec_blockOk (v : Value) (d : Int) (xs : List Int) (w : World) (hl : xs.length ≤ 1048576) (hv : BV w v d xs) :
    Calls Try.prog 54 #[v] w fun e w' => e = .returned (.bool (blkOk d xs)) ∧ Below w.heap.size w w' := by
  obtain ⟨a0, c0, rfl, u0⟩ := hv
  have HD : Hid (∀ q, Calls Try.prog 36 #[.int .i64 d, .int .i64 (-1023), .int .i64 1023] q fun e w' => e = .returned (.bool (inC d)) ∧ q = w') := hid (fun q => spec_in d (-1023) 1023 q)
  have HB := hid ((Below.refl w.heap.size w).alloc (Nat.le_refl _) (.cells #[.int .i64 d, .slice a0 xs.length c0] 49))
  have HV := hid (u0.below (Nat.le_refl _) HB.out)
  clear u0
  cases hD : inC d with
  | false =>
    have hR : Hid (blkOk d xs = false) := hid (by unfold blkOk; rw [hD]; rfl)
    rw [hD] at HD
    go_enter Try.func54, Try.ntmps54
    go_wp2_with (go_at_call 36; refine (HD.out _).mono ?_; rintro e w1 ⟨rfl, rfl⟩)
    go_ret
    exact ⟨ret_bool hR.out.symm, HB.out⟩
  | true =>
    rw [hD] at HD
    by_cases h63 : xs.length = 63
    · have HBAD := hid (fun k hk h => coefTo_bad xs k h 63 hk)
      have hR : Hid (blkOk d xs = coefTo xs 63) := hid (by unfold blkOk; rw [hD, decide_eq_true h63]; rfl)
      have h63' : ((xs.length : Int) != 63) = false := by simp; omega
      have h63n : (63 : Int) ≤ (xs.length : Int) := by omega
      rw [h63] at HV
      have HBX := hid HB.out
      rw [h63] at HBX
      go_enter Try.func54, Try.ntmps54
      go_wp2_with (go_at_call 36; refine (HD.out _).mono ?_; rintro e w1 ⟨rfl, rfl⟩)
      go_loop [3] (fun i => ∃ k : Nat, k ≤ 63 ∧ i = .int .i64 k ∧ Hid (coefTo xs k = true)) (fun i => 63 - (intOf i).toNat)
      case atStart => exact ⟨0, by omega, rfl, rfl⟩
      case round =>
        obtain ⟨k, hk, rfl, hap⟩ := hrel
        by_cases hlt : k < 63
        · obtain ⟨b, off, rfl, hc⟩ := HV.out.2 k hlt
          have HBK := hid (HBAD.out k hlt)
          have HST := hid (show coefTo xs (k + 1) = (coefTo xs k && inC (xs.getD k 0)) from rfl)
          have HI : Hid (∀ q, Calls Try.prog 36 #[.int .i64 (xs.getD k 0), .int .i64 (-1023), .int .i64 1023] q fun e w' => e = .returned (.bool (inC (xs.getD k 0))) ∧ q = w') := hid (fun q => spec_in (xs.getD k 0) (-1023) 1023 q)
          have hlt' : (k : Int) < (xs.length : Int) := by omega
          generalize xs.getD k 0 = X at *
          cases hX : inC X with
          | true =>
            rw [hX] at HI HST
            have HN := hid (show coefTo xs (k + 1) = true by rw [HST.out, hap.out]; rfl)
            clear HST HBK HBAD
            go_wp2_with (go_at_call 36; refine (HI.out _).mono ?_; rintro e w1 ⟨rfl, rfl⟩)
            go_round
            case rel => exact ⟨k + 1, by omega, by go_num, HN.out⟩
            case measure => simp [intOf]; omega
          | false =>
            rw [hX] at HI
            have HN := hid (HBK.out hX)
            clear HST HBK HBAD
            go_wp2_with (go_at_call 36; refine (HI.out _).mono ?_; rintro e w1 ⟨rfl, rfl⟩)
            go_ret
            exact ⟨ret_bool (by rw [hR.out, HN.out]), HBX.out⟩
        · obtain rfl : k = 63 := by omega
          go_wp2
          go_ret
          exact ⟨ret_bool (by rw [hR.out, hap.out]), HBX.out⟩
    · have hR : Hid (blkOk d xs = false) := hid (by unfold blkOk; rw [decide_eq_false h63, Bool.false_and, Bool.and_false])
      have h63' : ((xs.length : Int) != 63) = true := by simp; omega
      go_enter Try.func54, Try.ntmps54
      go_wp2_with (go_at_call 36; refine (HD.out _).mono ?_; rintro e w1 ⟨rfl, rfl⟩)
      go_ret
      exact ⟨ret_bool hR.out.symm, HB.out⟩
end Go.Proofs.Ytnnakmgngkpghaa
