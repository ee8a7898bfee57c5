/- Texts joined: Blk, Shift, Rows2, Rows3, Rows4, Stp. No statement is proved here. -/
import Derived.Test.YtcikmgdfelejpaaJGa
import Derived.Test.YtcikmgdfelejpaaJGb
import Derived.Deep.WholeRow
import Derived.Deep.CutRange
import Derived.OwnWalk

/- Contracts of the small functions over blocks: their size, their copy, their comparison, and BlockOk of the program and of the specification. -/
namespace Go.Proofs.Ytcikmgdfelejpaa
open Go.RowKit
set_option linter.unusedVariables false

/-- What is left of a measure when n are taken; -1 when it is not enough. -/
def lft (l : Int) (n : Nat) : Int := if l - n < 0 then -1 else l - n
theorem szInts (ao : Option Addr) (n cap : Nat) (l : Int) (w : World) (hn : n ≤ 9223372036854775807) (h0 : 0 ≤ l) (h1 : l ≤ 1048576) :
    Calls Try.prog 66 #[.slice ao n cap, .int .i64 l] w fun e w' => e = .returned (.int .i64 (lft l n)) ∧ w = w' := by
  by_cases h : l - (n : Int) < 0
  · go_enter Try.func66, Try.ntmps66
    go_wp2
    go_ret
    exact ⟨ret_int (by unfold lft; rw [if_pos h]), rfl⟩
  · go_enter Try.func66, Try.ntmps66
    go_wp2
    go_ret
    exact ⟨ret_int (by unfold lft; rw [if_neg (by omega)]), rfl⟩

theorem Own.mono {w : World} {base base' : Nat} {e : TypeId} {k : IntKind} {v : Value} {xs : List Int} (h : Own w base e k v xs) (hb : base' ≤ base) : Own w base' e k v xs := by
  refine ⟨Nat.le_trans hb h.1, h.2.1, ?_⟩
  rcases h.2.2 with h0 | ⟨g, cap, cur, hv, hg, r⟩
  · exact .inl h0
  · exact .inr ⟨g, cap, cur, hv, Nat.le_trans hb hg, r⟩

/-- Block b holds a struct of two cells. -/
def Two (w : World) (b : Nat) (x y : Value) (t : TypeId) : Prop := w.heap[b]? = some (.cells #[x, y] t (0, 0))
theorem Two.cells {w : World} {b : Nat} {x y : Value} {t : TypeId} (h : Two w b x y t) :
    w.cell? ⟨b, 0, none⟩ = some x ∧ w.cell? ⟨b, 1, none⟩ = some y ∧ w.frozen? ⟨b, 0, none⟩ = false ∧ w.frozen? ⟨b, 1, none⟩ = false := by
  unfold Two at h
  simp [World.cell?, World.frozen?, h]
theorem Two.lt {w : World} {b : Nat} {x y : Value} {t : TypeId} (h : Two w b x y t) : b < w.heap.size := (Array.getElem?_eq_some_iff.1 h).1
theorem Two.new (w : World) (x y : Value) (t : TypeId) : Two (w.alloc (.cells #[x, y] t)) w.heap.size x y t := heap_alloc_new w _
theorem Two.below {w w' : World} {B b : Nat} {x y : Value} {t : TypeId} (h : Two w b x y t) (hb : Below B w w') (hB : b < B) : Two w' b x y t := (hb.block b hB).trans h
theorem Two.alloc {w : World} {b : Nat} {x y : Value} {t : TypeId} (h : Two w b x y t) (o : Obj) : Two (w.alloc o) b x y t := h.below ((Below.refl _ _).alloc (Nat.le_refl _) _) h.lt
theorem Two.set0 {w : World} {b : Nat} {x y : Value} {t : TypeId} (h : Two w b x y t) (u : Value) : Two (w.setCell ⟨b, 0, none⟩ u) b u y t := heap_setCell_same w b 0 _ t u h
theorem Two.set1 {w : World} {b : Nat} {x y : Value} {t : TypeId} (h : Two w b x y t) (u : Value) : Two (w.setCell ⟨b, 1, none⟩ u) b x u t := heap_setCell_same w b 1 _ t u h
theorem Two.other {w : World} {b c i : Nat} {x y : Value} {t : TypeId} (h : Two w b x y t) (hne : b ≠ c) (u : Value) : Two (w.setCell ⟨c, i, none⟩ u) b x y t := (Below.heap_setCell _ _ _ _ (fun e => hne (by rw [e]))).trans h


theorem szBlock (d : Int) (a0 : Option Addr) (n0 c0 : Nat) (l : Int) (w : World) (hn0 : n0 ≤ 9223372036854775807) (h0 : 0 ≤ l) (h1 : l ≤ 1048576) :
    Calls Try.prog 35 #[.agg #[.int .i64 d, .slice a0 n0 c0], .int .i64 l] w fun e w' => e = .returned (.int .i64 (lft l n0)) ∧ Below w.heap.size w w' := by
  have HS := hid (szInts a0 n0 c0 l (w.alloc (.cells #[.int .i64 d, .slice a0 n0 c0] 61)) hn0 h0 h1)
  by_cases h : l - (n0 : Int) < 0
  · have e0 : lft l n0 = -1 := by unfold lft; rw [if_pos h]
    rw [e0] at HS ⊢
    go_enter Try.func35, Try.ntmps35
    go_wp2_with fail
    refine HS.out.mono ?_
    rintro e w1 ⟨rfl, rfl⟩
    go_wp2
    go_ret
    exact ⟨rfl, (Below.refl _ _).alloc (Nat.le_refl _) _⟩
  · have e0 : lft l n0 = l - n0 := by unfold lft; rw [if_neg h]
    rw [e0] at HS ⊢
    go_enter Try.func35, Try.ntmps35
    go_wp2_with fail
    refine HS.out.mono ?_
    rintro e w1 ⟨rfl, rfl⟩
    go_wp2
    go_ret
    exact ⟨rfl, (Below.refl _ _).alloc (Nat.le_refl _) _⟩

/-- A block that is read. -/
def BV (w : World) (v : Value) (d : Int) (xs : List Int) : Prop :=
  ∃ a c, v = .agg #[.int .i64 d, .slice a xs.length c] ∧ View .i64 w a xs.length xs
theorem BV.below {w w' : World} {v : Value} {d : Int} {xs : List Int} (h : BV w v d xs) (hb : Below w.heap.size w w') : BV w' v d xs := by
  obtain ⟨a, c, rfl, h0⟩ := h
  exact ⟨a, c, rfl, h0.below (Nat.le_refl _) hb⟩
/-- A block that is the call's own. -/
def BOwn (w : World) (base : Nat) (v : Value) (d : Int) (xs : List Int) : Prop := ∃ va, v = .agg #[.int .i64 d, va] ∧ Own w base 3 .i64 va xs
theorem BOwn.bv {w : World} {base : Nat} {v : Value} {d : Int} {xs : List Int} (h : BOwn w base v d xs) : BV w v d xs := by
  obtain ⟨va, rfl, h0⟩ := h
  obtain ⟨a0, c0, rfl, v0⟩ := h0.view
  exact ⟨a0, c0, rfl, v0⟩
theorem BOwn.below {w w' : World} {base : Nat} {v : Value} {d : Int} {xs : List Int} (h : BOwn w base v d xs) (hb : Below w.heap.size w w') : BOwn w' base v d xs := by
  obtain ⟨va, rfl, h0⟩ := h
  exact ⟨va, rfl, h0.below hb⟩

set_option maxHeartbeats 800000 in
theorem toBlock (v : Value) (d : Int) (xs : List Int) (w : World) (h0 : xs.length ≤ 1048576) (hv : BV w v d xs) :
    Calls Try.prog 44 #[v] w fun e w' => ∃ v', e = .returned v' ∧ BOwn w' w.heap.size v' d xs ∧ Below w.heap.size w w' := by
  obtain ⟨a0, c0, rfl, hv0⟩ := hv
  have H0 := hid hv0
  clear hv0
  have t0 := Two.new w (.int .i64 d) (.slice a0 xs.length c0) 61
  have t1 := Two.new (w.alloc (.cells #[.int .i64 d, .slice a0 xs.length c0] 61)) (.int .i64 0) (.slice none 0 0) 71
  have t2 := Two.new ((w.alloc (.cells #[.int .i64 d, .slice a0 xs.length c0] 61)).alloc (.cells #[.int .i64 0, .slice none 0 0] 71)) (.int .i64 d) (.slice none 0 0) 71
  have V0 := hid ((t0.alloc (.cells #[.int .i64 0, .slice none 0 0] 71)).alloc (.cells #[.int .i64 d, .slice none 0 0] 71))
  have V1 := hid (t1.alloc (.cells #[.int .i64 d, .slice none 0 0] 71))
  have V2 := hid t2
  have BB := hid ((((Below.refl w.heap.size w).alloc (Nat.le_refl _) (.cells #[.int .i64 d, .slice a0 xs.length c0] 61)).alloc (by simp) (.cells #[.int .i64 0, .slice none 0 0] 71)).alloc (by simp; omega) (.cells #[.int .i64 d, .slice none 0 0] 71))
  simp only [World.size_alloc] at V1 V2
  clear t0 t1 t2
  go_enter Try.func44, Try.ntmps44
  go_wp2_with fail
  refine (toInts a0 xs.length c0 xs _ h0 (H0.out.below (Nat.le_refl _) BB.out)).mono ?_
  generalize ((w.alloc _).alloc _).alloc _ = wa at *
  rintro e w1 ⟨va, rfl, hown1, hb1⟩
  obtain ⟨ao, cap, rfl⟩ := hown1.shape
  have HO1 := hid hown1
  have U0 := hid (V0.out.below hb1 V0.out.lt)
  have U1 := hid (V1.out.below hb1 V1.out.lt)
  have U2 := hid (V2.out.below hb1 V2.out.lt)
  have BB1 := hid (BB.out.trans (hb1.mono BB.out.size))
  have T2lt : w.heap.size + 1 + 1 < wa.heap.size := V2.out.lt
  clear hown1 hb1 V0 V1 V2
  obtain ⟨q1, q2, q3, q4⟩ := U1.out.cells
  obtain ⟨q5, q6, q7, q8⟩ := U2.out.cells
  go_wp2
  refine bodyPost_ret (v := .agg #[.int .i64 d, .slice ao xs.length cap]) (by simp [results, Try.results44, go_sem, q1, q2]) rfl ⟨_, rfl, ⟨_, rfl, ?_⟩, ?_⟩
  · exact (((HO1.out.setCell_below (a := ⟨w.heap.size + 1 + 1, 1, none⟩) (by show w.heap.size + 1 + 1 < wa.heap.size; omega) _).setCell_below (a := ⟨w.heap.size + 1, 0, none⟩) (by show w.heap.size + 1 < wa.heap.size; omega) _).setCell_below (a := ⟨w.heap.size + 1, 1, none⟩) (by show w.heap.size + 1 < wa.heap.size; omega) _).mono (by omega)
  · exact ((BB1.out.setCell (p := ⟨w.heap.size + 1 + 1, 1, none⟩) (by show w.heap.size ≤ w.heap.size + 1 + 1; omega) _).setCell (p := ⟨w.heap.size + 1, 0, none⟩) (by show w.heap.size ≤ w.heap.size + 1; omega) _).setCell (p := ⟨w.heap.size + 1, 1, none⟩) (by show w.heap.size ≤ w.heap.size + 1; omega) _

set_option maxHeartbeats 800000 in
/-- Two blocks that read as the same numbers. -/
theorem eqBlock_same (v v' : Value) (d : Int) (xs : List Int) (w : World) (h0 : xs.length ≤ 1048576) (hv : BV w v d xs) (hv' : BV w v' d xs) :
    Calls Try.prog 49 #[v, v'] w fun e w' => e = .returned (.bool true) ∧ Below w.heap.size w w' := by
  obtain ⟨a0, c0, rfl, u0⟩ := hv
  obtain ⟨b0, d0, rfl, x0⟩ := hv'
  have B0 := hid (((Below.refl w.heap.size w).alloc (Nat.le_refl _) (.cells #[.int .i64 d, .slice a0 xs.length c0] 71)).alloc (by simp) (.cells #[.int .i64 d, .slice b0 xs.length d0] 71))
  have U0 := hid u0
  have X0 := hid x0
  clear u0 x0
  have hdd : (d != d) = false := by simp
  go_enter Try.func49, Try.ntmps49
  go_wp2_with fail
  refine (eqInts_same a0 b0 xs.length c0 d0 xs _ (by omega) (U0.out.below (Nat.le_refl _) B0.out) (X0.out.below (Nat.le_refl _) B0.out)).mono ?_
  generalize (w.alloc _).alloc _ = wa at *
  rintro e w1 ⟨rfl, hb1⟩
  have BB1 := hid (B0.out.trans (hb1.mono B0.out.size))
  clear hb1
  go_wp2
  go_ret
  exact ⟨rfl, BB1.out⟩

/-- A number that a block may have. -/
def inC (x : Int) : Bool := decide (-1023 ≤ x ∧ x ≤ 1023)
/-- The first k numbers are such. -/
def coefTo (xs : List Int) : Nat → Bool
  | 0 => true
  | k + 1 => coefTo xs k && inC (xs.getD k 0)
theorem coefTo_bad (xs : List Int) (k : Nat) (h : inC (xs.getD k 0) = false) : ∀ n, k < n → coefTo xs n = false
  | n + 1, hn => by
    rw [coefTo]
    by_cases e : k = n
    · subst e; rw [h, Bool.and_false]
    · rw [coefTo_bad xs k h n (by omega), Bool.false_and]
theorem coefTo_at (xs : List Int) : ∀ n, coefTo xs n = true → ∀ k, k < n → inC (xs.getD k 0) = true
  | n + 1, h, k, hk => by
    simp only [coefTo, Bool.and_eq_true] at h
    by_cases e : k = n
    · subst e; exact h.2
    · exact coefTo_at xs n h.1 k (by omega)
/-- The block is right. -/
def blkOk (d : Int) (xs : List Int) : Bool := inC d && (decide (xs.length = 63) && coefTo xs 63)

theorem isCoef_any (x : Int) (w : World) : Calls Try.prog 83 #[.int .i64 x] w fun e w' => e = .returned (.bool (inC x)) ∧ w = w' := by
  by_cases h1 : -1023 ≤ x <;> by_cases h2 : x ≤ 1023
  all_goals
    go_enter Try.func83, Try.ntmps83
    go_wp2
    go_ret
    exact ⟨by simp [inC, h1, h2], rfl⟩

set_option maxHeartbeats 1600000 in
theorem impl_blockOk (v : Value) (d : Int) (xs : List Int) (w : World) (hl : xs.length ≤ 1048576) (hv : BV w v d xs) :
    Calls Try.prog 93 #[v] w fun e w' => e = .returned (.bool (blkOk d xs)) ∧ Below w.heap.size w w' := by
  obtain ⟨a0, c0, rfl, u0⟩ := hv
  have HD := hid (isCoef_any d)
  have HB := hid ((Below.refl w.heap.size w).alloc (Nat.le_refl _) (.cells #[.int .i64 d, .slice a0 xs.length c0] 71))
  have HV := hid (u0.below (Nat.le_refl _) HB.out)
  clear u0
  cases hD : inC d with
  | false =>
    have hR : Hid (blkOk d xs = false) := hid (by unfold blkOk; rw [hD]; rfl)
    rw [hD] at HD
    go_enter Try.func93, Try.ntmps93
    go_wp2_with (go_at_call 83; refine (HD.out _).mono ?_; rintro e w1 ⟨rfl, rfl⟩)
    go_ret
    exact ⟨ret_bool hR.out.symm, HB.out⟩
  | true =>
    rw [hD] at HD
    by_cases h63 : xs.length = 63
    · have HBAD := hid (fun k hk h => coefTo_bad xs k h 63 hk)
      have hR : Hid (blkOk d xs = coefTo xs 63) := hid (by unfold blkOk; rw [hD, decide_eq_true h63]; rfl)
      have h63' : ((xs.length : Int) != 63) = false := by simp; omega
      rw [h63] at HV
      have HBX := hid HB.out
      rw [h63] at HBX
      go_enter Try.func93, Try.ntmps93
      go_wp2_with (go_at_call 83; refine (HD.out _).mono ?_; rintro e w1 ⟨rfl, rfl⟩)
      go_loop [18] (fun i => ∃ k : Nat, k ≤ 63 ∧ i = .int .i64 k ∧ Hid (coefTo xs k = true)) (fun i => 63 - (intOf i).toNat)
      case atStart => exact ⟨0, by omega, rfl, rfl⟩
      case round =>
        obtain ⟨k, hk, rfl, hap⟩ := hrel
        by_cases hlt : k < 63
        · obtain ⟨b, off, rfl, hc⟩ := HV.out.2 k hlt
          have HBK := hid (HBAD.out k hlt)
          have HST := hid (show coefTo xs (k + 1) = (coefTo xs k && inC (xs.getD k 0)) from rfl)
          have HI := hid (isCoef_any (xs.getD k 0))
          generalize xs.getD k 0 = X at *
          cases hX : inC X with
          | true =>
            rw [hX] at HI HST
            have HN := hid (show coefTo xs (k + 1) = true by rw [HST.out, hap.out]; rfl)
            clear HST HBK HBAD
            go_wp2_with (go_at_call 83; refine (HI.out _).mono ?_; rintro e w1 ⟨rfl, rfl⟩)
            go_round
            case rel => exact ⟨k + 1, by omega, by go_num, HN.out⟩
            case measure => simp [intOf]; omega
          | false =>
            rw [hX] at HI
            have HN := hid (HBK.out hX)
            clear HST HBK HBAD
            go_wp2_with (go_at_call 83; refine (HI.out _).mono ?_; rintro e w1 ⟨rfl, rfl⟩)
            go_ret
            exact ⟨ret_bool (by rw [hR.out, HN.out]), HBX.out⟩
        · obtain rfl : k = 63 := by omega
          go_wp2
          go_ret
          exact ⟨ret_bool (by rw [hR.out, hap.out]), HBX.out⟩
    · have hR : Hid (blkOk d xs = false) := hid (by unfold blkOk; rw [decide_eq_false h63, Bool.false_and, Bool.and_false])
      have h63' : ((xs.length : Int) != 63) = true := by simp; omega
      go_enter Try.func93, Try.ntmps93
      go_wp2_with (go_at_call 83; refine (HD.out _).mono ?_; rintro e w1 ⟨rfl, rfl⟩)
      go_ret
      exact ⟨ret_bool hR.out.symm, HB.out⟩

set_option maxHeartbeats 1600000 in
theorem spec_blockOk (v : Value) (d : Int) (xs : List Int) (w : World) (hl : xs.length ≤ 1048576) (hv : BV w v d xs) :
    Calls Try.prog 67 #[v] w fun e w' => e = .returned (.bool (blkOk d xs)) ∧ Below w.heap.size w w' := by
  obtain ⟨a0, c0, rfl, u0⟩ := hv
  have HD : Hid (∀ q, Calls Try.prog 51 #[.int .i64 d, .int .i64 (-1023), .int .i64 1023] q fun e w' => e = .returned (.bool (inC d)) ∧ q = w') := hid (fun q => spec_in d (-1023) 1023 q)
  have HB := hid ((Below.refl w.heap.size w).alloc (Nat.le_refl _) (.cells #[.int .i64 d, .slice a0 xs.length c0] 71))
  have HV := hid (u0.below (Nat.le_refl _) HB.out)
  clear u0
  cases hD : inC d with
  | false =>
    have hR : Hid (blkOk d xs = false) := hid (by unfold blkOk; rw [hD]; rfl)
    rw [hD] at HD
    go_enter Try.func67, Try.ntmps67
    go_wp2_with (go_at_call 51; refine (HD.out _).mono ?_; rintro e w1 ⟨rfl, rfl⟩)
    go_ret
    exact ⟨ret_bool hR.out.symm, HB.out⟩
  | true =>
    rw [hD] at HD
    by_cases h63 : xs.length = 63
    · have HBAD := hid (fun k hk h => coefTo_bad xs k h 63 hk)
      have hR : Hid (blkOk d xs = coefTo xs 63) := hid (by unfold blkOk; rw [hD, decide_eq_true h63]; rfl)
      have h63' : ((xs.length : Int) != 63) = false := by simp; omega
      have h63n : (63 : Int) ≤ (xs.length : Int) := by omega
      rw [h63] at HV
      have HBX := hid HB.out
      rw [h63] at HBX
      go_enter Try.func67, Try.ntmps67
      go_wp2_with (go_at_call 51; refine (HD.out _).mono ?_; rintro e w1 ⟨rfl, rfl⟩)
      go_loop [3] (fun i => ∃ k : Nat, k ≤ 63 ∧ i = .int .i64 k ∧ Hid (coefTo xs k = true)) (fun i => 63 - (intOf i).toNat)
      case atStart => exact ⟨0, by omega, rfl, rfl⟩
      case round =>
        obtain ⟨k, hk, rfl, hap⟩ := hrel
        by_cases hlt : k < 63
        · obtain ⟨b, off, rfl, hc⟩ := HV.out.2 k hlt
          have HBK := hid (HBAD.out k hlt)
          have HST := hid (show coefTo xs (k + 1) = (coefTo xs k && inC (xs.getD k 0)) from rfl)
          have HI : Hid (∀ q, Calls Try.prog 51 #[.int .i64 (xs.getD k 0), .int .i64 (-1023), .int .i64 1023] q fun e w' => e = .returned (.bool (inC (xs.getD k 0))) ∧ q = w') := hid (fun q => spec_in (xs.getD k 0) (-1023) 1023 q)
          have hlt' : (k : Int) < (xs.length : Int) := by omega
          generalize xs.getD k 0 = X at *
          cases hX : inC X with
          | true =>
            rw [hX] at HI HST
            have HN := hid (show coefTo xs (k + 1) = true by rw [HST.out, hap.out]; rfl)
            clear HST HBK HBAD
            go_wp2_with (go_at_call 51; refine (HI.out _).mono ?_; rintro e w1 ⟨rfl, rfl⟩)
            go_round
            case rel => exact ⟨k + 1, by omega, by go_num, HN.out⟩
            case measure => simp [intOf]; omega
          | false =>
            rw [hX] at HI
            have HN := hid (HBK.out hX)
            clear HST HBK HBAD
            go_wp2_with (go_at_call 51; refine (HI.out _).mono ?_; rintro e w1 ⟨rfl, rfl⟩)
            go_ret
            exact ⟨ret_bool (by rw [hR.out, HN.out]), HBX.out⟩
        · obtain rfl : k = 63 := by omega
          go_wp2
          go_ret
          exact ⟨ret_bool (by rw [hR.out, hap.out]), HBX.out⟩
    · have hR : Hid (blkOk d xs = false) := hid (by unfold blkOk; rw [decide_eq_false h63, Bool.false_and, Bool.and_false])
      have h63' : ((xs.length : Int) != 63) = true := by simp; omega
      go_enter Try.func67, Try.ntmps67
      go_wp2_with (go_at_call 51; refine (HD.out _).mono ?_; rintro e w1 ⟨rfl, rfl⟩)
      go_ret
      exact ⟨ret_bool hR.out.symm, HB.out⟩
end Go.Proofs.Ytcikmgdfelejpaa

/- Rows of blocks that are read; contracts of Shift, of the program and of the specification. -/
namespace Go.Proofs.Ytcikmgdfelejpaa
open Go.RowKit
set_option linter.unusedVariables false

/-- The j-th of some blocks. -/
def nth (L : List (Int × List Int)) (j : Nat) : Int × List Int := L.getD j (0, [])
/-- A row of blocks that is read: two cells a block. -/
def BRow (w : World) (ao : Option Addr) (L : List (Int × List Int)) : Prop :=
  ∀ j, j < L.length → ∃ b off a c, ao = some ⟨b, off, none⟩ ∧ w.cell? ⟨b, off + j * 2, none⟩ = some (.int .i64 (nth L j).1) ∧ w.cell? ⟨b, off + j * 2 + 1, none⟩ = some (.slice a (nth L j).2.length c) ∧ View .i64 w a (nth L j).2.length (nth L j).2
theorem BRow.below {w w' : World} {ao : Option Addr} {L : List (Int × List Int)} (h : BRow w ao L) (hb : Below w.heap.size w w') : BRow w' ao L := by
  intro j hj
  obtain ⟨b, off, a, c, h1, h2, h3, h4⟩ := h j hj
  exact ⟨b, off, a, c, h1, (hb.cell (p := ⟨b, off + j * 2, none⟩) (World.block_lt_of_cell? w _ h2)).trans h2, (hb.cell (p := ⟨b, off + j * 2 + 1, none⟩) (World.block_lt_of_cell? w _ h3)).trans h3, h4.below (Nat.le_refl _) hb⟩

/-- The first k blocks are right. -/
def oksTo (L : List (Int × List Int)) : Nat → Bool
  | 0 => true
  | k + 1 => oksTo L k && blkOk (nth L k).1 (nth L k).2
theorem oksTo_bad (L : List (Int × List Int)) (k : Nat) (h : blkOk (nth L k).1 (nth L k).2 = false) : ∀ n, k < n → oksTo L n = false
  | n + 1, hn => by
    rw [oksTo]
    by_cases e : k = n
    · subst e; rw [h, Bool.and_false]
    · rw [oksTo_bad L k h n (by omega), Bool.false_and]
theorem oksTo_at (L : List (Int × List Int)) : ∀ n, oksTo L n = true → ∀ k, k < n → blkOk (nth L k).1 (nth L k).2 = true
  | n + 1, h, k, hk => by
    simp only [oksTo, Bool.and_eq_true] at h
    by_cases e : k = n
    · subst e; exact h.2
    · exact oksTo_at L n h.1 k (by omega)
theorem blkOk_dc {d : Int} {xs : List Int} (h : blkOk d xs = true) : -1023 ≤ d ∧ d ≤ 1023 := by
  unfold blkOk at h
  simp only [Bool.and_eq_true] at h
  simpa [inC] using h.1
/-- What the Dc ahead of block k counts as. -/
def ahead (up : Bool) (L : List (Int × List Int)) (k : Nat) : Int := if up = true ∧ 0 < k then (nth L (k - 1)).1 else 0
/-- What is told of the first k blocks. -/
def shl (up : Bool) (L : List (Int × List Int)) : Nat → List Int
  | 0 => []
  | k + 1 => shl up L k ++ [(nth L k).1 - ahead up L k]
theorem shl_len (up : Bool) (L : List (Int × List Int)) : ∀ k, (shl up L k).length = k
  | 0 => rfl
  | k + 1 => by rw [shl, List.length_append, shl_len up L k]; rfl
theorem ahead_bd (up : Bool) (L : List (Int × List Int)) (k : Nat) (h : oksTo L k = true) : -1023 ≤ ahead up L k ∧ ahead up L k ≤ 1023 := by
  unfold ahead
  split
  · rename_i hc
    exact blkOk_dc (oksTo_at L k h (k - 1) (by omega))
  · omega
/-- What Shift answers. -/
def shR (up : Bool) (L : List (Int × List Int)) : List Int × Bool := if L.length ≤ 4000 ∧ oksTo L L.length = true then (shl up L L.length, true) else ([], false)
theorem shR_yes {up : Bool} {L : List (Int × List Int)} (h : L.length ≤ 4000) (h2 : oksTo L L.length = true) : shR up L = (shl up L L.length, true) := by unfold shR; rw [if_pos ⟨h, h2⟩]
theorem shR_no {up : Bool} {L : List (Int × List Int)} (h : ¬ (L.length ≤ 4000 ∧ oksTo L L.length = true)) : shR up L = ([], false) := by unfold shR; rw [if_neg h]
theorem shR_len (up : Bool) (L : List (Int × List Int)) : (shR up L).1.length ≤ 4000 := by
  unfold shR
  split
  · rename_i h
    show (shl up L L.length).length ≤ 4000
    rw [shl_len]
    exact h.1
  · simp

/-- 'out = append(out, y)': blocks of another type stay what they are. -/
theorem wpList_pushT {P : Program} {ops : Array Oper} {rest : List Oper} {o : Oper} {a : Act} {Q : Exit → Act → World → Prop} (w : World) (hgd : o.guard = none) (s x : Operand) (t : TypeId)
    (ho : o.op = .call { callee := .builtin .append, args := #[s, x], argTypes := #[t, t] })
    (base : Nat) (e : TypeId) (k : IntKind) (z : Int) (bytes : Nat) (ht : P.underlying t = some (.slice e)) (hinfo : (P.info? e).map (fun i => (i.zero, i.size, i.bytes)) = some (some (.int k z), 1, bytes))
    (v : Value) (xs : List Int) (hs : a.eval s = v) (hown : Own w base e k v xs) (y : Int) (hx : a.eval x = .slice (some ⟨w.heap.size, 0, none⟩) 1 1)
    (hlen : xs.length < 1000000000000) (hbytes : bytes ≤ 8)
    (h : ∀ v' w', Own w' base e k v' (xs ++ [y]) → Below base w w' → (∀ (g : Nat) (cur : Array Value) (tt : TypeId), tt ≠ e → w.heap[g]? = some (.cells cur tt (0, 0)) → w'.heap[g]? = some (.cells cur tt (0, 0))) → wpList P ops Q rest (a.put o.dst v') w') : wpList P ops Q (o :: rest) a (w.alloc (.cells #[.int k y] e)) := by
  obtain ⟨i, hi, hz0, hz1, hz2⟩ := info_parts hinfo
  have hb := hown.1
  have hlt := hown.2.lt
  have hmul : (xs.length + 1) * bytes ≤ (xs.length + 1) * 8 := Nat.mul_le_mul_left _ hbytes
  refine wpList_append_own _ hgd s x t ho base e i (.int k z) 1 bytes ht hi hz0 hz1 hz2 rfl (by decide) v xs.length _ hs (hown.2.alloc _) ⟨w.heap.size, 0, none⟩ 1 1 [.int k y] hx rfl ?_ ?_ (by unfold maxLen; omega) (by omega) (Nat.le_trans hb (by simp)) ?_
  · intro j u hj
    match j, hj with
    | 0, hj => simp at hj; subst hj; simp [Addr.add]
  · intro u hu; simp at hu; subst hu; rfl
  · intro v' w' hown' hgrow _
    refine h v' w' ⟨Nat.le_trans hb (Nat.le_trans (by simp) hgrow.size), ?_⟩ ?_ ?_
    · simpa using hown'
    · exact ((Below.refl base w).alloc hb _).grown hgrow (Nat.le_trans hb (by simp)) (fun g hg => (hlt g hg).1)
    · intro g cur tt htt hg
      have hglt : g < w.heap.size := (Array.getElem?_eq_some_iff.1 hg).1
      have h1 : (w.alloc (.cells #[.int k y] e)).heap[g]? = some (.cells cur tt (0, 0)) := (((Below.refl w.heap.size w).alloc (Nat.le_refl _) _).block g hglt).trans hg
      refine (hgrow.block g (Nat.lt_trans hglt (by simp)) ?_).trans h1
      intro eq
      rcases hown.2.2 with ⟨hv, _⟩ | ⟨g', cap, cur', hv, hg', hh, _⟩
      · subst hv; cases eq
      · subst hv
        have : g = g' := by simpa [Value.ownBlock] using eq
        subst this
        rw [hg] at hh
        cases hh
        exact htt rfl

set_option maxRecDepth 100000 in
set_option maxHeartbeats 1600000 in
theorem impl_shift (ao : Option Addr) (cap : Nat) (L : List (Int × List Int)) (up : Bool) (w : World) (hn : L.length ≤ 1048576) (hs : ∀ j, j < L.length → (nth L j).2.length ≤ 1048576) (hv : BRow w ao L) :
    Calls Try.prog 72 #[.slice ao L.length cap, .bool up] w fun e w' => ∃ v, e = .returned (.tuple #[v, .bool (shR up L).2]) ∧ Own w' w.heap.size 3 .i64 v (shR up L).1 ∧ Below w.heap.size w w' := by
  have HV := hid hv
  have HSZ := hid hs
  clear hv hs
  by_cases hl : (4000 : Int) < (L.length : Int)
  · rw [shR_no (fun h => by have := h.1; omega)]
    go_enter Try.func72, Try.ntmps72
    go_wp2_with fail
    go_ret2
    exact ⟨_, rfl, Own.empty _ _ _ _ (Nat.le_refl _), (Below.refl _ _).alloc (Nat.le_refl _) _⟩
  · have hl2 : L.length ≤ 4000 := by omega
    have HY := hid (fun h => shR_yes (up := up) hl2 h)
    have HN := hid (fun (h : oksTo L L.length = false) => shR_no (up := up) (L := L) (fun e => by rw [e.2] at h; exact Bool.noConfusion h))
    generalize shR up L = R at *
    go_enter Try.func72, Try.ntmps72
    go_wp2_with (at_make; refine wpList_mk0 w rfl _ _ 22 rfl w.heap.size 3 .i64 0 8 Try.underlying22 Try.info3 _ _ L.length rfl rfl (by omega) (by decide) (Nat.le_refl _) ?_)
    intro w0 ho0 hb0
    go_wp2_with fail
    go_loopw [6, 7, 19] (fun t a i wr => ∃ k : Nat, k ≤ L.length ∧ i = .int .i64 k ∧ a = .int .i64 (ahead up L k) ∧ Hid (oksTo L k = true) ∧ Hid (Own wr w.heap.size 3 .i64 t (shl up L k)) ∧ Hid (Below w.heap.size w wr)) (fun _ _ i _ => L.length - (intOf i).toNat)
    case atStart => exact ⟨0, by omega, rfl, val_int (by unfold ahead; rw [if_neg (by omega)]), rfl, ho0, hb0⟩
    case round =>
      obtain ⟨k, hk, rfl, rfl, hok, hown, hb⟩ := hrel
      by_cases hlt : k < L.length
      · obtain ⟨b, off, a, c, rfl, hc1, hc2, hvw⟩ := HV.out.below hb.out k hlt
        have hsk := HSZ.out k hlt
        have hlt' : (k : Int) < (L.length : Int) := by omega
        have habd := ahead_bd up L k hok.out
        have HST := hid (show shl up L (k + 1) = shl up L k ++ [(nth L k).1 - ahead up L k] from rfl)
        have HOK := hid (show oksTo L (k + 1) = (oksTo L k && blkOk (nth L k).1 (nth L k).2) from rfl)
        have HBAD := hid (fun h => oksTo_bad L k h L.length hlt)
        have HAH := hid (show ahead up L (k + 1) = if up = true then (nth L k).1 else 0 by
          unfold ahead
          cases up
          · rfl
          · rw [if_pos ⟨rfl, by omega⟩, if_pos rfl, Nat.add_sub_cancel])
        have hA := (Below.refl wr.heap.size wr).alloc (Nat.le_refl _) (.cells #[.int .i64 (nth L k).1, .slice a (nth L k).2.length c] 71)
        have HBO := hid (impl_blockOk (.agg #[.int .i64 (nth L k).1, .slice a (nth L k).2.length c]) (nth L k).1 (nth L k).2 (wr.alloc (.cells #[.int .i64 (nth L k).1, .slice a (nth L k).2.length c] 71)) hsk ⟨a, c, rfl, hvw.below (Nat.le_refl _) hA⟩)
        have HTW := hid (Two.new wr (.int .i64 (nth L k).1) (.slice a (nth L k).2.length c) 71)
        have HDC := hid (fun h => blkOk_dc (d := (nth L k).1) (xs := (nth L k).2) h)
        have hol := hid (shl_len up L k)
        have hol2 : (shl up L k).length < 1000000000000 := by rw [hol.out]; omega
        have hA2 := hid (hb.out.trans (hA.mono hb.out.size))
        have hO2 := hid (hown.out.below hA)
        generalize (nth L k).1 = D at *
        generalize (nth L k).2 = XS at *
        have HA1 := hid (show up = false → ahead up L k = 0 by intro e; unfold ahead; rw [if_neg (fun h => by rw [e] at h; exact Bool.noConfusion h.1)])
        generalize ahead up L k = AH at *
        clear hA hvw
        cases hB : blkOk D XS with
        | false =>
          have HNR := hid (HN.out (HBAD.out hB))
          rw [hB] at HBO
          clear HY HN HBAD HOK HST HAH HDC
          go_wp2_with fail
          refine HBO.out.mono ?_
          generalize wr.alloc (.cells #[.int .i64 D, .slice a XS.length c] 71) = wb at *
          rintro e w2 ⟨rfl, hb2⟩
          have B2 := hid (hA2.out.trans (hb2.mono hA2.out.size))
          have hs2 := B2.out.size
          clear hb2
          go_wp2_with fail
          go_ret2
          exact ⟨_, by rw [HNR.out]; rfl, by rw [HNR.out]; exact Own.empty _ _ _ _ hs2, B2.out.alloc hs2 _⟩
        | true =>
          have hdc := HDC.out hB
          have HOK2 := hid (show oksTo L (k + 1) = true by rw [HOK.out, hok.out, hB]; rfl)
          rw [hB] at HBO
          obtain ⟨d0, d1⟩ := hdc
          obtain ⟨e0, e1⟩ := habd
          clear HY HN HBAD HOK HDC
          go_wp2_with fail
          refine HBO.out.mono ?_
          generalize wr.alloc (.cells #[.int .i64 D, .slice a XS.length c] 71) = wb at *
          rintro e w2 ⟨rfl, hb2⟩
          have B2 := hid (hA2.out.trans (hb2.mono hA2.out.size))
          have T2 := hid (HTW.out.below hb2 HTW.out.lt)
          have O2 := hid (hO2.out.below hb2)
          clear hb2 hc1 hc2
          obtain ⟨q1, q2, q3, q4⟩ := T2.out.cells
          go_wp2_with (at_builtin; refine wpList_pushT _ rfl _ _ 22 rfl _ 3 .i64 0 8 Try.underlying22 Try.info3 _ _ rfl O2.out (D - AH) rfl hol2 (by decide) ?_)
          intro v3 w3 ho3 hb3 hk3
          have T3 : Two w3 wr.heap.size (.int .i64 D) (.slice a XS.length c) 71 := hk3 _ _ 71 (by decide) T2.out
          have HO3 := hid ho3
          have B3 := hid (B2.out.trans hb3)
          clear ho3 hb3 hk3 q1 q2 q3 q4
          obtain ⟨q1, q2, q3, q4⟩ := T3.cells
          have HQ := hid T3
          clear T3
          cases up with
          | true =>
            rw [if_pos rfl] at HAH
            go_wp2_with fail
            go_roundw
            case rel => exact ⟨k + 1, by omega, by go_num, val_int HAH.out.symm, HOK2.out, by rw [HST.out]; exact HO3.out, B3.out⟩
            case measure => simp [intOf]; omega
          | false =>
            have HA0 := hid (show AH = ahead false L (k + 1) by rw [HAH.out, HA1.out rfl]; rfl)
            go_wp2_with fail
            go_roundw
            case rel => exact ⟨k + 1, by omega, by go_num, val_int HA0.out, HOK2.out, by rw [HST.out]; exact HO3.out, B3.out⟩
            case measure => simp [intOf]; omega
      · obtain rfl : k = L.length := by omega
        have HR := hid (HY.out hok.out)
        obtain ⟨so, sc', hsv⟩ := hown.out.shape
        subst hsv
        go_wp2_with fail
        go_ret2
        exact ⟨_, by rw [HR.out]; rfl, by rw [HR.out]; exact hown.out, hb.out⟩

set_option maxRecDepth 100000 in
set_option maxHeartbeats 1600000 in
theorem spec_shift (ao : Option Addr) (cap : Nat) (L : List (Int × List Int)) (up : Bool) (w : World) (hn : L.length ≤ 1048576) (hs : ∀ j, j < L.length → (nth L j).2.length ≤ 1048576) (hv : BRow w ao L) :
    Calls Try.prog 36 #[.slice ao L.length cap, .bool up] w fun e w' => ∃ v, e = .returned (.tuple #[v, .bool (shR up L).2]) ∧ Own w' w.heap.size 3 .i64 v (shR up L).1 ∧ Below w.heap.size w w' := by
  have HV := hid hv
  have HSZ := hid hs
  clear hv hs
  by_cases hl : (4000 : Int) < (L.length : Int)
  · rw [shR_no (fun h => by have := h.1; omega)]
    go_enter Try.func36, Try.ntmps36
    go_wp2_with fail
    go_ret2
    exact ⟨_, rfl, Own.empty _ _ _ _ (Nat.le_refl _), (Below.refl _ _).alloc (Nat.le_refl _) _⟩
  · have hl2 : L.length ≤ 4000 := by omega
    have HY := hid (fun h => shR_yes (up := up) hl2 h)
    have HN := hid (fun (h : oksTo L L.length = false) => shR_no (up := up) (L := L) (fun e => by rw [e.2] at h; exact Bool.noConfusion h))
    generalize shR up L = R at *
    have HO0 := hid (Own.empty w 3 .i64 w.heap.size (Nat.le_refl _))
    have HB0 := hid ((Below.refl w.heap.size w).alloc (Nat.le_refl _) (.cells #[] 3))
    go_enter Try.func36, Try.ntmps36
    go_wp2_with fail
    generalize w.alloc (.cells #[] 3) = w0 at *
    go_loopw [6, 7] (fun t i wr => ∃ k : Nat, k ≤ L.length ∧ i = .int .i64 k ∧ Hid (oksTo L k = true) ∧ Hid (Own wr w.heap.size 3 .i64 t (shl up L k)) ∧ Hid (Below w.heap.size w wr)) (fun _ i _ => L.length - (intOf i).toNat)
    case atStart => exact ⟨0, by omega, rfl, rfl, HO0.out, HB0.out⟩
    case round =>
      obtain ⟨k, hk, rfl, hok, hown, hb⟩ := hrel
      by_cases hlt : k < L.length
      · obtain ⟨b, off, a, c, rfl, hc1, hc2, hvw⟩ := HV.out.below hb.out k hlt
        have hsk := HSZ.out k hlt
        have hlt' : (k : Int) < (L.length : Int) := by omega
        have habd := ahead_bd up L k hok.out
        have HST := hid (show shl up L (k + 1) = shl up L k ++ [(nth L k).1 - ahead up L k] from rfl)
        have HOK := hid (show oksTo L (k + 1) = (oksTo L k && blkOk (nth L k).1 (nth L k).2) from rfl)
        have HBAD := hid (fun h => oksTo_bad L k h L.length hlt)
        have HBO := hid (spec_blockOk (.agg #[.int .i64 (nth L k).1, .slice a (nth L k).2.length c]) (nth L k).1 (nth L k).2 wr hsk ⟨a, c, rfl, hvw⟩)
        have HDC := hid (fun h => blkOk_dc (d := (nth L k).1) (xs := (nth L k).2) h)
        have hol := hid (shl_len up L k)
        have hol2 : (shl up L k).length < 1000000000000 := by rw [hol.out]; omega
        have HC1 := hid (fun q (hq : Below wr.heap.size wr q) => (hq.cell (p := ⟨b, off + k * 2, none⟩) (World.block_lt_of_cell? wr _ hc1)).trans hc1)
        have HPRE := hid (fun (h : 0 < k) q (hq : Below wr.heap.size wr q) => (show q.cell? ⟨b, off + (k - 1) * 2, none⟩ = some (.int .i64 (nth L (k - 1)).1) from by
          obtain ⟨b', off', a', c', e', h1', _, _⟩ := HV.out.below hb.out (k - 1) (by omega)
          cases e'
          exact (hq.cell (p := ⟨b, off + (k - 1) * 2, none⟩) (World.block_lt_of_cell? wr _ h1')).trans h1'))
        have HAH1 := hid (fun (h : ¬ (up = true ∧ 0 < k)) => (show ahead up L k = 0 by unfold ahead; rw [if_neg h]))
        have HAH2 := hid (fun (h : up = true ∧ 0 < k) => (show ahead up L k = (nth L (k - 1)).1 by unfold ahead; rw [if_pos h]))
        have hpb := hid (fun (h : 0 < k) => blkOk_dc (oksTo_at L k hok.out (k - 1) (by omega)))
        generalize (nth L k).1 = D at *
        generalize (nth L k).2 = XS at *
        generalize ahead up L k = AH at *
        clear hvw
        cases hB : blkOk D XS with
        | false =>
          have HNR := hid (HN.out (HBAD.out hB))
          rw [hB] at HBO
          clear HY HN HBAD HOK HST HDC HC1 HPRE HAH1 HAH2 hpb
          go_wp2_with fail
          refine HBO.out.mono ?_
          rintro e w2 ⟨rfl, hb2⟩
          have B2 := hid (hb.out.trans (hb2.mono hb.out.size))
          have hs2 := B2.out.size
          clear hb2
          go_wp2_with fail
          go_ret2
          exact ⟨_, by rw [HNR.out]; rfl, by rw [HNR.out]; exact Own.empty _ _ _ _ hs2, B2.out.alloc hs2 _⟩
        | true =>
          have hdc := HDC.out hB
          have HOK2 := hid (show oksTo L (k + 1) = true by rw [HOK.out, hok.out, hB]; rfl)
          rw [hB] at HBO
          obtain ⟨d0, d1⟩ := hdc
          obtain ⟨e0, e1⟩ := habd
          clear HY HN HBAD HOK HDC
          go_wp2_with fail
          refine HBO.out.mono ?_
          rintro e w2 ⟨rfl, hb2⟩
          have B2 := hid (hb.out.trans (hb2.mono hb.out.size))
          have O2 := hid (hown.out.below hb2)
          have hq1 := HC1.out w2 hb2
          have HP2 := hid (fun h => HPRE.out h w2 hb2)
          clear hb2 hc1 hc2 HC1 HPRE
          by_cases hu : up = true ∧ 0 < k
          · obtain ⟨rfl, hk0⟩ := hu
            have hpc := HP2.out hk0
            have hbd := hpb.out hk0
            have HAE := hid (HAH2.out ⟨rfl, hk0⟩)
            have hk0' : (0 : Int) < (k : Int) := by omega
            obtain ⟨j, rfl⟩ : ∃ j, k = j + 1 := ⟨k - 1, by omega⟩
            simp only [Nat.add_sub_cancel] at hpc hbd HAE
            generalize (nth L j).1 = D0 at *
            have hdd := HAE.out
            subst hdd
            obtain ⟨f0, f1⟩ := hbd
            have hj1 : ((j + 1 : Nat) : Int) - 1 = (j : Int) := by omega
            have hj2 : (j : Int) < (L.length : Int) := by omega
            clear HAH1 HAH2 HP2 hpb HAE
            go_wp2_with (at_builtin; refine wpList_push _ rfl _ _ 22 rfl _ 3 .i64 0 8 Try.underlying22 Try.info3 _ _ rfl O2.out (D - AH) rfl hol2 (by decide) ?_)
            intro v3 w3 ho3 hb3
            go_wp2_with fail
            go_roundw
            case rel => exact ⟨j + 1 + 1, by omega, by go_num, HOK2.out, by rw [HST.out]; exact ho3, B2.out.trans hb3⟩
            case measure => simp [intOf]; omega
          · have HAE := hid (HAH1.out hu)
            have h0 := HAE.out
            subst h0
            cases up with
            | true =>
              have hk0 : ¬ (0 : Int) < (k : Int) := fun h => hu ⟨rfl, by omega⟩
              clear HAH1 HAH2 HP2 hpb HAE hu
              go_wp2_with (at_builtin; refine wpList_push _ rfl _ _ 22 rfl _ 3 .i64 0 8 Try.underlying22 Try.info3 _ _ rfl O2.out D rfl hol2 (by decide) ?_)
              intro v3 w3 ho3 hb3
              go_wp2_with fail
              go_roundw
              case rel => exact ⟨k + 1, by omega, by go_num, HOK2.out, by rw [HST.out, Int.sub_zero]; exact ho3, B2.out.trans hb3⟩
              case measure => simp [intOf]; omega
            | false =>
              clear HAH1 HAH2 HP2 hpb HAE hu
              go_wp2_with (at_builtin; refine wpList_push _ rfl _ _ 22 rfl _ 3 .i64 0 8 Try.underlying22 Try.info3 _ _ rfl O2.out D rfl hol2 (by decide) ?_)
              intro v3 w3 ho3 hb3
              go_wp2_with fail
              go_roundw
              case rel => exact ⟨k + 1, by omega, by go_num, HOK2.out, by rw [HST.out, Int.sub_zero]; exact ho3, B2.out.trans hb3⟩
              case measure => simp [intOf]; omega
      · obtain rfl : k = L.length := by omega
        have HR := hid (HY.out hok.out)
        obtain ⟨so, sc', hsv⟩ := hown.out.shape
        subst hsv
        go_wp2_with fail
        go_ret2
        exact ⟨_, by rw [HR.out]; rfl, by rw [HR.out]; exact hown.out, hb.out⟩
end Go.Proofs.Ytcikmgdfelejpaa

/- Rows of blocks that are the call's own: contracts of their size, their copy, their comparison and their marks. -/
namespace Go.Proofs.Ytcikmgdfelejpaa
open Go.RowKit
set_option linter.unusedVariables false

/-- Block b holds a row of cells. -/
def Arr (w : World) (b : Nat) (cs : Array Value) (t : TypeId) : Prop := w.heap[b]? = some (.cells cs t (0, 0))
theorem Arr.cell {w : World} {b : Nat} {cs : Array Value} {t : TypeId} (h : Arr w b cs t) (j : Nat) : w.cell? ⟨b, j, none⟩ = cs[j]? := by
  unfold Arr at h
  simp [World.cell?, h]
theorem Arr.free {w : World} {b : Nat} {cs : Array Value} {t : TypeId} (h : Arr w b cs t) (j : Nat) : w.frozen? ⟨b, j, none⟩ = false := by
  unfold Arr at h
  simp [World.frozen?, h]
theorem Arr.lt {w : World} {b : Nat} {cs : Array Value} {t : TypeId} (h : Arr w b cs t) : b < w.heap.size := (Array.getElem?_eq_some_iff.1 h).1
theorem Arr.below {w w' : World} {B b : Nat} {cs : Array Value} {t : TypeId} (h : Arr w b cs t) (hb : Below B w w') (hB : b < B) : Arr w' b cs t := (hb.block b hB).trans h
theorem Arr.set {w : World} {b : Nat} {cs : Array Value} {t : TypeId} (h : Arr w b cs t) (i : Nat) (u : Value) : Arr (w.setCell ⟨b, i, none⟩ u) b (cs.setIfInBounds i u) t := heap_setCell_same w b i _ t u h
theorem Arr.other {w : World} {b c i : Nat} {cs : Array Value} {t : TypeId} (h : Arr w b cs t) (hne : b ≠ c) (u : Value) : Arr (w.setCell ⟨c, i, none⟩ u) b cs t := (Below.heap_setCell _ _ _ _ (fun e => hne (by rw [e]))).trans h

/-- What is left of a measure when the blocks from k on are taken from l; negative at once where it is not enough. -/
def sizes (L : List (Int × List Int)) : Nat → Nat
  | 0 => 0
  | k + 1 => sizes L k + (nth L k).2.length
theorem sizes_le (L : List (Int × List Int)) : ∀ n k, k < n → (nth L k).2.length ≤ sizes L n
  | n + 1, k, hk => by
    rw [sizes]
    by_cases e : k = n
    · subst e; omega
    · have := sizes_le L n k (by omega)
      omega

set_option maxRecDepth 100000 in
set_option maxHeartbeats 1600000 in
theorem szBlockS (ao : Option Addr) (cap : Nat) (L : List (Int × List Int)) (w : World) (hn : L.length ≤ 9223372036854775807) (hs : ∀ j, j < L.length → (nth L j).2.length ≤ 9223372036854775807) (hv : BRow w ao L) :
    Calls Try.prog 10 #[.slice ao L.length cap, .int .i64 1048576] w fun e w' => ∃ r : Int, e = .returned (.int .i64 r) ∧ (r < 0 ∨ L.length ≤ 1048576 ∧ ∀ j, j < L.length → (nth L j).2.length ≤ 1048576) ∧ Below w.heap.size w w' := by
  have HV := hid hv
  have HS := hid hs
  clear hv hs
  by_cases hl : (1048576 : Int) - L.length < 0
  · go_enter Try.func10, Try.ntmps10
    go_wp2_with fail
    go_ret
    exact ⟨_, rfl, .inl (by decide), Below.refl _ _⟩
  · have hl2 : L.length ≤ 1048576 := by omega
    go_enter Try.func10, Try.ntmps10
    go_wp2_with fail
    go_loopw [1, 5] (fun l i wr => ∃ (k : Nat) (q : Int), k ≤ L.length ∧ i = .int .i64 k ∧ l = .int .i64 q ∧ (0 ≤ q ∧ q ≤ 1048576) ∧ Hid (∀ j, j < k → (nth L j).2.length ≤ 1048576) ∧ Hid (Below w.heap.size w wr)) (fun _ i _ => L.length - (intOf i).toNat)
    case atStart => exact ⟨0, 1048576 - L.length, by omega, rfl, rfl, by omega, fun j hj => by omega, Below.refl _ _⟩
    case round =>
      obtain ⟨k, q, hk, rfl, rfl, ⟨hq0, hq1⟩, hall, hb⟩ := hrel
      by_cases hlt : k < L.length
      · obtain ⟨b, off, a, c, rfl, hc1, hc2, hvw⟩ := HV.out.below hb.out k hlt
        have hlt' : (k : Int) < (L.length : Int) := by omega
        have HSZ := hid (szBlock (nth L k).1 a (nth L k).2.length c q wr (HS.out k hlt) hq0 hq1)
        have HNX := hid (fun (h : (nth L k).2.length ≤ 1048576) j (hj : j < k + 1) => (show (nth L j).2.length ≤ 1048576 by
          by_cases e : j = k
          · rw [e]; exact h
          · exact hall.out j (by omega)))
        generalize (nth L k).1 = D at *
        generalize (nth L k).2.length = N at *
        by_cases hneg : q - (N : Int) < 0
        · have e0 : lft q N = -1 := by unfold lft; rw [if_pos hneg]
          rw [e0] at HSZ
          go_wp2_with fail
          refine HSZ.out.mono ?_
          rintro e w2 ⟨rfl, hb2⟩
          have B2 := hid (hb.out.trans (hb2.mono hb.out.size))
          go_wp2_with fail
          go_ret
          exact ⟨_, rfl, .inl (by decide), B2.out⟩
        · have e0 : lft q N = q - N := by unfold lft; rw [if_neg hneg]
          rw [e0] at HSZ
          have HNY := hid (HNX.out (by omega))
          go_wp2_with fail
          refine HSZ.out.mono ?_
          rintro e w2 ⟨rfl, hb2⟩
          have B2 := hid (hb.out.trans (hb2.mono hb.out.size))
          go_wp2_with fail
          go_roundw
          case rel => exact ⟨k + 1, q - N, by omega, by go_num, rfl, by omega, HNY.out, B2.out⟩
          case measure => simp [intOf]; omega
      · obtain rfl : k = L.length := by omega
        go_wp2_with fail
        go_ret
        exact ⟨_, rfl, .inr ⟨hl2, hall.out⟩, hb.out⟩

set_option maxRecDepth 100000 in
set_option maxHeartbeats 1600000 in
/-- Two rows of blocks that read as the same. -/
theorem eqBlockS_same (ao bo : Option Addr) (cap cap' : Nat) (L : List (Int × List Int)) (w : World) (hn : L.length ≤ 1048576) (hs : ∀ j, j < L.length → (nth L j).2.length ≤ 1048576) (ha : BRow w ao L) (hb : BRow w bo L) :
    Calls Try.prog 17 #[.slice ao L.length cap, .slice bo L.length cap'] w fun e w' => e = .returned (.bool true) ∧ Below w.heap.size w w' := by
  have HA := hid ha
  have HB := hid hb
  have HS := hid hs
  clear ha hb hs
  have hnn : ((L.length : Int) != (L.length : Int)) = false := by simp
  go_enter Try.func17, Try.ntmps17
  go_wp2_with fail
  go_loopw [5] (fun i wr => ∃ k : Nat, k ≤ L.length ∧ i = .int .i64 k ∧ Hid (Below w.heap.size w wr)) (fun i _ => L.length - (intOf i).toNat)
  case atStart => exact ⟨0, by omega, rfl, Below.refl _ _⟩
  case round =>
    obtain ⟨k, hk, rfl, hbr⟩ := hrel
    by_cases hlt : k < L.length
    · obtain ⟨b, off, a, c, rfl, hc1, hc2, hvw⟩ := HA.out.below hbr.out k hlt
      obtain ⟨b', off', a', c', rfl, hc1', hc2', hvw'⟩ := HB.out.below hbr.out k hlt
      have hlt' : (k : Int) < (L.length : Int) := by omega
      have HEQ := hid (fun q (hq : Below wr.heap.size wr q) => eqBlock_same (.agg #[.int .i64 (nth L k).1, .slice a (nth L k).2.length c]) (.agg #[.int .i64 (nth L k).1, .slice a' (nth L k).2.length c']) (nth L k).1 (nth L k).2 q (HS.out k hlt) ⟨a, c, rfl, hvw.below (Nat.le_refl _) hq⟩ ⟨a', c', rfl, hvw'.below (Nat.le_refl _) hq⟩)
      generalize (nth L k).1 = D at *
      generalize (nth L k).2 = XS at *
      clear hvw hvw'
      go_wp2_with fail
      go_cut [26] from 17 to 26 (fun s wx => s = .bool false ∧ Below wr.heap.size wr wx)
      case first =>
        go_region_with (go_at_call 49; refine (HEQ.out _ ?_).mono ?_; · first | exact Below.refl _ _ | exact (Below.refl _ _).drew | exact (Below.refl _ _).drew.drew
                        rintro e w2 ⟨rfl, hb2⟩
                        have hc2 : Below wr.heap.size wr w2 := by first | exact hb2 | exact Below.trans (Below.refl _ _).drew hb2 | exact Below.trans (Below.refl _ _).drew.drew hb2)
        all_goals
          go_wp2_with fail
          go_meet
          first | exact ⟨rfl, hc2⟩ | exact ⟨rfl, hc2.drew⟩
      case rest =>
        obtain ⟨rfl, hb9⟩ := hcut
        have B9 := hid (hbr.out.trans (hb9.mono hbr.out.size))
        clear hb9
        go_wp2_with fail
        go_roundw
        case rel => exact ⟨k + 1, by omega, by go_num, B9.out⟩
        case measure => simp [intOf]; omega
    · obtain rfl : k = L.length := by omega
      go_wp2_with fail
      go_ret
      exact ⟨rfl, hbr.out⟩
end Go.Proofs.Ytcikmgdfelejpaa

/- The contract of the copy of a row of blocks. -/
namespace Go.Proofs.Ytcikmgdfelejpaa
open Go.RowKit
set_option linter.unusedVariables false

theorem Try.info71 : (Try.prog.info? 71).map (fun i => (i.zero, i.size, i.bytes)) = some (some (.agg #[.int .i64 0, .slice none 0 0]), 2, 32) := by kernel_rfl

/-- The first k blocks of a row that is the call's own. -/
def BSTo (w : World) (g : Nat) (L : List (Int × List Int)) (n k : Nat) : Prop :=
  ∃ arr : Array Value, Arr w g arr 71 ∧ arr.size = n * 2 ∧ ∀ j, j < k → arr[j * 2]? = some (.int .i64 (nth L j).1) ∧ ∃ y, arr[j * 2 + 1]? = some y ∧ Own w (g + 1) 3 .i64 y (nth L j).2
theorem BSTo.below {w w' : World} {g : Nat} {L : List (Int × List Int)} {n k : Nat} (h : BSTo w g L n k) (hb : Below w.heap.size w w') : BSTo w' g L n k := by
  obtain ⟨arr, h1, h2, h3⟩ := h
  refine ⟨arr, h1.below hb h1.lt, h2, fun j hj => ?_⟩
  obtain ⟨e1, y, e2, e3⟩ := h3 j hj
  exact ⟨e1, y, e2, e3.below hb⟩
theorem BSTo.brow {w : World} {g : Nat} {L : List (Int × List Int)} {n : Nat} (h : BSTo w g L n L.length) : BRow w (some ⟨g, 0, none⟩) L := by
  obtain ⟨arr, h1, h2, h3⟩ := h
  intro j hj
  obtain ⟨e1, y, e2, e3⟩ := h3 j hj
  obtain ⟨a, c, rfl, hv⟩ := e3.view
  exact ⟨g, 0, a, c, rfl, by rw [Nat.zero_add, h1.cell, e1], by rw [Nat.zero_add, h1.cell, e2], hv⟩
/-- The next block is stored. -/
theorem BSTo.step {w : World} {g : Nat} {L : List (Int × List Int)} {n k : Nat} {y : Value} {base : Nat} (h : BSTo w g L n k) (hk : k < n) (hy : Own w base 3 .i64 y (nth L k).2) (hg : g + 1 ≤ base) :
    BSTo ((w.setCell ⟨g, k * 2, none⟩ (.int .i64 (nth L k).1)).setCell ⟨g, k * 2 + 1, none⟩ y) g L n (k + 1) := by
  obtain ⟨arr, h1, h2, h3⟩ := h
  refine ⟨_, (h1.set (k * 2) _).set (k * 2 + 1) _, by simp [h2], fun j hj => ?_⟩
  by_cases e : j = k
  · subst e
    refine ⟨?_, y, ?_, ?_⟩
    · rw [Array.getElem?_setIfInBounds_ne (by omega), Array.getElem?_setIfInBounds_self_of_lt (by omega)]
    · rw [Array.getElem?_setIfInBounds_self_of_lt (by simp; omega)]
    · exact ((hy.mono hg).setCell_below (a := ⟨g, j * 2, none⟩) (by show g < g + 1; omega) _).setCell_below (a := ⟨g, j * 2 + 1, none⟩) (by show g < g + 1; omega) _
  · obtain ⟨e1, y', e2, e3⟩ := h3 j (by omega)
    refine ⟨?_, y', ?_, ?_⟩
    · rw [Array.getElem?_setIfInBounds_ne (by omega), Array.getElem?_setIfInBounds_ne (by omega), e1]
    · rw [Array.getElem?_setIfInBounds_ne (by omega), Array.getElem?_setIfInBounds_ne (by omega), e2]
    · exact (e3.setCell_below (a := ⟨g, k * 2, none⟩) (by show g < g + 1; omega) _).setCell_below (a := ⟨g, k * 2 + 1, none⟩) (by show g < g + 1; omega) _

/-- 'make([]Block, n)'. -/
theorem wpList_mkB {P : Program} {ops : Array Oper} {rest : List Oper} {o : Oper} {a : Act} {Q : Exit → Act → World → Prop} (w : World) (hgd : o.guard = none) (l c : Operand) (t : TypeId)
    (ho : o.op = Op.makeSlice t l c) (ht : P.underlying t = some (.slice 71)) (hinfo : (P.info? 71).map (fun i => (i.zero, i.size, i.bytes)) = some (some (.agg #[.int .i64 0, .slice none 0 0]), 2, 32))
    (kl kc : IntKind) (n : Nat) (hl : a.eval l = .int kl n) (hc : a.eval c = .int kc n) (hn : n ≤ 1000000000) (L : List (Int × List Int))
    (h : ∀ w', BSTo w' w.heap.size L n 0 → Below w.heap.size w w' → wpList P ops Q rest (a.put o.dst (.slice (some ⟨w.heap.size, 0, none⟩) n n)) w') : wpList P ops Q (o :: rest) a w := by
  obtain ⟨i, hi, hz0, hz1, hz2⟩ := info_parts hinfo
  have hmul : i.bytes * n = 32 * n := by rw [hz2]
  refine wpList_make_full w hgd l c t ho w.heap.size 71 i (.agg #[.int .i64 0, .slice none 0 0]) 2 ht hi hz0 hz1 kl kc n n n hl hc rfl rfl (by omega) (by unfold maxLen; omega) (Nat.le_refl _) ?_
  intro w' hown hgrow
  refine h w' ?_ ((Below.refl w.heap.size w).grown hgrow (Nat.le_refl _) (fun _ hg => by cases hg))
  rcases hown.2 with ⟨hv, _⟩ | ⟨g, cap, cur, hv, hg, hh, hle, hcm, hsz, _⟩
  · cases hv
  · cases hv
    exact ⟨cur, hh, hsz, fun j hj => by omega⟩

set_option maxRecDepth 100000 in
set_option maxHeartbeats 1600000 in
theorem toBlockS (ao : Option Addr) (cap : Nat) (L : List (Int × List Int)) (w : World) (hn : L.length ≤ 1048576) (hs : ∀ j, j < L.length → (nth L j).2.length ≤ 1048576) (hv : BRow w ao L) :
    Calls Try.prog 13 #[.slice ao L.length cap] w fun e w' => e = .returned (.slice (some ⟨w.heap.size, 0, none⟩) L.length L.length) ∧ BSTo w' w.heap.size L L.length L.length ∧ Below w.heap.size w w' := by
  have HV := hid hv
  have HS := hid hs
  clear hv hs
  go_enter Try.func13, Try.ntmps13
  go_wp2_with (at_make; refine wpList_mkB w rfl _ _ 36 rfl Try.underlying36 Try.info71 _ _ L.length rfl rfl (by omega) L ?_)
  intro w1 hb1 hbel1
  go_wp2_with fail
  go_loopw [4] (fun i wr => ∃ k : Nat, k ≤ L.length ∧ i = .int .i64 k ∧ Hid (BSTo wr w.heap.size L L.length k) ∧ Hid (Below w.heap.size w wr)) (fun i _ => L.length - (intOf i).toNat)
  case atStart => exact ⟨0, by omega, rfl, hb1, hbel1⟩
  case round =>
    obtain ⟨k, hk, rfl, hbs, hbr⟩ := hrel
    by_cases hlt : k < L.length
    · obtain ⟨b, off, a, c, rfl, hc1, hc2, hvw⟩ := HV.out.below hbr.out k hlt
      have hlt' : (k : Int) < (L.length : Int) := by omega
      have HTB := hid (toBlock (.agg #[.int .i64 (nth L k).1, .slice a (nth L k).2.length c]) (nth L k).1 (nth L k).2 wr (HS.out k hlt) ⟨a, c, rfl, hvw⟩)
      have hglt : w.heap.size < wr.heap.size := by obtain ⟨arr, h1, _⟩ := hbs.out; exact h1.lt
      have HSTEP := hid (fun q (hq : BSTo q w.heap.size L L.length k) y (hy : Own q wr.heap.size 3 .i64 y (nth L k).2) => hq.step hlt hy (by omega))
      generalize (nth L k).1 = D at *
      generalize (nth L k).2 = XS at *
      clear hvw
      go_wp2_with fail
      refine HTB.out.mono ?_
      rintro e w2 ⟨v2, rfl, ⟨va, rfl, ho2⟩, hb2⟩
      obtain ⟨yo, yc, rfl⟩ := ho2.shape
      have HBS2 := hid (hbs.out.below hb2)
      have B2 := hid (hbr.out.trans (hb2.mono hbr.out.size))
      have HO2 := hid ho2
      clear ho2 hb2 hc1 hc2 HTB
      obtain ⟨arr, har, hasz, _⟩ := HBS2.out
      have hA := hid har
      have hl0 : k * 2 < arr.size := by omega
      have hl1 : k * 2 + 1 < arr.size := by omega
      have p0 : w2.cell? ⟨w.heap.size, k * 2, none⟩ = some arr[k * 2] := by rw [har.cell]; exact Array.getElem?_eq_getElem hl0
      have p1 : w2.cell? ⟨w.heap.size, k * 2 + 1, none⟩ = some arr[k * 2 + 1] := by rw [har.cell]; exact Array.getElem?_eq_getElem hl1
      have p2 := har.free (k * 2)
      have p3 := har.free (k * 2 + 1)
      generalize arr[k * 2] = Z0 at *
      generalize arr[k * 2 + 1] = Z1 at *
      clear har hasz hl0 hl1
      go_wp2_with fail
      go_roundw
      case rel => exact ⟨k + 1, by omega, by go_num, HSTEP.out w2 HBS2.out _ HO2.out, (B2.out.setCell (p := ⟨w.heap.size, k * 2, none⟩) (Nat.le_refl _) _).setCell (p := ⟨w.heap.size, k * 2 + 1, none⟩) (Nat.le_refl _) _⟩
      case measure => simp [intOf]; omega
    · obtain rfl : k = L.length := by omega
      go_wp2_with fail
      go_ret
      exact ⟨rfl, hbs.out, hbr.out⟩
end Go.Proofs.Ytcikmgdfelejpaa

/- Contracts of the marks of ints and of rows of blocks: what they write into, and what they leave alone. -/
namespace Go.Proofs.Ytcikmgdfelejpaa
open Go.RowKit
set_option linter.unusedVariables false

/-- Of what was there, only blocks from B on and below m have turned. -/
def Spare (B m : Nat) (w w' : World) : Prop := w'.os = w.os ∧ w'.tape = w.tape ∧ w'.output = w.output ∧ w.heap.size ≤ w'.heap.size ∧ ∀ g, g < w.heap.size → g < B ∨ m ≤ g → w'.heap[g]? = w.heap[g]?
theorem Spare.refl (B m : Nat) (w : World) : Spare B m w w := ⟨rfl, rfl, rfl, Nat.le_refl _, fun _ _ _ => rfl⟩
theorem Spare.trans {B m : Nat} {a b c : World} (h : Spare B m a b) (k : Spare B m b c) : Spare B m a c :=
  ⟨k.1.trans h.1, k.2.1.trans h.2.1, k.2.2.1.trans h.2.2.1, Nat.le_trans h.2.2.2.1 k.2.2.2.1, fun g hg hc => (k.2.2.2.2 g (Nat.lt_of_lt_of_le hg h.2.2.2.1) hc).trans (h.2.2.2.2 g hg hc)⟩
theorem Spare.ofBelow {B m : Nat} {a b : World} (h : Below a.heap.size a b) : Spare B m a b := ⟨h.os, h.tape, h.output, h.size, fun g hg _ => h.block g hg⟩
theorem Spare.ofOnly {B m g : Nat} {a b : World} (h : Only g a b) (h0 : B ≤ g) (h1 : g < m) : Spare B m a b := ⟨h.1, h.2.1, h.2.2.1, by rw [h.2.2.2.1]; exact Nat.le_refl _, fun k _ hk => h.2.2.2.2 k (by omega)⟩
theorem Spare.below {B m : Nat} {a b : World} (h : Spare B m a b) (hB : B ≤ a.heap.size) : Below B a b := ⟨h.1, h.2.1, h.2.2.1, h.2.2.2.1, fun k hk => h.2.2.2.2 k (Nat.lt_of_lt_of_le hk hB) (.inl hk)⟩
theorem Spare.own {B m base : Nat} {a b : World} {e : TypeId} {k : IntKind} {v : Value} {xs : List Int} (h : Spare B m a b) (ho : Own a base e k v xs) (hb : m ≤ base) : Own b base e k v xs := by
  refine ⟨Nat.le_trans ho.1 h.2.2.2.1, ho.2.1, ?_⟩
  rcases ho.2.2 with h0 | ⟨g, cap, cur, hv, hg, hh, r⟩
  · exact .inl h0
  · exact .inr ⟨g, cap, cur, hv, hg, (h.2.2.2.2 g (Array.getElem?_eq_some_iff.1 hh).1 (.inr (by omega))).trans hh, r⟩
theorem Spare.two {B m b : Nat} {w w' : World} {x y : Value} {t : TypeId} (h : Spare B m w w') (ht : Two w b x y t) (hb : b < B ∨ m ≤ b) : Two w' b x y t := (h.2.2.2.2 b ht.lt hb).trans ht


/-- Only blocks from B on and below m have turned; rows of ints are rows of ints as before, and all else is as it was. -/
def Soft (B m : Nat) (w w' : World) : Prop := Spare B m w w' ∧ (∀ (b : Nat) (cur : Array Value), Arr w b cur 3 → ∃ cur', Arr w' b cur' 3 ∧ ∀ (j : Nat) (x : Int), cur[j]? = some (.int .i64 x) → ∃ x' : Int, cur'[j]? = some (.int .i64 x')) ∧
  ∀ (b : Nat) (cur : Array Value) (t : TypeId), t ≠ 3 → Arr w b cur t → Arr w' b cur t
theorem Soft.refl (B m : Nat) (w : World) : Soft B m w w := ⟨Spare.refl _ _ _, fun b cur h => ⟨cur, h, fun j x hx => ⟨x, hx⟩⟩, fun _ _ _ _ h => h⟩
theorem Soft.trans {B m : Nat} {a b c : World} (h : Soft B m a b) (k : Soft B m b c) : Soft B m a c := by
  refine ⟨h.1.trans k.1, fun g cur hg => ?_, fun g cur t ht hg => k.2.2 g cur t ht (h.2.2 g cur t ht hg)⟩
  obtain ⟨c1, h1, h2⟩ := h.2.1 g cur hg
  obtain ⟨c2, k1, k2⟩ := k.2.1 g c1 h1
  refine ⟨c2, k1, fun j x hx => ?_⟩
  obtain ⟨x1, hx1⟩ := h2 j x hx
  exact k2 j x1 hx1
theorem Soft.set {B m b k : Nat} {w : World} {cur : Array Value} (h : Arr w b cur 3) (hB : B ≤ b) (hm : b < m) (y v : Int) (hy : cur[k]? = some (.int .i64 y)) : Soft B m w (w.setCell ⟨b, k, none⟩ (.int .i64 v)) := by
  have hk : k < cur.size := (Array.getElem?_eq_some_iff.1 hy).1
  refine ⟨Spare.ofOnly ((Only.refl b w).setCell k _) hB hm, fun g c hg => ?_, fun g c t ht hg => ?_⟩
  · by_cases e : g = b
    · subst e
      have : c = cur := by
        unfold Arr at h hg
        rw [h] at hg
        cases hg
        rfl
      subst this
      refine ⟨_, h.set k _, fun j x hx => ?_⟩
      by_cases ej : j = k
      · subst ej
        exact ⟨v, by rw [Array.getElem?_setIfInBounds_self_of_lt hk]⟩
      · exact ⟨x, by rw [Array.getElem?_setIfInBounds_ne (fun e => ej e.symm)]; exact hx⟩
    · exact ⟨c, hg.other e _, fun j x hx => ⟨x, hx⟩⟩
  · have e : g ≠ b := fun e => by
      subst e
      unfold Arr at h hg
      rw [h] at hg
      cases hg
      exact ht rfl
    exact hg.other e _

/-- A slice of ints in memory between B and m, whatever the ints are. -/
def IntB (B m : Nat) (w : World) (y : Value) (n : Nat) : Prop :=
  (y = .slice none 0 0 ∧ n = 0) ∨ ∃ b cap cur, y = .slice (some ⟨b, 0, none⟩) n cap ∧ B ≤ b ∧ b < m ∧ Arr w b cur 3 ∧ ∀ j, j < n → ∃ x : Int, cur[j]? = some (.int .i64 x)
theorem IntB.soft {B m : Nat} {w w' : World} {y : Value} {n : Nat} (h : IntB B m w y n) (hs : Soft B m w w') : IntB B m w' y n := by
  rcases h with h | ⟨b, cap, cur, h1, h2, h3, h4, h5⟩
  · exact .inl h
  · obtain ⟨c1, k1, k2⟩ := hs.2.1 b cur h4
    refine .inr ⟨b, cap, c1, h1, h2, h3, k1, fun j hj => ?_⟩
    obtain ⟨x, hx⟩ := h5 j hj
    exact k2 j x hx
theorem IntB.shape {B m : Nat} {w : World} {y : Value} {n : Nat} (h : IntB B m w y n) : ∃ ao c, y = .slice ao n c := by
  rcases h with ⟨h1, h2⟩ | ⟨b, cap, cur, h1, _⟩
  · exact ⟨none, 0, by rw [h1, h2]⟩
  · exact ⟨_, _, h1⟩
theorem Own.intB {B m : Nat} {w : World} {base : Nat} {y : Value} {xs : List Int} (h : Own w base 3 .i64 y xs) (hB : B ≤ base) (hm : ∀ a n c, y = .slice (some a) n c → a.block < m) : IntB B m w y xs.length := by
  rcases h.2.2 with ⟨h1, h2⟩ | ⟨g, cap, cur, hv, hg, hh, hle, _, hsz, htake⟩
  · exact .inl ⟨h1, h2⟩
  · subst hv
    refine .inr ⟨g, cap, cur, rfl, by omega, hm _ _ _ rfl, hh, fun j hj => ?_⟩
    have hc := h.cell rfl j hj
    rw [Addr.add_lit, Nat.zero_add] at hc
    have ha : Arr w g cur 3 := hh
    exact ⟨_, (ha.cell j).symm.trans hc⟩

set_option maxHeartbeats 800000 in
theorem mark_ints (B m : Nat) (v : Value) (n : Nat) (s : Int) (w : World) (hn : n ≤ 1048576) (h0 : 0 ≤ s) (h1 : s ≤ 4000000000000000000) (ho : IntB B m w v n) :
    Calls Try.prog 20 #[v, .int .i64 s] w fun e w' => e = .returned (.int .i64 (s + n)) ∧ Soft B m w w' := by
  rcases ho with ⟨rfl, rfl⟩ | ⟨b, cap, cur, rfl, hB, hm, harr, hall⟩
  · go_enter Try.func20, Try.ntmps20
    go_wp2
    go_loop [1, 5] (fun m i => m = .int .i64 s ∧ i = .int .i64 0) (fun _ _ => 0)
    case atStart => exact ⟨rfl, rfl⟩
    case round =>
      obtain ⟨rfl, rfl⟩ := hrel
      go_wp2
      go_ret
      exact ⟨ret_int (by simp), Soft.refl _ _ _⟩
  · have HA := hid harr
    have HALL := hid hall
    clear harr hall
    go_enter Try.func20, Try.ntmps20
    go_wp2
    go_loopw [1, 5] (fun m2 i wr => ∃ (k : Nat) (c : Array Value), k ≤ n ∧ i = .int .i64 k ∧ m2 = .int .i64 (s + (k : Int)) ∧ Hid (Arr wr b c 3) ∧ Hid (∀ j, j < n → ∃ x : Int, c[j]? = some (.int .i64 x)) ∧ Hid (Soft B m w wr)) (fun _ i _ => n - (intOf i).toNat)
    case atStart => exact ⟨0, cur, by omega, rfl, by simp, HA.out, HALL.out, Soft.refl _ _ _⟩
    case round =>
      obtain ⟨k, c, hk, rfl, rfl, har, hints, hsoft⟩ := hrel
      by_cases hlt : k < n
      · obtain ⟨y, hy⟩ := hints.out k hlt
        have hlt' : (k : Int) < (n : Int) := by omega
        have hold : wr.cell? ⟨b, k, none⟩ = some (.int .i64 y) := (har.out.cell k).trans hy
        have hfree := har.out.free k
        have HSET := hid (Soft.set har.out hB hm y (s + (k : Int)) hy)
        have HARR := hid (har.out.set k (.int .i64 (s + (k : Int))))
        have HNEW : Hid (∀ j, j < n → ∃ x : Int, (c.setIfInBounds k (.int .i64 (s + (k : Int))))[j]? = some (.int .i64 x)) := hid (fun j hj => by
          by_cases e : j = k
          · subst e
            exact ⟨_, by rw [Array.getElem?_setIfInBounds_self_of_lt (Array.getElem?_eq_some_iff.1 hy).1]⟩
          · obtain ⟨x, hx⟩ := hints.out j hj
            exact ⟨x, by rw [Array.getElem?_setIfInBounds_ne (fun e' => e e'.symm)]; exact hx⟩)
        clear hy
        go_wp2
        go_roundw
        case rel => exact ⟨k + 1, _, by omega, by go_num, by go_num, HARR.out, HNEW.out, hsoft.out.trans HSET.out⟩
        case measure => simp [intOf]; omega
      · obtain rfl : k = n := by omega
        go_wp2
        go_ret
        exact ⟨rfl, hsoft.out⟩

/-- A row of blocks whose numbers may be whatever. -/
def RowM (B m : Nat) (w : World) (g n : Nat) (ys : Nat → Value) (ns : Nat → Nat) : Prop :=
  ∃ arr, Arr w g arr 71 ∧ ∀ j, j < n → (∃ d : Int, arr[j * 2]? = some (.int .i64 d)) ∧ arr[j * 2 + 1]? = some (ys j) ∧ IntB B m w (ys j) (ns j)
theorem RowM.soft {B m : Nat} {w w' : World} {g n : Nat} {ys : Nat → Value} {ns : Nat → Nat} (h : RowM B m w g n ys ns) (hs : Soft B m w w') : RowM B m w' g n ys ns := by
  obtain ⟨arr, h1, h2⟩ := h
  refine ⟨arr, hs.2.2 g arr 71 (by decide) h1, fun j hj => ?_⟩
  obtain ⟨k1, k2, k3⟩ := h2 j hj
  exact ⟨k1, k2, k3.soft hs⟩
theorem RowM.set {B m : Nat} {w : World} {g n k : Nat} {ys : Nat → Value} {ns : Nat → Nat} (h : RowM B m w g n ys ns) (hk : k < n) (x : Int) : RowM B m (w.setCell ⟨g, k * 2, none⟩ (.int .i64 x)) g n ys ns := by
  obtain ⟨arr, h1, h2⟩ := h
  refine ⟨_, h1.set (k * 2) _, fun j hj => ?_⟩
  obtain ⟨⟨d, k1⟩, k2, k3⟩ := h2 j hj
  refine ⟨?_, ?_, ?_⟩
  · by_cases e : j = k
    · subst e
      exact ⟨x, by rw [Array.getElem?_setIfInBounds_self_of_lt (Array.getElem?_eq_some_iff.1 k1).1]⟩
    · exact ⟨d, by rw [Array.getElem?_setIfInBounds_ne (by omega)]; exact k1⟩
  · rw [Array.getElem?_setIfInBounds_ne (by omega)]
    exact k2
  · rcases k3 with k3 | ⟨b, cap, cur, q1, q2, q3, q4, q5⟩
    · exact .inl k3
    · have e : b ≠ g := fun e => by
        subst e
        unfold Arr at h1 q4
        rw [h1] at q4
        cases q4
      exact .inr ⟨b, cap, cur, q1, q2, q3, q4.other e _, q5⟩

set_option maxRecDepth 100000 in
set_option maxHeartbeats 1600000 in
theorem markBlockS (B m : Nat) (g n : Nat) (ys : Nat → Value) (ns : Nat → Nat) (w : World) (hn : n ≤ 1048576) (hns : ∀ j, j < n → ns j ≤ 1048576) (hB : B ≤ g) (hm : g < m) (hv : RowM B m w g n ys ns) :
    Calls Try.prog 19 #[.slice (some ⟨g, 0, none⟩) n n, .int .i64 1] w fun e w' => (∃ r : Int, e = .returned (.int .i64 r) ∧ 0 ≤ r) ∧ Spare B m w w' := by
  have HV := hid hv
  have HNS := hid hns
  clear hv hns
  go_enter Try.func19, Try.ntmps19
  go_wp2
  go_loopw [1, 5] (fun r i wr => ∃ (k : Nat) (q : Int), k ≤ n ∧ i = .int .i64 k ∧ r = .int .i64 q ∧ (1 ≤ q ∧ q ≤ 1 + 1048577 * (k : Int)) ∧ Hid (RowM B m wr g n ys ns) ∧ Hid (Spare B m w wr)) (fun _ i _ => n - (intOf i).toNat)
  case atStart => exact ⟨0, 1, by omega, rfl, rfl, by simp, HV.out, Spare.refl _ _ _⟩
  case round =>
    obtain ⟨k, q, hk, rfl, rfl, ⟨hq0, hq1⟩, hrow, hsp⟩ := hrel
    by_cases hlt : k < n
    · have hlt' : (k : Int) < (n : Int) := by omega
      obtain ⟨arr, har, hcells⟩ := hrow.out
      obtain ⟨⟨d, k1⟩, k2, k3⟩ := hcells k hlt
      have p0 : wr.cell? ⟨g, k * 2, none⟩ = some (.int .i64 d) := (har.cell _).trans k1
      have p2 := har.free (k * 2)
      have HR1 := hid (hrow.out.set hlt q)
      have HS1 := hid (Spare.ofOnly (B := B) (m := m) ((Only.refl g wr).setCell (k * 2) (.int .i64 q)) hB hm)
      have hnk := HNS.out k hlt
      obtain ⟨arr1, har1, hcells1⟩ := HR1.out
      obtain ⟨_, m2, m3⟩ := hcells1 k hlt
      have p1 : (wr.setCell ⟨g, k * 2, none⟩ (.int .i64 q)).cell? ⟨g, k * 2 + 1, none⟩ = some (ys k) := (har1.cell _).trans m2
      have HM := hid (mark_ints B m (ys k) (ns k) (q + 1) _ hnk (by omega) (by omega) m3)
      obtain ⟨yo, yc, hy⟩ := m3.shape
      rw [hy] at p1 HM
      clear har hcells k1 k2 k3 har1 hcells1 m2 m3 hy
      generalize ns k = N at *
      have HW := hid (show Spare B m w (wr.setCell ⟨g, k * 2, none⟩ (.int .i64 q)) from hsp.out.trans HS1.out)
      go_wp2_with fail
      refine HM.out.mono ?_
      rintro e w2 ⟨rfl, hsoft⟩
      have HR2 := hid (HR1.out.soft hsoft)
      have HS2 := hid (HW.out.trans hsoft.1)
      clear hsoft
      go_wp2_with fail
      go_roundw
      case rel => exact ⟨k + 1, q + 1 + N, by omega, by go_num, rfl, by omega, HR2.out, HS2.out⟩
      case measure => simp [intOf]; omega
    · obtain rfl : k = n := by omega
      go_wp2
      go_ret
      exact ⟨⟨_, rfl, by omega⟩, hsp.out⟩
end Go.Proofs.Ytcikmgdfelejpaa

/- Plain facts on the steps of a block, and slices of steps that are the call's own. -/
namespace Go.Proofs.Ytcikmgdfelejpaa
open Go.RowKit
set_option linter.unusedVariables false

/-- The j-th of some steps. -/
def nthS (S : List (Int × Int × List Int)) (j : Nat) : Int × Int × List Int := S.getD j (0, 0, [])
theorem nthS_left (L : List (Int × Int × List Int)) (x : Int × Int × List Int) (j : Nat) (h : j < L.length) : nthS (L ++ [x]) j = nthS L j := by
  simp only [nthS, List.getD]
  rw [List.getElem?_append_left h]
theorem nthS_last (L : List (Int × Int × List Int)) (x : Int × Int × List Int) : nthS (L ++ [x]) L.length = x := by simp [nthS]
/-- A step that tells 16 zeros. -/
def skip : Int × Int × List Int := (15, 0, [])
/-- The steps of the first k numbers, and how many zeros are still to be told. -/
def stepTo (xs : List Int) : Nat → List (Int × Int × List Int) × Nat
  | 0 => ([], 0)
  | k + 1 => if xs.getD k 0 = 0 then ((stepTo xs k).1, (stepTo xs k).2 + 1)
    else ((stepTo xs k).1 ++ List.replicate ((stepTo xs k).2 / 16) skip ++ [((((stepTo xs k).2 % 16 : Nat) : Int), sz (xs.getD k 0), restL (xs.getD k 0))], 0)
theorem stepTo_zero (xs : List Int) (k : Nat) (h : xs.getD k 0 = 0) : stepTo xs (k + 1) = ((stepTo xs k).1, (stepTo xs k).2 + 1) := by rw [stepTo, if_pos h]
theorem stepTo_num (xs : List Int) (k : Nat) (h : xs.getD k 0 ≠ 0) : stepTo xs (k + 1) = ((stepTo xs k).1 ++ List.replicate ((stepTo xs k).2 / 16) skip ++ [((((stepTo xs k).2 % 16 : Nat) : Int), sz (xs.getD k 0), restL (xs.getD k 0))], 0) := by rw [stepTo, if_neg h]
theorem stepTo_len (xs : List Int) : ∀ k, (stepTo xs k).1.length + (stepTo xs k).2 ≤ k
  | 0 => by simp [stepTo]
  | k + 1 => by
    have ih := stepTo_len xs k
    by_cases h : xs.getD k 0 = 0
    · rw [stepTo_zero xs k h]
      show (stepTo xs k).1.length + ((stepTo xs k).2 + 1) ≤ k + 1
      omega
    · rw [stepTo_num xs k h]
      simp only [List.length_append, List.length_replicate, List.length_singleton]
      omega
/-- The steps of a block. -/
def stepsOf (xs : List Int) : List (Int × Int × List Int) := if 0 < (stepTo xs 63).2 then (stepTo xs 63).1 ++ [(0, 0, [])] else (stepTo xs 63).1
def stepsR (d : Int) (xs : List Int) : List (Int × Int × List Int) := if blkOk d xs = true then stepsOf xs else []

/-- The cells of the first k steps. -/
def flS (S : List (Int × Int × List Int)) (vs : List Value) : Nat → List Value
  | 0 => []
  | k + 1 => flS S vs k ++ [.int .i64 (nthS S k).1, .int .i64 (nthS S k).2.1, vs.getD k (.bool false)]
theorem flS_len (S : List (Int × Int × List Int)) (vs : List Value) : ∀ k, (flS S vs k).length = k * 3
  | 0 => rfl
  | k + 1 => by rw [flS, List.length_append, flS_len S vs k]; simp; omega
theorem flS_at (S : List (Int × Int × List Int)) (vs : List Value) : ∀ n j, j < n → (flS S vs n)[j * 3]? = some (.int .i64 (nthS S j).1) ∧ (flS S vs n)[j * 3 + 1]? = some (.int .i64 (nthS S j).2.1) ∧ (flS S vs n)[j * 3 + 2]? = some (vs.getD j (.bool false))
  | n + 1, j, hj => by
    have hl := flS_len S vs n
    rw [flS]
    by_cases e : j = n
    · subst e
      rw [List.getElem?_append_right (by omega), List.getElem?_append_right (by omega), List.getElem?_append_right (by omega), hl]
      simp [show j * 3 + 1 - j * 3 = 1 by omega, show j * 3 + 2 - j * 3 = 2 by omega]
    · rw [List.getElem?_append_left (by omega), List.getElem?_append_left (by omega), List.getElem?_append_left (by omega)]
      exact flS_at S vs n j (by omega)
theorem flS_snoc (S : List (Int × Int × List Int)) (vs : List Value) (x : Int × Int × List Int) (y : Value) (hl : vs.length = S.length) : ∀ k, k ≤ S.length → flS (S ++ [x]) (vs ++ [y]) k = flS S vs k
  | 0, _ => rfl
  | k + 1, h => by
    rw [flS, flS, flS_snoc S vs x y hl k (by omega), nthS_left S x k (by omega)]
    have : (vs ++ [y]).getD k (.bool false) = vs.getD k (.bool false) := by
      simp only [List.getD]
      rw [List.getElem?_append_left (by omega)]
    rw [this]
theorem flS_full (S : List (Int × Int × List Int)) (vs : List Value) (x : Int × Int × List Int) (y : Value) (hl : vs.length = S.length) : flS (S ++ [x]) (vs ++ [y]) (S.length + 1) = flS S vs S.length ++ [.int .i64 x.1, .int .i64 x.2.1, y] := by
  rw [flS, flS_snoc S vs x y hl _ (Nat.le_refl _), nthS_last]
  have : (vs ++ [y]).getD S.length (.bool false) = y := by simp [← hl]
  rw [this]

/-- The slice v is the call's own and holds the steps S, their bits being the slices vs, one behind the other in memory. -/
def OwnT (w : World) (base : Nat) (v : Value) (S : List (Int × Int × List Int)) (vs : List Value) : Prop :=
  base ≤ w.heap.size ∧ vs.length = S.length ∧ w.ownsRow base 73 3 v S.length (flS S vs S.length) ∧ (∀ j, j < S.length → Own w base 3 .i64 (vs.getD j (.bool false)) (nthS S j).2.2) ∧
  ∀ i j, i < j → j < S.length → ∀ (a a' : Addr) (n n' c c' : Nat), vs.getD i (.bool false) = .slice (some a) n c → vs.getD j (.bool false) = .slice (some a') n' c' → a.block < a'.block
theorem OwnT.shape {w : World} {base : Nat} {v : Value} {S : List (Int × Int × List Int)} {vs : List Value} (h : OwnT w base v S vs) : ∃ ao cap, v = .slice ao S.length cap := by
  rcases h.2.2.1.2 with ⟨rfl, h0⟩ | ⟨g, cap, cur, rfl, _⟩
  · exact ⟨none, 0, by rw [h0]⟩
  · exact ⟨_, _, rfl⟩
theorem OwnT.empty (w : World) (base : Nat) (hb : base ≤ w.heap.size) : OwnT (w.alloc (.cells #[] 73)) base (.slice (some ⟨w.heap.size, 0, none⟩) 0 0) [] [] :=
  ⟨Nat.le_trans hb (by simp), rfl, World.ownsRow_made w #[] 0 hb (by simp [maxLen]) rfl, fun j hj => by simp at hj, fun i j _ hj => by simp at hj⟩
theorem OwnT.below {w w' : World} {base : Nat} {v : Value} {S : List (Int × Int × List Int)} {vs : List Value} (h : OwnT w base v S vs) (hb : Below w.heap.size w w') : OwnT w' base v S vs := by
  obtain ⟨h1, h2, h3, h4, h5⟩ := h
  refine ⟨Nat.le_trans h1 hb.size, h2, ⟨h3.1, ?_⟩, fun j hj => (h4 j hj).below hb, h5⟩
  rcases h3.2 with h0 | ⟨g, cap, cur, hv, hg, hh, r⟩
  · exact .inl h0
  · exact .inr ⟨g, cap, cur, hv, hg, (hb.block g (Array.getElem?_eq_some_iff.1 hh).1).trans hh, r⟩
theorem OwnT.lt {w : World} {base : Nat} {v : Value} {S : List (Int × Int × List Int)} {vs : List Value} (h : OwnT w base v S vs) (j : Nat) (hj : j < S.length) (a : Addr) (n c : Nat) (e : vs.getD j (.bool false) = .slice (some a) n c) : a.block < w.heap.size := by
  have := h.2.2.2.1 j hj
  rw [e] at this
  exact this.ge.2

/-- A row of steps that is read: three cells a step. -/
def SRow (w : World) (ao : Option Addr) (S : List (Int × Int × List Int)) : Prop :=
  ∀ j, j < S.length → ∃ b off a c, ao = some ⟨b, off, none⟩ ∧ w.cell? ⟨b, off + j * 3, none⟩ = some (.int .i64 (nthS S j).1) ∧ w.cell? ⟨b, off + j * 3 + 1, none⟩ = some (.int .i64 (nthS S j).2.1) ∧ w.cell? ⟨b, off + j * 3 + 2, none⟩ = some (.slice a (nthS S j).2.2.length c) ∧ View .i64 w a (nthS S j).2.2.length (nthS S j).2.2
theorem SRow.below {w w' : World} {ao : Option Addr} {S : List (Int × Int × List Int)} (h : SRow w ao S) (hb : Below w.heap.size w w') : SRow w' ao S := by
  intro j hj
  obtain ⟨b, off, a, c, h1, h2, h3, h4, h5⟩ := h j hj
  exact ⟨b, off, a, c, h1, (hb.cell (p := ⟨b, off + j * 3, none⟩) (World.block_lt_of_cell? w _ h2)).trans h2, (hb.cell (p := ⟨b, off + j * 3 + 1, none⟩) (World.block_lt_of_cell? w _ h3)).trans h3, (hb.cell (p := ⟨b, off + j * 3 + 2, none⟩) (World.block_lt_of_cell? w _ h4)).trans h4, h5.below (Nat.le_refl _) hb⟩
theorem OwnT.srow {w : World} {base : Nat} {ao : Option Addr} {n c : Nat} {S : List (Int × Int × List Int)} {vs : List Value} (h : OwnT w base (.slice ao n c) S vs) : SRow w ao S := by
  obtain ⟨_, hl, h2, h3, _⟩ := h
  intro j hj
  obtain ⟨a, c', hy, hv⟩ := (h3 j hj).view
  rcases h2.2 with ⟨_, h0⟩ | ⟨g, cap, cur, hv', _⟩
  · omega
  · cases hv'
    have hc := flS_at S vs S.length j hj
    have c0 := h2.cells (g := g) (by simp [Value.ownBlock]) (j * 3) _ hc.1
    have c1 := h2.cells (g := g) (by simp [Value.ownBlock]) (j * 3 + 1) _ hc.2.1
    have c2 := h2.cells (g := g) (by simp [Value.ownBlock]) (j * 3 + 2) _ hc.2.2
    rw [Addr.add_lit, Nat.zero_add] at c0 c1 c2
    exact ⟨g, 0, a, c', rfl, by rw [Nat.zero_add]; exact c0, by rw [Nat.zero_add]; exact c1, by rw [Nat.zero_add, c2, hy], hv⟩

/-- What an append of one step leaves as it was, and what it makes. -/
theorem OwnT.pushed {w w' : World} {base : Nat} {v v' : Value} {S : List (Int × Int × List Int)} {vs : List Value} {x : Int × Int × List Int} {y : Value} {o : Obj} (h : OwnT w base v S vs) (hy : Own w base 3 .i64 y x.2.2)
    (hyb : ∀ j, j < S.length → ∀ (a a' : Addr) (n n' c c' : Nat), vs.getD j (.bool false) = .slice (some a) n c → y = .slice (some a') n' c' → a.block < a'.block)
    (hown' : w'.ownsRow base 73 3 v' (S.length + 1) (flS S vs S.length ++ [.int .i64 x.1, .int .i64 x.2.1, y])) (hgrow : (w.alloc o).grownBy w' v.ownBlock) : OwnT w' base v' (S ++ [x]) (vs ++ [y]) := by
  obtain ⟨hb, hvl, hrow, hels, hdis⟩ := h
  have hsz : w.heap.size ≤ w'.heap.size := Nat.le_trans (by simp) hgrow.size
  have hkeep : ∀ (g : Nat) (cur : Array Value), w.heap[g]? = some (.cells cur 3 (0, 0)) → w'.heap[g]? = some (.cells cur 3 (0, 0)) := by
    intro g cur hg
    have hglt : g < w.heap.size := (Array.getElem?_eq_some_iff.1 hg).1
    have h1 : (w.alloc o).heap[g]? = some (.cells cur 3 (0, 0)) := (((Below.refl w.heap.size w).alloc (Nat.le_refl _) _).block g hglt).trans hg
    refine (hgrow.block g (Nat.lt_trans hglt (by simp)) ?_).trans h1
    intro eq
    rcases hrow.2 with ⟨hv, _⟩ | ⟨g', cap, cur', hv, hg', hh, _⟩
    · subst hv; cases eq
    · subst hv
      have : g = g' := by simpa [Value.ownBlock] using eq
      subst this
      rw [hg] at hh
      cases hh
  have hkeepO : ∀ (y : Value) (ys : List Int), Own w base 3 .i64 y ys → Own w' base 3 .i64 y ys := by
    intro y ys hyo
    refine ⟨Nat.le_trans hyo.1 hsz, hyo.2.1, ?_⟩
    rcases hyo.2.2 with h0 | ⟨g, cap, cur, hv, hg, hh, r⟩
    · exact .inl h0
    · exact .inr ⟨g, cap, cur, hv, hg, hkeep g cur hh, r⟩
  have hleft : ∀ j, j < S.length → (vs ++ [y]).getD j (.bool false) = vs.getD j (.bool false) := fun j hj => by
    simp only [List.getD]
    rw [List.getElem?_append_left (by omega)]
  have hlast : (vs ++ [y]).getD S.length (.bool false) = y := by simp [← hvl]
  refine ⟨Nat.le_trans hb hsz, by simp [hvl], ?_, fun j hj => ?_, fun i j hij hj a a' n n' c c' e1 e2 => ?_⟩
  · rw [List.length_append, List.length_singleton, flS_full S vs x _ hvl]
    exact hown'
  · by_cases e : j < S.length
    · rw [nthS_left S _ j e, hleft j e]
      exact hkeepO _ _ (hels j e)
    · have ej : j = S.length := by simp at hj; omega
      subst ej
      rw [nthS_last, hlast]
      exact hkeepO _ _ hy
  · simp at hj
    by_cases e : j < S.length
    · rw [hleft j e] at e2
      rw [hleft i (by omega)] at e1
      exact hdis i j hij e a a' n n' c c' e1 e2
    · have ej : j = S.length := by omega
      subst ej
      rw [hlast] at e2
      rw [hleft i hij] at e1
      exact hyb i hij a a' n n' c c' e1 e2

/-- 'out = append(out, s)', s a step laid in a new block of its own first. -/
theorem wpList_pushS {P : Program} {ops : Array Oper} {rest : List Oper} {o : Oper} {a : Act} {Q : Exit → Act → World → Prop} (w : World) (gb : Nat) (hgb : w.heap.size = gb) (hgd : o.guard = none) (s x : Operand) (t : TypeId)
    (ho : o.op = .call { callee := .builtin .append, args := #[s, x], argTypes := #[t, t] })
    (base : Nat) (ht : P.underlying t = some (.slice 73)) (hinfo : (P.info? 73).map (fun i => (i.zero, i.size, i.bytes)) = some (some (.agg #[.int .i64 0, .int .i64 0, .slice none 0 0]), 3, 40))
    (v : Value) (S : List (Int × Int × List Int)) (vs : List Value) (hs : a.eval s = v) (hown : OwnT w base v S vs) (d e : Int) (ya : Option Addr) (yn yc : Nat) (xs : List Int) (hy : Own w base 3 .i64 (.slice ya yn yc) xs)
    (hyb : ∀ j, j < S.length → ∀ (a a' : Addr) (n n' c c' : Nat), vs.getD j (.bool false) = .slice (some a) n c → Value.slice ya yn yc = .slice (some a') n' c' → a.block < a'.block)
    (hx : a.eval x = .slice (some ⟨gb, 0, none⟩) 1 1)
    (hlen : S.length < 1000000000)
    (h : ∀ v' w', OwnT w' base v' (S ++ [(d, e, xs)]) (vs ++ [.slice ya yn yc]) → Below base w w' → wpList P ops Q rest (a.put o.dst v') w') : wpList P ops Q (o :: rest) a (w.alloc (.cells #[.int .i64 d, .int .i64 e, .slice ya yn yc] 73)) := by
  subst hgb
  obtain ⟨i, hi, hz0, hz1, hz2⟩ := info_parts hinfo
  have hb := hown.1
  have hlt := hown.2.2.1.lt
  refine wpList_append_own _ hgd s x t ho base 73 i (.agg #[.int .i64 0, .int .i64 0, .slice none 0 0]) 3 40 ht hi hz0 hz1 hz2 rfl (by decide) v S.length _ hs (hown.2.2.1.alloc _) ⟨w.heap.size, 0, none⟩ 1 1 [.int .i64 d, .int .i64 e, .slice ya yn yc] hx rfl ?_ ?_ (by unfold maxLen; omega) (by omega) (Nat.le_trans hb (by simp)) ?_
  · intro j u hj
    match j, hj with
    | 0, hj => simp at hj; subst hj; simp [Addr.add]
    | 1, hj => simp at hj; subst hj; simp [Addr.add]
    | 2, hj => simp at hj; subst hj; simp [Addr.add]
  · intro u hu; simp at hu; rcases hu with rfl | rfl | rfl <;> rfl
  · intro v' w' hown' hgrow _
    refine h v' w' (OwnT.pushed (x := (d, e, xs)) hown hy hyb hown' hgrow) ?_
    exact ((Below.refl base w).alloc hb _).grown hgrow (Nat.le_trans hb (by simp)) (fun g hg => (hlt g hg).1)
theorem Try.info73 : (Try.prog.info? 73).map (fun i => (i.zero, i.size, i.bytes)) = some (some (.agg #[.int .i64 0, .int .i64 0, .slice none 0 0]), 3, 40) := by kernel_rfl
end Go.Proofs.Ytcikmgdfelejpaa
