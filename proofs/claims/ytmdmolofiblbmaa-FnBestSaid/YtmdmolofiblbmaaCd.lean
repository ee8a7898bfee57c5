/- Codes: read, own, compared, marked. -/
import Derived.Test.YtmdmolofiblbmaaInts
namespace Go.Proofs.Ytmdmolofiblbmaa
open Go.RowKit
set_option linter.unusedVariables false

/-- Codes that are read: two slices of ints. -/
def CV (w : World) (v : Value) (cs ss : List Int) : Prop :=
  ∃ a0 c0 a1 c1, v = .agg #[.slice a0 cs.length c0, .slice a1 ss.length c1] ∧ View .i64 w a0 cs.length cs ∧ View .i64 w a1 ss.length ss

theorem CV.below {w w' : World} {v : Value} {cs ss : List Int} (h : CV w v cs ss) (hb : Below w.heap.size w w') : CV w' v cs ss := by
  obtain ⟨a0, c0, a1, c1, rfl, h0, h1⟩ := h
  exact ⟨a0, c0, a1, c1, rfl, h0.below (Nat.le_refl _) hb, h1.below (Nat.le_refl _) hb⟩

theorem Own.mono {w : World} {base base' : Nat} {e : TypeId} {k : IntKind} {v : Value} {xs : List Int} (h : Own w base e k v xs) (hb : base' ≤ base) : Own w base' e k v xs := by
  refine ⟨Nat.le_trans hb h.1, h.2.1, ?_⟩
  rcases h.2.2 with h0 | ⟨g, cap, cur, hv, hg, r⟩
  · exact .inl h0
  · exact .inr ⟨g, cap, cur, hv, Nat.le_trans hb hg, r⟩

/-- Codes that are the call's own: two slices that share no block. -/
def COwn (w : World) (base : Nat) (v : Value) (cs ss : List Int) : Prop :=
  ∃ va vb m, v = .agg #[va, vb] ∧ base ≤ m ∧ Own w base 3 .i64 va cs ∧ Own w m 3 .i64 vb ss ∧ ∀ a n c, va = .slice (some a) n c → a.block < m
theorem COwn.cv {w : World} {base : Nat} {v : Value} {cs ss : List Int} (h : COwn w base v cs ss) : CV w v cs ss := by
  obtain ⟨va, vb, m, rfl, _, h0, h1, _⟩ := h
  obtain ⟨a0, c0, rfl, v0⟩ := h0.view
  obtain ⟨a1, c1, rfl, v1⟩ := h1.view
  exact ⟨a0, c0, a1, c1, rfl, v0, v1⟩
theorem COwn.below {w w' : World} {base : Nat} {v : Value} {cs ss : List Int} (h : COwn w base v cs ss) (hb : Below w.heap.size w w') : COwn w' base v cs ss := by
  obtain ⟨va, vb, m, rfl, hm, h0, h1, h2⟩ := h
  exact ⟨va, vb, m, rfl, hm, h0.below hb, h1.below hb, h2⟩

/-- Block b holds a struct of two cells. -/
def Two (w : World) (b : Nat) (x y : Value) (t : TypeId) : Prop := w.heap[b]? = some (.cells #[x, y] t (0, 0))
theorem Two.cells {w : World} {b : Nat} {x y : Value} {t : TypeId} (h : Two w b x y t) :
    w.cell? ⟨b, 0, none⟩ = some x ∧ w.cell? ⟨b, 1, none⟩ = some y ∧ w.frozen? ⟨b, 0, none⟩ = false ∧ w.frozen? ⟨b, 1, none⟩ = false := by
  unfold Two at h
  simp [World.cell?, World.frozen?, h]
theorem Two.lt {w : World} {b : Nat} {x y : Value} {t : TypeId} (h : Two w b x y t) : b < w.heap.size := (Array.getElem?_eq_some_iff.1 h).1
theorem Two.new (w : World) (x y : Value) (t : TypeId) : Two (w.alloc (.cells #[x, y] t)) w.heap.size x y t := heap_alloc_new w _
theorem Two.below {w w' : World} {B b : Nat} {x y : Value} {t : TypeId} (h : Two w b x y t) (hb : Below B w w') (hB : b < B) : Two w' b x y t := (hb.block b hB).trans h
theorem Two.alloc {w : World} {b : Nat} {x y : Value} {t : TypeId} (h : Two w b x y t) (o : Obj) : Two (w.alloc o) b x y t := h.below ((Below.refl _ _).alloc (Nat.le_refl _) _) h.lt
theorem Two.set0 {w : World} {b : Nat} {x y : Value} {t : TypeId} (h : Two w b x y t) (u : Value) : Two (w.setCell ⟨b, 0, none⟩ u) b u y t := heap_setCell_same w b 0 _ t u h
theorem Two.set1 {w : World} {b : Nat} {x y : Value} {t : TypeId} (h : Two w b x y t) (u : Value) : Two (w.setCell ⟨b, 1, none⟩ u) b x u t := heap_setCell_same w b 1 _ t u h
theorem Two.other {w : World} {b c i : Nat} {x y : Value} {t : TypeId} (h : Two w b x y t) (hne : b ≠ c) (u : Value) : Two (w.setCell ⟨c, i, none⟩ u) b x y t := (Below.heap_setCell _ _ _ _ (fun e => hne (by rw [e]))).trans h

set_option maxHeartbeats 800000 in
/-- Two Codes that read as the same numbers. -/
theorem eqCodes_same (v v' : Value) (cs ss : List Int) (w : World) (h0 : cs.length ≤ 1048576) (h1 : ss.length ≤ 1048576) (hv : CV w v cs ss) (hv' : CV w v' cs ss) :
    Calls Try.prog 26 #[v, v'] w fun e w' => e = .returned (.bool true) ∧ Below w.heap.size w w' := by
  obtain ⟨a0, c0, a1, c1, rfl, u0, u1⟩ := hv
  obtain ⟨b0, d0, b1, d1, rfl, x0, x1⟩ := hv'
  have t0 := Two.new w (.slice a0 cs.length c0) (.slice a1 ss.length c1) 26
  have t1 := Two.new (w.alloc (.cells #[.slice a0 cs.length c0, .slice a1 ss.length c1] 26)) (.slice b0 cs.length d0) (.slice b1 ss.length d1) 26
  have T0 := hid (t0.alloc (.cells #[.slice b0 cs.length d0, .slice b1 ss.length d1] 26))
  have T1 := hid t1
  have B0 := hid (((Below.refl w.heap.size w).alloc (Nat.le_refl _) (.cells #[.slice a0 cs.length c0, .slice a1 ss.length c1] 26)).alloc (by simp) (.cells #[.slice b0 cs.length d0, .slice b1 ss.length d1] 26))
  simp only [World.size_alloc] at T1
  have U0 := hid u0
  have U1 := hid u1
  have X0 := hid x0
  have X1 := hid x1
  clear t0 t1 u0 u1 x0 x1
  go_enter Try.func26, Try.ntmps26
  go_wp2_with fail
  refine (eqInts_same a0 b0 cs.length c0 d0 cs _ (by omega) (U0.out.below (Nat.le_refl _) B0.out) (X0.out.below (Nat.le_refl _) B0.out)).mono ?_
  generalize (w.alloc _).alloc _ = wa at *
  rintro e w1 ⟨rfl, hb1⟩
  have Y0 := hid (T0.out.below hb1 T0.out.lt)
  have Y1 := hid (T1.out.below hb1 T1.out.lt)
  have BB1 := hid (B0.out.trans (hb1.mono B0.out.size))
  clear hb1 T0 T1
  obtain ⟨q1, q2, q3, q4⟩ := Y0.out.cells
  obtain ⟨q5, q6, q7, q8⟩ := Y1.out.cells
  go_wp2_with fail
  refine (eqInts_same a1 b1 ss.length c1 d1 ss _ (by omega) (U1.out.below (Nat.le_refl _) BB1.out) (X1.out.below (Nat.le_refl _) BB1.out)).mono ?_
  rintro e w2 ⟨rfl, hb2⟩
  have BB2 := hid (BB1.out.trans (hb2.mono BB1.out.size))
  clear hb2
  go_wp2
  go_ret
  exact ⟨rfl, BB2.out⟩
def Spare (B m : Nat) (w w' : World) : Prop := w'.os = w.os ∧ w'.tape = w.tape ∧ w'.output = w.output ∧ w.heap.size ≤ w'.heap.size ∧ ∀ g, g < w.heap.size → g < B ∨ m ≤ g → w'.heap[g]? = w.heap[g]?
theorem Spare.refl (B m : Nat) (w : World) : Spare B m w w := ⟨rfl, rfl, rfl, Nat.le_refl _, fun _ _ _ => rfl⟩
theorem Spare.trans {B m : Nat} {a b c : World} (h : Spare B m a b) (k : Spare B m b c) : Spare B m a c :=
  ⟨k.1.trans h.1, k.2.1.trans h.2.1, k.2.2.1.trans h.2.2.1, Nat.le_trans h.2.2.2.1 k.2.2.2.1, fun g hg hc => (k.2.2.2.2 g (Nat.lt_of_lt_of_le hg h.2.2.2.1) hc).trans (h.2.2.2.2 g hg hc)⟩
theorem Spare.ofBelow {B m : Nat} {a b : World} (h : Below a.heap.size a b) : Spare B m a b := ⟨h.os, h.tape, h.output, h.size, fun g hg _ => h.block g hg⟩
theorem Spare.below {B m : Nat} {a b : World} (h : Spare B m a b) (hB : B ≤ a.heap.size) : Below B a b := ⟨h.1, h.2.1, h.2.2.1, h.2.2.2.1, fun k hk => h.2.2.2.2 k (Nat.lt_of_lt_of_le hk hB) (.inl hk)⟩
theorem Spare.own {B m base : Nat} {a b : World} {e : TypeId} {k : IntKind} {v : Value} {xs : List Int} (h : Spare B m a b) (ho : Own a base e k v xs) (hb : m ≤ base) : Own b base e k v xs := by
  refine ⟨Nat.le_trans ho.1 h.2.2.2.1, ho.2.1, ?_⟩
  rcases ho.2.2 with h0 | ⟨g, cap, cur, hv, hg, hh, r⟩
  · exact .inl h0
  · exact .inr ⟨g, cap, cur, hv, hg, (h.2.2.2.2 g (Array.getElem?_eq_some_iff.1 hh).1 (.inr (by omega))).trans hh, r⟩
theorem Spare.two {B m b : Nat} {w w' : World} {x y : Value} {t : TypeId} (h : Spare B m w w') (ht : Two w b x y t) (hb : b < B ∨ m ≤ b) : Two w' b x y t := (h.2.2.2.2 b ht.lt hb).trans ht


/-- A slice that reads as xs. -/
def Vw (w : World) (v : Value) (xs : List Int) : Prop := ∃ ao cap, v = .slice ao xs.length cap ∧ View .i64 w ao xs.length xs
theorem Vw.below {w w' : World} {v : Value} {xs : List Int} (h : Vw w v xs) (hb : Below w.heap.size w w') : Vw w' v xs := by
  obtain ⟨ao, c, hv, hw⟩ := h
  exact ⟨ao, c, hv, hw.below (Nat.le_refl _) hb⟩
/-- The marks s, s + 1, ... -/
def marksF (s : Int) (n : Nat) : List Int := (List.range n).map fun (i : Nat) => s + (i : Int)
theorem marksF_length (s : Int) (n : Nat) : (marksF s n).length = n := by simp [marksF]
theorem marksF_get (s : Int) (n j : Nat) (h : j < n) : (marksF s n).getD j 0 = s + (j : Int) := by simp [marksF, List.getD, h]
/-- Only the slice's own block has turned. -/
def Lone (v : Value) (w w' : World) : Prop := w'.heap.size = w.heap.size ∧ ∀ b, v.ownBlock ≠ some b → w'.heap[b]? = w.heap[b]?
theorem Own.lone {w w' : World} {base : Nat} {v y : Value} {xs : List Int} (h : Own w base 3 .i64 y xs) (hl : Lone v w w') (hne : ∀ g, v.ownBlock = some g → y.ownBlock ≠ some g) : Own w' base 3 .i64 y xs := by
  refine ⟨by rw [hl.1]; exact h.1, h.2.1, ?_⟩
  rcases h.2.2 with h0 | ⟨g, cap, cur, hv, hg, hh, r⟩
  · exact .inl h0
  · refine .inr ⟨g, cap, cur, hv, hg, (hl.2 g (fun e => hne g e (by rw [hv]; rfl))).trans hh, r⟩

set_option maxHeartbeats 800000 in
/-- The marks are written into the slice, and nowhere else. -/
theorem markF (s : Int) (hs0 : 0 ≤ s) (hs1 : s ≤ 1000000000) (base : Nat) (v : Value) (ys : List Int) (w : World) (hn : ys.length ≤ 1000000000) (ho : Own w base 3 .i64 v ys) :
    Calls Try.prog 28 #[v, .int .i64 s] w fun e w' => e = .returned (.int .i64 (s + (ys.length : Int))) ∧ Own w' base 3 .i64 v (marksF s ys.length) ∧ Lone v w w' ∧ Below base w w' := by
  rcases ho.2.2 with ⟨rfl, h0⟩ | ⟨g, cap, cur, rfl, _⟩
  · have e : ys = [] := List.length_eq_zero_iff.1 h0
    subst e
    have HO := hid ho
    clear ho
    go_enter Try.func28, Try.ntmps28
    go_wp2
    go_loop [1, 5] (fun m i => m = .int .i64 s ∧ i = .int .i64 0) (fun _ _ => 0)
    case atStart => exact ⟨rfl, rfl⟩
    case round =>
      obtain ⟨rfl, rfl⟩ := hrel
      go_wp2
      go_ret
      exact ⟨ret_int (by simp), HO.out, ⟨rfl, fun _ _ => rfl⟩, Below.refl _ _⟩
  · have HO := hid ho
    have hge := ho.ge.1
    generalize hN : ys.length = n at *
    have HN := hid hN
    clear ho hN
    go_enter Try.func28, Try.ntmps28
    go_wp2
    go_loopw [1, 5] (fun m i wr => ∃ (k : Nat) (zs : List Int), k ≤ n ∧ i = .int .i64 k ∧ m = .int .i64 (s + (k : Int)) ∧ Own wr base 3 .i64 (.slice (some ⟨g, 0, none⟩) n cap) zs ∧ Hid (zs.length = n ∧ ∀ j, j < k → zs.getD j 0 = s + (j : Int)) ∧ Hid (Lone (.slice (some ⟨g, 0, none⟩) n cap) w wr) ∧ Below base w wr) (fun _ i _ => n - (intOf i).toNat)
    case atStart => exact ⟨0, ys, by omega, rfl, by simp, HO.out, ⟨HN.out, fun j hj => by omega⟩, ⟨rfl, fun _ _ => rfl⟩, Below.refl _ _⟩
    case round =>
      obtain ⟨k, zs, hk, rfl, rfl, hown, hzs, hln, hb⟩ := hrel
      by_cases hlt : k < n
      · have hold := hown.at k (by have := hzs.out.1; omega)
        have hfree := hown.free k
        have HNEW := hid (hown.store k (s + (k : Int)))
        have HLN := hid (show Lone (.slice (some ⟨g, 0, none⟩) n cap) w (wr.setCell ⟨g, k, none⟩ (.int .i64 (s + (k : Int)))) from ⟨by simpa using hln.out.1, fun b hbb => (heap_setCell_other _ ⟨g, k, none⟩ b _ (fun e => hbb (by simp only [Value.ownBlock]; rw [e]))).trans (hln.out.2 b hbb)⟩)
        generalize zs.getD k 0 = Y at *
        go_wp2
        go_roundw
        case rel =>
          refine ⟨k + 1, _, by omega, by go_num, by go_num, HNEW.out, ⟨by simp; exact hzs.out.1, fun j hj => ?_⟩, HLN.out, hb.setCell (p := ⟨g, k, none⟩) hge _⟩
          by_cases e : j = k
          · subst e
            simp [List.getD, hzs.out.1, hlt]
          · rw [← hzs.out.2 j (by omega)]
            simp [List.getD, show k ≠ j from fun h => e h.symm]
        case measure => simp [intOf]; omega
      · obtain rfl : k = n := by omega
        have hxy : zs = marksF s k := list_eq_of_getD (by rw [hzs.out.1, marksF_length]) (fun i hi => by rw [hzs.out.2 i (by rw [← hzs.out.1]; exact hi), marksF_get s k i (by rw [← hzs.out.1]; exact hi)])
        subst hxy
        go_wp2
        go_ret
        exact ⟨rfl, hown, hln.out, hb⟩
set_option maxHeartbeats 800000 in
theorem heldF (s : Int) (hs0 : 0 ≤ s) (hs1 : s ≤ 1000000000) (v : Value) (n : Nat) (w : World) (hn : n ≤ 1000000000) (h : Vw w v (marksF s n)) :
    Calls Try.prog 54 #[v, .int .i64 s] w fun e w' => e = .returned (.int .i64 (s + (n : Int))) ∧ w = w' := by
  obtain ⟨ao, cap, rfl, hv⟩ := h
  rw [marksF_length] at hv ⊢
  have HV := hid hv
  clear hv
  go_enter Try.func54, Try.ntmps54
  go_wp2
  go_loop [1, 5] (fun m i => ∃ k : Nat, k ≤ n ∧ i = .int .i64 k ∧ m = .int .i64 (s + (k : Int))) (fun _ i => n - (intOf i).toNat)
  case atStart => exact ⟨0, by omega, rfl, by simp⟩
  case round =>
    obtain ⟨k, hk, rfl, rfl⟩ := hrel
    by_cases hlt : k < n
    · obtain ⟨b, off, rfl, hc⟩ := HV.out.2 k hlt
      rw [marksF_get s n k hlt] at hc
      go_wp2
      go_round
      case rel => exact ⟨k + 1, by omega, by go_num, by go_num⟩
      case measure => simp [intOf]; omega
    · obtain rfl : k = n := by omega
      go_wp2
      go_ret
      exact ⟨rfl, rfl⟩

theorem vw_of {w : World} {base : Nat} {v : Value} {xs : List Int} (h : Own w base 3 .i64 v xs) : Vw w v xs := h.view

set_option maxHeartbeats 800000 in
/-- The marks are written into own codes, and nowhere else. -/
theorem markC (base : Nat) (v : Value) (cs ss : List Int) (wo w : World) (h0 : cs.length ≤ 1048576) (h1 : ss.length ≤ 1048576) (hoo : COwn wo base v cs ss) (hbo : Below wo.heap.size wo w) :
    Calls Try.prog 29 #[v, .int .i64 1] w fun e w' => e = .returned (.int .i64 (1 + (cs.length : Int) + (ss.length : Int))) ∧ COwn w' base v (marksF 1 cs.length) (marksF (1 + (cs.length : Int)) ss.length) ∧ Spare base wo.heap.size w w' := by
  have hso := hbo.size
  have ho := hoo.below hbo
  have hbw : base ≤ w.heap.size := by obtain ⟨_, _, _, _, _, h, _⟩ := ho; exact h.1
  have hlo : ∀ va vb, v = .agg #[va, vb] → (∀ g, va.ownBlock = some g → g < wo.heap.size) ∧ (∀ g, vb.ownBlock = some g → g < wo.heap.size) := by
    obtain ⟨xa, xb, m', rfl, _, p0, p1, _⟩ := hoo
    intro va vb e
    cases e
    have hh : ∀ (x : Value) (b : Nat) (xs : List Int), Own wo b 3 .i64 x xs → ∀ g, x.ownBlock = some g → g < wo.heap.size := by
      intro x b xs hx g hg
      obtain ⟨a, c, rfl⟩ := hx.shape
      cases a with
      | none => simp [Value.ownBlock] at hg
      | some a =>
        have e : a.block = g := by simpa [Value.ownBlock] using hg
        have := hx.ge.2
        omega
    exact ⟨hh _ _ _ p0, hh _ _ _ p1⟩
  obtain ⟨va, vb, m, rfl, hm, o0, o1, hap⟩ := ho
  obtain ⟨a0, c0, rfl⟩ := o0.shape
  obtain ⟨a1, c1, rfl⟩ := o1.shape
  have HLO := hid (hlo _ _ rfl)
  clear hlo hoo hbo
  have HB := hid ((Below.refl w.heap.size w).alloc (Nat.le_refl _) (.cells #[.slice a0 cs.length c0, .slice a1 ss.length c1] 26))
  have HT := hid (Two.new w (.slice a0 cs.length c0) (.slice a1 ss.length c1) 26)
  have I0 := hid (o0.below HB.out)
  have I1 := hid (o1.below HB.out)
  have hmw : m ≤ w.heap.size := o1.1
  have N0 : Hid (∀ g, Value.ownBlock (.slice a0 cs.length c0) = some g → g < w.heap.size ∧ g < m) := by
    intro g hg
    cases a0 with
    | none => simp [Value.ownBlock] at hg
    | some a =>
      have e : a.block = g := by simpa [Value.ownBlock] using hg
      have := hap a _ _ rfl
      omega
  have N1 : Hid (∀ g, Value.ownBlock (.slice a1 ss.length c1) = some g → g < w.heap.size ∧ m ≤ g) := by
    intro g hg
    cases a1 with
    | none => simp [Value.ownBlock] at hg
    | some a =>
      have e : a.block = g := by simpa [Value.ownBlock] using hg
      have := o1.ge
      omega
  have HAP := hid hap
  clear o0 o1 hap
  go_enter Try.func29, Try.ntmps29
  go_wp2_with fail
  refine (markF 1 (by decide) (by decide) base (.slice a0 cs.length c0) cs _ (by omega) I0.out).mono ?_
  generalize w.alloc (.cells #[.slice a0 cs.length c0, .slice a1 ss.length c1] 26) = wa at *
  rintro e w1 ⟨rfl, hg1, hln, hb1⟩
  have T1 := hid (show Two w1 w.heap.size (.slice a0 cs.length c0) (.slice a1 ss.length c1) 26 from (hln.2 w.heap.size (fun e => by have := (N0.out _ e).1; omega)).trans HT.out)
  have J1 := hid (I1.out.lone hln (fun g h h' => by have := (N0.out g h).2; have := (N1.out g h').2; omega))
  have J0 := hid hg1
  have B1 := hid ((HB.out.mono hbw).trans hb1)
  have S1 : Hid (∀ b, wo.heap.size ≤ b → b < w.heap.size → w1.heap[b]? = w.heap[b]?) := fun b h1 h2 => (hln.2 b (fun e => by have := HLO.out.1 b e; omega)).trans (HB.out.block b h2)
  clear hg1 hln hb1 I0 I1 HT HB
  obtain ⟨q0, q1, q2, q3⟩ := T1.out.cells
  go_wp2_with fail
  refine (markF (1 + (cs.length : Int)) (by omega) (by omega) m (.slice a1 ss.length c1) ss _ (by omega) J1.out).mono ?_
  rintro e w2 ⟨rfl, hg2, hln, hb2⟩
  have K0 := hid (J0.out.lone hln (fun g h h' => by have := (N1.out g h).2; have := (N0.out g h').2; omega))
  have K1 := hid hg2
  have B2 := hid (B1.out.trans (hb2.mono hm))
  have S2 : Hid (Spare base wo.heap.size w w2) := ⟨B2.out.os, B2.out.tape, B2.out.output, B2.out.size, fun g hg hh => by
    rcases hh with h | h
    · exact B2.out.block g h
    · exact (hln.2 g (fun e => by have := HLO.out.2 g e; omega)).trans (S1.out g h hg)⟩
  clear hg2 hln hb2 J0 J1
  go_wp2_with fail
  go_ret
  exact ⟨rfl, ⟨_, _, m, rfl, hm, K0.out, K1.out, HAP.out⟩, S2.out⟩

set_option maxHeartbeats 800000 in
theorem heldC (v : Value) (n0 n1 : Nat) (w : World) (h0 : n0 ≤ 1048576) (h1 : n1 ≤ 1048576) (hv : CV w v (marksF 1 n0) (marksF (1 + (n0 : Int)) n1)) :
    Calls Try.prog 30 #[v, .int .i64 1] w fun e w' => e = .returned (.int .i64 (1 + (n0 : Int) + (n1 : Int))) ∧ Below w.heap.size w w' := by
  obtain ⟨a0, c0, a1, c1, rfl, u0, u1⟩ := hv
  rw [marksF_length] at u0 u1 ⊢
  rw [marksF_length]
  have HB := hid ((Below.refl w.heap.size w).alloc (Nat.le_refl _) (.cells #[.slice a0 n0 c0, .slice a1 n1 c1] 26))
  have HT := hid (Two.new w (.slice a0 n0 c0) (.slice a1 n1 c1) 26)
  have V0 : Hid (Vw (w.alloc (.cells #[.slice a0 n0 c0, .slice a1 n1 c1] 26)) (.slice a0 n0 c0) (marksF 1 n0)) := ⟨a0, c0, by rw [marksF_length], by rw [marksF_length]; exact u0.below (Nat.le_refl _) HB.out⟩
  have V1 : Hid (Vw (w.alloc (.cells #[.slice a0 n0 c0, .slice a1 n1 c1] 26)) (.slice a1 n1 c1) (marksF (1 + (n0 : Int)) n1)) := ⟨a1, c1, by rw [marksF_length], by rw [marksF_length]; exact u1.below (Nat.le_refl _) HB.out⟩
  clear u0 u1
  obtain ⟨q0, q1, q2, q3⟩ := HT.out.cells
  have hp0 : ¬ ((1 : Int) + (n0 : Int) < 0) := by omega
  have hp1 : ¬ ((1 : Int) + (n0 : Int) + (n1 : Int) < 0) := by omega
  go_enter Try.func30, Try.ntmps30
  go_wp2_with fail
  refine (heldF 1 (by decide) (by decide) _ n0 _ (by omega) V0.out).mono ?_
  rintro e w1 ⟨rfl, rfl⟩
  go_wp2_with fail
  refine (heldF (1 + (n0 : Int)) (by omega) (by omega) _ n1 _ (by omega) V1.out).mono ?_
  rintro e w1 ⟨rfl, rfl⟩
  go_wp2_with fail
  go_ret
  exact ⟨rfl, HB.out⟩

end Go.Proofs.Ytmdmolofiblbmaa
