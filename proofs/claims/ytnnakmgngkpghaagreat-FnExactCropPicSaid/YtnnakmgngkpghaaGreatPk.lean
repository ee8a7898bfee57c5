/- Pictures in memory; contracts of the bounds of a picture, of picScan and of PicOk, of the program and of the specification. -/
import Derived.Test.YtnnakmgngkpghaaGreatScb
import Derived.Deep.QuietTactic
namespace Go.Proofs.YtnnakmgngkpghaaGreat
open Go.RowKit Go.Maps
set_option linter.unusedVariables false

/-- A picture, plain. -/
structure Pk where
  W : Int
  H : Int
  T : Tb
  N : ByteArray
  L : List (Int × List Int)
def Pk.ok (p : Pk) : Bool := decide ((1 ≤ p.W ∧ p.W ≤ 40) ∧ (1 ≤ p.H ∧ p.H ≤ 40) ∧ (p.N.size : Int) ≤ 500 ∧ (p.L.length : Int) = p.W * p.H)
/-- A picture that is read. -/
def PV (w : World) (v : Value) (p : Pk) : Prop :=
  ∃ a0 c0 a1 c1 a2 c2 a3 c3 ao cap, v = .agg #[.int .i64 p.W, .int .i64 p.H, .slice a0 p.T.cs.length c0, .slice a1 p.T.ss.length c1, .slice a2 p.T.ct.length c2, .slice a3 p.T.st.length c3, .string p.N, .slice ao p.L.length cap] ∧
    TV w (.agg #[.slice a0 p.T.cs.length c0, .slice a1 p.T.ss.length c1, .slice a2 p.T.ct.length c2, .slice a3 p.T.st.length c3]) p.T.cs p.T.ss p.T.ct p.T.st ∧ BRow w ao p.L
theorem PV.below {w w' : World} {v : Value} {p : Pk} (h : PV w v p) (hb : Below w.heap.size w w') : PV w' v p := by
  obtain ⟨a0, c0, a1, c1, a2, c2, a3, c3, ao, cap, rfl, ht, hv⟩ := h
  exact ⟨a0, c0, a1, c1, a2, c2, a3, c3, ao, cap, rfl, ht.below hb, hv.below hb⟩
/-- Sizes that the laws let by. -/
structure Pk.Fits (p : Pk) : Prop where
  h0 : p.T.cs.length ≤ 1048576
  h1 : p.T.ss.length ≤ 1048576
  h2 : p.T.ct.length ≤ 1048576
  h3 : p.T.st.length ≤ 1048576
  hN : p.N.size ≤ 1048576
  hn : p.L.length ≤ 1048576
  hs : ∀ j, j < p.L.length → (nth p.L j).2.length ≤ 1048576

/-- Block b holds eight cells. -/
def Eig (w : World) (b : Nat) (x0 x1 x2 x3 x4 x5 x6 x7 : Value) (t : TypeId) : Prop := w.heap[b]? = some (.cells #[x0, x1, x2, x3, x4, x5, x6, x7] t (0, 0))
theorem Eig.cells {w : World} {b : Nat} {x0 x1 x2 x3 x4 x5 x6 x7 : Value} {t : TypeId} (h : Eig w b x0 x1 x2 x3 x4 x5 x6 x7 t) :
    w.cell? ⟨b, 0, none⟩ = some x0 ∧ w.cell? ⟨b, 1, none⟩ = some x1 ∧ w.cell? ⟨b, 2, none⟩ = some x2 ∧ w.cell? ⟨b, 3, none⟩ = some x3 ∧ w.cell? ⟨b, 4, none⟩ = some x4 ∧ w.cell? ⟨b, 5, none⟩ = some x5 ∧ w.cell? ⟨b, 6, none⟩ = some x6 ∧ w.cell? ⟨b, 7, none⟩ = some x7 := by
  refine ⟨?_, ?_, ?_, ?_, ?_, ?_, ?_, ?_⟩
  · rw [cell_of_row w b 0 _ t (0, 0) h]; rfl
  · rw [cell_of_row w b 1 _ t (0, 0) h]; rfl
  · rw [cell_of_row w b 2 _ t (0, 0) h]; rfl
  · rw [cell_of_row w b 3 _ t (0, 0) h]; rfl
  · rw [cell_of_row w b 4 _ t (0, 0) h]; rfl
  · rw [cell_of_row w b 5 _ t (0, 0) h]; rfl
  · rw [cell_of_row w b 6 _ t (0, 0) h]; rfl
  · rw [cell_of_row w b 7 _ t (0, 0) h]; rfl
theorem Eig.lt {w : World} {b : Nat} {x0 x1 x2 x3 x4 x5 x6 x7 : Value} {t : TypeId} (h : Eig w b x0 x1 x2 x3 x4 x5 x6 x7 t) : b < w.heap.size := (Array.getElem?_eq_some_iff.1 h).1
theorem Eig.new (w : World) (x0 x1 x2 x3 x4 x5 x6 x7 : Value) (t : TypeId) : Eig (w.alloc (.cells #[x0, x1, x2, x3, x4, x5, x6, x7] t)) w.heap.size x0 x1 x2 x3 x4 x5 x6 x7 t := heap_alloc_new w _
theorem Eig.below {w w' : World} {B b : Nat} {x0 x1 x2 x3 x4 x5 x6 x7 : Value} {t : TypeId} (h : Eig w b x0 x1 x2 x3 x4 x5 x6 x7 t) (hb : Below B w w') (hB : b < B) : Eig w' b x0 x1 x2 x3 x4 x5 x6 x7 t := (hb.block b hB).trans h
theorem Eig.free {w : World} {b : Nat} {x0 x1 x2 x3 x4 x5 x6 x7 : Value} {t : TypeId} (h : Eig w b x0 x1 x2 x3 x4 x5 x6 x7 t) (j : Nat) : w.frozen? ⟨b, j, none⟩ = false := frozen_of_row w b j _ t h

theorem isSide_any (x : Int) (w : World) : Calls Tryz.prog 63 #[.int .i64 x] w fun e w' => e = .returned (.bool (decide (1 ≤ x ∧ x ≤ 40))) ∧ w = w' := by
  by_cases h1 : 1 ≤ x
  · by_cases h2 : x ≤ 40
    · go_enter Tryz.func63, Tryz.ntmps63
      go_wp2
      go_ret
      exact ⟨ret_bool (decide_eq_true ⟨h1, h2⟩).symm, rfl⟩
    · go_enter Tryz.func63, Tryz.ntmps63
      go_wp2
      go_ret
      exact ⟨ret_bool (decide_eq_false (by omega)).symm, rfl⟩
  · have hd : decide (1 ≤ x ∧ x ≤ 40) = false := decide_eq_false (by omega)
    rw [hd]
    clear hd
    go_enter Tryz.func63, Tryz.ntmps63
    go_wp2
    go_ret
    exact ⟨rfl, rfl⟩

set_option maxRecDepth 100000 in
set_option maxHeartbeats 800000 in
theorem bounds_any (v : Value) (p : Pk) (w : World) (hf : p.Fits) (hv : PV w v p) :
    Calls Tryz.prog 41 #[v] w fun e w' => e = .returned (.bool p.ok) ∧ Below w.heap.size w w' := by
  obtain ⟨a0, c0, a1, c1, a2, c2, a3, c3, ao, cap, rfl, _, _⟩ := hv
  obtain ⟨_, _, _, _, hN, hn, _⟩ := hf
  have HO := hid (show p.ok = decide ((1 ≤ p.W ∧ p.W ≤ 40) ∧ (1 ≤ p.H ∧ p.H ≤ 40) ∧ (p.N.size : Int) ≤ 500 ∧ (p.L.length : Int) = p.W * p.H) from rfl)
  generalize p.ok = OK at *
  generalize p.W = W at *
  generalize p.H = H at *
  generalize p.N = N at *
  generalize p.T.cs.length = n0 at *
  generalize p.T.ss.length = n1 at *
  generalize p.T.ct.length = n2 at *
  generalize p.T.st.length = n3 at *
  generalize p.L.length = n at *
  have HB := hid ((Below.refl w.heap.size w).alloc (Nat.le_refl _) (.cells #[.int .i64 W, .int .i64 H, .slice a0 n0 c0, .slice a1 n1 c1, .slice a2 n2 c2, .slice a3 n3 c3, .string N, .slice ao n cap] 36))
  have HE := hid (Eig.new w (.int .i64 W) (.int .i64 H) (.slice a0 n0 c0) (.slice a1 n1 c1) (.slice a2 n2 c2) (.slice a3 n3 c3) (.string N) (.slice ao n cap) 36)
  obtain ⟨q0, q1, q2, q3, q4, q5, q6, q7⟩ := HE.out.cells
  have HI := hid (fun x q => spec_in x 1 40 q)
  by_cases hW : 1 ≤ W ∧ W ≤ 40
  · have dW := in_yes hW
    by_cases hH : 1 ≤ H ∧ H ≤ 40
    · have dH := in_yes hH
      by_cases hN5 : (N.size : Int) ≤ 500
      · have hm0 : 0 ≤ W * H := Int.mul_nonneg (by omega) (by omega)
        have hm1 : W * H ≤ 40 * 40 := Int.mul_le_mul hW.2 hH.2 (by omega) (by omega)
        have HEQ : Hid (((n : Int) == wrap64 (W * H)) = OK) := by
          show _ = _
          rw [HO.out, w64 (by omega) (by omega)]
          by_cases he : (n : Int) = W * H
          · rw [decide_eq_true ⟨hW, hH, hN5, he⟩]; simp [he]
          · rw [decide_eq_false (fun h => he h.2.2.2)]; simp [he]
        clear hm0 hm1
        go_enter Tryz.func41, Tryz.ntmps41
        go_wp2_with fail
        refine (HI.out _ _).mono ?_
        rw [dW]
        rintro e w1 ⟨rfl, rfl⟩
        go_wp2_with fail
        refine (HI.out _ _).mono ?_
        rw [dH]
        rintro e w1 ⟨rfl, rfl⟩
        go_wp2_with fail
        go_ret
        exact ⟨ret_bool HEQ.out, HB.out⟩
      · have HOO : Hid (OK = false) := HO.out.trans (decide_eq_false (fun h => hN5 h.2.2.1))
        rw [HOO.out]
        go_enter Tryz.func41, Tryz.ntmps41
        go_wp2_with fail
        refine (HI.out _ _).mono ?_
        rw [dW]
        rintro e w1 ⟨rfl, rfl⟩
        go_wp2_with fail
        refine (HI.out _ _).mono ?_
        rw [dH]
        rintro e w1 ⟨rfl, rfl⟩
        go_wp2_with fail
        go_ret
        exact ⟨rfl, HB.out⟩
    · have dH := in_no hH
      have HOO : Hid (OK = false) := HO.out.trans (decide_eq_false (fun h => hH h.2.1))
      rw [HOO.out]
      clear hH
      go_enter Tryz.func41, Tryz.ntmps41
      go_wp2_with fail
      refine (HI.out _ _).mono ?_
      rw [dW]
      rintro e w1 ⟨rfl, rfl⟩
      go_wp2_with fail
      refine (HI.out _ _).mono ?_
      rw [dH]
      rintro e w1 ⟨rfl, rfl⟩
      go_wp2_with fail
      go_ret
      exact ⟨rfl, HB.out⟩
  · have dW := in_no hW
    have HOO : Hid (OK = false) := HO.out.trans (decide_eq_false (fun h => hW h.1))
    rw [HOO.out]
    clear hW
    go_enter Tryz.func41, Tryz.ntmps41
    go_wp2_with fail
    refine (HI.out _ _).mono ?_
    rw [dW]
    rintro e w1 ⟨rfl, rfl⟩
    go_wp2_with fail
    go_ret
    exact ⟨rfl, HB.out⟩

set_option maxRecDepth 100000 in
set_option maxHeartbeats 1600000 in
/-- The program's picScan: what ScanText tells where the bounds hold. -/
theorem picScan_any (v : Value) (p : Pk) (w : World) (hf : p.Fits) (hv : PV w v p) (U : ByteArray) (F : Bool)
    (hs : ∀ v ao cap w, TV w v p.T.cs p.T.ss p.T.ct p.T.st → BRow w ao p.L → Calls Tryz.prog 64 #[v, .slice ao p.L.length cap] w fun e w' => e = .returned (.tuple #[.string U, .bool F]) ∧ Below w.heap.size w w') :
    Calls Tryz.prog 46 #[v] w fun e w' => e = .returned (if p.ok = true then .tuple #[.string U, .bool F] else .tuple #[.string ⟨#[]⟩, .bool false]) ∧ Below w.heap.size w w' := by
  obtain ⟨a0, c0, a1, c1, a2, c2, a3, c3, ao, cap, rfl, ht, hb⟩ := hv
  obtain ⟨_, _, _, _, hN, hn, _⟩ := hf
  have HO := hid (show p.ok = decide ((1 ≤ p.W ∧ p.W ≤ 40) ∧ (1 ≤ p.H ∧ p.H ≤ 40) ∧ (p.N.size : Int) ≤ 500 ∧ (p.L.length : Int) = p.W * p.H) from rfl)
  have HS := hid (fun q (hq : Below w.heap.size w q) => hs (.agg #[.slice a0 p.T.cs.length c0, .slice a1 p.T.ss.length c1, .slice a2 p.T.ct.length c2, .slice a3 p.T.st.length c3]) ao cap q (ht.below hq) (hb.below hq))
  clear hs ht hb
  generalize p.ok = OK at *
  generalize p.W = W at *
  generalize p.H = H at *
  generalize p.N = N at *
  generalize p.T.cs.length = n0 at *
  generalize p.T.ss.length = n1 at *
  generalize p.T.ct.length = n2 at *
  generalize p.T.st.length = n3 at *
  generalize p.L.length = n at *
  have HB := hid ((Below.refl w.heap.size w).alloc (Nat.le_refl _) (.cells #[.int .i64 W, .int .i64 H, .slice a0 n0 c0, .slice a1 n1 c1, .slice a2 n2 c2, .slice a3 n3 c3, .string N, .slice ao n cap] 36))
  have HE := hid (Eig.new w (.int .i64 W) (.int .i64 H) (.slice a0 n0 c0) (.slice a1 n1 c1) (.slice a2 n2 c2) (.slice a3 n3 c3) (.string N) (.slice ao n cap) 36)
  obtain ⟨q0, q1, q2, q3, q4, q5, q6, q7⟩ := HE.out.cells
  have HI := hid isSide_any
  by_cases hW : 1 ≤ W ∧ W ≤ 40
  · have dW := in_yes hW
    by_cases hH : 1 ≤ H ∧ H ≤ 40
    · have dH := in_yes hH
      by_cases hN5 : (N.size : Int) ≤ 500
      · have hm0 : 0 ≤ W * H := Int.mul_nonneg (by omega) (by omega)
        have hm1 : W * H ≤ 40 * 40 := Int.mul_le_mul hW.2 hH.2 (by omega) (by omega)
        have hww := w64 (x := W * H) (by omega) (by omega)
        by_cases he : (n : Int) = W * H
        · have HOO : Hid (OK = true) := HO.out.trans (decide_eq_true ⟨hW, hH, hN5, he⟩)
          have hE : ((n : Int) != wrap64 (W * H)) = false := by rw [hww]; simp [he]
          rw [HOO.out, if_pos rfl]
          clear hm0 hm1 hww he
          go_enter Tryz.func46, Tryz.ntmps46
          go_wp2_with fail
          refine (HI.out _ _).mono ?_
          rw [dW]
          rintro e w1 ⟨rfl, rfl⟩
          go_wp2_with fail
          refine (HI.out _ _).mono ?_
          rw [dH]
          rintro e w1 ⟨rfl, rfl⟩
          go_wp2_with fail
          refine (HS.out _ HB.out).mono ?_
          rintro e w1 ⟨rfl, hb1⟩
          have B1 := hid (HB.out.trans (hb1.mono HB.out.size))
          clear hb1
          go_wp2_with fail
          go_ret2
          exact ⟨rfl, B1.out⟩
        · have HOO : Hid (OK = false) := HO.out.trans (decide_eq_false (fun h => he h.2.2.2))
          have hE : ((n : Int) != wrap64 (W * H)) = true := by rw [hww]; simp [he]
          rw [HOO.out, if_neg (by decide)]
          clear hm0 hm1 hww he
          go_enter Tryz.func46, Tryz.ntmps46
          go_wp2_with fail
          refine (HI.out _ _).mono ?_
          rw [dW]
          rintro e w1 ⟨rfl, rfl⟩
          go_wp2_with fail
          refine (HI.out _ _).mono ?_
          rw [dH]
          rintro e w1 ⟨rfl, rfl⟩
          go_wp2_with fail
          go_ret2
          exact ⟨rfl, HB.out⟩
      · have HOO : Hid (OK = false) := HO.out.trans (decide_eq_false (fun h => hN5 h.2.2.1))
        rw [HOO.out, if_neg (by decide)]
        go_enter Tryz.func46, Tryz.ntmps46
        go_wp2_with fail
        refine (HI.out _ _).mono ?_
        rw [dW]
        rintro e w1 ⟨rfl, rfl⟩
        go_wp2_with fail
        refine (HI.out _ _).mono ?_
        rw [dH]
        rintro e w1 ⟨rfl, rfl⟩
        go_wp2_with fail
        go_ret2
        exact ⟨rfl, HB.out⟩
    · have dH := in_no hH
      have HOO : Hid (OK = false) := HO.out.trans (decide_eq_false (fun h => hH h.2.1))
      rw [HOO.out, if_neg (by decide)]
      clear hH
      go_enter Tryz.func46, Tryz.ntmps46
      go_wp2_with fail
      refine (HI.out _ _).mono ?_
      rw [dW]
      rintro e w1 ⟨rfl, rfl⟩
      go_wp2_with fail
      refine (HI.out _ _).mono ?_
      rw [dH]
      rintro e w1 ⟨rfl, rfl⟩
      go_wp2_with fail
      go_ret2
      exact ⟨rfl, HB.out⟩
  · have dW := in_no hW
    have HOO : Hid (OK = false) := HO.out.trans (decide_eq_false (fun h => hW h.1))
    rw [HOO.out, if_neg (by decide)]
    clear hW
    go_enter Tryz.func46, Tryz.ntmps46
    go_wp2_with fail
    refine (HI.out _ _).mono ?_
    rw [dW]
    rintro e w1 ⟨rfl, rfl⟩
    go_wp2_with fail
    go_ret2
    exact ⟨rfl, HB.out⟩

set_option maxRecDepth 100000 in
set_option maxHeartbeats 800000 in
theorem impl_picOk (v : Value) (p : Pk) (w : World) (hf : p.Fits) (hv : PV w v p) (U : ByteArray) (F : Bool)
    (hs : ∀ v ao cap w, TV w v p.T.cs p.T.ss p.T.ct p.T.st → BRow w ao p.L → Calls Tryz.prog 64 #[v, .slice ao p.L.length cap] w fun e w' => e = .returned (.tuple #[.string U, .bool F]) ∧ Below w.heap.size w w') :
    Calls Tryz.prog 24 #[v] w fun e w' => e = .returned (.bool (p.ok && F)) ∧ Below w.heap.size w w' := by
  have HS := hid (fun q (hq : Below w.heap.size w q) => picScan_any v p q hf (hv.below hq) U F hs)
  obtain ⟨a0, c0, a1, c1, a2, c2, a3, c3, ao, cap, rfl, _, _⟩ := hv
  clear hs hf
  have HB := hid ((Below.refl w.heap.size w).alloc (Nat.le_refl _) (.cells #[.int .i64 p.W, .int .i64 p.H, .slice a0 p.T.cs.length c0, .slice a1 p.T.ss.length c1, .slice a2 p.T.ct.length c2, .slice a3 p.T.st.length c3, .string p.N, .slice ao p.L.length cap] 36))
  generalize p.ok = OK at *
  cases OK with
  | true =>
    simp only [if_true, Bool.true_and] at HS ⊢
    go_enter Tryz.func24, Tryz.ntmps24
    go_wp2_with fail
    refine (HS.out _ HB.out).mono ?_
    rintro e w1 ⟨rfl, hb1⟩
    have B1 := hid (HB.out.trans (hb1.mono HB.out.size))
    clear hb1
    go_wp2_with fail
    go_ret
    exact ⟨rfl, B1.out⟩
  | false =>
    simp only [Bool.false_and] at HS ⊢
    go_enter Tryz.func24, Tryz.ntmps24
    go_wp2_with fail
    refine (HS.out _ HB.out).mono ?_
    rw [if_neg (by decide)]
    rintro e w1 ⟨rfl, hb1⟩
    have B1 := hid (HB.out.trans (hb1.mono HB.out.size))
    clear hb1
    go_wp2_with fail
    go_ret
    exact ⟨rfl, B1.out⟩

set_option maxRecDepth 100000 in
set_option maxHeartbeats 800000 in
theorem spec_picOk (v : Value) (p : Pk) (w : World) (hf : p.Fits) (hv : PV w v p) (U : ByteArray) (F : Bool)
    (hs : ∀ v ao cap w, TV w v p.T.cs p.T.ss p.T.ct p.T.st → BRow w ao p.L → Calls Tryz.prog 42 #[v, .slice ao p.L.length cap] w fun e w' => e = .returned (.tuple #[.string U, .bool F]) ∧ Below w.heap.size w w') :
    Calls Tryz.prog 19 #[v] w fun e w' => e = .returned (.bool (p.ok && F)) ∧ Below w.heap.size w w' := by
  have HS := hid (fun q (hq : Below w.heap.size w q) => bounds_any v p q hf (hv.below hq))
  obtain ⟨a0, c0, a1, c1, a2, c2, a3, c3, ao, cap, rfl, ht, hb⟩ := hv
  have HC := hid (fun q (hq : Below w.heap.size w q) => hs (.agg #[.slice a0 p.T.cs.length c0, .slice a1 p.T.ss.length c1, .slice a2 p.T.ct.length c2, .slice a3 p.T.st.length c3]) ao cap q (ht.below hq) (hb.below hq))
  clear hs hf ht hb
  have HB := hid ((Below.refl w.heap.size w).alloc (Nat.le_refl _) (.cells #[.int .i64 p.W, .int .i64 p.H, .slice a0 p.T.cs.length c0, .slice a1 p.T.ss.length c1, .slice a2 p.T.ct.length c2, .slice a3 p.T.st.length c3, .string p.N, .slice ao p.L.length cap] 36))
  have HE := hid (Eig.new w (.int .i64 p.W) (.int .i64 p.H) (.slice a0 p.T.cs.length c0) (.slice a1 p.T.ss.length c1) (.slice a2 p.T.ct.length c2) (.slice a3 p.T.st.length c3) (.string p.N) (.slice ao p.L.length cap) 36)
  generalize p.ok = OK at *
  cases OK with
  | true =>
    simp only [Bool.true_and] at HS ⊢
    go_enter Tryz.func19, Tryz.ntmps19
    go_wp2_with fail
    refine (HS.out _ HB.out).mono ?_
    generalize w.alloc (.cells #[.int .i64 p.W, .int .i64 p.H, .slice a0 p.T.cs.length c0, .slice a1 p.T.ss.length c1, .slice a2 p.T.ct.length c2, .slice a3 p.T.st.length c3, .string p.N, .slice ao p.L.length cap] 36) = wa at *
    rintro e w1 ⟨rfl, hb1⟩
    have B1 := hid (HB.out.trans (hb1.mono HB.out.size))
    obtain ⟨q0, q1, q2, q3, q4, q5, q6, q7⟩ := (HE.out.below hb1 HE.out.lt).cells
    clear hb1
    go_wp2_with fail
    refine (HC.out _ B1.out).mono ?_
    rintro e w2 ⟨rfl, hb2⟩
    have B2 := hid (B1.out.trans (hb2.mono B1.out.size))
    clear hb2
    go_wp2_with fail
    go_ret
    exact ⟨rfl, B2.out⟩
  | false =>
    simp only [Bool.false_and] at HS ⊢
    go_enter Tryz.func19, Tryz.ntmps19
    go_wp2_with fail
    refine (HS.out _ HB.out).mono ?_
    rintro e w1 ⟨rfl, hb1⟩
    have B1 := hid (HB.out.trans (hb1.mono HB.out.size))
    clear hb1
    go_wp2_with fail
    go_ret
    exact ⟨rfl, B1.out⟩
end Go.Proofs.YtnnakmgngkpghaaGreat
