/- ScanBest of the program and of the specification. -/
import Derived.Test.YtnnakmgngkpghaaGreatSfq
import Derived.Test.YtnnakmgngkpghaaGreatBs
namespace Go.Proofs.YtnnakmgngkpghaaGreat
open Go.RowKit Go.Maps
set_option linter.unusedVariables false

/-- How often symbols stand, and 0 once more. -/
def fb (t : Int) (L : List (Int × List Int)) : List Int := (freqR t L).set 0 ((freqR t L).getD 0 0 + 1)
def sbC (t : Int) (L : List (Int × List Int)) : List Int := if freqB L = true then bC (fb t L) else []
def sbS (t : Int) (L : List (Int × List Int)) : List Int := if freqB L = true then bS (fb t L) else []
theorem sbC_len (t : Int) (L : List (Int × List Int)) : (sbC t L).length ≤ 16 := by unfold sbC; split; exact bC_len _; decide
theorem sbS_len (t : Int) (L : List (Int × List Int)) : (sbS t L).length ≤ 4096 := by unfold sbS; split; exact bS_len _; decide
theorem fb_facts (t : Int) (L : List (Int × List Int)) (h : freqB L = true) : (freqR t L).length = 256 ∧ 0 ≤ (freqR t L).getD 0 0 ∧ (freqR t L).getD 0 0 ≤ 100000000000 ∧ (fb t L).length = 256 := by
  have hs : scanOk L := by
    unfold freqB at h
    split at h
    · assumption
    · cases h
  have h1 : (freqR t L).length = 256 := by rw [freqR_yes hs, freqL_len]
  have h2 : (freqR t L).getD 0 0 = cnt t 0 (ptsTo L L.length) := by rw [freqR_yes hs]; exact freqL_get t _ 0 (by decide)
  have h3 := cnt_bd t 0 (ptsTo L L.length)
  have h4 := ptsTo_len L hs.2 L.length (Nat.le_refl _)
  have h5 : L.length ≤ 1600 := hs.1
  refine ⟨h1, by rw [h2]; exact h3.1, by rw [h2]; omega, by unfold fb; rw [List.length_set, h1]⟩
/-- Tables in new memory, one row behind the other. -/
def TT (w : World) (base : Nat) (v : Value) (cs ss ct st : List Int) : Prop :=
  ∃ va vb vc vd m1 m2 m3, v = .agg #[va, vb, vc, vd] ∧ base ≤ m1 ∧ m1 ≤ m2 ∧ m2 ≤ m3 ∧ Own w base 3 .i64 va cs ∧ Own w m1 3 .i64 vb ss ∧ Own w m2 3 .i64 vc ct ∧ Own w m3 3 .i64 vd st ∧
    (∀ a n c, va = .slice (some a) n c → a.block < m1) ∧ (∀ a n c, vb = .slice (some a) n c → a.block < m2) ∧ (∀ a n c, vc = .slice (some a) n c → a.block < m3)
theorem TT.below {w w' : World} {base : Nat} {v : Value} {cs ss ct st : List Int} (h : TT w base v cs ss ct st) (hb : Below w.heap.size w w') : TT w' base v cs ss ct st := by
  obtain ⟨va, vb, vc, vd, m1, m2, m3, e, h1, h2, h3, o1, o2, o3, o4, r⟩ := h
  exact ⟨va, vb, vc, vd, m1, m2, m3, e, h1, h2, h3, o1.below hb, o2.below hb, o3.below hb, o4.below hb, r⟩
theorem TT.low {w : World} {base base' : Nat} {v : Value} {cs ss ct st : List Int} (h : TT w base v cs ss ct st) (hb : base' ≤ base) : TT w base' v cs ss ct st := by
  obtain ⟨va, vb, vc, vd, m1, m2, m3, e, h1, h2, h3, o1, r⟩ := h
  exact ⟨va, vb, vc, vd, m1, m2, m3, e, Nat.le_trans hb h1, h2, h3, o1.mono hb, r⟩
theorem TT.tv {w : World} {base : Nat} {v : Value} {cs ss ct st : List Int} (h : TT w base v cs ss ct st) : TV w v cs ss ct st := by
  obtain ⟨va, vb, vc, vd, m1, m2, m3, rfl, h1, h2, h3, o1, o2, o3, o4, _⟩ := h
  obtain ⟨a0, c0, rfl, v0⟩ := o1.view
  obtain ⟨a1, c1, rfl, v1⟩ := o2.view
  obtain ⟨a2, c2, rfl, v2⟩ := o3.view
  obtain ⟨a3, c3, rfl, v3⟩ := o4.view
  exact ⟨a0, c0, a1, c1, a2, c2, a3, c3, rfl, ⟨_, _, _, _, rfl, v0, v1⟩, ⟨_, _, _, _, rfl, v2, v3⟩⟩
theorem TT.nil (w : World) (base : Nat) (hb : base ≤ w.heap.size) : TT w base (.agg #[.slice none 0 0, .slice none 0 0, .slice none 0 0, .slice none 0 0]) [] [] [] [] :=
  ⟨_, _, _, _, base, base, base, rfl, Nat.le_refl _, Nat.le_refl _, Nat.le_refl _, Own.nil _ _ _ _ hb, Own.nil _ _ _ _ hb, Own.nil _ _ _ _ hb, Own.nil _ _ _ _ hb, (fun a n c h => by cases h), (fun a n c h => by cases h), (fun a n c h => by cases h)⟩

set_option maxRecDepth 100000 in
set_option maxHeartbeats 3200000 in
theorem impl_scanBest (ao : Option Addr) (cap : Nat) (L : List (Int × List Int)) (w : World) (hn : L.length ≤ 1048576) (hs : ∀ j, j < L.length → (nth L j).2.length ≤ 1048576) (hv : BRow w ao L) :
    Calls Tryz.prog 66 #[.slice ao L.length cap] w fun e w' => ∃ v, e = .returned (.tuple #[v, .bool (freqB L)]) ∧ TT w' w.heap.size v (sbC 0 L) (sbS 0 L) (sbC 1 L) (sbS 1 L) ∧ Below w.heap.size w w' := by
  have hA := (Below.refl w.heap.size w).alloc (Nat.le_refl _) (.cells #[.slice none 0 0, .slice none 0 0, .slice none 0 0, .slice none 0 0] 33)
  have HF := hid (Four.new w (.slice none 0 0) (.slice none 0 0) (.slice none 0 0) (.slice none 0 0) 33)
  have HI := hid (impl_scanFreqs ao cap L _ hn hs (hv.below hA))
  have HA := hid hA
  clear hA hv hs hn
  go_enter Tryz.func66, Tryz.ntmps66
  go_wp2_with (first | (go_at_call 86; fail) | fail)
  refine HI.out.mono ?_
  generalize hwa : w.alloc (.cells #[.slice none 0 0, .slice none 0 0, .slice none 0 0, .slice none 0 0] 33) = wa at *
  clear hwa
  rintro e w1 ⟨v1, v2, rfl, ⟨ho1, ho2, hap⟩, hb1⟩
  have B1 := hid (HA.out.trans (hb1.mono HA.out.size))
  have F1 := hid (HF.out.below hb1 HF.out.lt)
  have hlw : w.heap.size < wa.heap.size := HF.out.lt
  clear HI HF hb1
  obtain ⟨f0, f1, f2, f3⟩ := F1.out.cells
  have z1 := F1.out.free
  cases hR : freqB L with
  | false =>
    have hC : ∀ t, sbC t L = [] ∧ sbS t L = [] := fun t => ⟨by unfold sbC; rw [hR]; rfl, by unfold sbS; rw [hR]; rfl⟩
    have HC := hid hC
    have hE : Below w.heap.size w ((((w1.setCell ⟨w.heap.size, 0, none⟩ (.slice none 0 0)).setCell ⟨w.heap.size, 1, none⟩ (.slice none 0 0)).setCell ⟨w.heap.size, 2, none⟩ (.slice none 0 0)).setCell ⟨w.heap.size, 3, none⟩ (.slice none 0 0)) := (((B1.out.setCell (p := ⟨w.heap.size, 0, none⟩) (Nat.le_refl _) _).setCell (p := ⟨w.heap.size, 1, none⟩) (Nat.le_refl _) _).setCell (p := ⟨w.heap.size, 2, none⟩) (Nat.le_refl _) _).setCell (p := ⟨w.heap.size, 3, none⟩) (Nat.le_refl _) _
    have HE := hid hE
    obtain ⟨k0, k1, k2, k3⟩ := ((((F1.out.set0 (.slice none 0 0)).set1 (.slice none 0 0)).set2 (.slice none 0 0)).set3 (.slice none 0 0)).cells
    clear hE ho1 ho2 hap hC
    go_wp2_with fail
    exact bodyPost_ret (v := .tuple #[.agg #[.slice none 0 0, .slice none 0 0, .slice none 0 0, .slice none 0 0], .bool false]) (by simp [results, Tryz.results66, go_sem, k0, k1, k2, k3]) rfl ⟨_, by rw [hR], by rw [(HC.out 0).1, (HC.out 0).2, (HC.out 1).1, (HC.out 1).2]; exact TT.nil _ _ HE.out.size, HE.out⟩
  | true =>
    obtain ⟨l0, x0, y0, m0⟩ := fb_facts 0 L hR
    obtain ⟨l1, x1, y1, m1⟩ := fb_facts 1 L hR
    have HC0 := hid (show sbC 0 L = bC (fb 0 L) ∧ sbS 0 L = bS (fb 0 L) ∧ sbC 1 L = bC (fb 1 L) ∧ sbS 1 L = bS (fb 1 L) from ⟨by unfold sbC; rw [if_pos hR], by unfold sbS; rw [if_pos hR], by unfold sbC; rw [if_pos hR], by unfold sbS; rw [if_pos hR]⟩)
    have HF0 := hid (show fb 0 L = (freqR 0 L).set 0 ((freqR 0 L).getD 0 0 + 1) from rfl)
    have HF1 := hid (show fb 1 L = (freqR 1 L).set 0 ((freqR 1 L).getD 0 0 + 1) from rfl)
    have HM := hid (show (fb 0 L).length = 256 ∧ (fb 1 L).length = 256 from ⟨m0, m1⟩)
    generalize fb 0 L = P0 at *
    generalize fb 1 L = P1 at *
    generalize freqR 0 L = R0 at *
    generalize freqR 1 L = R1 at *
    obtain ⟨a1, n1, rfl⟩ := ho1.shape
    obtain ⟨g1, rfl⟩ := ho1.some_of (fun e => by rw [e] at l0; cases l0)
    obtain ⟨a2, n2, rfl⟩ := ho2.shape
    obtain ⟨g2, rfl⟩ := ho2.some_of (fun e => by rw [e] at l1; cases l1)
    rw [l0] at ho1
    rw [l1] at ho2
    have hgn : g1 ≠ g2 := fun e => hap g1 rfl (by rw [e]; rfl)
    have c1 := ho1.at 0 (by omega)
    have c2 := ho2.at 0 (by omega)
    have e1 := ho1.free 0
    have e2 := ho2.free 0
    have hw1 : IntKind.i64.wrap (R0.getD 0 0 + 1) = R0.getD 0 0 + 1 := by rw [IntKind.wrap_i64]; omega
    have hw2 : IntKind.i64.wrap (R1.getD 0 0 + 1) = R1.getD 0 0 + 1 := by rw [IntKind.wrap_i64]; omega
    have s1 := ho1.store 0 (R0.getD 0 0 + 1)
    have s2 := (ho2.storeOther (g := g1) (i := 0) (fun a n c h => by cases h; exact fun e => hgn e.symm) (.int .i64 (R0.getD 0 0 + 1)))
    have s3 := s1.storeOther (g := g2) (i := 0) (fun a n c h => by cases h; exact hgn) (.int .i64 (R1.getD 0 0 + 1))
    have s4 := s2.store 0 (R1.getD 0 0 + 1)
    rw [← HF0.out] at s3
    rw [← HF1.out] at s4
    have d2 := s2.at 0 (by omega)
    have u2 := s2.free 0
    have q1 := ho1.ge
    have q2 := ho2.ge
    have F2 := hid ((F1.out.other (show w.heap.size ≠ g1 from by have : wa.heap.size ≤ g1 := q1.1; omega) (i := 0) (.int .i64 (R0.getD 0 0 + 1))).other (show w.heap.size ≠ g2 from by have : wa.heap.size ≤ g2 := q2.1; omega) (i := 0) (.int .i64 (R1.getD 0 0 + 1)))
    have B2 := hid ((B1.out.setCell (p := ⟨g1, 0, none⟩) (show w.heap.size ≤ g1 from by have : wa.heap.size ≤ g1 := q1.1; omega) (.int .i64 (R0.getD 0 0 + 1))).setCell (p := ⟨g2, 0, none⟩) (show w.heap.size ≤ g2 from by have : wa.heap.size ≤ g2 := q2.1; omega) (.int .i64 (R1.getD 0 0 + 1)))
    have hszs : ((w1.setCell ⟨g1, 0, none⟩ (.int .i64 (R0.getD 0 0 + 1))).setCell ⟨g2, 0, none⟩ (.int .i64 (R1.getD 0 0 + 1))).heap.size = w1.heap.size := by simp [World.setCell]
    have hg1 : g1 < w1.heap.size := q1.2
    have hg2 : g2 < w1.heap.size := q2.2
    have O1 := hid s3
    have O2 := hid s4
    have HG := hid (show wa.heap.size ≤ g1 ∧ wa.heap.size ≤ g2 from ⟨q1.1, q2.1⟩)
    clear ho1 ho2 hap s1 s2 s3 s4 q1 q2
    generalize R0.getD 0 0 = X0 at *
    generalize R1.getD 0 0 = X1 at *
    go_wp2_with (first | (go_at_call 87; fail) | fail)
    generalize hw2e : (w1.setCell ⟨g1, 0, none⟩ (.int .i64 (X0 + 1))).setCell ⟨g2, 0, none⟩ (.int .i64 (X1 + 1)) = w2 at *
    clear hw2e c1 c2 e1 e2 d2 u2 hw1 hw2 f0 f1 f2 f3 z1
    have hA2 := (Below.refl w2.heap.size w2).alloc (Nat.le_refl _) (.cells #[.slice none 0 0, .slice none 0 0, .slice none 0 0, .slice none 0 0] 33)
    have hk3 := Four.new w2 (.slice none 0 0) (.slice none 0 0) (.slice none 0 0) (.slice none 0 0) 33
    rw [hszs] at hk3
    have K3 := hid hk3
    have F3 := hid (F2.out.below hA2 F2.out.lt)
    have B3 := hid (B2.out.trans (hA2.mono B2.out.size))
    have O13 := hid (O1.out.below hA2)
    have O23 := hid (O2.out.below hA2)
    have HI1 := hid (impl_best (some ⟨g1, 0, none⟩) 256 n1 P0 (w2.alloc (.cells #[.slice none 0 0, .slice none 0 0, .slice none 0 0, .slice none 0 0] 33)) (by decide) (by
      obtain ⟨a, c, e, vw⟩ := O13.out.view
      injection e with e1 e2 e3
      subst e1
      rw [HM.out.1] at vw
      exact vw))
    clear hA2 F2 B2 O1 O2 O13 hk3
    refine HI1.out.mono ?_
    generalize hw3e : w2.alloc (.cells #[.slice none 0 0, .slice none 0 0, .slice none 0 0, .slice none 0 0] 33) = w3 at *
    have hK3 : w1.heap.size < w3.heap.size := K3.out.lt
    clear hw3e
    rintro e w4 ⟨v5, rfl, hco, hb4⟩
    obtain ⟨va, vb, m1, rfl, hm1, p1, p2, p3⟩ := hco
    obtain ⟨aa, na, rfl⟩ := p1.shape
    obtain ⟨ab, nb, rfl⟩ := p2.shape
    have K4 := hid (K3.out.below hb4 K3.out.lt)
    have F4 := hid (F3.out.below hb4 F3.out.lt)
    have B4 := hid (B3.out.trans (hb4.mono B3.out.size))
    have O24 := hid (O23.out.below hb4)
    have h34 : w3.heap.size ≤ w4.heap.size := hb4.size
    obtain ⟨k0, k1, k2, k3⟩ := K4.out.cells
    have kz := K4.out.free
    have hBK : w.heap.size < w1.heap.size := F1.out.lt
    have K5 := hid ((K4.out.set0 (.slice aa (bC P0).length na)).set1 (.slice ab (bS P0).length nb))
    have F5 := hid ((F4.out.other (show w.heap.size ≠ w1.heap.size by omega) (i := 0) (.slice aa (bC P0).length na)).other (show w.heap.size ≠ w1.heap.size by omega) (i := 1) (.slice ab (bS P0).length nb))
    have B5 := hid ((B4.out.setCell (p := ⟨w1.heap.size, 0, none⟩) (show w.heap.size ≤ w1.heap.size by omega) (.slice aa (bC P0).length na)).setCell (p := ⟨w1.heap.size, 1, none⟩) (show w.heap.size ≤ w1.heap.size by omega) (.slice ab (bS P0).length nb))
    have O25 := hid ((O24.out.storeOther (g := w1.heap.size) (i := 0) (fun a n c h => by cases h; show g2 ≠ w1.heap.size; omega) (.slice aa (bC P0).length na)).storeOther (g := w1.heap.size) (i := 1) (fun a n c h => by cases h; show g2 ≠ w1.heap.size; omega) (.slice ab (bS P0).length nb))
    have P15 := hid ((p1.setCell_below (a := ⟨w1.heap.size, 0, none⟩) hK3 (.slice aa (bC P0).length na)).setCell_below (a := ⟨w1.heap.size, 1, none⟩) hK3 (.slice ab (bS P0).length nb))
    have P25 := hid ((p2.setCell_below (a := ⟨w1.heap.size, 0, none⟩) (Nat.lt_of_lt_of_le hK3 hm1) (.slice aa (bC P0).length na)).setCell_below (a := ⟨w1.heap.size, 1, none⟩) (Nat.lt_of_lt_of_le hK3 hm1) (.slice ab (bS P0).length nb))
    have P2L := hid (fun g hg => (p2.2.lt g hg).2)
    have hs45 : ((w4.setCell ⟨w1.heap.size, 0, none⟩ (.slice aa (bC P0).length na)).setCell ⟨w1.heap.size, 1, none⟩ (.slice ab (bS P0).length nb)).heap.size = w4.heap.size := by simp [World.setCell]
    have HPE := hid p3
    have HM1 := hid hm1
    clear p1 p2 p3 hm1 hb4 K4 F4 B4 O24 K3 F3 B3 O23 HI1
    go_wp2_with (first | (go_at_call 87; fail) | fail)
    generalize hw5e : (w4.setCell ⟨w1.heap.size, 0, none⟩ (.slice aa (bC P0).length na)).setCell ⟨w1.heap.size, 1, none⟩ (.slice ab (bS P0).length nb) = w5 at *
    clear hw5e k0 k1 k2 k3 kz
    have HI2 := hid (impl_best (some ⟨g2, 0, none⟩) 256 n2 P1 w5 (by decide) (by
      obtain ⟨a, c, e, vw⟩ := O25.out.view
      injection e with e1 e2 e3
      subst e1
      rw [HM.out.2] at vw
      exact vw))
    refine HI2.out.mono ?_
    rintro e w6 ⟨v6, rfl, hco, hb6⟩
    obtain ⟨vc, vd, m2, rfl, hm2, p1, p2, p3⟩ := hco
    obtain ⟨ac, nc, rfl⟩ := p1.shape
    obtain ⟨ad, nd, rfl⟩ := p2.shape
    have K6 := hid (K5.out.below hb6 K5.out.lt)
    have F6 := hid (F5.out.below hb6 F5.out.lt)
    have B6 := hid (B5.out.trans (hb6.mono B5.out.size))
    have P16 := hid (P15.out.below hb6)
    have P26 := hid (P25.out.below hb6)
    obtain ⟨k0, k1, k2, k3⟩ := K6.out.cells
    have kz := K6.out.free
    have K7 := hid ((K6.out.set2 (.slice ac (bC P1).length nc)).set3 (.slice ad (bS P1).length nd))
    have F7 := hid ((F6.out.other (show w.heap.size ≠ w1.heap.size by omega) (i := 2) (.slice ac (bC P1).length nc)).other (show w.heap.size ≠ w1.heap.size by omega) (i := 3) (.slice ad (bS P1).length nd))
    obtain ⟨l0', l1', l2', l3'⟩ := K7.out.cells
    obtain ⟨f0, f1, f2, f3⟩ := F7.out.cells
    have fz := F7.out.free
    have FZ := hid ((((F7.out.set0 (.slice aa (bC P0).length na)).set1 (.slice ab (bS P0).length nb)).set2 (.slice ac (bC P1).length nc)).set3 (.slice ad (bS P1).length nd))
    obtain ⟨j0, j1, j2, j3⟩ := FZ.out.cells
    have key : ∀ {v : Value} {xs : List Int} {m : Nat}, w3.heap.size ≤ m → Own w6 m 3 .i64 v xs → Own ((((((w6.setCell ⟨w1.heap.size, 2, none⟩ (.slice ac (bC P1).length nc)).setCell ⟨w1.heap.size, 3, none⟩ (.slice ad (bS P1).length nd)).setCell ⟨w.heap.size, 0, none⟩ (.slice aa (bC P0).length na)).setCell ⟨w.heap.size, 1, none⟩ (.slice ab (bS P0).length nb)).setCell ⟨w.heap.size, 2, none⟩ (.slice ac (bC P1).length nc)).setCell ⟨w.heap.size, 3, none⟩ (.slice ad (bS P1).length nd)) m 3 .i64 v xs := fun {v xs m} hm o =>
      (((((o.setCell_below (a := ⟨w1.heap.size, 2, none⟩) (show w1.heap.size < m by omega) _).setCell_below (a := ⟨w1.heap.size, 3, none⟩) (show w1.heap.size < m by omega) _).setCell_below (a := ⟨w.heap.size, 0, none⟩) (show w.heap.size < m by omega) _).setCell_below (a := ⟨w.heap.size, 1, none⟩) (show w.heap.size < m by omega) _).setCell_below (a := ⟨w.heap.size, 2, none⟩) (show w.heap.size < m by omega) _).setCell_below (a := ⟨w.heap.size, 3, none⟩) (show w.heap.size < m by omega) _
    have HEND := hid (show TT ((((((w6.setCell ⟨w1.heap.size, 2, none⟩ (.slice ac (bC P1).length nc)).setCell ⟨w1.heap.size, 3, none⟩ (.slice ad (bS P1).length nd)).setCell ⟨w.heap.size, 0, none⟩ (.slice aa (bC P0).length na)).setCell ⟨w.heap.size, 1, none⟩ (.slice ab (bS P0).length nb)).setCell ⟨w.heap.size, 2, none⟩ (.slice ac (bC P1).length nc)).setCell ⟨w.heap.size, 3, none⟩ (.slice ad (bS P1).length nd)) w.heap.size (.agg #[.slice aa (bC P0).length na, .slice ab (bS P0).length nb, .slice ac (bC P1).length nc, .slice ad (bS P1).length nd]) (bC P0) (bS P0) (bC P1) (bS P1) from
      ⟨_, _, _, _, m1, w5.heap.size, m2, rfl, by have := HM1.out; omega, by have := P26.out.1; have h1 := P25.out.1; exact h1, hm2, (key (Nat.le_refl _) P16.out).mono (by omega), key HM1.out P26.out, key (by omega) p1, key (by omega) p2, HPE.out, (fun a n c h => by have := P2L.out a.block (by rw [h]; rfl); omega), p3⟩)
    have HBE := hid (((((((B6.out.setCell (p := ⟨w1.heap.size, 2, none⟩) (show w.heap.size ≤ w1.heap.size by omega) (.slice ac (bC P1).length nc)).setCell (p := ⟨w1.heap.size, 3, none⟩) (show w.heap.size ≤ w1.heap.size by omega) (.slice ad (bS P1).length nd)).setCell (p := ⟨w.heap.size, 0, none⟩) (Nat.le_refl _) (.slice aa (bC P0).length na)).setCell (p := ⟨w.heap.size, 1, none⟩) (Nat.le_refl _) (.slice ab (bS P0).length nb)).setCell (p := ⟨w.heap.size, 2, none⟩) (Nat.le_refl _) (.slice ac (bC P1).length nc)).setCell (p := ⟨w.heap.size, 3, none⟩) (Nat.le_refl _) (.slice ad (bS P1).length nd)))
    clear key p1 p2 p3 hb6 P15 P25 P16 P26 O25
    go_wp2_with fail
    exact bodyPost_ret (v := .tuple #[.agg #[.slice aa (bC P0).length na, .slice ab (bS P0).length nb, .slice ac (bC P1).length nc, .slice ad (bS P1).length nd], .bool true]) (by simp [results, Tryz.results66, go_sem, j0, j1, j2, j3]) rfl ⟨_, by rw [hR], by rw [HC0.out.1, HC0.out.2.1, HC0.out.2.2.1, HC0.out.2.2.2]; exact HEND.out, HBE.out⟩
end Go.Proofs.YtnnakmgngkpghaaGreat
