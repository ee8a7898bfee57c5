/- ScanBest of the specification. -/
import Derived.Test.YtnnakmgngkpghaaGreatSb
namespace Go.Proofs.YtnnakmgngkpghaaGreat
open Go.RowKit Go.Maps
set_option linter.unusedVariables false

/-- Whether the specification has best tables. -/
def sbB (L : List (Int × List Int)) : Bool := freqB L && (bB (fb 0 L) && bB (fb 1 L))
/-- What it answers. -/
def SbP (L : List (Int × List Int)) (w : World) (e : Ending) (w' : World) : Prop :=
  ∃ v cs ss ct st, e = .returned (.tuple #[v, .bool (sbB L)]) ∧ TOwn w' w.heap.size v cs ss ct st ∧ (sbB L = true → cs = sbC 0 L ∧ ss = sbS 0 L ∧ ct = sbC 1 L ∧ st = sbS 1 L) ∧ Below w.heap.size w w'
theorem town_nil (w : World) (base : Nat) (hb : base ≤ w.heap.size) : TOwn w base (.agg #[.slice none 0 0, .slice none 0 0, .slice none 0 0, .slice none 0 0]) [] [] [] [] :=
  ⟨none, 0, none, 0, none, 0, none, 0, rfl, ⟨hb, rfl, .inl ⟨rfl, rfl⟩⟩, ⟨hb, rfl, .inl ⟨rfl, rfl⟩⟩, ⟨hb, rfl, .inl ⟨rfl, rfl⟩⟩, ⟨hb, rfl, .inl ⟨rfl, rfl⟩⟩⟩

set_option maxRecDepth 100000 in
set_option maxHeartbeats 3200000 in
theorem spec_scanBest (ao : Option Addr) (cap : Nat) (L : List (Int × List Int)) (w : World) (hn : L.length ≤ 1048576) (hs : ∀ j, j < L.length → (nth L j).2.length ≤ 1048576) (hv : BRow w ao L) :
    Calls Tryz.prog 61 #[.slice ao L.length cap] w (SbP L w) := by
  have hA := (Below.refl w.heap.size w).alloc (Nat.le_refl _) (.cells #[.slice none 0 0, .slice none 0 0, .slice none 0 0, .slice none 0 0] 33)
  have HF := hid (Four.new w (.slice none 0 0) (.slice none 0 0) (.slice none 0 0) (.slice none 0 0) 33)
  have HI := hid (spec_scanFreqs ao cap L _ hn hs (hv.below hA))
  have HA := hid hA
  clear hA hv hs hn
  go_enter Tryz.func61, Tryz.ntmps61
  go_wp2_with (first | (go_at_call 77; fail) | fail)
  refine HI.out.mono ?_
  generalize hwa : w.alloc (.cells #[.slice none 0 0, .slice none 0 0, .slice none 0 0, .slice none 0 0] 33) = wa at *
  clear hwa
  rintro e w1 ⟨v1, v2, rfl, ⟨ho1, ho2, hap⟩, hb1⟩
  have B1 := hid (HA.out.trans (hb1.mono HA.out.size))
  have F1 := hid (HF.out.below hb1 HF.out.lt)
  have hlw : w.heap.size < wa.heap.size := HF.out.lt
  clear HI HF hb1
  obtain ⟨f0, f1, f2, f3⟩ := F1.out.cells
  have z1 := F1.out.free
  cases hR : freqB L with
  | false =>
    have HSB := hid (show sbB L = false from by unfold sbB; rw [hR]; rfl)
    have hE : Below w.heap.size w ((((w1.setCell ⟨w.heap.size, 0, none⟩ (.slice none 0 0)).setCell ⟨w.heap.size, 1, none⟩ (.slice none 0 0)).setCell ⟨w.heap.size, 2, none⟩ (.slice none 0 0)).setCell ⟨w.heap.size, 3, none⟩ (.slice none 0 0)) := (((B1.out.setCell (p := ⟨w.heap.size, 0, none⟩) (Nat.le_refl _) _).setCell (p := ⟨w.heap.size, 1, none⟩) (Nat.le_refl _) _).setCell (p := ⟨w.heap.size, 2, none⟩) (Nat.le_refl _) _).setCell (p := ⟨w.heap.size, 3, none⟩) (Nat.le_refl _) _
    have HE := hid hE
    obtain ⟨k0, k1, k2, k3⟩ := ((((F1.out.set0 (.slice none 0 0)).set1 (.slice none 0 0)).set2 (.slice none 0 0)).set3 (.slice none 0 0)).cells
    clear hE ho1 ho2 hap
    go_wp2_with fail
    exact bodyPost_ret (v := .tuple #[.agg #[.slice none 0 0, .slice none 0 0, .slice none 0 0, .slice none 0 0], .bool false]) (by simp [results, Tryz.results61, go_sem, k0, k1, k2, k3]) rfl ⟨_, [], [], [], [], by rw [HSB.out], town_nil _ _ HE.out.size, fun h => by (rw [HSB.out] at h; cases h), HE.out⟩
  | true =>
    obtain ⟨l0, x0, y0, m0⟩ := fb_facts 0 L hR
    obtain ⟨l1, x1, y1, m1⟩ := fb_facts 1 L hR
    have HC0 := hid (show sbC 0 L = bC (fb 0 L) ∧ sbS 0 L = bS (fb 0 L) ∧ sbC 1 L = bC (fb 1 L) ∧ sbS 1 L = bS (fb 1 L) ∧ sbB L = (bB (fb 0 L) && bB (fb 1 L)) from ⟨by unfold sbC; rw [if_pos hR], by unfold sbS; rw [if_pos hR], by unfold sbC; rw [if_pos hR], by unfold sbS; rw [if_pos hR], by unfold sbB; rw [hR]; rfl⟩)
    have HF0 := hid (show fb 0 L = (freqR 0 L).set 0 ((freqR 0 L).getD 0 0 + 1) from rfl)
    have HF1 := hid (show fb 1 L = (freqR 1 L).set 0 ((freqR 1 L).getD 0 0 + 1) from rfl)
    have HM := hid (show (fb 0 L).length = 256 ∧ (fb 1 L).length = 256 from ⟨m0, m1⟩)
    generalize fb 0 L = P0 at *
    generalize fb 1 L = P1 at *
    generalize freqR 0 L = R0 at *
    generalize freqR 1 L = R1 at *
    obtain ⟨a1, n1, rfl⟩ := ho1.shape
    obtain ⟨g1, rfl⟩ := ho1.some_of (fun e => by rw [e] at l0; cases l0)
    obtain ⟨a2, n2, rfl⟩ := ho2.shape
    obtain ⟨g2, rfl⟩ := ho2.some_of (fun e => by rw [e] at l1; cases l1)
    rw [l0] at ho1
    rw [l1] at ho2
    have hgn : g1 ≠ g2 := fun e => hap g1 rfl (by rw [e]; rfl)
    have c1 := ho1.at 0 (by omega)
    have c2 := ho2.at 0 (by omega)
    have e1 := ho1.free 0
    have e2 := ho2.free 0
    have hw1 : IntKind.i64.wrap (R0.getD 0 0 + 1) = R0.getD 0 0 + 1 := by rw [IntKind.wrap_i64]; omega
    have hw2 : IntKind.i64.wrap (R1.getD 0 0 + 1) = R1.getD 0 0 + 1 := by rw [IntKind.wrap_i64]; omega
    have s1 := ho1.store 0 (R0.getD 0 0 + 1)
    have s2 := (ho2.storeOther (g := g1) (i := 0) (fun a n c h => by cases h; exact fun e => hgn e.symm) (.int .i64 (R0.getD 0 0 + 1)))
    have s3 := s1.storeOther (g := g2) (i := 0) (fun a n c h => by cases h; exact hgn) (.int .i64 (R1.getD 0 0 + 1))
    have s4 := s2.store 0 (R1.getD 0 0 + 1)
    rw [← HF0.out] at s3
    rw [← HF1.out] at s4
    have d2 := s2.at 0 (by omega)
    have u2 := s2.free 0
    have q1 := ho1.ge
    have q2 := ho2.ge
    have F2 := hid ((F1.out.other (show w.heap.size ≠ g1 from by have : wa.heap.size ≤ g1 := q1.1; omega) (i := 0) (.int .i64 (R0.getD 0 0 + 1))).other (show w.heap.size ≠ g2 from by have : wa.heap.size ≤ g2 := q2.1; omega) (i := 0) (.int .i64 (R1.getD 0 0 + 1)))
    have B2 := hid ((B1.out.setCell (p := ⟨g1, 0, none⟩) (show w.heap.size ≤ g1 from by have : wa.heap.size ≤ g1 := q1.1; omega) (.int .i64 (R0.getD 0 0 + 1))).setCell (p := ⟨g2, 0, none⟩) (show w.heap.size ≤ g2 from by have : wa.heap.size ≤ g2 := q2.1; omega) (.int .i64 (R1.getD 0 0 + 1)))
    have hszs : ((w1.setCell ⟨g1, 0, none⟩ (.int .i64 (R0.getD 0 0 + 1))).setCell ⟨g2, 0, none⟩ (.int .i64 (R1.getD 0 0 + 1))).heap.size = w1.heap.size := by simp [World.setCell]
    have hg1 : g1 < w1.heap.size := q1.2
    have hg2 : g2 < w1.heap.size := q2.2
    have O1 := hid s3
    have O2 := hid s4
    have HG := hid (show wa.heap.size ≤ g1 ∧ wa.heap.size ≤ g2 from ⟨q1.1, q2.1⟩)
    clear ho1 ho2 hap s1 s2 s3 s4 q1 q2
    generalize R0.getD 0 0 = X0 at *
    generalize R1.getD 0 0 = X1 at *
    go_wp2_with (first | (go_at_call 78; fail) | fail)
    generalize hw2e : (w1.setCell ⟨g1, 0, none⟩ (.int .i64 (X0 + 1))).setCell ⟨g2, 0, none⟩ (.int .i64 (X1 + 1)) = w2 at *
    clear hw2e c1 c2 e1 e2 d2 u2 hw1 hw2 f0 f1 f2 f3 z1
    have HI1 := hid (spec_best (some ⟨g1, 0, none⟩) 256 n1 P0 w2 (by decide) (by
      obtain ⟨a, c, e, vw⟩ := O1.out.view
      injection e with e1 e2 e3
      subst e1
      rw [HM.out.1] at vw
      exact vw))
    clear O1
    refine HI1.out.mono ?_
    rintro e w4 ⟨v5, rfl, bo4, hb4⟩
    obtain ⟨cvv, svv, rfl, p1, p2, _⟩ := bo4
    obtain ⟨aa, na, rfl⟩ := p1.shape
    obtain ⟨ab, nb, rfl⟩ := p2.shape
    have hA4 := (Below.refl w4.heap.size w4).alloc (Nat.le_refl _) (.cells #[.slice aa (bC P0).length na, .slice ab (bS P0).length nb] 31)
    have hb5 := hb4.trans (hA4.mono hb4.size)
    have K5 := hid (Two.new w4 (.slice aa (bC P0).length na) (.slice ab (bS P0).length nb) 31)
    have F5 := hid (F2.out.below hb5 F2.out.lt)
    have B5 := hid (B2.out.trans (hb5.mono B2.out.size))
    have O25 := hid (O2.out.below hb5)
    have hB2 : w.heap.size < w2.heap.size := F2.out.lt
    have V5 := hid (show Own (w4.alloc (.cells #[.slice aa (bC P0).length na, .slice ab (bS P0).length nb] 31)) (w.heap.size + 1) 3 .i64 (.slice aa (bC P0).length na) (bC P0) ∧ Own (w4.alloc (.cells #[.slice aa (bC P0).length na, .slice ab (bS P0).length nb] 31)) (w.heap.size + 1) 3 .i64 (.slice ab (bS P0).length nb) (bS P0) from ⟨(p1.below hA4).mono hB2, (p2.below hA4).mono hB2⟩)
    have h24 : w2.heap.size ≤ w4.heap.size := hb4.size
    clear p1 p2 hA4 hb4 hb5 F2 B2 O2 HI1
    go_wp2_with (first | (go_at_call 78; fail) | fail)
    generalize hw5e : w4.alloc (.cells #[.slice aa (bC P0).length na, .slice ab (bS P0).length nb] 31) = w5 at *
    clear hw5e
    have HI2 := hid (spec_best (some ⟨g2, 0, none⟩) 256 n2 P1 w5 (by decide) (by
      obtain ⟨a, c, e, vw⟩ := O25.out.view
      injection e with e1 e2 e3
      subst e1
      rw [HM.out.2] at vw
      exact vw))
    refine HI2.out.mono ?_
    rintro e w6 ⟨v6, rfl, bo6, hb6⟩
    obtain ⟨cvv, svv, rfl, p1, p2, _⟩ := bo6
    obtain ⟨ac, nc, rfl⟩ := p1.shape
    obtain ⟨ad, nd, rfl⟩ := p2.shape
    have hA6 := (Below.refl w6.heap.size w6).alloc (Nat.le_refl _) (.cells #[.slice ac (bC P1).length nc, .slice ad (bS P1).length nd] 31)
    have hb7 := hb6.trans (hA6.mono hb6.size)
    have M7 := hid (Two.new w6 (.slice ac (bC P1).length nc) (.slice ad (bS P1).length nd) 31)
    have K7 := hid (K5.out.below hb7 K5.out.lt)
    have F7 := hid (F5.out.below hb7 F5.out.lt)
    have B7 := hid (B5.out.trans (hb7.mono B5.out.size))
    have V7 := hid (show Own (w6.alloc (.cells #[.slice ac (bC P1).length nc, .slice ad (bS P1).length nd] 31)) (w.heap.size + 1) 3 .i64 (.slice aa (bC P0).length na) (bC P0) ∧ Own (w6.alloc (.cells #[.slice ac (bC P1).length nc, .slice ad (bS P1).length nd] 31)) (w.heap.size + 1) 3 .i64 (.slice ab (bS P0).length nb) (bS P0) from ⟨V5.out.1.below hb7, V5.out.2.below hb7⟩)
    have hB5 : w.heap.size + 1 ≤ w5.heap.size := F5.out.lt
    have U7 := hid (show Own (w6.alloc (.cells #[.slice ac (bC P1).length nc, .slice ad (bS P1).length nd] 31)) (w.heap.size + 1) 3 .i64 (.slice ac (bC P1).length nc) (bC P1) ∧ Own (w6.alloc (.cells #[.slice ac (bC P1).length nc, .slice ad (bS P1).length nd] 31)) (w.heap.size + 1) 3 .i64 (.slice ad (bS P1).length nd) (bS P1) from ⟨(p1.below hA6).mono hB5, (p2.below hA6).mono hB5⟩)
    clear p1 p2 hA6 hb6 hb7 K5 F5 B5 V5 O25 HI2
    obtain ⟨k0, k1, k2, k3⟩ := K7.out.cells
    obtain ⟨l0', l1', l2', l3'⟩ := M7.out.cells
    obtain ⟨f0, f1, f2, f3⟩ := F7.out.cells
    have fz := F7.out.free
    have HEN := hid (show Below w.heap.size w (((((w6.alloc (.cells #[.slice ac (bC P1).length nc, .slice ad (bS P1).length nd] 31)).setCell ⟨w.heap.size, 0, none⟩ (.slice none 0 0)).setCell ⟨w.heap.size, 1, none⟩ (.slice none 0 0)).setCell ⟨w.heap.size, 2, none⟩ (.slice none 0 0)).setCell ⟨w.heap.size, 3, none⟩ (.slice none 0 0)) from (((B7.out.setCell (p := ⟨w.heap.size, 0, none⟩) (Nat.le_refl _) _).setCell (p := ⟨w.heap.size, 1, none⟩) (Nat.le_refl _) _).setCell (p := ⟨w.heap.size, 2, none⟩) (Nat.le_refl _) _).setCell (p := ⟨w.heap.size, 3, none⟩) (Nat.le_refl _) _)
    obtain ⟨n0', n1', n2', n3'⟩ := ((((F7.out.set0 (.slice none 0 0)).set1 (.slice none 0 0)).set2 (.slice none 0 0)).set3 (.slice none 0 0)).cells
    obtain ⟨j0, j1, j2, j3⟩ := ((((F7.out.set0 (.slice aa (bC P0).length na)).set1 (.slice ab (bS P0).length nb)).set2 (.slice ac (bC P1).length nc)).set3 (.slice ad (bS P1).length nd)).cells
    have HEY := hid (show Below w.heap.size w (((((w6.alloc (.cells #[.slice ac (bC P1).length nc, .slice ad (bS P1).length nd] 31)).setCell ⟨w.heap.size, 0, none⟩ (.slice aa (bC P0).length na)).setCell ⟨w.heap.size, 1, none⟩ (.slice ab (bS P0).length nb)).setCell ⟨w.heap.size, 2, none⟩ (.slice ac (bC P1).length nc)).setCell ⟨w.heap.size, 3, none⟩ (.slice ad (bS P1).length nd)) from (((B7.out.setCell (p := ⟨w.heap.size, 0, none⟩) (Nat.le_refl _) _).setCell (p := ⟨w.heap.size, 1, none⟩) (Nat.le_refl _) _).setCell (p := ⟨w.heap.size, 2, none⟩) (Nat.le_refl _) _).setCell (p := ⟨w.heap.size, 3, none⟩) (Nat.le_refl _) _)
    generalize hb0 : bB P0 = b0 at *
    generalize hb1 : bB P1 = b1 at *
    have HBB := hid (show sbB L = (b0 && b1) from HC0.out.2.2.2.2)
    have HCC := hid (show sbC 0 L = bC P0 ∧ sbS 0 L = bS P0 ∧ sbC 1 L = bC P1 ∧ sbS 1 L = bS P1 from ⟨HC0.out.1, HC0.out.2.1, HC0.out.2.2.1, HC0.out.2.2.2.1⟩)
    clear HC0 hb0 hb1 HM HF0 HF1
    have no : ∀ f : Bool, f = false → (b0 && b1) = f → SbP L w (.returned (.tuple #[.agg #[.slice none 0 0, .slice none 0 0, .slice none 0 0, .slice none 0 0], .bool false])) (((((w6.alloc (.cells #[.slice ac (bC P1).length nc, .slice ad (bS P1).length nd] 31)).setCell ⟨w.heap.size, 0, none⟩ (.slice none 0 0)).setCell ⟨w.heap.size, 1, none⟩ (.slice none 0 0)).setCell ⟨w.heap.size, 2, none⟩ (.slice none 0 0)).setCell ⟨w.heap.size, 3, none⟩ (.slice none 0 0)) := fun f hf he => by
      subst hf
      exact ⟨_, [], [], [], [], by rw [HBB.out, he], town_nil _ _ HEN.out.size, fun h => by (rw [HBB.out, he] at h; cases h), HEN.out⟩
    have NO := hid no
    clear no
    cases b0 with
    | false =>
      go_wp2_with fail
      exact bodyPost_ret (v := .tuple #[.agg #[.slice none 0 0, .slice none 0 0, .slice none 0 0, .slice none 0 0], .bool false]) (by simp [results, Tryz.results61, go_sem, n0', n1', n2', n3']) rfl (NO.out false rfl rfl)
    | true =>
      cases b1 with
      | false =>
        go_wp2_with fail
        exact bodyPost_ret (v := .tuple #[.agg #[.slice none 0 0, .slice none 0 0, .slice none 0 0, .slice none 0 0], .bool false]) (by simp [results, Tryz.results61, go_sem, n0', n1', n2', n3']) rfl (NO.out false rfl rfl)
      | true =>
        clear NO
        have key : ∀ {q : World} {v : Value} {xs : List Int} (a b c d : Value), Own q (w.heap.size + 1) 3 .i64 v xs → Own ((((q.setCell ⟨w.heap.size, 0, none⟩ a).setCell ⟨w.heap.size, 1, none⟩ b).setCell ⟨w.heap.size, 2, none⟩ c).setCell ⟨w.heap.size, 3, none⟩ d) (w.heap.size + 1) 3 .i64 v xs := fun {q v xs} a b c d o =>
          (((o.setCell_below (a := ⟨w.heap.size, 0, none⟩) (Nat.lt_succ_self _) a).setCell_below (a := ⟨w.heap.size, 1, none⟩) (Nat.lt_succ_self _) b).setCell_below (a := ⟨w.heap.size, 2, none⟩) (Nat.lt_succ_self _) c).setCell_below (a := ⟨w.heap.size, 3, none⟩) (Nat.lt_succ_self _) d
        have KEY := hid (show ∀ a b c d, TOwn (((((w6.alloc (.cells #[.slice ac (bC P1).length nc, .slice ad (bS P1).length nd] 31)).setCell ⟨w.heap.size, 0, none⟩ a).setCell ⟨w.heap.size, 1, none⟩ b).setCell ⟨w.heap.size, 2, none⟩ c).setCell ⟨w.heap.size, 3, none⟩ d) w.heap.size (.agg #[.slice aa (bC P0).length na, .slice ab (bS P0).length nb, .slice ac (bC P1).length nc, .slice ad (bS P1).length nd]) (bC P0) (bS P0) (bC P1) (bS P1) from fun a b c d => ⟨_, _, _, _, _, _, _, _, rfl, (key a b c d V7.out.1).mono (Nat.le_succ _), (key a b c d V7.out.2).mono (Nat.le_succ _), (key a b c d U7.out.1).mono (Nat.le_succ _), (key a b c d U7.out.2).mono (Nat.le_succ _)⟩)
        clear key
        go_wp2_with fail
        refine bodyPost_ret (v := .tuple #[.agg #[.slice aa (bC P0).length na, .slice ab (bS P0).length nb, .slice ac (bC P1).length nc, .slice ad (bS P1).length nd], .bool true]) (by simp [results, Tryz.results61, go_sem, j0, j1, j2, j3]) rfl ⟨_, bC P0, bS P0, bC P1, bS P1, by rw [HBB.out]; rfl, ?_, fun _ => ⟨HCC.out.1.symm, HCC.out.2.1.symm, HCC.out.2.2.1.symm, HCC.out.2.2.2.symm⟩, HEY.out⟩
        exact KEY.out _ _ _ _
end Go.Proofs.YtnnakmgngkpghaaGreat
