/- The methods of a heap of trees. -/
import Derived.Test.YtmdmolofiblbmaaHp
import Derived.Deep.QuietTactic
import Derived.BigQuiet
import Derived.Deep.RegionHeld3
namespace Go.Proofs.Ytmdmolofiblbmaa
open Go.RowKit
set_option linter.unusedVariables false

/-- A row of cells, by its block. -/
def Blk (w : World) (b : Nat) (l : List Value) (t : TypeId) : Prop := w.heap[b]? = some (.cells l.toArray t (0, 0))
theorem Blk.lt {w : World} {b : Nat} {l : List Value} {t : TypeId} (h : Blk w b l t) : b < w.heap.size := (Array.getElem?_eq_some_iff.1 h).1
theorem Blk.cell {w : World} {b : Nat} {l : List Value} {t : TypeId} (h : Blk w b l t) {i : Nat} {v : Value} (hv : l[i]? = some v) : w.cell? ⟨b, i, none⟩ = some v := by
  rw [cell_of_row w b i _ t (0, 0) h]
  simpa using hv
theorem Blk.free {w : World} {b : Nat} {l : List Value} {t : TypeId} (h : Blk w b l t) (i : Nat) : w.frozen? ⟨b, i, none⟩ = false := frozen_of_row w b i _ t h
theorem Blk.set {w : World} {b : Nat} {l : List Value} {t : TypeId} (h : Blk w b l t) (i : Nat) (v : Value) : Blk (w.setCell ⟨b, i, none⟩ v) b (l.set i v) t := by
  have := heap_setCell_same w b i _ t v h
  unfold Blk
  rw [this]
  simp
theorem Blk.below {w w' : World} {B b : Nat} {l : List Value} {t : TypeId} (h : Blk w b l t) (hb : Below B w w') (hB : b < B) : Blk w' b l t := (hb.block b hB).trans h
theorem Blk.otherB {w : World} {b C i : Nat} {l : List Value} {t : TypeId} (h : Blk w b l t) (hne : b ≠ C) (v : Value) : Blk (w.setCell ⟨C, i, none⟩ v) b l t := (heap_setCell_other w ⟨C, i, none⟩ b v hne).trans h
theorem Blk.drew {w : World} {b : Nat} {l : List Value} {t : TypeId} (h : Blk w b l t) (n : Nat) : Blk (w.drewN n) b l t := h

/-- The trees of a row whose block is G. -/
def RowT (w : World) (G : Nat) (cur : List Value) (E : List TE) : Prop := Blk w G cur 86 ∧ cur.take (E.length * 3) = flE E ∧ E.length * 3 ≤ cur.length
theorem RowT.at {w : World} {G : Nat} {cur : List Value} {E : List TE} (h : RowT w G cur E) (j : Nat) (hj : j < E.length) : cur[j * 3]? = some (.int .i64 (nthE E j).w) ∧ cur[j * 3 + 1]? = some (.int .i64 (nthE E j).l) ∧ cur[j * 3 + 2]? = some (nthE E j).y := by
  have h1 := flE_at E j hj
  rw [← h.2.1] at h1
  simp only [List.getElem?_take] at h1
  rw [if_pos (by omega), if_pos (by omega), if_pos (by omega)] at h1
  exact h1

set_option maxHeartbeats 800000 in
theorem less_any (G c : Nat) (cur : List Value) (E : List TE) (i j : Nat) (w : World) (hi : i < E.length) (hj : j < E.length) (hl : E.length ≤ 1000) (h : RowT w G cur E) :
    Calls Try.prog 91 #[.slice (some ⟨G, 0, none⟩) E.length c, .int .i64 (i : Int), .int .i64 (j : Int)] w fun e w' => e = .returned (.bool (betP (nthE E i).pl (nthE E j).pl)) ∧ ∃ n, w' = w.drewN n := by
  obtain ⟨a0, a1, _⟩ := h.at i hi
  obtain ⟨b0, b1, _⟩ := h.at j hj
  have c0 := h.1.cell a0
  have c1 := h.1.cell a1
  have d0 := h.1.cell b0
  have d1 := h.1.cell b1
  have HR : Hid (betP (nthE E i).pl (nthE E j).pl = (decide ((nthE E i).w < (nthE E j).w) || (decide ((nthE E i).w = (nthE E j).w) && decide ((nthE E i).l < (nthE E j).l)))) := rfl
  generalize (nthE E i).w = wi at *
  generalize (nthE E i).l = li at *
  generalize (nthE E j).w = wj at *
  generalize (nthE E j).l = lj at *
  have hi' : (i : Int) < (E.length : Int) := by omega
  have hj' : (j : Int) < (E.length : Int) := by omega
  have ji : IntKind.i64.wrap (i : Int) = (i : Int) := by rw [IntKind.wrap_i64]; omega
  have jj : IntKind.i64.wrap (j : Int) = (j : Int) := by rw [IntKind.wrap_i64]; omega
  rw [HR.out]
  clear h a0 a1 b0 b1 HR
  by_cases hw : wi = wj
  · subst hw
    have e1 : (wi != wi) = false := by simp
    have e2 : (decide (wi < wi) || (decide (wi = wi) && decide (li < lj))) = decide (li < lj) := by simp
    rw [e2]
    go_enter Try.func91, Try.ntmps91
    go_wp2_with fail
    go_quiet (fail)
    go_wp2_with fail
    go_quiet (fail)
    go_wp2_with fail
    go_ret
    exact ⟨rfl, _, World.drewN_drewN _ _ _⟩
  · have e1 : (wi != wj) = true := by simpa using hw
    have e2 : (decide (wi < wj) || (decide (wi = wj) && decide (li < lj))) = decide (wi < wj) := by simp [hw]
    rw [e2]
    go_enter Try.func91, Try.ntmps91
    go_wp2_with fail
    go_quiet (fail)
    go_wp2_with fail
    go_quiet (fail)
    go_wp2_with fail
    go_ret
    exact ⟨rfl, _, World.drewN_drewN _ _ _⟩

/-- Of what was there only block b may have turned. -/
def Ef (b : Nat) (w w' : World) : Prop := w.grownBy w' (some b)
theorem Ef.trans {C : Nat} {a b c : World} (h : Ef C a b) (k : Ef C b c) : Ef C a c :=
  ⟨k.os.trans h.os, k.tape.trans h.tape, k.output.trans h.output, Nat.le_trans h.size k.size, fun g hg hne => (k.block g (Nat.lt_of_lt_of_le hg h.size) hne).trans (h.block g hg hne)⟩
theorem Ef.refl (C : Nat) (w : World) : Ef C w w := World.grownBy.refl w _
theorem Ef.set {C : Nat} (w : World) (j : Nat) (u : Value) : Ef C w (w.setCell ⟨C, j, none⟩ u) :=
  ⟨rfl, rfl, rfl, by simp, fun k _ hk => heap_setCell_other w ⟨C, j, none⟩ k u (fun e => hk (by rw [e]))⟩
theorem Ef.drewN {C : Nat} {a w : World} (h : Ef C a w) (n : Nat) : Ef C a (w.drewN n) := ⟨h.os, h.tape, h.output, h.size, h.block⟩
theorem Blk.ef {w w' : World} {C b : Nat} {l : List Value} {t : TypeId} (h : Blk w b l t) (he : Ef C w w') (hne : b ≠ C) : Blk w' b l t := (he.block b h.lt (fun e => hne (Option.some.inj e))).trans h

def swpE (E : List TE) (i j : Nat) : List TE := (E.set i (nthE E j)).set j (nthE E i)
theorem swpE_len (E : List TE) (i j : Nat) : (swpE E i j).length = E.length := by unfold swpE; simp
theorem swpE_pl (E : List TE) (i j : Nat) : (swpE E i j).map TE.pl = swp (E.map TE.pl) i j := by
  unfold swpE swp
  rw [List.map_set, List.map_set, nthE_pl, nthE_pl]
theorem flE_set : ∀ (E : List TE) (k : Nat) (e : TE), flE (E.set k e) = if k < E.length then (((flE E).set (k * 3) (.int .i64 e.w)).set (k * 3 + 1) (.int .i64 e.l)).set (k * 3 + 2) e.y else flE E
  | [], k, e => by simp
  | x :: E, 0, e => by simp [flE]
  | x :: E, k + 1, e => by
    have ih := flE_set E k e
    have hc : ∀ (y : TE) (R : List TE), flE (y :: R) = .int .i64 y.w :: .int .i64 y.l :: y.y :: flE R := fun y R => by simp [flE]
    have e1 : (k + 1) * 3 = k * 3 + 3 := by omega
    rw [List.set_cons_succ, hc, hc, ih, e1]
    by_cases hk : k < E.length
    · rw [if_pos hk, if_pos (by simpa using hk)]
      rfl
    · rw [if_neg hk, if_neg (by simpa using hk)]
theorem RowT.set {w : World} {G : Nat} {cur : List Value} {E : List TE} (h : RowT w G cur E) (k : Nat) (e : TE) (hk : k < E.length) :
    RowT (((w.setCell ⟨G, k * 3, none⟩ (.int .i64 e.w)).setCell ⟨G, k * 3 + 1, none⟩ (.int .i64 e.l)).setCell ⟨G, k * 3 + 2, none⟩ e.y) G (((cur.set (k * 3) (.int .i64 e.w)).set (k * 3 + 1) (.int .i64 e.l)).set (k * 3 + 2) e.y) (E.set k e) := by
  refine ⟨((h.1.set _ _).set _ _).set _ _, ?_, by simpa using h.2.2⟩
  rw [List.length_set, flE_set, if_pos hk, ← h.2.1, List.take_set, List.take_set, List.take_set]
theorem RowT.drew {w : World} {G : Nat} {cur : List Value} {E : List TE} (h : RowT w G cur E) (n : Nat) : RowT (w.drewN n) G cur E := h

set_option maxHeartbeats 800000 in
theorem swap_any (G c : Nat) (cur : List Value) (E : List TE) (i j : Nat) (w : World) (hi : i < E.length) (hj : j < E.length) (hl : E.length ≤ 1000) (h : RowT w G cur E) (hS : ∀ k, k < E.length → ∃ a n c, (nthE E k).y = .slice a n c) :
    Calls Try.prog 92 #[.slice (some ⟨G, 0, none⟩) E.length c, .int .i64 (i : Int), .int .i64 (j : Int)] w fun e w' => e = .returned (.tuple #[]) ∧ (∃ cur', cur'.length = cur.length ∧ RowT w' G cur' (swpE E i j)) ∧ Ef G w w' := by
  obtain ⟨a0, a1, a2⟩ := h.at i hi
  obtain ⟨b0, b1, b2⟩ := h.at j hj
  have c0 := h.1.cell a0
  have c1 := h.1.cell a1
  have c2 := h.1.cell a2
  have f0 := h.1.free (i * 3)
  have f1 := h.1.free (i * 3 + 1)
  have f2 := h.1.free (i * 3 + 2)
  obtain ⟨oi, ni, ci, ei⟩ := hS i hi
  obtain ⟨oj, nj, cj, ej⟩ := hS j hj
  have hi' : (i : Int) < (E.length : Int) := by omega
  have hj' : (j : Int) < (E.length : Int) := by omega
  have ji : IntKind.i64.wrap (i : Int) = (i : Int) := by rw [IntKind.wrap_i64]; omega
  have jj : IntKind.i64.wrap (j : Int) = (j : Int) := by rw [IntKind.wrap_i64]; omega
  have H := hid (h.set i (nthE E j) hi)
  have H2 := hid ((h.set i (nthE E j) hi).set j (nthE E i) (by simpa using hj))
  have hne : Hid (Ef G w (((((((w.setCell ⟨G, i * 3, none⟩ (.int .i64 (nthE E j).w)).setCell ⟨G, i * 3 + 1, none⟩ (.int .i64 (nthE E j).l)).setCell ⟨G, i * 3 + 2, none⟩ (nthE E j).y).setCell ⟨G, j * 3, none⟩ (.int .i64 (nthE E i).w)).setCell ⟨G, j * 3 + 1, none⟩ (.int .i64 (nthE E i).l)).setCell ⟨G, j * 3 + 2, none⟩ (nthE E i).y).drewN 1)) := hid (Ef.drewN ((((((Ef.set _ _ _).trans (Ef.set _ _ _)).trans (Ef.set _ _ _)).trans (Ef.set _ _ _)).trans (Ef.set _ _ _)).trans (Ef.set _ _ _)) 1)
  have d0 := h.1.cell b0
  have d1 := h.1.cell b1
  have d2 := h.1.cell b2
  have g0 := h.1.free (j * 3)
  have g1 := h.1.free (j * 3 + 1)
  have g2 := h.1.free (j * 3 + 2)
  rw [ei] at c2 H2 hne
  rw [ej] at d2 H2 hne
  clear h a0 a1 a2 b0 b1 b2 hS
  by_cases hij : i = j
  · subst hij
    rw [ei] at ej
    cases ej
    clear ei d0 d1 d2 g0 g1 g2
    have HX : Hid (∀ w', w' = (((((((w.setCell ⟨G, i * 3, none⟩ (.int .i64 (nthE E i).w)).setCell ⟨G, i * 3 + 1, none⟩ (.int .i64 (nthE E i).l)).setCell ⟨G, i * 3 + 2, none⟩ (.slice oi ni ci)).setCell ⟨G, i * 3, none⟩ (.int .i64 (nthE E i).w)).setCell ⟨G, i * 3 + 1, none⟩ (.int .i64 (nthE E i).l)).setCell ⟨G, i * 3 + 2, none⟩ (.slice oi ni ci)).drewN 1) → (∃ cur', cur'.length = cur.length ∧ RowT w' G cur' (swpE E i i)) ∧ Ef G w w') := hid (fun w' e => by subst e; exact ⟨⟨_, by simp, H2.out.drew 1⟩, hne.out⟩)
    clear H H2 hne
    generalize (nthE E i).w = wi at *
    generalize (nthE E i).l = li at *
    have m01 : ¬ i * 3 = i * 3 + 1 := by omega
    have m02 : ¬ i * 3 = i * 3 + 2 := by omega
    have m12 : ¬ i * 3 + 1 = i * 3 + 2 := by omega
    go_enter Try.func92, Try.ntmps92
    go_region
    go_end0
    exact ⟨rfl, HX.out _ rfl⟩
  · have HX : Hid (∀ w', w' = (((((((w.setCell ⟨G, i * 3, none⟩ (.int .i64 (nthE E j).w)).setCell ⟨G, i * 3 + 1, none⟩ (.int .i64 (nthE E j).l)).setCell ⟨G, i * 3 + 2, none⟩ (.slice oj nj cj)).setCell ⟨G, j * 3, none⟩ (.int .i64 (nthE E i).w)).setCell ⟨G, j * 3 + 1, none⟩ (.int .i64 (nthE E i).l)).setCell ⟨G, j * 3 + 2, none⟩ (.slice oi ni ci)).drewN 1) → (∃ cur', cur'.length = cur.length ∧ RowT w' G cur' (swpE E i j)) ∧ Ef G w w') := hid (fun w' e => by subst e; exact ⟨⟨_, by simp, H2.out.drew 1⟩, hne.out⟩)
    clear H H2 hne ei ej
    generalize (nthE E i).w = wi at *
    generalize (nthE E i).l = li at *
    generalize (nthE E j).w = wj at *
    generalize (nthE E j).l = lj at *
    have n00 : ¬ i * 3 = j * 3 := by omega
    have n01 : ¬ i * 3 = j * 3 + 1 := by omega
    have n02 : ¬ i * 3 = j * 3 + 2 := by omega
    have n10 : ¬ i * 3 + 1 = j * 3 := by omega
    have n11 : ¬ i * 3 + 1 = j * 3 + 1 := by omega
    have n12 : ¬ i * 3 + 1 = j * 3 + 2 := by omega
    have n20 : ¬ i * 3 + 2 = j * 3 := by omega
    have n21 : ¬ i * 3 + 2 = j * 3 + 1 := by omega
    have n22 : ¬ i * 3 + 2 = j * 3 + 2 := by omega
    go_enter Try.func92, Try.ntmps92
    go_region
    go_end0
    exact ⟨rfl, HX.out _ rfl⟩
end Go.Proofs.Ytmdmolofiblbmaa
