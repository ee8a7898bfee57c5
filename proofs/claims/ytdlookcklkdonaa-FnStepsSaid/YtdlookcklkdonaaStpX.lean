/- The contract of the drawing of steps. -/
import Derived.Test.YtdlookcklkdonaaStpG
import Derived.Test.YtdlookcklkdonaaShLaw
namespace Go.Proofs.Ytdlookcklkdonaa
open Go.RowKit
set_option linter.unusedVariables false

theorem stepTo_fine (xs : List Int) (hin : ∀ k, k < 63 → -1023 ≤ xs.getD k 0 ∧ xs.getD k 0 ≤ 1023) : ∀ k, k ≤ 63 → ∀ s ∈ (stepTo xs k).1, 0 ≤ s.2.1 ∧ s.2.1 ≤ 11 ∧ s.2.2.length ≤ 11
  | 0, _, s, hs => by simp [stepTo] at hs
  | k + 1, hk, s, hs => by
    by_cases h : xs.getD k 0 = 0
    · rw [stepTo_zero xs k h] at hs
      exact stepTo_fine xs hin k (by omega) s hs
    · rw [stepTo_num xs k h] at hs
      simp only [List.mem_append, List.mem_replicate, List.mem_singleton] at hs
      rcases hs with (hs | hs) | hs
      · exact stepTo_fine xs hin k (by omega) s hs
      · rw [hs.2]; exact ⟨by decide, by decide, by decide⟩
      · rw [hs]
        have h1 := hin k (by omega)
        have h2 := sz_in (x := xs.getD k 0) (by omega)
        exact ⟨by show 0 ≤ sz _; rw [h2]; omega, (sz_le _).2, restL_len _⟩
theorem nthS_mem (S : List (Int × Int × List Int)) (j : Nat) (h : j < S.length) : nthS S j ∈ S := by simp [nthS, List.getD, h]
theorem stepsR_fine (d : Int) (xs : List Int) (hb : blkOk d xs = true) : (stepsR d xs).length ≤ 63 ∧ ∀ j, j < (stepsR d xs).length → (0 ≤ (nthS (stepsR d xs) j).2.1 ∧ (nthS (stepsR d xs) j).2.1 ≤ 11) ∧ (nthS (stepsR d xs) j).2.2.length ≤ 11 := by
  have hin : ∀ k, k < 63 → -1023 ≤ xs.getD k 0 ∧ xs.getD k 0 ≤ 1023 := by
    unfold blkOk at hb
    simp only [Bool.and_eq_true, decide_eq_true_eq] at hb
    obtain ⟨_, _, hco⟩ := hb
    exact fun k hk => by simpa [inC] using coefTo_at xs 63 hco k hk
  have hl := stepTo_len xs 63
  have hf := stepTo_fine xs hin 63 (Nat.le_refl _)
  unfold stepsR
  rw [if_pos hb]
  unfold stepsOf
  by_cases h : 0 < (stepTo xs 63).2
  · rw [if_pos h]
    refine ⟨by rw [List.length_append, List.length_singleton]; omega, fun j hj => ?_⟩
    have hm := nthS_mem _ j hj
    rw [List.mem_append, List.mem_singleton] at hm
    rcases hm with hm | hm
    · have := hf _ hm
      exact ⟨⟨this.1, this.2.1⟩, this.2.2⟩
    · rw [hm]; exact ⟨⟨by decide, by decide⟩, by decide⟩
  · rw [if_neg h]
    refine ⟨by omega, fun j hj => ?_⟩
    have := hf _ (nthS_mem _ j hj)
    exact ⟨⟨this.1, this.2.1⟩, this.2.2⟩

/-- A row of steps whose blocks lie from B on. -/
def SRowB (B : Nat) (w : World) (ao : Option Addr) (S : List (Int × Int × List Int)) : Prop :=
  ∀ j, j < S.length → ∃ b off a c, ao = some ⟨b, off, none⟩ ∧ w.cell? ⟨b, off + j * 3, none⟩ = some (.int .i64 (nthS S j).1) ∧ w.cell? ⟨b, off + j * 3 + 1, none⟩ = some (.int .i64 (nthS S j).2.1) ∧ w.cell? ⟨b, off + j * 3 + 2, none⟩ = some (.slice a (nthS S j).2.2.length c) ∧ View .i64 w a (nthS S j).2.2.length (nthS S j).2.2 ∧ B ≤ b ∧ ∀ a', a = some a' → B ≤ a'.block
theorem SRowB.srow {B : Nat} {w : World} {ao : Option Addr} {S : List (Int × Int × List Int)} (h : SRowB B w ao S) : SRow w ao S := by
  intro j hj
  obtain ⟨b, off, a, c, h1, h2, h3, h4, h5, _⟩ := h j hj
  exact ⟨b, off, a, c, h1, h2, h3, h4, h5⟩
theorem SRowB.keep {B : Nat} {w w' : World} {ao : Option Addr} {S : List (Int × Int × List Int)} (h : SRowB B w ao S) (hk : ∀ g, B ≤ g → g < w.heap.size → w'.heap[g]? = w.heap[g]?) : SRowB B w' ao S := by
  intro j hj
  obtain ⟨b, off, a, c, h1, h2, h3, h4, h5, h6, h7⟩ := h j hj
  have hb : w'.heap[b]? = w.heap[b]? := hk b h6 (World.block_lt_of_cell? w ⟨b, off + j * 3, none⟩ h2)
  refine ⟨b, off, a, c, h1, (World.cell?_of_block (w := w) (a := ⟨b, off + j * 3, none⟩) hb).trans h2, (World.cell?_of_block (w := w) (a := ⟨b, off + j * 3 + 1, none⟩) hb).trans h3, (World.cell?_of_block (w := w) (a := ⟨b, off + j * 3 + 2, none⟩) hb).trans h4, ⟨h5.1, fun i hi => ?_⟩, h6, h7⟩
  obtain ⟨b', off', e1, e2⟩ := h5.2 i hi
  exact ⟨b', off', e1, (World.cell?_of_block (w := w) (a := ⟨b', off' + i, none⟩) (hk b' (h7 _ e1) (World.block_lt_of_cell? w ⟨b', off' + i, none⟩ e2))).trans e2⟩
theorem Own.viewB {w : World} {base : Nat} {v : Value} {xs : List Int} (h : Own w base 3 .i64 v xs) : ∃ a c, v = .slice a xs.length c ∧ View .i64 w a xs.length xs ∧ ∀ a', a = some a' → base ≤ a'.block := by
  obtain ⟨a, c, e, hv⟩ := h.view
  refine ⟨a, c, e, hv, fun a' ha => ?_⟩
  subst e
  subst ha
  exact h.ge.1
theorem OwnT.srowB {w : World} {base : Nat} {ao : Option Addr} {n c : Nat} {S : List (Int × Int × List Int)} {vs : List Value} (h : OwnT w base (.slice ao n c) S vs) : SRowB base w ao S := by
  obtain ⟨_, hl, h2, h3, _⟩ := h
  intro j hj
  obtain ⟨a, c', hy, hv, hbb⟩ := (h3 j hj).viewB
  rcases h2.2 with ⟨_, h0⟩ | ⟨g, cap, cur, hv', hbg, _⟩
  · omega
  · cases hv'
    have hc := flS_at S vs S.length j hj
    have c0 := h2.cells (g := g) (by simp [Value.ownBlock]) (j * 3) _ hc.1
    have c1 := h2.cells (g := g) (by simp [Value.ownBlock]) (j * 3 + 1) _ hc.2.1
    have c2 := h2.cells (g := g) (by simp [Value.ownBlock]) (j * 3 + 2) _ hc.2.2
    rw [Addr.add_lit, Nat.zero_add] at c0 c1 c2
    exact ⟨g, 0, a, c', rfl, by rw [Nat.zero_add]; exact c0, by rw [Nat.zero_add]; exact c1, by rw [Nat.zero_add, c2, hy], hv, hbg, hbb⟩
theorem nthS_set (S : List (Int × Int × List Int)) (i j : Nat) (s : Int × Int × List Int) (hj : j < S.length) : nthS (S.set i s) j = if i = j then s else nthS S j := by
  simp only [nthS, List.getD, List.getElem?_set]
  split
  · rename_i h
    subst h
    simp [hj]
  · rfl
theorem Own.setOf {w : World} {base b i : Nat} {v : Value} {t : TypeId} {cs : Array Value} {xs : List Int} (h : Own w base 3 .i64 v xs) (ht : w.heap[b]? = some (.cells cs t (0, 0))) (hne : t ≠ 3) (u : Value) : Own (w.setCell ⟨b, i, none⟩ u) base 3 .i64 v xs := by
  refine ⟨by simpa using h.1, h.2.1, ?_⟩
  rcases h.2.2 with h0 | ⟨g, cap, cur, hv, hg, hh, r⟩
  · exact .inl h0
  · refine .inr ⟨g, cap, cur, hv, hg, ?_, r⟩
    rw [heap_setCell_other _ ⟨b, i, none⟩ g _ (fun e => by
      have e' : g = b := e
      subst e'
      rw [hh] at ht
      cases ht
      exact hne rfl)]
    exact hh
theorem OwnT.row {w : World} {base g cap : Nat} {S : List (Int × Int × List Int)} {vs : List Value} (h : OwnT w base (.slice (some ⟨g, 0, none⟩) S.length cap) S vs) : ∃ cur, w.heap[g]? = some (.cells cur 65 (0, 0)) ∧ base ≤ g := by
  rcases h.2.2.1.2 with ⟨h', _⟩ | ⟨g', cap', cur, h', hb, hg, _⟩
  · simp at h'
  · simp only [Value.slice.injEq, Option.some.injEq, Addr.mk.injEq, and_true, true_and] at h'
    obtain ⟨rfl, rfl⟩ := h'
    exact ⟨cur, hg, hb⟩
/-- One cell of a row of steps is changed. -/
theorem OwnT.put {w : World} {base g cap : Nat} {S : List (Int × Int × List Int)} {vs : List Value} (h : OwnT w base (.slice (some ⟨g, 0, none⟩) S.length cap) S vs) (i k : Nat) (hi : i < S.length) (hk : k < 3) (u : Value) (s : Int × Int × List Int)
    (h0 : k = 0 ∧ u = .int .i64 s.1 ∨ k ≠ 0 ∧ s.1 = (nthS S i).1) (h1 : k = 1 ∧ u = .int .i64 s.2.1 ∨ k ≠ 1 ∧ s.2.1 = (nthS S i).2.1)
    (h2 : k = 2 ∧ Own w base 3 .i64 u s.2.2 ∨ k ≠ 2 ∧ s.2.2 = (nthS S i).2.2) : SRowB base (w.setCell ⟨g, i * 3 + k, none⟩ u) (some ⟨g, 0, none⟩) (S.set i s) := by
  obtain ⟨cur, hg, hbg⟩ := h.row
  have hS := h.2.2.1
  have hst := (hS.stored (i * 3 + k) u).1
  intro j hj
  have hj' : j < S.length := by simpa using hj
  have hc := flS_at S vs S.length j hj'
  have hlen := flS_len S vs S.length
  have cell : ∀ m, m < 3 → (w.setCell ⟨g, i * 3 + k, none⟩ u).cell? ⟨g, 0 + j * 3 + m, none⟩ = if i = j ∧ k = m then some u else (flS S vs S.length)[j * 3 + m]? := by
    intro m hm
    rw [Nat.zero_add, hst.cellAt (j * 3 + m) (by omega), List.getElem?_set]
    by_cases e : i = j ∧ k = m
    · rw [if_pos e, if_pos (by rw [e.1, e.2]), if_pos (by rw [hlen]; omega)]
    · rw [if_neg e, if_neg (by omega)]
  have oj := h.2.2.2.1 j hj'
  obtain ⟨a, c, hy, _, hbb⟩ := oj.viewB
  have ov := (oj.setOf (i := i * 3 + k) hg (by decide) u)
  rw [hy] at ov
  rw [nthS_set S i j s hj']
  by_cases e : i = j
  · subst e
    rw [if_pos rfl]
    have e0 : (w.setCell ⟨g, i * 3 + k, none⟩ u).cell? ⟨g, 0 + i * 3, none⟩ = some (.int .i64 s.1) := by
      have := cell 0 (by decide)
      rw [Nat.add_zero] at this
      rw [this]
      rcases h0 with ⟨rfl, rfl⟩ | ⟨hn, hs⟩
      · simp
      · rw [if_neg (by omega), Nat.add_zero, hc.1, hs]
    have e1 : (w.setCell ⟨g, i * 3 + k, none⟩ u).cell? ⟨g, 0 + i * 3 + 1, none⟩ = some (.int .i64 s.2.1) := by
      rw [cell 1 (by decide)]
      rcases h1 with ⟨rfl, rfl⟩ | ⟨hn, hs⟩
      · simp
      · rw [if_neg (by omega), hc.2.1, hs]
    rcases h2 with ⟨rfl, ho⟩ | ⟨hn, hs⟩
    · obtain ⟨a2, c2, hy2, _, hb2⟩ := ho.viewB
      have ov2 := (ho.setOf (i := i * 3 + 2) hg (by decide) u)
      subst hy2
      obtain ⟨a3, c3, hy3, hv3⟩ := ov2.view
      cases hy3
      exact ⟨g, 0, a2, c2, rfl, e0, e1, by rw [cell 2 (by decide)]; simp, hv3, hbg, hb2⟩
    · obtain ⟨a3, c3, hy3, hv3⟩ := ov.view
      cases hy3
      exact ⟨g, 0, a, c, rfl, e0, e1, by rw [cell 2 (by decide), if_neg (by omega), hc.2.2, hy, hs], by rw [hs]; exact hv3, hbg, hbb⟩
  · rw [if_neg e]
    obtain ⟨a3, c3, hy3, hv3⟩ := ov.view
    cases hy3
    have e0 := cell 0 (by decide)
    rw [if_neg (by omega), Nat.add_zero] at e0
    exact ⟨g, 0, a, c, rfl, by rw [e0]; exact hc.1, by rw [cell 1 (by decide), if_neg (by omega)]; exact hc.2.1, by rw [cell 2 (by decide), if_neg (by omega), hc.2.2, hy], hv3, hbg, hbb⟩
theorem SRowB.take {B : Nat} {w : World} {ao : Option Addr} {S : List (Int × Int × List Int)} (h : SRowB B w ao S) (i : Nat) : SRowB B w ao (S.take i) := by
  intro j hj
  have hj' : j < S.length ∧ j < i := by simp at hj; omega
  have e : nthS (S.take i) j = nthS S j := by
    simp only [nthS, List.getD]
    rw [List.getElem?_take, if_pos hj'.2]
  rw [e]
  exact h j hj'.1
theorem OwnT.keep {w w' : World} {base : Nat} {v : Value} {S : List (Int × Int × List Int)} {vs : List Value} (h : OwnT w base v S vs) (hs : w.heap.size ≤ w'.heap.size) (hk : ∀ g, base ≤ g → g < w.heap.size → w'.heap[g]? = w.heap[g]?) : OwnT w' base v S vs := by
  obtain ⟨h1, h2, h3, h4, h5⟩ := h
  refine ⟨Nat.le_trans h1 hs, h2, ⟨h3.1, ?_⟩, fun j hj => ?_, h5⟩
  · rcases h3.2 with h0 | ⟨g, cap, cur, hv, hg, hh, r⟩
    · exact .inl h0
    · exact .inr ⟨g, cap, cur, hv, hg, (hk g hg (Array.getElem?_eq_some_iff.1 hh).1).trans hh, r⟩
  · have ho := h4 j hj
    refine ⟨Nat.le_trans ho.1 hs, ho.2.1, ?_⟩
    rcases ho.2.2 with h0 | ⟨g, cap, cur, hv, hg, hh, r⟩
    · exact .inl h0
    · exact .inr ⟨g, cap, cur, hv, hg, (hk g hg (Array.getElem?_eq_some_iff.1 hh).1).trans hh, r⟩
theorem Eff.keep {C B : Nat} {w w' : World} (h : Eff C w w') (hC : C < B) : ∀ g, B ≤ g → g < w.heap.size → w'.heap[g]? = w.heap[g]? := fun g hg hl => h.below' g hl (by omega)
/-- What is drawn for FromSteps. -/
def DrawnS (w : World) (e : Ending) (w' : World) : Prop :=
  ∃ (dc : Int) (lo : Option Addr) (lc : Nat) (L : List (Int × Int × List Int)), e = .returned (.tuple #[.int .i64 dc, .slice lo L.length lc]) ∧ (SRow w' lo L ∧ L.length ≤ 64 ∧ ∀ j, j < L.length → (nthS L j).2.2.length ≤ 1048576) ∧ Below w.heap.size w w'
end Go.Proofs.Ytdlookcklkdonaa
