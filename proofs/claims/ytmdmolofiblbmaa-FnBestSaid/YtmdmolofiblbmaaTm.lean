/- Appends of pieces of a row of trees; the contract of l02Lengths. -/
import Derived.Test.YtmdmolofiblbmaaTl
import Derived.Deep.QuietTactic
import Derived.Deep.RegionHeld3
import Derived.Deep.RegionLaw
import Derived.OneCell
namespace Go.Proofs.Ytmdmolofiblbmaa
open Go.RowKit
set_option linter.unusedVariables false

/-- 'append(out, piece...)' of trees as one step of a statement that leaves its order open. -/
theorem step_appE {P : Program} {ops : Array Oper} {o : Oper} {a : Act} {K : Act → World → Prop} {Q : Exit → Act → World → Prop} {X : Prop} (w : World) (hgd : o.guard = none) (s x : Operand) (t : TypeId)
    (ho : o.op = .call { callee := .builtin .append, args := #[s, x], argTypes := #[t, t] })
    (base : Nat) (ht : P.underlying t = some (.slice 95)) (hinfo : (P.info? 95).map (fun i => (i.zero, i.size, i.bytes)) = some (some (.agg #[.int .i64 0, .int .i64 0, .slice none 0 0]), 3, 40))
    (v : Value) (E : List TE) (hs : a.eval s = v) (hown : TrL w base v E) (ad : Addr) (c : Nat) (E2 : List TE) (hx : a.eval x = .slice (some ad) E2.length c)
    (hcells : ∀ (j : Nat) u, (flE E2)[j]? = some u → w.cell? (ad.add j) = some u) (hE2 : ∀ e ∈ E2, Own w 0 3 .i64 e.y e.s) (hlen : E.length + E2.length < 1000000000)
    (h : ∀ v' w', TrL w' base v' (E ++ E2) → Kp3 w w' → Below base w w' → w.grownBy w' v.ownBlock → K (a.put o.dst v') w') :
    if Region.wanted o (yielded ops a.tmps) = true then Oper.wp P o a w K Q else X := by
  have hw : Region.wanted o (yielded ops a.tmps) = true := by simp [Region.wanted, hgd]
  rw [if_pos hw]
  obtain ⟨i, hi, hz0, hz1, hz2⟩ := info_parts hinfo
  have hb := hown.1
  have hlt := hown.2.1.lt
  refine wp_append_own _ s x t ho base 95 i (.agg #[.int .i64 0, .int .i64 0, .slice none 0 0]) 3 40 ht hi hz0 hz1 hz2 rfl (by decide) v E.length _ hs hown.2.1 ad E2.length c (flE E2) hx (flE_len E2) hcells ?_ (by unfold maxLen; omega) (by omega) hb ?_
  · intro u hu
    simp only [flE, List.mem_flatMap] at hu
    obtain ⟨e, he, hu⟩ := hu
    obtain ⟨ao, cc, hy⟩ := (hE2 e he).shape
    simp at hu
    rcases hu with rfl | rfl | rfl
    · rfl
    · rfl
    · rw [hy]; rfl
  · intro v' w' hown' hgrow _
    obtain ⟨h1, h2⟩ := TrL.pushed hown hE2 hown' hgrow
    exact h v' w' h1 h2 ((Below.refl base w).grown hgrow hb (fun g hg => (hlt g hg).1)) hgrow

/-- 'append(out, ys...)' of ints, ys a slice that is read, as one step of a statement that leaves its order open. -/
theorem step_appI {P : Program} {ops : Array Oper} {o : Oper} {a : Act} {K : Act → World → Prop} {Q : Exit → Act → World → Prop} {X : Prop} (w : World) (hgd : o.guard = none) (s x : Operand) (t : TypeId)
    (ho : o.op = .call { callee := .builtin .append, args := #[s, x], argTypes := #[t, t] })
    (base : Nat) (ht : P.underlying t = some (.slice 3)) (hinfo : (P.info? 3).map (fun i => (i.zero, i.size, i.bytes)) = some (some (.int .i64 0), 1, 8))
    (v : Value) (xs : List Int) (hs : a.eval s = v) (hown : Own w base 3 .i64 v xs) (yb : Nat) (g c : Nat) (ys : List Int) (hx : a.eval x = .slice (some ⟨g, 0, none⟩) ys.length c) (hy : Own w yb 3 .i64 (.slice (some ⟨g, 0, none⟩) ys.length c) ys) (hlen : xs.length + ys.length < 1000000000000)
    (h : ∀ v' w', Own w' base 3 .i64 v' (xs ++ ys) → Below base w w' → w.grownBy w' v.ownBlock → K (a.put o.dst v') w') :
    if Region.wanted o (yielded ops a.tmps) = true then Oper.wp P o a w K Q else X := by
  have hw : Region.wanted o (yielded ops a.tmps) = true := by simp [Region.wanted, hgd]
  rw [if_pos hw]
  obtain ⟨i, hi, hz0, hz1, hz2⟩ := info_parts hinfo
  have hb := hown.1
  have hlt := hown.2.lt
  refine wp_append_own _ s x t ho base 3 i (.int .i64 0) 1 8 ht hi hz0 hz1 hz2 rfl (by decide) v xs.length _ hs hown.2 ⟨g, 0, none⟩ ys.length c (ys.map (Value.int .i64)) hx (by simp) ?_ ?_ (by unfold maxLen; omega) (by omega) hb ?_
  · intro j u hj
    exact hy.2.cells (g := g) (by simp [Value.ownBlock]) j u hj
  · intro u hu
    simp at hu
    obtain ⟨z, _, rfl⟩ := hu
    rfl
  · intro v' w' hown' hgrow _
    refine h v' w' ⟨Nat.le_trans hb hgrow.size, by simpa using hown'⟩ ?_ hgrow
    exact (Below.refl base w).grown hgrow hb (fun g hg => (hlt g hg).1)
theorem Own.some_of {w : World} {base : Nat} {ya : Option Addr} {n c : Nat} {xs : List Int} (h : Own w base 3 .i64 (.slice ya n c) xs) (hne : xs ≠ []) : ∃ g, ya = some ⟨g, 0, none⟩ := by
  rcases h.2.2 with ⟨_, h0⟩ | ⟨g, cap, cur, hv, _⟩
  · exact absurd (List.length_eq_zero_iff.1 h0) hne
  · cases hv
    exact ⟨g, rfl⟩

theorem flE_take (E : List TE) (i : Nat) : ∀ (j : Nat) u, (flE (E.take i))[j]? = some u → (flE E)[j]? = some u := by
  intro j u h
  have e : flE E = flE (E.take i) ++ flE (E.drop i) := by rw [← flE_append, List.take_append_drop]
  rw [e, List.getElem?_append_left (List.getElem?_eq_some_iff.1 h).1]
  exact h
theorem flE_drop (E : List TE) (i : Nat) (hi : i ≤ E.length) : ∀ (j : Nat) u, (flE (E.drop i))[j]? = some u → (flE E)[i * 3 + j]? = some u := by
  intro j u h
  have e : flE E = flE (E.take i) ++ flE (E.drop i) := by rw [← flE_append, List.take_append_drop]
  have l : (flE (E.take i)).length = i * 3 := by rw [flE_len, List.length_take_of_le hi]
  rw [e, List.getElem?_append_right (by omega), l]
  rw [show i * 3 + j - i * 3 = j by omega]
  exact h
theorem nthE_mem (E : List TE) (i : Nat) (h : i < E.length) : nthE E i ∈ E := by
  simp only [nthE, List.getD, List.getElem?_eq_getElem h]
  exact List.getElem_mem h
/-- The rest of a row of trees: without one of them. -/
theorem TrL.without {w : World} {base : Nat} {v : Value} {E : List TE} {i : Nat} (h : TrL w base v (([] ++ E.take i) ++ E.drop (i + 1))) : TrL w base v (E.eraseIdx i) := by
  rw [List.eraseIdx_eq_take_drop_succ]
  simpa using h
theorem nthP_mem (S : List PT) (i : Nat) (h : i < S.length) : nthP S i ∈ S := by
  simp only [nthP, List.getD, List.getElem?_eq_getElem h]
  exact List.getElem_mem h
theorem sumB_nonneg (g : PT → Int) : ∀ S : List PT, (∀ x ∈ S, 0 ≤ g x) → 0 ≤ sumB g S
  | [], _ => Int.le_refl _
  | x :: S, h => by
    have h1 := h x (by simp)
    have h2 := sumB_nonneg g S (fun y hy => h y (by simp [hy]))
    simp only [sumB]
    omega
/-- The sum of two trees is no more than that of all. -/
theorem two_sum (g : PT → Int) (S : List PT) (i k : Nat) (hi : i < S.length) (hk : k < (S.eraseIdx i).length) (h : ∀ x ∈ S, 0 ≤ g x) : g (nthP S i) + g (nthP (S.eraseIdx i) k) ≤ sumB g S := by
  have e1 := sumB_erase g S i hi
  have e2 := sumB_erase g (S.eraseIdx i) k hk
  have := sumB_nonneg g ((S.eraseIdx i).eraseIdx k) (fun x hx => h x (List.mem_of_mem_eraseIdx (List.mem_of_mem_eraseIdx hx)))
  omega
theorem map_erase (E : List TE) (i : Nat) : (E.eraseIdx i).map TE.pl = (E.map TE.pl).eraseIdx i := by
  rw [List.eraseIdx_eq_take_drop_succ, List.eraseIdx_eq_take_drop_succ, List.map_append, List.map_take, List.map_drop]
def sliceLen : Value → Nat
  | .slice _ n _ => n
  | _ => 0

/-- A new tree's block, with nothing in it yet. -/
def Zer (w : World) (O : Nat) : Prop := w.heap[O]? = some (.cells #[.int .i64 0, .int .i64 0, .slice none 0 0] 95 (0, 0))
theorem Own.ne95 {w : World} {base : Nat} {v : Value} {xs : List Int} {O : Nat} {cur : Array Value} (h : Own w base 3 .i64 v xs) (hz : w.heap[O]? = some (.cells cur 95 (0, 0))) : v.ownBlock ≠ some O := by
  intro e
  rcases h.2.2 with ⟨hv, _⟩ | ⟨g, cap, cur', hv, _, hh, _⟩
  · subst hv; simp [Value.ownBlock] at e
  · subst hv
    have : g = O := by simpa [Value.ownBlock] using e
    subst this
    rw [hz] at hh
    cases hh
theorem Zer.grown {w w' : World} {base O : Nat} {v : Value} {xs : List Int} (h : Zer w O) (ho : Own w base 3 .i64 v xs) (hg : w.grownBy w' v.ownBlock) : Zer w' O :=
  (hg.block O (Array.getElem?_eq_some_iff.1 h).1 (fun e => ho.ne95 h e.symm)).trans h
theorem Zer.facts {w : World} {O : Nat} (h : Zer w O) : w.cell? ⟨O, 0, none⟩ = some (.int .i64 0) ∧ w.cell? ⟨O, 1, none⟩ = some (.int .i64 0) ∧ w.cell? ⟨O, 2, none⟩ = some (.slice none 0 0) ∧ w.frozen? ⟨O, 0, none⟩ = false ∧ w.frozen? ⟨O, 1, none⟩ = false ∧ w.frozen? ⟨O, 2, none⟩ = false := by
  refine ⟨?_, ?_, ?_, frozen_of_row w O 0 _ 95 h, frozen_of_row w O 1 _ 95 h, frozen_of_row w O 2 _ 95 h⟩
  · rw [cell_of_row w O 0 _ 95 (0, 0) h]; rfl
  · rw [cell_of_row w O 1 _ 95 (0, 0) h]; rfl
  · rw [cell_of_row w O 2 _ 95 (0, 0) h]; rfl
/-- A tree that was made: its block, its symbols. -/
def Made (x : World) (p : Value) (a b : Int) (ss : List Int) (wx : World) : Prop :=
  ∃ (O : Nat) (yo : Option Addr) (yc : Nat), p = .pointer (some ⟨O, 0, none⟩) ∧ x.heap.size ≤ O ∧ wx.heap[O]? = some (.cells #[.int .i64 a, .int .i64 b, .slice yo ss.length yc] 95 (0, 0)) ∧ Own wx x.heap.size 3 .i64 (.slice yo ss.length yc) ss ∧ Below x.heap.size x wx
theorem Made.alloc {x w : World} {a b : Int} {yo : Option Addr} {yc : Nat} {ss : List Int} (ho : Own w x.heap.size 3 .i64 (.slice yo ss.length yc) ss) (hb : Below x.heap.size x w) :
    Made x (.pointer (some ⟨w.heap.size, 0, none⟩)) a b ss (w.alloc (.cells #[.int .i64 a, .int .i64 b, .slice yo ss.length yc] 95)) :=
  ⟨w.heap.size, yo, yc, rfl, hb.size, heap_alloc_new w _, ho.below ((Below.refl _ _).alloc (Nat.le_refl _) _), hb.alloc hb.size _⟩
theorem Made.store {x w : World} {O : Nat} {a b : Int} {yo : Option Addr} {yc : Nat} {ss : List Int} (hO : x.heap.size ≤ O) (hz : Zer w O) (ho : Own w x.heap.size 3 .i64 (.slice yo ss.length yc) ss) (hb : Below x.heap.size x w) :
    Made x (.pointer (some ⟨O, 0, none⟩)) a b ss (((w.setCell ⟨O, 0, none⟩ (.int .i64 a)).setCell ⟨O, 1, none⟩ (.int .i64 b)).setCell ⟨O, 2, none⟩ (.slice yo ss.length yc)) := by
  have h1 := heap_setCell_same w O 0 _ 95 (.int .i64 a) hz
  have h2 := heap_setCell_same _ O 1 _ 95 (.int .i64 b) h1
  have h3 := heap_setCell_same _ O 2 _ 95 (.slice yo ss.length yc) h2
  have keep : ∀ (q : World) (cur : Array Value) (i : Nat) (u : Value), q.heap[O]? = some (.cells cur 95 (0, 0)) → Own q x.heap.size 3 .i64 (.slice yo ss.length yc) ss → Own (q.setCell ⟨O, i, none⟩ u) x.heap.size 3 .i64 (.slice yo ss.length yc) ss := fun q cur i u hq hoq =>
    ⟨by have := hoq.1; simpa [World.setCell] using this, ownsRow_setCell_other hoq.2 (hoq.ne95 hq) u⟩
  refine ⟨O, yo, yc, rfl, hO, h3, keep _ _ 2 _ h2 (keep _ _ 1 _ h1 (keep _ _ 0 _ hz ho)), ?_⟩
  exact ((hb.setCell (p := ⟨O, 0, none⟩) hO _).setCell (p := ⟨O, 1, none⟩) hO _).setCell (p := ⟨O, 2, none⟩) hO _
end Go.Proofs.Ytmdmolofiblbmaa
