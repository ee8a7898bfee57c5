/- Drawn codes: what stands. -/
import Derived.Test.YtmdmolofiblbmaaDf
import Derived.Test.YtmdmolofiblbmaaBs
namespace Go.Proofs.Ytmdmolofiblbmaa
open Go.RowKit
set_option linter.unusedVariables false

/-- What stands in a draw of codes: the answer's box B, the codes in box K, their rows apart, the cursor. -/
structure Kst (w0 w wz : World) (ao : Option Addr) (n cap C K : Nat) (cv sv : Value) (cs ss : List Int) : Prop where
  box : Two wz w.heap.size (.slice none 0 0) (.slice none 0 0) 26
  two : Two wz K cv sv 26
  hK : w.heap.size < K
  a : Own wz (w.heap.size + 1) 3 .i64 cv cs
  b : Own wz (w.heap.size + 1) 3 .i64 sv ss
  apart : ∀ g, cv.ownBlock = some g → sv.ownBlock ≠ some g
  cur : Cur w0 ao n cap C wz
  eff : Eff C w wz
  hC : C < w.heap.size
theorem Own.ne80 {w : World} {base : Nat} {v : Value} {xs : List Int} {C : Nat} {cs : Array Value} (h : Own w base 3 .i64 v xs) (hz : w.heap[C]? = some (.cells cs 80 (0, 0))) : v.ownBlock ≠ some C := by
  intro e
  rcases h.2.2 with ⟨hv, _⟩ | ⟨g, cap, cur, hv, _, hh, _⟩
  · subst hv; simp [Value.ownBlock] at e
  · subst hv
    have : g = C := by simpa [Value.ownBlock] using e
    subst this
    rw [hh] at hz
    have := Option.some.inj hz
    simp at this
theorem Kst.turn {w0 w wz w' : World} {ao : Option Addr} {n cap C K : Nat} {cv sv : Value} {cs ss : List Int} (h : Kst w0 w wz ao n cap C K cv sv cs ss) (hc : Cur w0 ao n cap C w') (he : Eff C wz w') : Kst w0 w w' ao n cap C K cv sv cs ss := by
  obtain ⟨a1, a2, a3, a4, a5, a6, a7, a8, a9⟩ := h
  exact ⟨(he.block _ a1.lt (fun e => by have := Option.some.inj e; omega)).trans a1, (he.block _ a2.lt (fun e => by have := Option.some.inj e; omega)).trans a2, a3, Eff.own a4 he (by omega), Eff.own a5 he (by omega), a6, hc, a8.trans he, a9⟩
theorem Kst.below {w0 w wz w' : World} {ao : Option Addr} {n cap C K : Nat} {cv sv : Value} {cs ss : List Int} (h : Kst w0 w wz ao n cap C K cv sv cs ss) (hb : Below wz.heap.size wz w') : Kst w0 w w' ao n cap C K cv sv cs ss :=
  h.turn (h.cur.below hb) ⟨hb.os, hb.tape, hb.output, hb.size, fun k hk _ => hb.block k hk⟩
/-- A number is written into the counts. -/
theorem Kst.put {w0 w wz : World} {ao : Option Addr} {n cap C K g m c : Nat} {sv : Value} {cs ss : List Int} (h : Kst w0 w wz ao n cap C K (.slice (some ⟨g, 0, none⟩) m c) sv cs ss) (j : Nat) (x : Int) : Kst w0 w (wz.setCell ⟨g, j, none⟩ (.int .i64 x)) ao n cap C K (.slice (some ⟨g, 0, none⟩) m c) sv (cs.set j x) ss := by
  obtain ⟨a1, a2, a3, a4, a5, a6, a7, a8, a9⟩ := h
  have hg := a4.ge.1
  have hg2 : w.heap.size + 1 ≤ g := hg
  have n1 := a4.ne26 a1
  have n2 := a4.ne26 a2
  have e1 : g ≠ w.heap.size := by omega
  have e2 : g ≠ K := fun e => n2 (by rw [← e]; rfl)
  have hsv : sv.ownBlock ≠ some g := a6 g rfl
  refine ⟨a1.other e1.symm _, a2.other e2.symm _, a3, a4.store j x, ?_, a6, ?_, ?_, a9⟩
  · exact a5.keep (b := some g) (by simp) (fun k hk hne => heap_setCell_other wz ⟨g, j, none⟩ k _ (fun e => hne (by rw [e]))) (fun k hk e => hsv (by rw [hk, ← e]))
  · obtain ⟨c1, c2, i, h, c3, c4⟩ := a7
    exact ⟨c1, c2.setCell (p := ⟨g, j, none⟩) (by show w0.heap.size ≤ g; omega) _, i, h, c3, (heap_setCell_other wz ⟨g, j, none⟩ C _ (by show C ≠ g; omega)).trans c4⟩
  · exact ⟨a8.os, a8.tape, a8.output, by simpa using a8.size, fun k hk hne => (heap_setCell_other wz ⟨g, j, none⟩ k _ (by show k ≠ g; omega)).trans (a8.block k hk hne)⟩
/-- Another slice of counts. -/
theorem Kst.head {w0 w wz : World} {ao : Option Addr} {n cap C K g m c m2 c2 : Nat} {sv : Value} {cs ss : List Int} (h : Kst w0 w wz ao n cap C K (.slice (some ⟨g, 0, none⟩) m c) sv cs ss) (cs2 : List Int) (ho : Own wz (w.heap.size + 1) 3 .i64 (.slice (some ⟨g, 0, none⟩) m2 c2) cs2) : Kst w0 w (wz.setCell ⟨K, 0, none⟩ (.slice (some ⟨g, 0, none⟩) m2 c2)) ao n cap C K (.slice (some ⟨g, 0, none⟩) m2 c2) sv cs2 ss := by
  obtain ⟨a1, a2, a3, a4, a5, a6, a7, a8, a9⟩ := h
  refine ⟨a1.other (by omega) _, a2.set0 _, a3, ho.ef (t := 26) (l := [.slice (some ⟨g, 0, none⟩) m c, sv]) a2 (by decide) (Ef.set _ _ _), a5.ef (t := 26) (l := [.slice (some ⟨g, 0, none⟩) m c, sv]) a2 (by decide) (Ef.set _ _ _), a6, ?_, ?_, a9⟩
  · obtain ⟨c1, c2, i, h, c3, c4⟩ := a7
    exact ⟨c1, c2.setCell (p := ⟨K, 0, none⟩) (by show w0.heap.size ≤ K; omega) _, i, h, c3, (heap_setCell_other wz ⟨K, 0, none⟩ C _ (by show C ≠ K; omega)).trans c4⟩
  · exact ⟨a8.os, a8.tape, a8.output, by simpa using a8.size, fun k hk hne => (heap_setCell_other wz ⟨K, 0, none⟩ k _ (by show k ≠ K; omega)).trans (a8.block k hk hne)⟩
/-- One symbol more. -/
theorem Kst.sym {w0 w wz w' : World} {ao : Option Addr} {n cap C K : Nat} {cv sv v' : Value} {cs ss : List Int} {y : Int} (h : Kst w0 w wz ao n cap C K cv sv cs ss) (ho : Own w' (w.heap.size + 1) 3 .i64 v' (ss ++ [y])) (hb : Below (w.heap.size + 1) wz w') (hk : ∀ g, g < wz.heap.size → some g ≠ sv.ownBlock → w'.heap[g]? = wz.heap[g]?) (hat : v'.ownBlock = sv.ownBlock ∨ ∃ g, v'.ownBlock = some g ∧ wz.heap.size ≤ g) :
    Two w' K cv sv 26 ∧ Kst w0 w (w'.setCell ⟨K, 1, none⟩ v') ao n cap C K cv v' cs (ss ++ [y]) := by
  obtain ⟨a1, a2, a3, a4, a5, a6, a7, a8, a9⟩ := h
  have t1 := a1.keep a5 hk
  have t2 := a2.keep a5 hk
  have o4 : Own w' (w.heap.size + 1) 3 .i64 cv cs := a4.keep hb.size hk (fun g hg => a6 g hg)
  refine ⟨t2, t1.other (by omega) _, t2.set1 _, a3, o4.ef (t := 26) (l := [cv, sv]) t2 (by decide) (Ef.set _ _ _), ho.ef (t := 26) (l := [cv, sv]) t2 (by decide) (Ef.set _ _ _), fun g hg e => ?_, ?_, ?_, a9⟩
  · rcases hat with h | ⟨k, h, hk2⟩
    · exact a6 g hg (by rw [← h]; exact e)
    · rw [h] at e
      have := Option.some.inj e
      have := a4.blk_lt g hg
      omega
  · have hb0 : Below w0.heap.size w0 w' := a7.2.1.trans (hb.mono (by have := a7.1; omega))
    obtain ⟨c1, c2, i, h, c3, c4⟩ := a7
    exact ⟨c1, hb0.setCell (p := ⟨K, 1, none⟩) (by show w0.heap.size ≤ K; omega) _, i, h, c3, (heap_setCell_other w' ⟨K, 1, none⟩ C _ (by show C ≠ K; omega)).trans ((hb.block C (by omega)).trans c4)⟩
  · exact ⟨hb.os.trans a8.os, hb.tape.trans a8.tape, hb.output.trans a8.output, by have := hb.size; simpa using Nat.le_trans a8.size this, fun k hk2 hne => (heap_setCell_other w' ⟨K, 1, none⟩ k _ (by show k ≠ K; omega)).trans ((hb.block k (by omega)).trans (a8.block k hk2 hne))⟩
theorem Kst.end {w0 w wz : World} {ao : Option Addr} {n cap C K : Nat} {cv sv : Value} {cs ss : List Int} (h : Kst w0 w wz ao n cap C K cv sv cs ss) : BO ((wz.setCell ⟨w.heap.size, 0, none⟩ cv).setCell ⟨w.heap.size, 1, none⟩ sv) w.heap.size (.agg #[cv, sv]) cs ss ∧ Cur w0 ao n cap C ((wz.setCell ⟨w.heap.size, 0, none⟩ cv).setCell ⟨w.heap.size, 1, none⟩ sv) ∧ Eff C w ((wz.setCell ⟨w.heap.size, 0, none⟩ cv).setCell ⟨w.heap.size, 1, none⟩ sv) := by
  obtain ⟨a1, a2, a3, a4, a5, a6, a7, a8, a9⟩ := h
  refine ⟨⟨cv, sv, rfl, ((a4.setCell_below (a := ⟨w.heap.size, 0, none⟩) (by show w.heap.size < w.heap.size + 1; omega) _).setCell_below (a := ⟨w.heap.size, 1, none⟩) (by show w.heap.size < w.heap.size + 1; omega) _).mono (by omega), ((a5.setCell_below (a := ⟨w.heap.size, 0, none⟩) (by show w.heap.size < w.heap.size + 1; omega) _).setCell_below (a := ⟨w.heap.size, 1, none⟩) (by show w.heap.size < w.heap.size + 1; omega) _).mono (by omega), a6⟩, ?_, ?_⟩
  · obtain ⟨c1, c2, i, h, c3, c4⟩ := a7
    exact ⟨c1, (c2.setCell (p := ⟨w.heap.size, 0, none⟩) (by show w0.heap.size ≤ w.heap.size; omega) _).setCell (p := ⟨w.heap.size, 1, none⟩) (by show w0.heap.size ≤ w.heap.size; omega) _, i, h, c3, (heap_setCell_other _ ⟨w.heap.size, 1, none⟩ C _ (by show C ≠ w.heap.size; omega)).trans ((heap_setCell_other _ ⟨w.heap.size, 0, none⟩ C _ (by show C ≠ w.heap.size; omega)).trans c4)⟩
  · exact ⟨a8.os, a8.tape, a8.output, by simpa using a8.size, fun k hk hne => (heap_setCell_other _ ⟨w.heap.size, 1, none⟩ k _ (by show k ≠ w.heap.size; omega)).trans ((heap_setCell_other _ ⟨w.heap.size, 0, none⟩ k _ (by show k ≠ w.heap.size; omega)).trans (a8.block k hk hne))⟩
end Go.Proofs.Ytmdmolofiblbmaa
