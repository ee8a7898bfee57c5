/- Two trees merged: what stands behind it, plain; rows of trees beside a row of lengths that is written. -/
import Derived.Test.YtmdmolofiblbmaaTn
namespace Go.Proofs.Ytmdmolofiblbmaa
open Go.RowKit
set_option linter.unusedVariables false

theorem getD_set_off (l : List Int) (m j : Nat) (x : Int) (h : m ≠ j) : (l.set m x).getD j 0 = l.getD j 0 := by
  simp only [List.getD_eq_getElem?_getD, List.getElem?_set_ne h]
theorem bumpTo_bd (lens syms : List Int) (j : Nat) : ∀ k, lens.getD j 0 ≤ (bumpTo lens syms k).getD j 0 ∧ (bumpTo lens syms k).getD j 0 ≤ lens.getD j 0 + k
  | 0 => ⟨Int.le_refl _, by simp [bumpTo]⟩
  | k + 1 => by
    have ih := bumpTo_bd lens syms j k
    rw [bumpTo]
    by_cases e : (syms.getD k 0).toNat = j
    · rw [e]
      by_cases hj : j < (bumpTo lens syms k).length
      · have : ((bumpTo lens syms k).set j ((bumpTo lens syms k).getD j 0 + 1)).getD j 0 = (bumpTo lens syms k).getD j 0 + 1 := by
          simp [List.getD, hj]
        rw [this]
        omega
      · have : (bumpTo lens syms k).set j ((bumpTo lens syms k).getD j 0 + 1) = bumpTo lens syms k := List.set_eq_of_length_le (by omega)
        rw [this]
        omega
    · rw [getD_set_off _ _ _ _ e]
      omega
theorem WFP.step {S : List PT} (h : WFP S) (hm : 1 < S.length) : WFP ((stepP S).1 ++ [(stepP S).2]) := by
  obtain ⟨h1, h2, h3, h4⟩ := h
  have i1 := leastP_lt S (by omega)
  have l1 : (S.eraseIdx (leastP S)).length = S.length - 1 := by rw [List.length_eraseIdx, if_pos i1]
  have i2 := leastP_lt (S.eraseIdx (leastP S)) (by omega)
  have mA := nthP_mem S _ i1
  have mB := List.mem_of_mem_eraseIdx (nthP_mem _ _ i2)
  refine ⟨by rw [sumB_step _ S hm (fun a b => rfl)]; exact h1, fun x hx => ?_, ?_, fun x hx => ?_⟩
  · rcases List.mem_append.1 hx with hx | hx
    · exact h2 x (List.mem_of_mem_eraseIdx (List.mem_of_mem_eraseIdx hx))
    · simp only [List.mem_singleton] at hx
      subst hx
      have a := h2 _ mA
      have b := h2 _ mB
      show 0 ≤ (nthP S (leastP S)).1 + (nthP (S.eraseIdx (leastP S)) (leastP (S.eraseIdx (leastP S)))).1
      omega
  · rw [sumB_step _ S hm (fun a b => by simp [mergeP])]
    exact h3
  · rcases List.mem_append.1 hx with hx | hx
    · exact h4 x (List.mem_of_mem_eraseIdx (List.mem_of_mem_eraseIdx hx))
    · simp only [List.mem_singleton] at hx
      subst hx
      have a := h4 _ mA
      have b := h4 _ mB
      refine ⟨fun e => a.1 ?_, fun s hs => ?_⟩
      · have e' : (nthP S (leastP S)).2.2 ++ (nthP (S.eraseIdx (leastP S)) (leastP (S.eraseIdx (leastP S)))).2.2 = [] := e
        exact (List.append_eq_nil_iff.1 e').1
      · have hs' : s ∈ (nthP S (leastP S)).2.2 ++ (nthP (S.eraseIdx (leastP S)) (leastP (S.eraseIdx (leastP S)))).2.2 := hs
        rcases List.mem_append.1 hs' with h | h
        · exact a.2 s h
        · exact b.2 s h
theorem TrL.low {w : World} {base base' : Nat} {v : Value} {E : List TE} (h : TrL w base v E) (hb : base' ≤ base) : TrL w base' v E := by
  obtain ⟨h1, h2, h3⟩ := h
  refine ⟨Nat.le_trans hb h1, ⟨h2.1, ?_⟩, h3⟩
  rcases h2.2 with h0 | ⟨g, cap, cur, hv, hg, r⟩
  · exact .inl h0
  · exact .inr ⟨g, cap, cur, hv, Nat.le_trans hb hg, r⟩
theorem Own.low {w : World} {base base' : Nat} {v : Value} {xs : List Int} (h : Own w base 3 .i64 v xs) (hb : base' ≤ base) : Own w base' 3 .i64 v xs := by
  obtain ⟨h1, h2⟩ := h
  refine ⟨Nat.le_trans hb h1, h2.1, ?_⟩
  rcases h2.2 with h0 | ⟨g, cap, cur, hv, hg, r⟩
  · exact .inl h0
  · exact .inr ⟨g, cap, cur, hv, Nat.le_trans hb hg, r⟩

/-- Behind two trees that were merged. -/
theorem L2.next {fs : List Int} {B : Nat} {w xf : World} {f : Nat} {v' LV Y : Value} {E E1 : List TE} {lens : List Int} {I J : Nat} {AW AL BW BL LL : Int} {AS BS : List Int}
    (hrun : runP f (E.map TE.pl) lens = lensP fs) (hmore : 1 < E.length) (hEf : E.length ≤ f) (hf : f ≤ 257) (hlens : lens.length = 257) (hwf : WFP (E.map TE.pl)) (hbd : ∀ j, 0 ≤ lens.getD j 0 ∧ lens.getD j 0 ≤ 1000 * (257 - (f : Int)))
    (hI : I = least E) (hE1 : E1 = E.eraseIdx I) (hJ : J = least E1) (hPA : nthP (E.map TE.pl) I = (AW, AL, AS)) (hPB : nthP ((E.map TE.pl).eraseIdx I) J = (BW, BL, BS)) (hLL : LL = if BL < AL then BL else AL) (hS : (AS.length : Int) + BS.length ≤ 257)
    (hT : TrL xf B v' (E1.eraseIdx J ++ [(AW + BW, LL, Y, AS ++ BS)])) (hM : Own xf B 3 .i64 LV (bumpTo lens (AS ++ BS) (AS ++ BS).length)) (hne : ∀ e ∈ E1.eraseIdx J ++ [(AW + BW, LL, Y, AS ++ BS)], ∀ g, e.y.ownBlock = some g → LV.ownBlock ≠ some g) (hB : Below B w xf) :
    L2 fs B w xf (f - 1) v' LV := by
  obtain ⟨f', rfl⟩ : ∃ f', f = f' + 1 := ⟨f - 1, by omega⟩
  have hlS : 1 < (E.map TE.pl).length := by rw [List.length_map]; exact hmore
  have hIP : I = leastP (E.map TE.pl) := by rw [hI, least_pl]
  have hm1 : E1.map TE.pl = (E.map TE.pl).eraseIdx I := by rw [hE1, map_erase]
  have hJP : J = leastP ((E.map TE.pl).eraseIdx I) := by rw [hJ, least_pl, hm1]
  have hstep : stepP (E.map TE.pl) = (((E.map TE.pl).eraseIdx I).eraseIdx J, (AW + BW, LL, AS ++ BS)) := by
    unfold stepP
    simp only
    rw [← hIP, ← hJP, hPA, hPB, hLL]
    rfl
  have hpl : (E1.eraseIdx J ++ ([(AW + BW, LL, Y, AS ++ BS)] : List TE)).map TE.pl = (stepP (E.map TE.pl)).1 ++ [(stepP (E.map TE.pl)).2] := by
    rw [hstep, List.map_append, map_erase, hm1]
    rfl
  have hlI : I < E.length := by rw [hI]; exact least_lt E (by omega)
  have hl1 : E1.length = E.length - 1 := by rw [hE1, List.length_eraseIdx, if_pos hlI]
  have hlJ : J < E1.length := by rw [hJ]; exact least_lt E1 (by omega)
  have hl2 : (E1.eraseIdx J ++ ([(AW + BW, LL, Y, AS ++ BS)] : List TE)).length = E.length - 1 := by
    rw [List.length_append, List.length_eraseIdx, if_pos hlJ, List.length_singleton]
    omega
  refine ⟨_, _, hT, hM, ?_, hne, by rw [hpl]; exact hwf.step hlS, by rw [hl2]; omega, by omega, by rw [hl2]; omega, by rw [bumpTo_len]; exact hlens, fun j => ?_, hB⟩
  · rw [runP, if_pos hlS] at hrun
    rw [hpl, ← hrun, hstep]
    rfl
  · have h1 := bumpTo_bd lens (AS ++ BS) j (AS ++ BS).length
    have h2 := hbd j
    rw [List.length_append] at h1 ⊢
    omega
/-- The end: one tree is left. -/
theorem L2.end {fs : List Int} {f : Nat} {E : List TE} {lens : List Int} (hrun : runP f (E.map TE.pl) lens = lensP fs) (h1 : ¬ 1 < E.length) : lens = lensP fs := by
  rw [← hrun]
  cases f with
  | zero => rfl
  | succ f => rw [runP, if_neg (by rw [List.length_map]; exact h1)]
/-- Only the row of lengths may have turned. -/
def Turn (lv : Value) (w w' : World) : Prop := w.grownBy w' lv.ownBlock
end Go.Proofs.Ytmdmolofiblbmaa
