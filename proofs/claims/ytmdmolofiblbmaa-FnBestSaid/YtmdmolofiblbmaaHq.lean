/- Plain: one round of the heap is one round of the list. -/
import Derived.Test.YtmdmolofiblbmaaHp
import Derived.Test.YtmdmolofiblbmaaTp
namespace Go.Proofs.Ytmdmolofiblbmaa
open Go.RowKit
set_option linter.unusedVariables false

/-- The heap and the list that it stands for, the lengths so far, and what the run comes to. -/
structure HS (R : List Int) (f : Nat) (H L : List PT) (lens : List Int) : Prop where
  perm : H.Perm L
  apart : Apart L
  heap : HeapF H H.length 0
  wf : WFP L
  run : runP f L lens = R
  fuel : L.length ≤ f
  small : f ≤ 257
  some : 1 ≤ L.length
  len : lens.length = 257
  bd : ∀ j, 0 ≤ lens.getD j 0 ∧ lens.getD j 0 ≤ 1000 * (257 - f)
/-- What two Pops give. -/
def hA (H : List PT) : PT := nthP H 0
def hR (H : List PT) : List PT := (popS H).take (H.length - 1)
theorem HS.more {R : List Int} {f : Nat} {H L : List PT} {lens : List Int} (h : HS R f H L lens) (h1 : 1 < H.length) :
    hA H ∈ L ∧ hA (hR H) ∈ L ∧ (hR H).length = H.length - 1 ∧ (hR (hR H)).length = H.length - 2 ∧ ((hA H).2.2.length : Int) + (hA (hR H)).2.2.length ≤ 257 ∧ (hA H).1 + (hA (hR H)).1 ≤ 25700000 ∧
      HS R (f - 1) (pushH (hR (hR H)) (mergeP (hA H) (hA (hR H)))) ((stepP L).1 ++ [(stepP L).2]) (bumpTo lens ((hA H).2.2 ++ (hA (hR H)).2.2) ((hA H).2.2 ++ (hA (hR H)).2.2).length) := by
  obtain ⟨hp, ha, hh, hwf, hrun, hf, hs, hso, hlen0, hbd⟩ := h
  have hlen := hp.length_eq
  obtain ⟨f', rfl⟩ : ∃ f', f = f' + 1 := ⟨f - 1, by omega⟩
  have hL1 : 1 < L.length := by omega
  obtain ⟨e1, p1⟩ := first_least hp ha (by omega) hh
  obtain ⟨q1, hh1, l1⟩ := pop_all (H := H) (by omega) hh
  have hb1 := least_best (S := L) (by omega)
  have ha1 : Apart (L.eraseIdx (leastP L)) ∧ ∀ y ∈ L.eraseIdx (leastP L), y.2.1 ≠ (nthP L (leastP L)).2.1 := Apart.cons_inv (ha.perm (erase_perm hb1.1).symm)
  have hstep := hwf.step hL1
  unfold hA hR
  generalize (popS H).take (H.length - 1) = H1 at *
  have hlen1 := p1.length_eq
  obtain ⟨e2, p2⟩ := first_least p1 ha1.1 (by omega) hh1
  obtain ⟨q2, hh2, l2⟩ := pop_all (H := H1) (by omega) hh1
  have hb2 := least_best (S := L.eraseIdx (leastP L)) (by omega)
  have ha2 := Apart.cons_inv (ha1.1.perm (erase_perm hb2.1).symm)
  generalize (popS H1).take (H1.length - 1) = H2 at *
  obtain ⟨q3, hh3, l3⟩ := push_all (mergeP (nthP H 0) (nthP H1 0)) hh2
  have hnm : nthP (L.eraseIdx (leastP L)) (leastP (L.eraseIdx (leastP L))) ∈ L.eraseIdx (leastP L) := nth_mem hb2.1
  have hmem : ∀ y ∈ (L.eraseIdx (leastP L)).eraseIdx (leastP (L.eraseIdx (leastP L))), y ∈ L.eraseIdx (leastP L) := fun y hy => List.mem_of_mem_eraseIdx hy
  have hst : stepP L = ((L.eraseIdx (leastP L)).eraseIdx (leastP (L.eraseIdx (leastP L))), mergeP (nthP H 0) (nthP H1 0)) := by
    rw [e1, e2]
    rfl
  have t1 := two_sum (fun x => (x.2.2.length : Int)) L (leastP L) (leastP (L.eraseIdx (leastP L))) hb1.1 hb2.1 (fun x _ => Int.natCast_nonneg _)
  have t2 := two_sum (fun x => x.1) L (leastP L) (leastP (L.eraseIdx (leastP L))) hb1.1 hb2.1 hwf.2.1
  rw [runP, if_pos hL1] at hrun
  rw [← e1, ← e2] at t1 t2
  have w1 := hwf.1
  have w3 := hwf.2.2.1
  have hn3 : (pushH H2 (mergeP (nthP H 0) (nthP H1 0))).length = L.length - 1 := by rw [l3, l2, l1, hlen]; omega
  have hP : (pushH H2 (mergeP (nthP H 0) (nthP H1 0))).Perm ((stepP L).1 ++ [(stepP L).2]) := by
    rw [hst]
    exact q3.trans ((List.Perm.cons _ p2).trans (List.perm_append_comm (l₁ := [_])))
  have hLn : ((stepP L).1 ++ [(stepP L).2]).length = L.length - 1 := by rw [← hP.length_eq]; exact hn3
  refine ⟨by rw [e1]; exact nth_mem hb1.1, by rw [e2]; exact List.mem_of_mem_eraseIdx hnm, l1, by omega, by simpa using Int.le_trans t1 w3, Int.le_trans t2 w1, ⟨hP, ?_, hh3, hstep, ?_, by omega, by omega, by omega, by rw [bumpTo_len]; exact hlen0, fun j => ?_⟩⟩
  · rw [hst]
    rw [← e1, ← e2] at *
    refine Apart.perm (S := mergeP (nthP H 0) (nthP H1 0) :: (L.eraseIdx (leastP L)).eraseIdx (leastP (L.eraseIdx (leastP L)))) ?_ List.perm_append_comm
    unfold Apart
    rw [List.map_cons, List.nodup_cons]
    refine ⟨fun hin => ?_, ha2.1⟩
    obtain ⟨y, hy, ey⟩ := List.mem_map.1 hin
    have n1 := ha1.2 y (hmem y hy)
    have n2 := ha2.2 y hy
    unfold mergeP at ey
    simp only at ey
    split at ey <;> omega
  · rw [← hrun, hst]
    rfl
  · have h1 := bumpTo_bd lens ((nthP H 0).2.2 ++ (nthP H1 0).2.2) j ((nthP H 0).2.2 ++ (nthP H1 0).2.2).length
    have h2 := hbd j
    have h3 : ((nthP H 0).2.2.length : Int) + (nthP H1 0).2.2.length ≤ 257 := by simpa using Int.le_trans t1 w3
    rw [List.length_append] at h1 ⊢
    omega
theorem HS.end {R : List Int} {f : Nat} {H L : List PT} {lens : List Int} (h : HS R f H L lens) (h1 : ¬ 1 < H.length) : lens = R := by
  rw [← h.run]
  have := h.perm.length_eq
  cases f with
  | zero => rfl
  | succ f => rw [runP, if_neg (by omega)]
end Go.Proofs.Ytmdmolofiblbmaa
