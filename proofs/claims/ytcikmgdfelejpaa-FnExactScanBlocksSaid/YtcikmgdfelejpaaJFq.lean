/- Plain facts on how often symbols stand in parts; a store into an own slice. -/
import Derived.Test.YtcikmgdfelejpaaJGg
namespace Go.Proofs.Ytcikmgdfelejpaa
open Go.RowKit
set_option linter.unusedVariables false

/-- How often the symbol x of the table t stands in the parts. -/
def cnt (t x : Int) : List Pt → Int
  | [] => 0
  | .inl (t', x') :: ps => (if t' = t ∧ x' = x then 1 else 0) + cnt t x ps
  | .inr _ :: ps => cnt t x ps
theorem cnt_append (t x : Int) (Q : List Pt) : ∀ P : List Pt, cnt t x (P ++ Q) = cnt t x P + cnt t x Q
  | [] => by simp [cnt]
  | .inl (t', x') :: ps => by
    show (if t' = t ∧ x' = x then 1 else 0) + cnt t x (ps ++ Q) = (if t' = t ∧ x' = x then 1 else 0) + cnt t x ps + cnt t x Q
    rw [cnt_append t x Q ps]
    omega
  | .inr _ :: ps => by
    show cnt t x (ps ++ Q) = cnt t x ps + cnt t x Q
    rw [cnt_append t x Q ps]
theorem cnt_bd (t x : Int) : ∀ P : List Pt, 0 ≤ cnt t x P ∧ cnt t x P ≤ P.length
  | [] => by simp [cnt]
  | .inl (t', x') :: ps => by
    have ih := cnt_bd t x ps
    show 0 ≤ (if t' = t ∧ x' = x then 1 else 0) + cnt t x ps ∧ (if t' = t ∧ x' = x then 1 else 0) + cnt t x ps ≤ ((Sum.inl (t', x') :: ps).length : Int)
    rw [List.length_cons]
    split <;> omega
  | .inr _ :: ps => by
    have ih := cnt_bd t x ps
    show 0 ≤ cnt t x ps ∧ cnt t x ps ≤ ((Sum.inr _ :: ps).length : Int)
    rw [List.length_cons]
    omega
/-- How often each symbol stands. -/
def freqL (t : Int) (P : List Pt) : List Int := (List.range 256).map fun (x : Nat) => cnt t x P
theorem freqL_len (t : Int) (P : List Pt) : (freqL t P).length = 256 := by simp [freqL]
theorem freqL_get (t : Int) (P : List Pt) (x : Nat) (h : x < 256) : (freqL t P).getD x 0 = cnt t x P := by simp [freqL, List.getD, h]
theorem freqL_nil (t : Int) : freqL t [] = List.replicate 256 0 := by
  rw [List.eq_replicate_iff]
  refine ⟨freqL_len t [], fun b hb => ?_⟩
  unfold freqL at hb
  rw [List.mem_map] at hb
  obtain ⟨x, _, rfl⟩ := hb
  rfl
theorem freqL_bump (t : Int) (P : List Pt) (x : Nat) (h : x < 256) : freqL t (P ++ [.inl (t, x)]) = (freqL t P).set x (cnt t x P + 1) := by
  unfold freqL
  refine List.ext_getElem (by simp) fun i h1 h2 => ?_
  simp only [List.getElem_map, List.getElem_range, List.getElem_set, cnt_append]
  show cnt t i P + ((if t = t ∧ (x : Int) = (i : Int) then 1 else 0) + 0) = _
  by_cases e : x = i
  · subst e
    simp
  · rw [if_neg (by omega), if_neg e]
    omega
theorem freqL_other (t t' x : Int) (P : List Pt) (h : t' ≠ t) : freqL t (P ++ [.inl (t', x)]) = freqL t P := by
  unfold freqL
  refine List.ext_getElem (by simp) fun i h1 h2 => ?_
  simp only [List.getElem_map, List.getElem_range, cnt_append]
  show cnt t i P + ((if t' = t ∧ x = (i : Int) then 1 else 0) + 0) = _
  rw [if_neg (fun e => h e.1)]
  omega
theorem freqL_b (t : Int) (xs : List Int) (P : List Pt) : freqL t (P ++ [.inr xs]) = freqL t P := by
  unfold freqL
  refine List.ext_getElem (by simp) fun i h1 h2 => ?_
  simp only [List.getElem_map, List.getElem_range, cnt_append]
  show cnt t i P + 0 = _
  omega
theorem Own.storeF {w : World} {base g n c : Nat} {xs : List Int} (h : Own w base 3 .i64 (.slice (some ⟨g, 0, none⟩) n c) xs) (i : Nat) (y : Int) : Own (w.setCell ⟨g, i, none⟩ (.int .i64 y)) base 3 .i64 (.slice (some ⟨g, 0, none⟩) n c) (xs.set i y) := by
  obtain ⟨_, _, e⟩ := h.shape
  cases e
  refine ⟨by simpa using h.1, ?_⟩
  have := (h.2.stored i (.int .i64 y)).1
  rw [← List.map_set] at this
  rw [List.length_set]
  exact this
theorem Own.storeOther {w : World} {base g i : Nat} {v : Value} {xs : List Int} (h : Own w base 3 .i64 v xs) (hne : ∀ a n c, v = .slice (some a) n c → a.block ≠ g) (u : Value) : Own (w.setCell ⟨g, i, none⟩ u) base 3 .i64 v xs := by
  refine ⟨by simpa using h.1, h.2.1, ?_⟩
  rcases h.2.2 with h0 | ⟨b, cap, cur, hv, hg, hh, r⟩
  · exact .inl h0
  · exact .inr ⟨b, cap, cur, hv, hg, (heap_setCell_other _ ⟨g, i, none⟩ b _ (fun e => hne _ _ _ hv e)).trans hh, r⟩
/-- Symbols that are in a table. -/
def symP : Pt → Prop
  | .inl (t, x) => (t = 0 ∨ t = 1) ∧ 0 ≤ x ∧ x ≤ 255
  | .inr _ => True
theorem ptsS_sym (S : List (Int × Int × List Int)) (h : ∀ j, j < S.length → (0 ≤ (nthS S j).1 ∧ (nthS S j).1 ≤ 15) ∧ (0 ≤ (nthS S j).2.1 ∧ (nthS S j).2.1 ≤ 10)) : ∀ k, k ≤ S.length → ∀ p ∈ ptsS S k, symP p
  | 0, _, p, hp => by simp [ptsS] at hp
  | k + 1, hk, p, hp => by
    rw [ptsS, List.mem_append] at hp
    rcases hp with hp | hp
    · exact ptsS_sym S h k (by omega) p hp
    · simp only [List.mem_cons, List.not_mem_nil, or_false] at hp
      rcases hp with rfl | rfl
      · have := h k (by omega)
        exact ⟨.inr rfl, by omega, by omega⟩
      · exact trivial
theorem sz_bd {x : Int} (h : -2046 ≤ x ∧ x ≤ 2046) : 0 ≤ sz x ∧ sz x ≤ 11 := by
  have h1 := sz_in (x := x) (by omega)
  have h2 := (sz_le x).2
  rw [h1]
  rw [h1] at h2
  omega
theorem ptsTo_sym (L : List (Int × List Int)) (h : oksTo L L.length = true) : ∀ k, k ≤ L.length → ∀ p ∈ ptsTo L k, symP p
  | 0, _, p, hp => by simp [ptsTo] at hp
  | k + 1, hk, p, hp => by
    rw [ptsTo, List.mem_append, List.mem_append] at hp
    rcases hp with (hp | hp) | hp
    · exact ptsTo_sym L h k (by omega) p hp
    · simp only [List.mem_cons, List.not_mem_nil, or_false] at hp
      rcases hp with rfl | rfl
      · have := sz_bd (df_bd L k h (by omega))
        exact ⟨.inl rfl, this.1, by omega⟩
      · exact trivial
    · have hf := stepsR_fine _ _ (oksTo_at L L.length h k (by omega))
      exact ptsS_sym _ (fun j hj => ⟨(hf.2 j hj).1, (hf.2 j hj).2.1⟩) _ (Nat.le_refl _) p hp
end Go.Proofs.Ytcikmgdfelejpaa
