/- What a disk that a law is given reads as. -/
import Derived.Test.YtphhgfgmlfdkiabSz
import Derived.WalkKit
import Derived.ProofKit
import Derived.OpenShut
import Derived.ShutString
import Derived.ChangeOld
import Derived.Below
import Derived.ChangeSame
namespace Go.Proofs.Ytphhgfgmlfdkiab
namespace exDisk
open Go.ChangeShapes Go.WideShapes Go.ChangeAt Go.RowKit
set_option linter.unusedVariables false
set_option maxRecDepth 4000

theorem cells3 : Try.prog.cellsOf 3 = 1 := by kernel_rfl
theorem cells9 : Try.prog.cellsOf 9 = 1 := by kernel_rfl
theorem cells24 : Try.prog.cellsOf 22 = 1 := by kernel_rfl
theorem cells44 : Try.prog.cellsOf 23 = 1 := by kernel_rfl
theorem cells46 : Try.prog.cellsOf 25 = 2 := by kernel_rfl
theorem cells87 : Try.prog.cellsOf 56 = 2 := by kernel_rfl

theorem int_of {H : Type} {enc : TypeId × Value → H} {W : World} {n : Nat} {v : Value} {y : DataW H × List MemPlace}
    (h : DataW.trod enc Try.prog W 0 (fun _ => true) true n 3 [v] = some y) : ∃ z, v = .int .i64 z ∧ (Lit.int .i64 z).wf = true := by
  obtain ⟨z, hz, _, hw⟩ := DataW.trod_int Try.underlying3 h
  simp at hz
  exact ⟨z, hz, hw⟩
theorem str_of {H : Type} {enc : TypeId × Value → H} {W : World} {n : Nat} {v : Value} {y : DataW H × List MemPlace}
    (h : DataW.trod enc Try.prog W 0 (fun _ => true) true n 9 [v] = some y) : ∃ s : ByteArray, v = .string s ∧ s.size ≤ 9223372036854775807 := by
  obtain ⟨s, hs, _, hm⟩ := DataW.trod_string Try.underlying9 h
  simp at hs
  unfold maxLen at hm
  exact ⟨s, hs, by omega⟩

theorem s_choose {P : Nat → ByteArray → Prop} : ∀ n, (∀ i, i < n → ∃ x, P i x) → ∃ L : List ByteArray, L.length = n ∧ ∀ i, i < n → P i (sAt L i)
  | 0, _ => ⟨[], rfl, fun i hi => by omega⟩
  | n + 1, h => by
    obtain ⟨L, hl, hL⟩ := s_choose n (fun i hi => h i (by omega))
    obtain ⟨x, hx⟩ := h n (by omega)
    refine ⟨L ++ [x], by simp [hl], fun i hi => ?_⟩
    by_cases e : i = n
    · subst e
      have : sAt (L ++ [x]) i = x := by simp [sAt, List.getD, ← hl]
      rw [this]
      exact hx
    · have : sAt (L ++ [x]) i = sAt L i := by
        simp only [sAt, List.getD]
        rw [List.getElem?_append_left (by omega)]
      rw [this]
      exact hL i (by omega)
theorem l_choose {P : Nat → Int × ByteArray → Prop} : ∀ n, (∀ i, i < n → ∃ x, P i x) → ∃ L : List (Int × ByteArray), L.length = n ∧ ∀ i, i < n → P i (lAt L i)
  | 0, _ => ⟨[], rfl, fun i hi => by omega⟩
  | n + 1, h => by
    obtain ⟨L, hl, hL⟩ := l_choose n (fun i hi => h i (by omega))
    obtain ⟨x, hx⟩ := h n (by omega)
    refine ⟨L ++ [x], by simp [hl], fun i hi => ?_⟩
    by_cases e : i = n
    · subst e
      have : lAt (L ++ [x]) i = x := by simp [lAt, List.getD, ← hl]
      rw [this]
      exact hx
    · rw [lAt_left L x i (by omega)]
      exact hL i (by omega)
theorem rw_S {W : World} {b off : Nat} {S : List ByteArray} (h : ∀ j, j < S.length → W.cell? ⟨b, off + j, none⟩ = some (.string (sAt S j))) : Rw W (some ⟨b, off, none⟩) (encS S) := by
  intro j v hj
  have hl : j < S.length := by have := (List.getElem?_eq_some_iff.1 hj).1; rw [encS_len] at this; omega
  rw [encS_at S j hl] at hj
  cases hj
  exact ⟨b, off, rfl, h j hl⟩
theorem rw_W {W : World} {b off : Nat} {L : List (Int × ByteArray)} (h : ∀ j, j < L.length → W.cell? ⟨b, off + j * 2, none⟩ = some (.int .i64 (lAt L j).1) ∧ W.cell? ⟨b, off + j * 2 + 1, none⟩ = some (.string (lAt L j).2)) : Rw W (some ⟨b, off, none⟩) (encW L) := by
  intro j v hj
  have hl : j < L.length * 2 := by have := (List.getElem?_eq_some_iff.1 hj).1; rw [encW_len] at this; exact this
  obtain ⟨k, hk⟩ : ∃ k, j = k * 2 ∨ j = k * 2 + 1 := ⟨j / 2, by omega⟩
  have hkl : k < L.length := by omega
  obtain ⟨e1, e2⟩ := encW_at L k hkl
  refine ⟨b, off, rfl, ?_⟩
  rcases hk with rfl | rfl
  · rw [e1] at hj; cases hj; exact (h k hkl).1
  · rw [e2] at hj; cases hj; exact (h k hkl).2

/-- A slice of texts. -/
theorem texts_of {H : Type} {enc : TypeId × Value → H} {W : World} {n : Nat} {v : Value} {y : DataW H × List MemPlace}
    (h : DataW.trod enc Try.prog W 0 (fun _ => true) true n 22 [v] = some y) : ∃ a l c, ∃ S : List ByteArray, v = .slice a l c ∧ S.length = l ∧ l ≤ 9223372036854775807 ∧ (∀ j, j < S.length → (sAt S j).size ≤ 9223372036854775807) ∧ Rw W a (encS S) := by
  rcases DataW.trod_slice Try.underlying22 h with ⟨hcs, _⟩ | ⟨ad, len, cap, elems, rest, m, _, hcs, _, _, hl, hm, hlen, hel, _, _⟩
  · simp at hcs
    subst hcs
    exact ⟨none, 0, 0, [], rfl, rfl, by decide, fun j hj => by simp at hj, Rw.nil _ _⟩
  · simp at hcs
    subst hcs
    obtain ⟨b, off, spot⟩ := ad
    have hcell : ∀ i, i < len → ∃ s : ByteArray, s.size ≤ 9223372036854775807 ∧ W.cell? (Addr.add ⟨b, off, spot⟩ i) = some (.string s) := fun i hi => by
      have he := hel i hi
      rw [List.getElem?_eq_getElem (by omega)] at he
      obtain ⟨cs, hcs, htr⟩ := Option.bind_eq_some_iff.1 he
      rw [cells9] at hcs
      obtain ⟨_, hcl, hcell⟩ := World.cells?_some hcs
      match cs, hcl with
      | [v0], _ =>
        obtain ⟨s, rfl, hs⟩ := str_of htr
        have c0 := hcell 0 (by omega)
        simp only [List.getElem?_cons_zero] at c0
        have e0 : ∀ x : Addr, x.add 0 = x := fun x => by simp [Addr.add]
        rw [e0, Nat.mul_one] at c0
        exact ⟨s, hs, c0⟩
    have hspot : 0 < len → spot = none := fun h0 => by
      obtain ⟨s, _, hc⟩ := hcell 0 h0
      simpa [Addr.add] using World.cell?_spot hc
    obtain ⟨S, hS, hP⟩ := s_choose (P := fun i s => s.size ≤ 9223372036854775807 ∧ W.cell? (Addr.add ⟨b, off, spot⟩ i) = some (.string s)) len hcell
    unfold maxLen at hm
    refine ⟨some ⟨b, off, spot⟩, len, cap, S, rfl, hS, by omega, fun j hj => (hP j (by omega)).1, ?_⟩
    by_cases h0 : 0 < len
    · have := hspot h0
      subst this
      refine rw_S (fun j hj => ?_)
      have := (hP j (by omega)).2
      rw [Addr.add_lit] at this
      exact this
    · have : S = [] := List.length_eq_zero_iff.1 (by omega)
      subst this
      exact Rw.nil _ _
/-- A slice of writes. -/
theorem writes_of {H : Type} {enc : TypeId × Value → H} {W : World} {n : Nat} {v : Value} {y : DataW H × List MemPlace}
    (h : DataW.trod enc Try.prog W 0 (fun _ => true) true n 23 [v] = some y) : ∃ a l c, ∃ L : List (Int × ByteArray), v = .slice a l c ∧ L.length = l ∧ l ≤ 9223372036854775807 ∧ (∀ j, j < L.length → (lAt L j).2.size ≤ 9223372036854775807 ∧ (Lit.int .i64 (lAt L j).1).wf = true) ∧ Rw W a (encW L) := by
  rcases DataW.trod_slice Try.underlying23 h with ⟨hcs, _⟩ | ⟨ad, len, cap, elems, rest, m, _, hcs, _, _, hl, hm, hlen, hel, _, _⟩
  · simp at hcs
    subst hcs
    exact ⟨none, 0, 0, [], rfl, rfl, by decide, fun j hj => by simp at hj, Rw.nil _ _⟩
  · simp at hcs
    subst hcs
    obtain ⟨b, off, spot⟩ := ad
    have hcell : ∀ i, i < len → ∃ x : Int × ByteArray, (x.2.size ≤ 9223372036854775807 ∧ (Lit.int .i64 x.1).wf = true) ∧ W.cell? (Addr.add ⟨b, off, spot⟩ (i * 2)) = some (.int .i64 x.1) ∧ W.cell? (Addr.add (Addr.add ⟨b, off, spot⟩ (i * 2)) 1) = some (.string x.2) := fun i hi => by
      have he := hel i hi
      rw [List.getElem?_eq_getElem (by omega)] at he
      obtain ⟨cs, hcs, htr⟩ := Option.bind_eq_some_iff.1 he
      rw [cells87] at hcs
      obtain ⟨_, hcl, hcell⟩ := World.cells?_some hcs
      obtain ⟨y0, y1, k, _, _, g0, g1⟩ := trod_struct2 Try.underlying56 htr
      match cs, hcl with
      | [v0, v1], _ =>
        have g0' : DataW.trod enc Try.prog W 0 (fun _ => true) true k 3 [v0] = some y0 := by simpa [cells3] using g0
        have g1' : DataW.trod enc Try.prog W 0 (fun _ => true) true k 9 [v1] = some y1 := by simpa [cells9] using g1
        obtain ⟨z, rfl, hz⟩ := int_of g0'
        obtain ⟨s, rfl, hs⟩ := str_of g1'
        have c0 := hcell 0 (by omega)
        have c1 := hcell 1 (by omega)
        simp only [List.getElem?_cons_zero, List.getElem?_cons_succ] at c0 c1
        exact ⟨(z, s), ⟨hs, hz⟩, by simpa [Addr.add] using c0, c1⟩
    have hspot : 0 < len → spot = none := fun h0 => by
      obtain ⟨s, _, hc, _⟩ := hcell 0 h0
      simpa [Addr.add] using World.cell?_spot hc
    obtain ⟨L, hS, hP⟩ := l_choose (P := fun i x => (x.2.size ≤ 9223372036854775807 ∧ (Lit.int .i64 x.1).wf = true) ∧ W.cell? (Addr.add ⟨b, off, spot⟩ (i * 2)) = some (.int .i64 x.1) ∧ W.cell? (Addr.add (Addr.add ⟨b, off, spot⟩ (i * 2)) 1) = some (.string x.2)) len hcell
    unfold maxLen at hm
    refine ⟨some ⟨b, off, spot⟩, len, cap, L, rfl, hS, by omega, fun j hj => (hP j (by omega)).1, ?_⟩
    by_cases h0 : 0 < len
    · have := hspot h0
      subst this
      refine rw_W (fun j hj => ?_)
      have := (hP j (by omega)).2
      rw [Addr.add_lit, Addr.add_lit] at this
      exact this
    · have : L = [] := List.length_eq_zero_iff.1 (by omega)
      subst this
      exact Rw.nil _ _
set_option maxRecDepth 100000 in
/-- A disk. -/
theorem disk_of {H : Type} {enc : TypeId × Value → H} {W : World} {r : Reach} {b0 : Nat} {v : Value} {d : DataW H} {p : List MemPlace} (hok : Value.okWide Try.prog W r b0 25 v)
    (h : DataW.Trod enc Try.prog W 0 (fun _ => true) true 25 v d p) : ∃ a n c a' n' c', ∃ S : List ByteArray, ∃ L : List (Int × ByteArray), v = .agg #[.slice a n c, .slice a' n' c'] ∧ S.length = n ∧ L.length = n' ∧ Wd S L ∧ Rw W a (encS S) ∧ Rw W a' (encW L) := by
  obtain ⟨cs, rfl, hsz⟩ := okWide_struct Try.underlying25 hok
  rw [cells46] at hsz
  obtain ⟨fuel, hf⟩ := h
  obtain ⟨l⟩ := cs
  match l, hsz with
  | [x0, x1], _ =>
    obtain ⟨y0, y1, k, _, _, g0, g1⟩ := trod_struct2 Try.underlying25 hf
    have g0' : DataW.trod enc Try.prog W 0 (fun _ => true) true k 22 [x0] = some y0 := by simpa [cells24, Value.cells] using g0
    have g1' : DataW.trod enc Try.prog W 0 (fun _ => true) true k 23 [x1] = some y1 := by simpa [cells44, Value.cells] using g1
    obtain ⟨a, n, c, S, rfl, hS, hl, hs, hr⟩ := texts_of g0'
    obtain ⟨a', n', c', L, rfl, hL, hl', hs', hr'⟩ := writes_of g1'
    exact ⟨a, n, c, a', n', c', S, L, rfl, hS, hL, ⟨by omega, hs, by omega, fun j hj => (hs' j hj).1, fun j hj => (hs' j hj).2⟩, hr, hr'⟩
end exDisk
end Go.Proofs.Ytphhgfgmlfdkiab
