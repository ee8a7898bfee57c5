/- Plain facts on the specification's reading of a block: when it stops, and that no block stands where it finds none. -/
import Derived.Test.YtcikmgdfelejpaaJRdB
namespace Go.Proofs.Ytcikmgdfelejpaa
open Go.RowKit
set_option linter.unusedVariables false

/-- No step of a row is the one that ends a block. -/
def OpenS (L : List (Int × Int × List Int)) : Prop := ∀ s ∈ L, ¬ (s.1 = 0 ∧ s.2.1 = 0)
/-- How many numbers the steps of a row tell. -/
def cntS : List (Int × Int × List Int) → Int
  | [] => 0
  | s :: L => s.1 + 1 + cntS L
theorem cntS_snoc (s : Int × Int × List Int) : ∀ L, cntS (L ++ [s]) = cntS L + (s.1 + 1)
  | [] => by simp [cntS]
  | x :: L => by
    show x.1 + 1 + cntS (L ++ [s]) = x.1 + 1 + cntS L + (s.1 + 1)
    rw [cntS_snoc s L]; omega
theorem takeR_open {ac ac' : List Int} {sk sk' : Bool} {s : Int × Int × List Int} (h : takeR (ac, sk) s = some (ac', sk')) (ho : ¬ (s.1 = 0 ∧ s.2.1 = 0)) : (ac'.length : Int) = ac.length + (s.1 + 1) := by
  obtain ⟨r, n, bits⟩ := s
  by_cases hf : ac.length = 63
  · rw [takeR_full hf] at h; cases h
  by_cases hg : GoodRest n bits
  · rw [takeR_kind hg hf] at h
    have hk : kind r n = if r < 0 ∨ 15 < r ∨ n < 0 ∨ 10 < n then 0 else if 0 < n then 1 else if r = 15 then 2 else if r = 0 then 3 else 0 := rfl
    split at h
    · rename_i h1
      have hr := kind_one h1
      split at h
      · cases h
        simp only [List.length_append, List.length_singleton, List.length_replicate]; omega
      · cases h
    · split at h
      · rename_i h1 h2
        have hr : r = 15 := by
          rw [h2] at hk
          split at hk
          · cases hk
          · split at hk
            · cases hk
            · split at hk
              · rename_i e; exact e
              · split at hk <;> cases hk
        split at h
        · cases h
          simp only [List.length_append, List.length_replicate]; omega
        · cases h
      · split at h
        · rename_i h1 h2 h3
          exfalso
          rw [h3] at hk
          have hn := hg.1
          split at hk
          · cases hk
          · split at hk
            · cases hk
            · split at hk
              · cases hk
              · split at hk
                · rename_i e; exact ho ⟨e, by show n = 0; omega⟩
                · cases hk
        · cases h
  · rw [takeR_bad hg] at h; cases h
theorem takeR_shut {ac ac' : List Int} {sk sk' : Bool} {bits : List Int} (hl : ac.length ≤ 63) (h : takeR (ac, sk) (0, 0, bits) = some (ac', sk')) : ac'.length = 63 := by
  by_cases hf : ac.length = 63
  · rw [takeR_full hf] at h; cases h
  by_cases hg : GoodRest 0 bits
  · rw [takeR_kind hg hf] at h
    have hk : kind 0 0 = 3 := by decide
    rw [hk, if_neg (by decide), if_neg (by decide), if_pos rfl] at h
    split at h
    · cases h
    · cases h
      simp only [List.length_append, List.length_replicate]; omega
  · rw [takeR_bad hg] at h; cases h
theorem take_snoc' (L : List (Int × Int × List Int)) (k : Nat) (h : k < L.length) : L.take (k + 1) = L.take k ++ [nthS L k] := take_snoc L k h
theorem readTo_cnt (L : List (Int × Int × List Int)) : ∀ k ac sk, k ≤ L.length → OpenS (L.take k) → readTo L k = some (ac, sk) → (ac.length : Int) = cntS (L.take k)
  | 0, ac, sk, _, _, h => by cases h; rfl
  | k + 1, ac, sk, hk, ho, h => by
    have h' : (readTo L k).bind (fun st => takeR st (nthS L k)) = some (ac, sk) := h
    cases ha : readTo L k with
    | none => rw [ha] at h'; cases h'
    | some st =>
      obtain ⟨a, s⟩ := st
      rw [ha] at h'
      have ht : takeR (a, s) (nthS L k) = some (ac, sk) := h'
      rw [take_snoc L k (by omega)] at ho ⊢
      have ih := readTo_cnt L k a s (by omega) (fun x hx => ho x (by simp [hx])) ha
      rw [cntS_snoc, takeR_open ht (ho _ (by simp)), ih]
theorem readTo_part {L : List (Int × Int × List Int)} {n : Nat} {x : List Int × Bool} (h : readTo L n = some x) : ∀ k, k ≤ n → ∃ y, readTo L k = some y := fun k hk => by
  cases ha : readTo L k with
  | some y => exact ⟨y, rfl⟩
  | none => rw [readTo_none L k ha n hk] at h; cases h
/-- The rows of steps read so far are not yet a block's. -/
def Short (L : List (Int × Int × List Int)) (k : Nat) : Prop := ∀ j, j < k → OpenS (L.take j) ∧ cntS (L.take j) < 63
/-- A block's steps are as many as the row's, or more. -/
theorem good_ge {T : Tb} {xs : List Int} {i k p : Nat} {L : List (Int × Int × List Int)} (h1 : rdK T xs i k = some (L, p)) (hs : Short L k) {ac : List Int} {p' : Nat} (hg : Good T xs i ac p') :
    ∃ k' L' sk', k ≤ k' ∧ rdK T xs i k' = some (L', p') ∧ readTo L' k' = some (ac, sk') ∧ ac.length = 63 ∧ (∃ Q, L' = L ++ Q) := by
  obtain ⟨k', L', sk', g1, g2, g3⟩ := hg
  have hk := rdK_len h1
  have hk' := rdK_len g1
  by_cases e : k ≤ k'
  · exact ⟨k', L', sk', e, g1, g2, g3, rdK_pre h1 k' e L' p' g1⟩
  · exfalso
    obtain ⟨Q, hQ⟩ := rdK_pre g1 k (by omega) L p h1
    have ht : L.take k' = L' := by rw [hQ, ← hk']; simp
    obtain ⟨s1, s2⟩ := hs k' (by omega)
    rw [ht] at s1 s2
    have := readTo_cnt L' k' ac sk' (by omega) (by rw [← hk', List.take_length]; exact s1) g2
    rw [← hk', List.take_length] at this
    omega
/-- No block where the specification finds no step more. -/
theorem no_good_spec {T : Tb} {xs : List Int} {i k p : Nat} {L : List (Int × Int × List Int)} (h1 : rdK T xs i k = some (L, p)) (hs : Short L (k + 1)) (hb : rd1 T xs p = none ∨ ∃ s q, rd1 T xs p = some (s, q) ∧ 11 < s.2.1) : ∀ ac p', ¬ Good T xs i ac p' := by
  intro ac p' hg
  have hk := rdK_len h1
  obtain ⟨k', L', sk', hkk, g1, g2, g3, Q, hQ⟩ := good_ge h1 (fun j hj => hs j (by omega)) hg
  have hk' := rdK_len g1
  obtain ⟨⟨a, s⟩, ha⟩ := readTo_part g2 k hkk
  have ha' := ha
  rw [hQ, readTo_pre L Q k (by omega)] at ha'
  obtain ⟨s1, s2⟩ := hs k (by omega)
  have hc := readTo_cnt L k a s (by omega) s1 ha'
  have hne : a.length ≠ 63 := by omega
  rcases hb with hb | ⟨st, q, hb, h11⟩
  · exact no_good_rd h1 ha' hne hb ac p' ⟨k', L', sk', g1, g2, g3⟩
  · obtain ⟨r, n, bits⟩ := st
    exact no_good_take h1 ha' hne hb (takeR_bad (fun hg => by have := hg.1; simp only at h11; omega)) ac p' ⟨k', L', sk', g1, g2, g3⟩
/-- No block where the specification's row of steps is none. -/
theorem no_good_end {T : Tb} {xs : List Int} {i k p : Nat} {L : List (Int × Int × List Int)} {d : Int} (h1 : rdK T xs i k = some (L, p)) (hs : Short L k) (hend : (OpenS L ∧ 63 ≤ cntS L) ∨ (∃ L0 bits, L = L0 ++ [(0, 0, bits)])) (hd : inC d = true) (hR : fromR d L = none) : ∀ ac p', ¬ Good T xs i ac p' := by
  intro ac p' hg
  have hk := rdK_len h1
  obtain ⟨k', L', sk', hkk, g1, g2, g3, Q, hQ⟩ := good_ge h1 hs hg
  have hk' := rdK_len g1
  obtain ⟨⟨a, s⟩, ha⟩ := readTo_part g2 k hkk
  have ha' := ha
  rw [hQ, readTo_pre L Q k (by omega)] at ha'
  have hal := readTo_len (by omega) ha'
  have h63 : a.length = 63 := by
    rcases hend with ⟨ho, hc⟩ | ⟨L0, bits, rfl⟩
    · have := readTo_cnt L k a s (by omega) (by rw [← hk, List.take_length]; exact ho) ha'
      rw [← hk, List.take_length] at this
      omega
    · have hk0 : k = L0.length + 1 := by rw [← hk]; simp
      subst hk0
      have h' : (readTo (L0 ++ [(0, 0, bits)]) L0.length).bind (fun st => takeR st (nthS (L0 ++ [(0, 0, bits)]) L0.length)) = some (a, s) := ha'
      rw [nthS_last] at h'
      cases hb : readTo (L0 ++ [(0, 0, bits)]) L0.length with
      | none => rw [hb] at h'; cases h'
      | some st =>
        obtain ⟨a0, s0⟩ := st
        rw [hb] at h'
        exact takeR_shut (readTo_len (by simp) hb) h'
  rw [← hk] at ha'
  rw [fromR_end hd ha', if_pos h63] at hR
  cases hR
theorem good_end {T : Tb} {xs : List Int} {i k p : Nat} {L : List (Int × Int × List Int)} {d : Int} {ac : List Int} (h1 : rdK T xs i k = some (L, p)) (hR : fromR d L = some ac) : inC d = true ∧ Good T xs i ac p := by
  have hk := rdK_len h1
  unfold fromR at hR
  split at hR
  · rename_i hd
    cases ha : readTo L L.length with
    | none => rw [ha] at hR; cases hR
    | some st =>
      obtain ⟨a, s⟩ := st
      have hR' := hR
      rw [ha] at hR'
      have h' : (if a.length = 63 then some a else none) = some ac := hR'
      split at h'
      · rename_i h63
        cases h'
        exact ⟨hd, k, L, s, h1, by rw [← hk]; exact ha, h63⟩
      · cases h'
  · cases hR
end Go.Proofs.Ytcikmgdfelejpaa
