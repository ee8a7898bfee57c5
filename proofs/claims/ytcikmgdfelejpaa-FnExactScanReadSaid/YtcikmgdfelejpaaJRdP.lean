/- Plain facts on reading blocks from bits: symbols, rests, rows of steps, and which row of steps is a block's. -/
import Derived.Test.YtcikmgdfelejpaaJGe
import Derived.Test.YtcikmgdfelejpaaJGf
import Derived.Test.YtcikmgdfelejpaaJGg
namespace Go.Proofs.Ytcikmgdfelejpaa
open Go.RowKit
set_option linter.unusedVariables false

/-- Whether a key stands at a place can be decided. -/
def decMt (xs : List Int) (i : Nat) (x : Nat × Int) : Bool := decide (i + x.1 ≤ xs.length ∧ ∀ t, t < x.1 → xs.getD (i + t) 0 = rbX x.2 x.1 t)
theorem decMt_iff (xs : List Int) (i : Nat) (x : Nat × Int) : decMt xs i x = true ↔ Mt xs i x := by
  unfold decMt Mt
  exact decide_eq_true_iff
/-- The symbol at a place, and the place behind it. -/
def symS (K : List (Nat × Int)) (ss xs : List Int) (i : Nat) : Option (Int × Nat) := ((List.range K.length).find? fun p => decMt xs i (kp K p)).map fun p => (ss.getD p 0, i + (kp K p).1)
/-- The same, said so that it is not reckoned where the bits are a letter. -/
def symF (K : List (Nat × Int)) (ss xs : List Int) (i : Nat) : Option (Int × Nat) := match xs with
  | [] => symS K ss [] i
  | x :: l => symS K ss (x :: l) i
theorem symF_eq (K : List (Nat × Int)) (ss xs : List Int) (i : Nat) : symF K ss xs i = symS K ss xs i := by
  cases xs <;> rfl
theorem symF_of {K : List (Nat × Int)} {ss xs : List Int} {i : Nat} {r0 r1 : Int} (h : SymIs K ss xs i r0 r1) :
    (r0 = -1 ∧ r1 = -1 ∧ symF K ss xs i = none) ∨ ∃ n : Nat, r1 = (n : Int) ∧ symF K ss xs i = some (r0, n) ∧ i ≤ n ∧ n ≤ xs.length ∧ ∃ p, p < K.length ∧ r0 = ss.getD p 0 := by
  rcases h with ⟨p, hp, hm, hq, rfl, rfl⟩ | ⟨hn, rfl, rfl⟩
  · refine .inr ⟨i + (kp K p).1, by omega, ?_, by omega, hm.1, p, hp, rfl⟩
    have e : (List.range K.length).find? (fun p => decMt xs i (kp K p)) = some p := by
      rw [List.find?_range_eq_some]
      refine ⟨(decMt_iff _ _ _).2 hm, by simpa using hp, fun j hj => ?_⟩
      have h1 : decMt xs i (kp K j) = false := by
        rw [← Bool.not_eq_true, decMt_iff]
        exact hq j hj
      rw [h1]
      rfl
    rw [symF_eq]
    unfold symS
    rw [e]
    rfl
  · refine .inl ⟨rfl, rfl, ?_⟩
    have e : (List.range K.length).find? (fun p => decMt xs i (kp K p)) = none := by
      rw [List.find?_eq_none]
      intro q hq
      rw [decMt_iff]
      exact hn q (by simpa using hq)
    rw [symF_eq]
    unfold symS
    rw [e]
    rfl
/-- The keys, and the symbols, of one of the tables. -/
def Tb.K (T : Tb) (t : Int) : List (Nat × Int) := if t = 0 then keysTo T.cs 16 else keysTo T.ct 16
def Tb.S (T : Tb) (t : Int) : List Int := if t = 0 then T.ss else T.st
def Tb.sym (T : Tb) (t : Int) (xs : List Int) (i : Nat) : Option (Int × Nat) := symF (T.K t) (T.S t) xs i
/-- One step at a place, and the place behind it. -/
def rd1 (T : Tb) (xs : List Int) (i : Nat) : Option ((Int × Int × List Int) × Nat) :=
  (T.sym 1 xs i).bind fun q => if (xs.length : Int) - q.2 < q.1 % 16 then none else some ((q.1 / 16, q.1 % 16, (xs.drop q.2).take (q.1 % 16).toNat), q.2 + (q.1 % 16).toNat)
/-- The first k steps from a place on. -/
def rdK (T : Tb) (xs : List Int) (i : Nat) : Nat → Option (List (Int × Int × List Int) × Nat)
  | 0 => some ([], i)
  | k + 1 => (rdK T xs i k).bind fun a => (rd1 T xs a.2).bind fun b => some (a.1 ++ [b.1], b.2)
theorem rdK_len {T : Tb} {xs : List Int} {i : Nat} : ∀ {k : Nat} {L : List (Int × Int × List Int)} {p : Nat}, rdK T xs i k = some (L, p) → L.length = k
  | 0, L, p, h => by cases h; rfl
  | k + 1, L, p, h => by
    rw [rdK] at h
    cases ha : rdK T xs i k with
    | none => rw [ha] at h; cases h
    | some a =>
      rw [ha, Option.bind_some] at h
      have h' : (rd1 T xs a.2).bind (fun b => some (a.1 ++ [b.1], b.2)) = some (L, p) := h
      cases hb : rd1 T xs a.2 with
      | none => rw [hb] at h'; cases h'
      | some b =>
        rw [hb] at h'
        cases h'
        have := rdK_len (L := a.1) (p := a.2) ha
        simp [this]
theorem rdK_next {T : Tb} {xs : List Int} {i k p : Nat} {L : List (Int × Int × List Int)} {b : (Int × Int × List Int) × Nat} (h : rdK T xs i k = some (L, p)) (hb : rd1 T xs p = some b) : rdK T xs i (k + 1) = some (L ++ [b.1], b.2) := by
  rw [rdK, h, Option.bind_some]
  show (rd1 T xs p).bind _ = _
  rw [hb]
  rfl
theorem rdK_stop {T : Tb} {xs : List Int} {i k p : Nat} {L : List (Int × Int × List Int)} (h : rdK T xs i k = some (L, p)) (hb : rd1 T xs p = none) : ∀ n, k < n → rdK T xs i n = none
  | n + 1, hn => by
    rw [rdK]
    by_cases e : k = n
    · subst e
      rw [h, Option.bind_some]
      show (rd1 T xs p).bind _ = _
      rw [hb]
      rfl
    · rw [rdK_stop h hb n (by omega)]
      rfl
/-- Rows of steps that are read from one place are one another's beginnings. -/
theorem rdK_pre {T : Tb} {xs : List Int} {i k p : Nat} {L : List (Int × Int × List Int)} (h : rdK T xs i k = some (L, p)) : ∀ n, k ≤ n → ∀ M q, rdK T xs i n = some (M, q) → ∃ Q, M = L ++ Q
  | 0, hn, M, q, hq => by
    have : k = 0 := by omega
    subst this
    rw [h] at hq
    cases hq
    exact ⟨[], by simp⟩
  | n + 1, hn, M, q, hq => by
    by_cases e : k = n + 1
    · subst e
      rw [h] at hq
      cases hq
      exact ⟨[], by simp⟩
    · rw [rdK] at hq
      cases ha : rdK T xs i n with
      | none => rw [ha] at hq; cases hq
      | some a =>
        rw [ha, Option.bind_some] at hq
        have h' : (rd1 T xs a.2).bind (fun b => some (a.1 ++ [b.1], b.2)) = some (M, q) := hq
        cases hb : rd1 T xs a.2 with
        | none => rw [hb] at h'; cases h'
        | some b =>
          rw [hb] at h'
          cases h'
          obtain ⟨Q, hQ⟩ := rdK_pre h n (by omega) a.1 a.2 ha
          exact ⟨Q ++ [b.1], by rw [hQ, List.append_assoc]⟩
theorem readTo_pre (L Q : List (Int × Int × List Int)) : ∀ k, k ≤ L.length → readTo (L ++ Q) k = readTo L k
  | 0, _ => rfl
  | k + 1, hk => by
    have e : nthS (L ++ Q) k = nthS L k := by
      simp only [nthS, List.getD]
      rw [List.getElem?_append_left (by omega)]
    show (readTo (L ++ Q) k).bind _ = (readTo L k).bind _
    rw [readTo_pre L Q k (by omega), e]
/-- The numbers ac are those of the block whose steps stand from a place on, up to the place p. -/
def Good (T : Tb) (xs : List Int) (i : Nat) (ac : List Int) (p : Nat) : Prop := ∃ k L sk, rdK T xs i k = some (L, p) ∧ readTo L k = some (ac, sk) ∧ ac.length = 63
theorem readTo_full {L : List (Int × Int × List Int)} {k : Nat} {ac : List Int} {sk : Bool} (h : readTo L k = some (ac, sk)) (hl : ac.length = 63) : ∀ n, k < n → readTo L n = none := by
  have h1 : readTo L (k + 1) = none := by
    show (readTo L k).bind _ = none
    rw [h]
    show takeR (ac, sk) (nthS L k) = none
    obtain ⟨r, n, bits⟩ := nthS L k
    exact takeR_full hl
  exact fun n hn => readTo_none L (k + 1) h1 n (by omega)
theorem Good.one {T : Tb} {xs : List Int} {i p p' : Nat} {ac ac' : List Int} (h : Good T xs i ac p) (g : Good T xs i ac' p') : ac = ac' ∧ p = p' := by
  obtain ⟨k, L, sk, h1, h2, h3⟩ := h
  obtain ⟨k', L', sk', g1, g2, g3⟩ := g
  have hk := rdK_len h1
  have hk' := rdK_len g1
  rcases Nat.lt_trichotomy k k' with hlt | heq | hlt
  · obtain ⟨Q, hQ⟩ := rdK_pre h1 k' (by omega) L' p' g1
    have e := readTo_pre L Q k (by omega)
    rw [← hQ, h2] at e
    rw [readTo_full e h3 k' hlt] at g2
    cases g2
  · subst heq
    rw [h1] at g1
    cases g1
    rw [h2] at g2
    cases g2
    exact ⟨rfl, rfl⟩
  · obtain ⟨Q, hQ⟩ := rdK_pre g1 k (by omega) L p h1
    have e := readTo_pre L' Q k' (by omega)
    rw [← hQ, g2] at e
    rw [readTo_full e g3 k hlt] at h2
    cases h2
/-- No block where, behind k steps that were taken and are not all, no more step is there. -/
theorem no_good_rd {T : Tb} {xs : List Int} {i k p : Nat} {L : List (Int × Int × List Int)} {ac : List Int} {sk : Bool} (h1 : rdK T xs i k = some (L, p)) (h2 : readTo L k = some (ac, sk)) (h3 : ac.length ≠ 63) (hb : rd1 T xs p = none) : ∀ ac' p', ¬ Good T xs i ac' p' := by
  rintro ac' p' ⟨k', L', sk', g1, g2, g3⟩
  have hk := rdK_len h1
  have hk' := rdK_len g1
  by_cases e : k < k'
  · rw [rdK_stop h1 hb k' e] at g1
    cases g1
  · by_cases e' : k = k'
    · subst e'
      rw [h1] at g1
      cases g1
      rw [h2] at g2
      cases g2
      exact h3 g3
    · obtain ⟨Q, hQ⟩ := rdK_pre g1 k (by omega) L p h1
      have e2 := readTo_pre L' Q k' (by omega)
      rw [← hQ, g2] at e2
      rw [readTo_full e2 g3 k (by omega)] at h2
      cases h2
/-- No block where a step is not taken. -/
theorem no_good_take {T : Tb} {xs : List Int} {i k p q : Nat} {L : List (Int × Int × List Int)} {s : Int × Int × List Int} {ac : List Int} {sk : Bool} (h1 : rdK T xs i k = some (L, p)) (h2 : readTo L k = some (ac, sk)) (h3 : ac.length ≠ 63) (hb : rd1 T xs p = some (s, q)) (ht : takeR (ac, sk) s = none) : ∀ ac' p', ¬ Good T xs i ac' p' := by
  rintro ac' p' ⟨k', L', sk', g1, g2, g3⟩
  have hk := rdK_len h1
  have hk' := rdK_len g1
  by_cases e : k < k'
  · have hn := rdK_next h1 hb
    obtain ⟨Q, hQ⟩ := rdK_pre hn k' (by omega) L' p' g1
    have e0 : readTo L' (k + 1) = none := by
      rw [hQ, readTo_pre (L ++ [s]) Q (k + 1) (by simp [hk])]
      show (readTo (L ++ [s]) k).bind _ = none
      rw [readTo_pre L [s] k (by omega), h2]
      have : nthS (L ++ [s]) k = s := by rw [← hk]; exact nthS_last L s
      rw [this]
      exact ht
    rw [readTo_none L' (k + 1) e0 k' (by omega)] at g2
    cases g2
  · by_cases e' : k = k'
    · subst e'
      rw [h1] at g1
      cases g1
      rw [h2] at g2
      cases g2
      exact h3 g3
    · obtain ⟨Q, hQ⟩ := rdK_pre g1 k (by omega) L p h1
      have e2 := readTo_pre L' Q k' (by omega)
      rw [← hQ, g2] at e2
      rw [readTo_full e2 g3 k (by omega)] at h2
      cases h2
theorem read_next {L : List (Int × Int × List Int)} {k : Nat} {s : Int × Int × List Int} {ac ac' : List Int} {sk sk' : Bool} (hk : L.length = k) (h2 : readTo L k = some (ac, sk)) (ht : takeR (ac, sk) s = some (ac', sk')) : readTo (L ++ [s]) (k + 1) = some (ac', sk') := by
  show (readTo (L ++ [s]) k).bind _ = _
  rw [readTo_pre L [s] k (by omega), h2]
  have : nthS (L ++ [s]) k = s := by rw [← hk]; exact nthS_last L s
  rw [this]
  exact ht
end Go.Proofs.Ytcikmgdfelejpaa
