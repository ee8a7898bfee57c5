/- Plain facts on reading blocks from bits: symbols, rests, rows of steps, and which row of steps is a block's. -/
import Derived.Test.YtmjgkgboceblbaaStpF
import Derived.Test.YtmjgkgboceblbaaSymPlain
import Derived.Test.YtmjgkgboceblbaaScI
namespace Go.Proofs.Ytmjgkgboceblbaa
open Go.RowKit
set_option linter.unusedVariables false

open Classical in
/-- The symbol at a place, and the place behind it. -/
noncomputable def symF (K : List (Nat × Int)) (ss xs : List Int) (i : Nat) : Option (Int × Nat) := if h : ∃ p : Int × Nat, SymIs K ss xs i p.1 (p.2 : Int) then some (Classical.choose h) else none
theorem symF_of {K : List (Nat × Int)} {ss xs : List Int} {i : Nat} {r0 r1 : Int} (h : SymIs K ss xs i r0 r1) :
    (r0 = -1 ∧ r1 = -1 ∧ symF K ss xs i = none) ∨ ∃ n : Nat, r1 = (n : Int) ∧ symF K ss xs i = some (r0, n) ∧ i ≤ n ∧ n ≤ xs.length ∧ ∃ p, p < K.length ∧ r0 = ss.getD p 0 := by
  have h' := h
  rcases h with ⟨p, hp, hm, hq, rfl, rfl⟩ | ⟨hn, rfl, rfl⟩
  · refine .inr ⟨i + (kp K p).1, by omega, ?_, by omega, hm.1, p, hp, rfl⟩
    have hex : ∃ q : Int × Nat, SymIs K ss xs i q.1 (q.2 : Int) := ⟨(ss.getD p 0, i + (kp K p).1), by
      have e : ((i + (kp K p).1 : Nat) : Int) = (i : Int) + ((kp K p).1 : Nat) := by omega
      show SymIs K ss xs i (ss.getD p 0) ((i + (kp K p).1 : Nat) : Int)
      rw [e]; exact h'⟩
    unfold symF
    rw [dif_pos hex]
    obtain ⟨e1, e2⟩ := (Classical.choose_spec hex).one h'
    congr 1
    exact Prod.ext e1 (by omega)
  · refine .inl ⟨rfl, rfl, ?_⟩
    unfold symF
    rw [dif_neg]
    rintro ⟨q, hq⟩
    have := (hq.one h').2
    omega
/-- The keys, and the symbols, of one of the tables. -/
def Tb.K (T : Tb) (t : Int) : List (Nat × Int) := if t = 0 then keysTo T.cs 16 else keysTo T.ct 16
def Tb.S (T : Tb) (t : Int) : List Int := if t = 0 then T.ss else T.st
noncomputable def Tb.sym (T : Tb) (t : Int) (xs : List Int) (i : Nat) : Option (Int × Nat) := symF (T.K t) (T.S t) xs i
/-- One step at a place, and the place behind it. -/
noncomputable def rd1 (T : Tb) (xs : List Int) (i : Nat) : Option ((Int × Int × List Int) × Nat) :=
  (T.sym 1 xs i).bind fun q => if (xs.length : Int) - q.2 < q.1 % 16 then none else some ((q.1 / 16, q.1 % 16, (xs.drop q.2).take (q.1 % 16).toNat), q.2 + (q.1 % 16).toNat)
/-- The first k steps from a place on. -/
noncomputable def rdK (T : Tb) (xs : List Int) (i : Nat) : Nat → Option (List (Int × Int × List Int) × Nat)
  | 0 => some ([], i)
  | k + 1 => (rdK T xs i k).bind fun a => (rd1 T xs a.2).bind fun b => some (a.1 ++ [b.1], b.2)
theorem rdK_len {T : Tb} {xs : List Int} {i : Nat} : ∀ {k : Nat} {L : List (Int × Int × List Int)} {p : Nat}, rdK T xs i k = some (L, p) → L.length = k
  | 0, L, p, h => by cases h; rfl
  | k + 1, L, p, h => by
    rw [rdK] at h
    cases ha : rdK T xs i k with
    | none => rw [ha] at h; cases h
    | some a =>
      rw [ha] at h
      have h' : (rd1 T xs a.2).bind (fun b => some (a.1 ++ [b.1], b.2)) = some (L, p) := h
      cases hb : rd1 T xs a.2 with
      | none => rw [hb] at h'; cases h'
      | some b =>
        rw [hb] at h'
        cases h'
        have := rdK_len (L := a.1) (p := a.2) ha
        simp [this]
theorem rdK_next {T : Tb} {xs : List Int} {i k p : Nat} {L : List (Int × Int × List Int)} {b : (Int × Int × List Int) × Nat} (h : rdK T xs i k = some (L, p)) (hb : rd1 T xs p = some b) : rdK T xs i (k + 1) = some (L ++ [b.1], b.2) := by
  rw [rdK, h]
  show (rd1 T xs p).bind _ = _
  rw [hb]
  rfl
theorem rdK_stop {T : Tb} {xs : List Int} {i k p : Nat} {L : List (Int × Int × List Int)} (h : rdK T xs i k = some (L, p)) (hb : rd1 T xs p = none) : ∀ n, k < n → rdK T xs i n = none
  | n + 1, hn => by
    rw [rdK]
    by_cases e : k = n
    · subst e
      rw [h]
      show (rd1 T xs p).bind _ = _
      rw [hb]
      rfl
    · rw [rdK_stop h hb n (by omega)]
      rfl
/-- Rows of steps that are read from one place are one another's beginnings. -/
theorem rdK_pre {T : Tb} {xs : List Int} {i k p : Nat} {L : List (Int × Int × List Int)} (h : rdK T xs i k = some (L, p)) : ∀ n, k ≤ n → ∀ M q, rdK T xs i n = some (M, q) → ∃ Q, M = L ++ Q
  | 0, hn, M, q, hq => by
    have : k = 0 := by omega
    subst this
    rw [h] at hq
    cases hq
    exact ⟨[], by simp⟩
  | n + 1, hn, M, q, hq => by
    by_cases e : k = n + 1
    · subst e
      rw [h] at hq
      cases hq
      exact ⟨[], by simp⟩
    · rw [rdK] at hq
      cases ha : rdK T xs i n with
      | none => rw [ha] at hq; cases hq
      | some a =>
        rw [ha] at hq
        have h' : (rd1 T xs a.2).bind (fun b => some (a.1 ++ [b.1], b.2)) = some (M, q) := hq
        cases hb : rd1 T xs a.2 with
        | none => rw [hb] at h'; cases h'
        | some b =>
          rw [hb] at h'
          cases h'
          obtain ⟨Q, hQ⟩ := rdK_pre h n (by omega) a.1 a.2 ha
          exact ⟨Q ++ [b.1], by rw [hQ, List.append_assoc]⟩
theorem readTo_pre (L Q : List (Int × Int × List Int)) : ∀ k, k ≤ L.length → readTo (L ++ Q) k = readTo L k
  | 0, _ => rfl
  | k + 1, hk => by
    have e : nthS (L ++ Q) k = nthS L k := by
      simp only [nthS, List.getD]
      rw [List.getElem?_append_left (by omega)]
    show (readTo (L ++ Q) k).bind _ = (readTo L k).bind _
    rw [readTo_pre L Q k (by omega), e]
/-- The numbers ac are those of the block whose steps stand from a place on, up to the place p. -/
def Good (T : Tb) (xs : List Int) (i : Nat) (ac : List Int) (p : Nat) : Prop := ∃ k L sk, rdK T xs i k = some (L, p) ∧ readTo L k = some (ac, sk) ∧ ac.length = 63
theorem readTo_full {L : List (Int × Int × List Int)} {k : Nat} {ac : List Int} {sk : Bool} (h : readTo L k = some (ac, sk)) (hl : ac.length = 63) : ∀ n, k < n → readTo L n = none := by
  have h1 : readTo L (k + 1) = none := by
    show (readTo L k).bind _ = none
    rw [h]
    show takeR (ac, sk) (nthS L k) = none
    obtain ⟨r, n, bits⟩ := nthS L k
    exact takeR_full hl
  exact fun n hn => readTo_none L (k + 1) h1 n (by omega)
theorem Good.one {T : Tb} {xs : List Int} {i p p' : Nat} {ac ac' : List Int} (h : Good T xs i ac p) (g : Good T xs i ac' p') : ac = ac' ∧ p = p' := by
  obtain ⟨k, L, sk, h1, h2, h3⟩ := h
  obtain ⟨k', L', sk', g1, g2, g3⟩ := g
  have hk := rdK_len h1
  have hk' := rdK_len g1
  rcases Nat.lt_trichotomy k k' with hlt | heq | hlt
  · obtain ⟨Q, hQ⟩ := rdK_pre h1 k' (by omega) L' p' g1
    have e := readTo_pre L Q k (by omega)
    rw [← hQ, h2] at e
    rw [readTo_full e h3 k' hlt] at g2
    cases g2
  · subst heq
    rw [h1] at g1
    cases g1
    rw [h2] at g2
    cases g2
    exact ⟨rfl, rfl⟩
  · obtain ⟨Q, hQ⟩ := rdK_pre g1 k (by omega) L p h1
    have e := readTo_pre L' Q k' (by omega)
    rw [← hQ, g2] at e
    rw [readTo_full e g3 k hlt] at h2
    cases h2
/-- No block where, behind k steps that were taken and are not all, no more step is there. -/
theorem no_good_rd {T : Tb} {xs : List Int} {i k p : Nat} {L : List (Int × Int × List Int)} {ac : List Int} {sk : Bool} (h1 : rdK T xs i k = some (L, p)) (h2 : readTo L k = some (ac, sk)) (h3 : ac.length ≠ 63) (hb : rd1 T xs p = none) : ∀ ac' p', ¬ Good T xs i ac' p' := by
  rintro ac' p' ⟨k', L', sk', g1, g2, g3⟩
  have hk := rdK_len h1
  have hk' := rdK_len g1
  by_cases e : k < k'
  · rw [rdK_stop h1 hb k' e] at g1
    cases g1
  · by_cases e' : k = k'
    · subst e'
      rw [h1] at g1
      cases g1
      rw [h2] at g2
      cases g2
      exact h3 g3
    · obtain ⟨Q, hQ⟩ := rdK_pre g1 k (by omega) L p h1
      have e2 := readTo_pre L' Q k' (by omega)
      rw [← hQ, g2] at e2
      rw [readTo_full e2 g3 k (by omega)] at h2
      cases h2
/-- No block where a step is not taken. -/
theorem no_good_take {T : Tb} {xs : List Int} {i k p q : Nat} {L : List (Int × Int × List Int)} {s : Int × Int × List Int} {ac : List Int} {sk : Bool} (h1 : rdK T xs i k = some (L, p)) (h2 : readTo L k = some (ac, sk)) (h3 : ac.length ≠ 63) (hb : rd1 T xs p = some (s, q)) (ht : takeR (ac, sk) s = none) : ∀ ac' p', ¬ Good T xs i ac' p' := by
  rintro ac' p' ⟨k', L', sk', g1, g2, g3⟩
  have hk := rdK_len h1
  have hk' := rdK_len g1
  by_cases e : k < k'
  · have hn := rdK_next h1 hb
    obtain ⟨Q, hQ⟩ := rdK_pre hn k' (by omega) L' p' g1
    have e0 : readTo L' (k + 1) = none := by
      rw [hQ, readTo_pre (L ++ [s]) Q (k + 1) (by simp [hk])]
      show (readTo (L ++ [s]) k).bind _ = none
      rw [readTo_pre L [s] k (by omega), h2]
      have : nthS (L ++ [s]) k = s := by rw [← hk]; exact nthS_last L s
      rw [this]
      exact ht
    rw [readTo_none L' (k + 1) e0 k' (by omega)] at g2
    cases g2
  · by_cases e' : k = k'
    · subst e'
      rw [h1] at g1
      cases g1
      rw [h2] at g2
      cases g2
      exact h3 g3
    · obtain ⟨Q, hQ⟩ := rdK_pre g1 k (by omega) L p h1
      have e2 := readTo_pre L' Q k' (by omega)
      rw [← hQ, g2] at e2
      rw [readTo_full e2 g3 k (by omega)] at h2
      cases h2
theorem read_next {L : List (Int × Int × List Int)} {k : Nat} {s : Int × Int × List Int} {ac ac' : List Int} {sk sk' : Bool} (hk : L.length = k) (h2 : readTo L k = some (ac, sk)) (ht : takeR (ac, sk) s = some (ac', sk')) : readTo (L ++ [s]) (k + 1) = some (ac', sk') := by
  show (readTo (L ++ [s]) k).bind _ = _
  rw [readTo_pre L [s] k (by omega), h2]
  have : nthS (L ++ [s]) k = s := by rw [← hk]; exact nthS_last L s
  rw [this]
  exact ht
end Go.Proofs.Ytmjgkgboceblbaa
