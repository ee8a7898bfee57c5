/- Plain facts on the bits of parts, and the contract of ScanBits of the program. -/
import Derived.Test.YtcikmgdfelejpaaPtsI
import Derived.Test.YtcikmgdfelejpaaBks
namespace Go.Proofs.Ytcikmgdfelejpaa
open Go.RowKit Go.Maps
set_option linter.unusedVariables false

/-- Two tables of codes. -/
structure Tb where
  cs : List Int
  ss : List Int
  ct : List Int
  st : List Int
def Tb.code (T : Tb) (t x : Int) : List Int := if t = 0 then codeL T.cs T.ss x else codeL T.ct T.st x
abbrev Tb.right (T : Tb) : Prop := rightC T.cs T.ss = true ∧ rightC T.ct T.st = true
/-- The bits of a part. -/
def bitsPt (T : Tb) : Pt → Option (List Int)
  | .inl (t, x) => if (T.code t x).length = 0 then none else some (T.code t x)
  | .inr xs => some xs
/-- One part more. -/
def more (T : Tb) (acc : List Int) (p : Pt) : Option (List Int) := (bitsPt T p).bind fun y => if 480000 < acc.length + y.length then none else some (acc ++ y)
/-- The bits of the first k parts. -/
def foldTo (T : Tb) (P : List Pt) : Nat → Option (List Int)
  | 0 => some []
  | k + 1 => (foldTo T P k).bind fun acc => more T acc (nthP P k)
theorem foldTo_next {T : Tb} {P : List Pt} {k : Nat} {acc : List Int} (h : foldTo T P k = some acc) : foldTo T P (k + 1) = more T acc (nthP P k) := by rw [foldTo, h]; rfl
theorem foldTo_none (T : Tb) (P : List Pt) (k : Nat) (h : foldTo T P k = none) : ∀ n, k ≤ n → foldTo T P n = none
  | 0, hn => by have : k = 0 := by omega
                subst this; exact h
  | n + 1, hn => by
    by_cases e : k = n + 1
    · rw [← e]; exact h
    · rw [foldTo, foldTo_none T P k h n (by omega)]; rfl
theorem more_len {T : Tb} {acc r : List Int} {p : Pt} (h : more T acc p = some r) : r.length ≤ 480000 := by
  unfold more at h
  cases hb : bitsPt T p with
  | none => rw [hb] at h; cases h
  | some y =>
    rw [hb] at h
    have h' : (if 480000 < acc.length + y.length then none else some (acc ++ y)) = some r := h
    by_cases hc : 480000 < acc.length + y.length
    · rw [if_pos hc] at h'; cases h'
    · rw [if_neg hc] at h'
      cases h'
      rw [List.length_append]
      omega
theorem foldTo_len {T : Tb} {P : List Pt} : ∀ {k : Nat} {acc : List Int}, foldTo T P k = some acc → acc.length ≤ 480000
  | 0, acc, h => by simp [foldTo] at h; subst h; simp
  | k + 1, acc, h => by
    rw [foldTo] at h
    cases hk : foldTo T P k with
    | none => rw [hk] at h; cases h
    | some a =>
      rw [hk] at h
      exact more_len h
def fineP : Pt → Prop
  | .inl (t, _) => t = 0 ∨ t = 1
  | .inr xs => xs.length ≤ 11
theorem ptsS_fine (S : List (Int × Int × List Int)) (h : ∀ j, j < S.length → (nthS S j).2.2.length ≤ 11) : ∀ k, k ≤ S.length → ∀ p ∈ ptsS S k, fineP p
  | 0, _, p, hp => by simp [ptsS] at hp
  | k + 1, hk, p, hp => by
    rw [ptsS, List.mem_append] at hp
    rcases hp with hp | hp
    · exact ptsS_fine S h k (by omega) p hp
    · simp only [List.mem_cons, List.not_mem_nil, or_false] at hp
      rcases hp with rfl | rfl
      · exact .inr rfl
      · exact h k (by omega)
theorem ptsTo_fine (L : List (Int × List Int)) (h : oksTo L L.length = true) : ∀ k, k ≤ L.length → ∀ p ∈ ptsTo L k, fineP p
  | 0, _, p, hp => by simp [ptsTo] at hp
  | k + 1, hk, p, hp => by
    rw [ptsTo, List.mem_append, List.mem_append] at hp
    rcases hp with (hp | hp) | hp
    · exact ptsTo_fine L h k (by omega) p hp
    · simp only [List.mem_cons, List.not_mem_nil, or_false] at hp
      rcases hp with rfl | rfl
      · exact .inl rfl
      · exact restL_len _
    · have hf := stepsR_fine _ _ (oksTo_at L L.length h k (by omega))
      exact ptsS_fine _ (fun j hj => (hf.2 j hj).2.2) _ (Nat.le_refl _) p hp
theorem nthP_mem (P : List Pt) (j : Nat) (h : j < P.length) : nthP P j ∈ P := by simp [nthP, List.getD, h]
/-- Blocks that can be written. -/
abbrev scanOk (L : List (Int × List Int)) : Prop := L.length ≤ 1600 ∧ oksTo L L.length = true
/-- What ScanBits answers. -/
def scanR (T : Tb) (L : List (Int × List Int)) : Option (List Int) := if T.right ∧ scanOk L then foldTo T (ptsTo L L.length) (ptsTo L L.length).length else none
theorem scanR_no {T : Tb} {L : List (Int × List Int)} (h : ¬ (T.right ∧ scanOk L)) : scanR T L = none := by unfold scanR; rw [if_neg h]
theorem scanR_yes {T : Tb} {L : List (Int × List Int)} (h : T.right) (h2 : scanOk L) : scanR T L = foldTo T (ptsTo L L.length) (ptsTo L L.length).length := by unfold scanR; rw [if_pos ⟨h, h2⟩]
theorem scanR_len (T : Tb) (L : List (Int × List Int)) : ((scanR T L).getD []).length ≤ 480000 := by
  cases h : scanR T L with
  | none => simp
  | some r =>
    unfold scanR at h
    split at h
    · exact foldTo_len h
    · cases h
/-- What is answered: the bits and true, or nothing and false. -/
def ScP (R : Option (List Int)) (w : World) (e : Ending) (w' : World) : Prop :=
  ∃ v, e = .returned (.tuple #[v, .bool R.isSome]) ∧ Own w' w.heap.size 3 .i64 v (R.getD []) ∧ Below w.heap.size w w'
theorem ScP.no {w w' : World} (hb : Below w.heap.size w w') : ScP none w (.returned (.tuple #[.slice (some ⟨w'.heap.size, 0, none⟩) 0 0, .bool false])) (w'.alloc (.cells #[] 3)) :=
  ⟨_, rfl, Own.empty _ _ _ _ hb.size, hb.alloc hb.size _⟩
theorem bitsOf_i (C1 C2 : Nat) (t x : Int) (T : Tb) (w : World) (ht : t = 0 ∨ t = 1) (hr : T.right) (hk : Books w C1 C2 T.cs T.ss T.ct T.st) :
    Calls Try.prog 47 #[.agg #[.pointer (some ⟨C1, 0, none⟩), .pointer (some ⟨C2, 0, none⟩)], .iface 110 (.agg #[.int .i64 t, .int .i64 x])] w (SymP (T.code t x) w) := by
  rcases ht with rfl | rfl
  · exact bitsOf_s C1 C2 0 x T.cs T.ss T.ct T.st w (.inl rfl) hr.1 hr.2 hk
  · exact bitsOf_s C1 C2 1 x T.cs T.ss T.ct T.st w (.inr rfl) hr.1 hr.2 hk
theorem code_len (T : Tb) (h : T.right) (t x : Int) : (T.code t x).length ≤ 16 := by
  have key : ∀ cs ss : List Int, rightC cs ss = true → (codeL cs ss x).length ≤ 16 := fun cs ss hr => by
    unfold codeL
    split
    · rw [bitsK, bl_length]
      rcases book_key cs ss hr x.toNat with h | h
      · rw [h]; decide
      · exact h.1.2
    · simp
  unfold Tb.code
  split
  · exact key _ _ h.1
  · exact key _ _ h.2
end Go.Proofs.Ytcikmgdfelejpaa
