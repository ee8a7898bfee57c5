/- Plain: the records that stand on a disk, as it is read. -/
import Derived.Test.YtphhgfgmlfdkiaaPf
import Derived.Test.YtphhgfgmlfdkiaaBh
import Derived.Test.YtphhgfgmlfdkiaaPl
namespace Go.Proofs.Ytphhgfgmlfdkiaa
open Go.RowKit
set_option linter.unusedVariables false

/-- The sectors as they are read. -/
def eff (S : List ByteArray) (L : List (Int × ByteArray)) : List ByteArray := raL (mpTo L L.length) S
theorem eff_len (S : List ByteArray) (L : List (Int × ByteArray)) : (eff S L).length = S.length := raL_len _ _
theorem eff_at (S : List ByteArray) (L : List (Int × ByteArray)) (i : Nat) (h : i < S.length) : sAt (eff S L) i = rdF (mpTo L L.length) S i := raL_at _ _ _ h

/-- How many parts a sector tells. -/
def told (x : ByteArray) : Nat := if h : 8 + 4 ≤ x.size then (wordOf x[8] x[8 + 1] x[8 + 2] x[8 + 3]).toNat else 0
theorem wordOf_nn (a b c d : UInt8) : 0 ≤ wordOf a b c d ∧ wordOf a b c d ≤ 4294967295 := by
  unfold wordOf
  have := byte_lt a
  have := byte_lt b
  have := byte_lt c
  have := byte_lt d
  omega
theorem told_yes (x : ByteArray) (h : 8 + 4 ≤ x.size) : wordOf x[8] x[8 + 1] x[8 + 2] x[8 + 3] = (told x : Int) := by
  unfold told
  rw [dif_pos h]
  have := wordOf_nn x[8] x[8 + 1] x[8 + 2] x[8 + 3]
  omega
theorem told_no (x : ByteArray) (h : ¬ 8 + 4 ≤ x.size) : told x = 0 := by unfold told; rw [dif_neg h]
theorem told_le (x : ByteArray) : told x ≤ 4294967295 := by
  unfold told
  split
  · rename_i h
    have := wordOf_nn x[8] x[8 + 1] x[8 + 2] x[8 + 3]
    omega
  · omega

/-- The bytes of a part; those of the first k parts from a sector on. -/
def bodyOf (x : ByteArray) : ByteArray := x.extract 12 x.size
def joinTo (E : List ByteArray) (p : Nat) : Nat → ByteArray
  | 0 => ByteArray.empty
  | k + 1 => joinTo E p k ++ bodyOf (sAt E (p + k))
/-- The first k parts are long enough. -/
def longTo (E : List ByteArray) (p : Nat) (k : Nat) : Bool := (List.range k).all fun j => decide (12 ≤ (sAt E (p + j)).size)
theorem longTo_iff (E : List ByteArray) (p k : Nat) : longTo E p k = true ↔ ∀ j, j < k → 12 ≤ (sAt E (p + j)).size := by
  simp [longTo, List.all_eq_true]
/-- What stands at sector p is record q, of n parts: its text. -/
def recB (E : List ByteArray) (p q n : Nat) : Bool := decide (p + n ≤ E.length) && (longTo E p n && decide (partsP q (joinTo E p n) = (E.drop p).take n))
/-- Record q at sector p: its text and how many sectors it takes. -/
def atR (E : List ByteArray) (p q : Nat) : Option (ByteArray × Nat) := if p < E.length ∧ 12 ≤ (sAt E p).size ∧ recB E p q (told (sAt E p)) = true then some (joinTo E p (told (sAt E p)), told (sAt E p)) else none
theorem atR_yes {E : List ByteArray} {p q : Nat} (h : p < E.length ∧ 12 ≤ (sAt E p).size ∧ recB E p q (told (sAt E p)) = true) : atR E p q = some (joinTo E p (told (sAt E p)), told (sAt E p)) := by unfold atR; rw [if_pos h]
theorem atR_no {E : List ByteArray} {p q : Nat} (h : ¬ (p < E.length ∧ 12 ≤ (sAt E p).size ∧ recB E p q (told (sAt E p)) = true)) : atR E p q = none := by unfold atR; rw [if_neg h]

/-- Records 1 .. k, their texts, and the sector behind them. -/
def Run (E : List ByteArray) : Nat → List ByteArray → Nat → Prop
  | 0, out, p => out = [] ∧ p = 0
  | k + 1, out, p => ∃ out' p' s n, Run E k out' p' ∧ atR E p' (k + 1) = some (s, n) ∧ out = out' ++ [s] ∧ p = p' + n
theorem Run.same {E : List ByteArray} : ∀ {k : Nat} {o1 o2 : List ByteArray} {p1 p2 : Nat}, Run E k o1 p1 → Run E k o2 p2 → o1 = o2 ∧ p1 = p2
  | 0, _, _, _, _, ⟨a, b⟩, ⟨c, d⟩ => ⟨a.trans c.symm, b.trans d.symm⟩
  | k + 1, _, _, _, _, ⟨o1, p1, s1, n1, r1, a1, e1, f1⟩, ⟨o2, p2, s2, n2, r2, a2, e2, f2⟩ => by
    obtain ⟨rfl, rfl⟩ := r1.same r2
    rw [a1] at a2
    cases a2
    exact ⟨e1.trans e2.symm, f1.trans f2.symm⟩
theorem Run.len {E : List ByteArray} : ∀ {k : Nat} {o : List ByteArray} {p : Nat}, Run E k o p → o.length = k
  | 0, _, _, ⟨a, _⟩ => by rw [a]; rfl
  | k + 1, _, _, ⟨o, p, s, n, r, _, e, _⟩ => by rw [e, List.length_append, r.len]; rfl
theorem Run.goes {E : List ByteArray} {k : Nat} {o : List ByteArray} {p : Nat} (h : Run E k o p) (hs : atR E p (k + 1) = none) : ∀ j o' p', Run E (k + 1 + j) o' p' → False
  | 0, o', p', ⟨o2, p2, s, n, r, a, _, _⟩ => by
    obtain ⟨rfl, rfl⟩ := h.same r
    rw [hs] at a
    cases a
  | j + 1, o', p', ⟨o2, p2, s, n, r, a, _, _⟩ => h.goes hs j o2 p2 r
/-- All records that stand there. -/
def Log (E : List ByteArray) (o : List ByteArray) (p : Nat) : Prop := Run E o.length o p ∧ atR E p (o.length + 1) = none
theorem Log.same {E : List ByteArray} {o1 o2 : List ByteArray} {p1 p2 : Nat} (h : Log E o1 p1) (k : Log E o2 p2) : o1 = o2 ∧ p1 = p2 := by
  rcases Nat.lt_trichotomy o1.length o2.length with hl | hl | hl
  · obtain ⟨j, hj⟩ : ∃ j, o2.length = o1.length + 1 + j := ⟨o2.length - (o1.length + 1), by omega⟩
    have := k.1
    rw [hj] at this
    exact (h.1.goes h.2 j _ _ this).elim
  · have := k.1
    rw [← hl] at this
    exact h.1.same this
  · obtain ⟨j, hj⟩ : ∃ j, o1.length = o2.length + 1 + j := ⟨o1.length - (o2.length + 1), by omega⟩
    have := h.1
    rw [hj] at this
    exact (k.1.goes k.2 j _ _ this).elim
/-- A record takes a sector at least, and none that is not there. -/
theorem atR_pos {E : List ByteArray} {p q : Nat} {s : ByteArray} {n : Nat} (hq : 1 ≤ q ∧ q ≤ 1000000000) (h : atR E p q = some (s, n)) : 1 ≤ n ∧ p + n ≤ E.length := by
  unfold atR at h
  split at h
  · rename_i hc
    cases h
    obtain ⟨h1, h2, h3⟩ := hc
    simp only [recB, Bool.and_eq_true, decide_eq_true_eq] at h3
    refine ⟨?_, h3.1⟩
    apply Classical.byContradiction
    intro hn
    have hz : told (sAt E p) = 0 := by omega
    rw [hz] at h3
    have h4 := h3.2.2
    rw [List.take_zero] at h4
    have hok : partOk (q : Int) (joinTo E p 0) = true := by
      have : (joinTo E p 0).size = 0 := rfl
      simp [partOk, this]
      omega
    unfold partsP at h4
    rw [if_pos hok] at h4
    have := congrArg List.length h4
    rw [partsTo_len] at this
    have : 1 ≤ parts (joinTo E p 0) := by unfold parts; omega
    simp at *
    omega
  · cases h
theorem Run.le {E : List ByteArray} : ∀ {k : Nat} {o : List ByteArray} {p : Nat}, k ≤ 1000000 → Run E k o p → k ≤ p ∧ p ≤ E.length
  | 0, _, _, _, ⟨_, b⟩ => by rw [b]; omega
  | k + 1, _, _, hk, ⟨o, p, s, n, r, a, _, f⟩ => by
    have h1 := r.le (by omega)
    have h2 := atR_pos (by omega) a
    omega
end Go.Proofs.Ytphhgfgmlfdkiaa
