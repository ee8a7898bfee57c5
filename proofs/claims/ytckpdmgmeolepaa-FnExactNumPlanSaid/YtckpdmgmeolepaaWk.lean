/- Plain facts of chapter 7: the decisions of a number, the walk over them, the next slot. No machine in it. -/
import Derived.Test.YtckpdmgmeolepaaAid
namespace Go.Proofs.Ytckpdmgmeolepaa
open Go.RowKit
set_option linter.unusedVariables false

/-- A walk over decisions: what stands in the program's walk. -/
structure Wk where
  part : Int
  below : Bool
  size : Int
  amount : Int
  rest : Int
def wk0 : Wk := ⟨0, false, 0, 0, 0⟩
/-- The end of a number is told where its bits are all there. -/
def wkEnd (s : Wk) : Wk := if s.part = 3 ∧ s.rest = s.size - 1 then { s with part := 4 } else s
def wkZero (s : Wk) (b : Int) : Wk := if b = 1 then { s with part := 4 } else ⟨1, s.below, 1, 1, s.rest⟩
def wkStep (s : Wk) (b : Int) : Wk :=
  if s.part = 0 then wkZero s b
  else if s.part = 1 then ⟨2, decide (b = 1), s.size, s.amount, s.rest⟩
  else if s.part = 2 then (if b = 0 ∨ s.size + b = 11 then ⟨3, s.below, s.size + b, s.amount, s.rest⟩ else ⟨2, s.below, s.size + b, s.amount, s.rest⟩)
  else if s.part = 3 then ⟨3, s.below, s.size, s.amount * 2 + b, s.rest + 1⟩
  else s
def wkTake (s : Wk) (b : Int) : Wk := wkEnd (wkStep s b)
def wkSlot (s : Wk) : Int := if s.part = 0 then 0 else if s.part = 1 then 1 else if s.part = 2 then 1 + s.size else 12 + s.rest
def wkNum (s : Wk) : Int := if s.below then -s.amount else s.amount
def isBi (x : Int) : Bool := decide (0 ≤ x ∧ x ≤ 1)
/-- The walk over a row; none where it is the beginning of no number. -/
def wkOver : Wk → List Int → Option Wk
  | s, [] => some s
  | s, b :: l => if isBi b = true ∧ s.part ≠ 4 then wkOver (wkTake s b) l else none

/-- What the specification says of the next decision: a slot, or -1 and the number, or -2. -/
def bnum : List Int → Int → Int
  | [], a => a
  | b :: l, a => bnum l (a * 2 + b)
def restS (s : Int) (n : Nat) (l : List Int) : Int × Int :=
  if n - 1 < l.length then (-2, 0) else if l.length < n - 1 then (12 + l.length, 0) else (-1, if s = 1 then -(2 ^ (n - 1) + bnum l 0) else 2 ^ (n - 1) + bnum l 0)
def sizeS (s : Int) : Nat → Nat → List Int → Int × Int
  | 0, n, l => restS s n l
  | f + 1, n, l => match l with
    | [] => (1 + n, 0)
    | b :: l => if b = 0 then restS s n l else sizeS s f (n + 1) l
def nextS (l : List Int) : Int × Int :=
  if (∀ x ∈ l, isBi x = true) then (match l with
    | [] => (0, 0)
    | b :: l => if b = 1 then (if l = [] then (-1, 0) else (-2, 0)) else (match l with
      | [] => (1, 0)
      | s :: l => sizeS s 10 1 l)) else (-2, 0)
/-- The same of the program's walk. -/
def nextI (l : List Int) : Int × Int := match wkOver wk0 l with
  | none => (-2, 0)
  | some s => if s.part = 4 then (-1, wkNum s) else (wkSlot s, 0)

theorem isBi_iff (x : Int) : isBi x = true ↔ x = 0 ∨ x = 1 := by
  unfold isBi
  rw [decide_eq_true_iff]
  omega
theorem over_told (s : Wk) (hs : s.part = 4) (l : List Int) (h : l ≠ []) : wkOver s l = none := by
  cases l with
  | nil => exact absurd rfl h
  | cons b l => rw [wkOver, if_neg (fun h => h.2 hs)]
theorem over_not (l : List Int) : ∀ s, ¬ (∀ x ∈ l, isBi x = true) → wkOver s l = none := by
  induction l with
  | nil => intro s h; exact absurd (fun x hx => by simp at hx) h
  | cons b l ih =>
    intro s h
    rw [wkOver]
    split
    · rename_i hb
      refine ih _ (fun hl => h ?_)
      intro x hx
      rcases List.mem_cons.1 hx with rfl | hx
      · exact hb.1
      · exact hl x hx
    · rfl
theorem bnum_acc (l : List Int) : ∀ a, bnum l a = a * 2 ^ l.length + bnum l 0 := by
  induction l with
  | nil => intro a; simp [bnum]
  | cons b l ih =>
    intro a
    rw [bnum, bnum, Int.zero_mul, Int.zero_add, ih (a * 2 + b), ih b, List.length_cons, Int.pow_succ]
    generalize (2 : Int) ^ l.length = P
    rw [Int.add_mul, Int.mul_assoc, Int.mul_comm 2 P]
    omega
/-- In its last part the walk only counts. -/
theorem over_rest (l : List Int) : ∀ (be : Bool) (n r : Nat) (a : Int), (∀ x ∈ l, isBi x = true) → r < n → r + 1 ≤ n →
    wkOver (wkEnd ⟨3, be, (n : Int) + 1, a, (r : Int)⟩) l = if n - r < l.length then none else if l.length < n - r then some ⟨3, be, (n : Int) + 1, bnum l a, (r : Int) + l.length⟩ else some ⟨4, be, (n : Int) + 1, bnum l a, (r : Int) + l.length⟩ := by
  induction l with
  | nil =>
    intro be n r a _ h _
    have hne : ¬ ((3 : Int) = 3 ∧ (r : Int) = (n : Int) + 1 - 1) := by omega
    unfold wkEnd
    rw [if_neg hne, if_neg (by simp), if_pos (by simp only [List.length_nil]; omega), wkOver]
    simp [bnum]
  | cons b l ih =>
    intro be n r a hl h _
    have hb := hl b (by simp)
    have hl' : ∀ x ∈ l, isBi x = true := fun x hx => hl x (by simp [hx])
    have hne : ¬ ((3 : Int) = 3 ∧ (r : Int) = (n : Int) + 1 - 1) := by omega
    have e0 : wkEnd ⟨3, be, (n : Int) + 1, a, (r : Int)⟩ = ⟨3, be, (n : Int) + 1, a, (r : Int)⟩ := by unfold wkEnd; rw [if_neg hne]
    rw [e0, wkOver, if_pos ⟨hb, by show (3 : Int) ≠ 4; decide⟩]
    have e1 : wkTake ⟨3, be, (n : Int) + 1, a, (r : Int)⟩ b = wkEnd ⟨3, be, (n : Int) + 1, a * 2 + b, ((r + 1 : Nat) : Int)⟩ := by
      unfold wkTake wkStep
      simp
    rw [e1, List.length_cons, bnum]
    by_cases hr : r + 1 < n
    · rw [ih be n (r + 1) (a * 2 + b) hl' hr (by omega)]
      by_cases c1 : n - (r + 1) < l.length
      · have c1' : n - r < l.length + 1 := by omega
        rw [if_pos c1, if_pos c1']
      · have c1' : ¬ n - r < l.length + 1 := by omega
        rw [if_neg c1, if_neg c1']
        have e3 : ((r + 1 : Nat) : Int) + (l.length : Int) = (r : Int) + ((l.length + 1 : Nat) : Int) := by omega
        rw [e3]
        by_cases c2 : l.length < n - (r + 1)
        · have c2' : l.length + 1 < n - r := by omega
          rw [if_pos c2, if_pos c2']
        · have c2' : ¬ l.length + 1 < n - r := by omega
          rw [if_neg c2, if_neg c2']
    · have e2 : wkEnd ⟨3, be, (n : Int) + 1, a * 2 + b, ((r + 1 : Nat) : Int)⟩ = ⟨4, be, (n : Int) + 1, a * 2 + b, ((r + 1 : Nat) : Int)⟩ := by
        unfold wkEnd
        rw [if_pos ⟨rfl, by show ((r + 1 : Nat) : Int) = (n : Int) + 1 - 1; omega⟩]
      rw [e2]
      cases l with
      | nil =>
        rw [wkOver, if_neg (by simp only [List.length_nil]; omega), if_neg (by simp only [List.length_nil]; omega)]
        simp [bnum]
      | cons c l => rw [over_told _ rfl _ (by simp), if_pos (by simp only [List.length_cons]; omega)]

def outI (o : Option Wk) : Int × Int := match o with
  | none => (-2, 0)
  | some s => if s.part = 4 then (-1, wkNum s) else (wkSlot s, 0)
theorem restS_eq (s : Int) (n : Nat) (l : List Int) (hl : ∀ x ∈ l, isBi x = true) (r : Int) (hr : r = 0) :
    outI (wkOver (wkEnd ⟨3, decide (s = 1), (n : Int) + 1, 1, r⟩) l) = restS s (n + 1) l := by
  subst hr
  unfold restS
  rw [Nat.add_sub_cancel]
  cases n with
  | zero =>
    have e2 : wkEnd ⟨3, decide (s = 1), ((0 : Nat) : Int) + 1, 1, 0⟩ = ⟨4, decide (s = 1), ((0 : Nat) : Int) + 1, 1, 0⟩ := by
      unfold wkEnd
      rw [if_pos ⟨rfl, by show (0 : Int) = ((0 : Nat) : Int) + 1 - 1; decide⟩]
    rw [e2]
    cases l with
    | nil => simp [wkOver, outI, wkNum, bnum]
    | cons c l => rw [over_told _ rfl _ (by simp), if_pos (by simp)]; rfl
  | succ n =>
    have := over_rest l (decide (s = 1)) (n + 1) 0 1 hl (by omega) (by omega)
    rw [show ((0 : Nat) : Int) = 0 from rfl, Nat.sub_zero] at this
    rw [this]
    by_cases c1 : n + 1 < l.length
    · rw [if_pos c1, if_pos c1]; rfl
    · rw [if_neg c1, if_neg c1]
      by_cases c2 : l.length < n + 1
      · rw [if_pos c2, if_pos c2]
        simp [outI, wkSlot]
      · rw [if_neg c2, if_neg c2]
        obtain e : l.length = n + 1 := by omega
        rw [bnum_acc l 1, e]
        simp only [outI, wkNum, if_true, decide_eq_true_eq, Int.one_mul]
theorem sizeS_eq (s : Int) : ∀ (f n : Nat) (l : List Int), f + n = 11 → 1 ≤ n → 1 ≤ f → (∀ x ∈ l, isBi x = true) →
    outI (wkOver ⟨2, decide (s = 1), (n : Int), 1, 0⟩ l) = sizeS s f n l := by
  intro f
  induction f with
  | zero => intro n l _ _ h; omega
  | succ f ih =>
    intro n l h hn _ hl
    cases l with
    | nil => simp [wkOver, outI, sizeS, wkSlot]
    | cons b l =>
      have hb := hl b (by simp)
      have hl' : ∀ x ∈ l, isBi x = true := fun x hx => hl x (by simp [hx])
      rw [wkOver, if_pos ⟨hb, by show (2 : Int) ≠ 4; decide⟩, sizeS]
      obtain ⟨m, rfl⟩ : ∃ m, n = m + 1 := ⟨n - 1, by omega⟩
      rcases (isBi_iff b).1 hb with rfl | rfl
      · rw [if_pos rfl]
        have e1 : wkTake ⟨2, decide (s = 1), ((m + 1 : Nat) : Int), 1, 0⟩ 0 = wkEnd ⟨3, decide (s = 1), (m : Int) + 1, 1, 0⟩ := by
          unfold wkTake wkStep
          simp
        rw [e1, ← restS_eq s m l hl' 0 rfl]
      · rw [if_neg (by decide)]
        by_cases hf : f = 0
        · subst hf
          have e1 : wkTake ⟨2, decide (s = 1), ((m + 1 : Nat) : Int), 1, 0⟩ 1 = wkEnd ⟨3, decide (s = 1), ((m + 1 : Nat) : Int) + 1, 1, 0⟩ := by
            unfold wkTake wkStep
            rw [if_neg (by show ¬ (2 : Int) = 0; decide), if_neg (by show ¬ (2 : Int) = 1; decide), if_pos rfl]
            simp only
            rw [if_pos (.inr (by omega))]
          rw [e1, sizeS, ← restS_eq s (m + 1) l hl' 0 rfl]
        · have e1 : wkTake ⟨2, decide (s = 1), ((m + 1 : Nat) : Int), 1, 0⟩ 1 = ⟨2, decide (s = 1), ((m + 1 + 1 : Nat) : Int), 1, 0⟩ := by
            unfold wkTake wkStep
            rw [if_neg (by show ¬ (2 : Int) = 0; decide), if_neg (by show ¬ (2 : Int) = 1; decide), if_pos rfl]
            simp only
            rw [if_neg (by omega)]
            unfold wkEnd
            rw [if_neg (by intro h; exact absurd (show (2 : Int) = 3 from h.1) (by decide))]
            congr 1
          rw [e1, ih (m + 1 + 1) l (by omega) (by omega) (by omega) hl']
/-- The two say the same. -/
theorem next_eq (l : List Int) : nextI l = nextS l := by
  show outI (wkOver wk0 l) = nextS l
  unfold nextS
  by_cases hl : ∀ x ∈ l, isBi x = true
  · rw [if_pos hl]
    cases l with
    | nil => rfl
    | cons b l =>
      have hb := hl b (by simp)
      have hl' : ∀ x ∈ l, isBi x = true := fun x hx => hl x (by simp [hx])
      rw [wkOver, if_pos ⟨hb, by decide⟩]
      rcases (isBi_iff b).1 hb with rfl | rfl
      · rw [show wkTake wk0 0 = ⟨1, false, 1, 1, 0⟩ from rfl]
        simp only [show ¬ ((0 : Int) = 1) by decide, if_false]
        cases l with
        | nil => rfl
        | cons s l =>
          have hs := hl' s (by simp)
          have hl2 : ∀ x ∈ l, isBi x = true := fun x hx => hl' x (by simp [hx])
          rw [wkOver, if_pos ⟨hs, by decide⟩]
          have e1 : wkTake ⟨1, false, 1, 1, 0⟩ s = ⟨2, decide (s = 1), ((1 : Nat) : Int), 1, 0⟩ := by
            rcases (isBi_iff s).1 hs with rfl | rfl <;> rfl
          rw [e1, sizeS_eq s 10 1 l rfl (by omega) (by omega) hl2]
      · rw [show wkTake wk0 1 = ⟨4, false, 0, 0, 0⟩ from rfl]
        simp only [if_true]
        cases l with
        | nil => rfl
        | cons c l => rw [over_told _ rfl _ (by simp)]; simp [outI]
  · rw [if_neg hl, over_not l _ hl]
    rfl
end Go.Proofs.Ytckpdmgmeolepaa
