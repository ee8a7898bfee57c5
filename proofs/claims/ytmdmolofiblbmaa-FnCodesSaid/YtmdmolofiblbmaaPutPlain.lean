/- Plain facts on PutSyms, and the append of one own slice's numbers to another. -/
import Derived.Test.YtmdmolofiblbmaaCodeImpl
namespace Go.Proofs.Ytmdmolofiblbmaa
open Go.RowKit
set_option linter.unusedVariables false

/-- 'out = append(out, ys...)'. -/
theorem wpList_app {P : Program} {ops : Array Oper} {rest : List Oper} {o : Oper} {a : Act} {Q : Exit → Act → World → Prop} (w : World) (hgd : o.guard = none) (s x : Operand) (t : TypeId)
    (ho : o.op = .call { callee := .builtin .append, args := #[s, x], argTypes := #[t, t] })
    (base : Nat) (e : TypeId) (k : IntKind) (z : Int) (bytes : Nat) (ht : P.underlying t = some (.slice e)) (hinfo : (P.info? e).map (fun i => (i.zero, i.size, i.bytes)) = some (some (.int k z), 1, bytes))
    (v : Value) (xs : List Int) (hs : a.eval s = v) (hown : Own w base e k v xs) (yb : Nat) (y : Value) (ys : List Int) (hx : a.eval x = y) (hy : Own w yb e k y ys) (hpos : 0 < ys.length)
    (hlen : xs.length + ys.length < 1000000000000) (hbytes : bytes ≤ 8)
    (h : ∀ v' w', Own w' base e k v' (xs ++ ys) → Below base w w' → wpList P ops Q rest (a.put o.dst v') w') : wpList P ops Q (o :: rest) a w := by
  obtain ⟨i, hi, hz0, hz1, hz2⟩ := info_parts hinfo
  have hb := hown.1
  have hlt := hown.2.lt
  have hmul : (xs.length + ys.length) * bytes ≤ (xs.length + ys.length) * 8 := Nat.mul_le_mul_left _ hbytes
  rcases hy.2.2 with ⟨_, h0⟩ | ⟨g, cap, cur, rfl, _⟩
  · omega
  · refine wpList_append_own _ hgd s x t ho base e i (.int k z) 1 bytes ht hi hz0 hz1 hz2 rfl (by decide) v xs.length _ hs hown.2 ⟨g, 0, none⟩ ys.length cap (ys.map (Value.int k)) hx (by simp) ?_ ?_ (by unfold maxLen; omega) (by omega) hb ?_
    · intro j u hj
      have hjl : j < ys.length := by have := (List.getElem?_eq_some_iff.1 hj).1; simpa using this
      rw [hy.cell rfl j hjl]
      simp [hjl] at hj
      rw [← hj]
      simp [List.getD, hjl]
    · intro u hu
      simp at hu
      obtain ⟨q, _, rfl⟩ := hu
      rfl
    · intro v' w' hown' hgrow _
      refine h v' w' ⟨Nat.le_trans hb hgrow.size, ?_⟩ ?_
      · simpa using hown'
      · exact (Below.refl base w).grown hgrow hb (fun g hg => (hlt g hg).1)

theorem BookAt.belowB {w w' : World} {B C M : Nat} {ss : List Int} {K : List (Nat × Int)} (h : BookAt w C M ss K) (hb : Below B w w') (hC : C < B) (hM : M < B) : BookAt w' C M ss K := by
  obtain ⟨⟨arr, h1, h2⟩, h3⟩ := h
  refine ⟨⟨arr, h1.below hb hC, h2⟩, ?_⟩
  obtain ⟨es, clock, hh, r⟩ := h3
  exact ⟨es, clock, (hb.block M hM).trans hh, r⟩
theorem BookAt.lt {w : World} {C M : Nat} {ss : List Int} {K : List (Nat × Int)} (h : BookAt w C M ss K) : C < w.heap.size ∧ M < w.heap.size := by
  obtain ⟨⟨arr, h1, h2⟩, h3⟩ := h
  exact ⟨h1.lt, h3.lt⟩

/-- The bits of the first k symbols; none where a symbol has no code or there are too many bits. -/
def putTo (cs ss xs : List Int) : Nat → Option (List Int)
  | 0 => some []
  | k + 1 => match putTo cs ss xs k with
    | none => none
    | some acc => if (codeL cs ss (xs.getD k 0)).length = 0 ∨ 480000 < acc.length + (codeL cs ss (xs.getD k 0)).length then none else some (acc ++ codeL cs ss (xs.getD k 0))
theorem putTo_bad {cs ss xs : List Int} {k : Nat} {acc : List Int} (h : putTo cs ss xs k = some acc) (hb : (codeL cs ss (xs.getD k 0)).length = 0 ∨ 480000 < acc.length + (codeL cs ss (xs.getD k 0)).length) : ∀ n, k < n → putTo cs ss xs n = none
  | n + 1, hn => by
    rw [putTo]
    by_cases e : k = n
    · subst e
      rw [h]
      show (if _ then _ else _) = _
      rw [if_pos hb]
    · rw [putTo_bad h hb n (by omega)]
theorem putTo_good {cs ss xs : List Int} {k : Nat} {acc : List Int} (h : putTo cs ss xs k = some acc) (hb : ¬ ((codeL cs ss (xs.getD k 0)).length = 0 ∨ 480000 < acc.length + (codeL cs ss (xs.getD k 0)).length)) : putTo cs ss xs (k + 1) = some (acc ++ codeL cs ss (xs.getD k 0)) := by
  rw [putTo, h]
  show (if _ then _ else _) = _
  rw [if_neg hb]
theorem putTo_len {cs ss xs : List Int} : ∀ {k : Nat} {acc : List Int}, putTo cs ss xs k = some acc → acc.length ≤ 480000
  | 0, acc, h => by simp [putTo] at h; subst h; simp
  | k + 1, acc, h => by
    rw [putTo] at h
    cases hk : putTo cs ss xs k with
    | none => rw [hk] at h; cases h
    | some a =>
      rw [hk] at h
      by_cases hb : (codeL cs ss (xs.getD k 0)).length = 0 ∨ 480000 < a.length + (codeL cs ss (xs.getD k 0)).length
      · have : (none : Option (List Int)) = some acc := by rw [← h]; show _ = (if _ then _ else _); rw [if_pos hb]
        cases this
      · have : some (a ++ codeL cs ss (xs.getD k 0)) = some acc := by rw [← h]; show _ = (if _ then _ else _); rw [if_neg hb]
        cases this
        rw [List.length_append]
        omega

/-- What PutSyms answers. -/
def putR (cs ss xs : List Int) : List Int × Bool := if rightC cs ss = true then (match putTo cs ss xs xs.length with | some a => (a, true) | none => ([], false)) else ([], false)
theorem putR_wrong {cs ss xs : List Int} (h : ¬ rightC cs ss = true) : putR cs ss xs = ([], false) := by unfold putR; rw [if_neg h]
theorem putR_none {cs ss xs : List Int} (h : rightC cs ss = true) (hp : putTo cs ss xs xs.length = none) : putR cs ss xs = ([], false) := by unfold putR; rw [if_pos h, hp]
theorem putR_some {cs ss xs a : List Int} (h : rightC cs ss = true) (hp : putTo cs ss xs xs.length = some a) : putR cs ss xs = (a, true) := by unfold putR; rw [if_pos h, hp]
theorem codeL_len (cs ss : List Int) (sym : Int) (hr : rightC cs ss = true) : (codeL cs ss sym).length ≤ 16 := by
  unfold codeL
  split
  · rw [bitsK, bl_length]
    rcases book_key cs ss hr sym.toNat with h | h
    · rw [h]; decide
    · exact h.1.2
  · simp
theorem ret_vb {a : Value} {c : Bool} {p : List Int × Bool} (h : p.2 = c) : Ending.returned (.tuple #[a, .bool c]) = .returned (.tuple #[a, .bool p.2]) := by rw [h]
end Go.Proofs.Ytmdmolofiblbmaa
