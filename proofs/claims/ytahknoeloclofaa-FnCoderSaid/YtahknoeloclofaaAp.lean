/- Plain facts: a row of bits as a text and back. No machine in it. -/
import Derived.Test.YtahknoeloclofaaXa
import Derived.Test.YtahknoeloclofaaRd
namespace Go.Proofs.Ytahknoeloclofaa
open Go.RowKit
set_option linter.unusedVariables false

/-- The coder behind k bits: its bytes and its bounds; none where it had MaxBytes bytes ahead of one of them. -/
def cAt (bs ps : List Int) : Nat → Option (List Int × Int × Int)
  | 0 => some ([], 0, 4294967295)
  | k + 1 => match cAt bs ps k with
    | none => none
    | some (o, l, h) => if 60000 ≤ o.length then none else some (o ++ (cPut l h (bs.getD k 0) (ps.getD k 0)).1, (cPut l h (bs.getD k 0) (ps.getD k 0)).2)
theorem cAt_some {bs ps : List Int} {k : Nat} {o : List Int} {l h : Int} (e : cAt bs ps k = some (o, l, h)) (hn : o.length < 60000) : cAt bs ps (k + 1) = some (o ++ (cPut l h (bs.getD k 0) (ps.getD k 0)).1, (cPut l h (bs.getD k 0) (ps.getD k 0)).2) := by
  rw [cAt, e]
  simp only
  rw [if_neg (by omega)]
theorem cAt_full {bs ps : List Int} {k : Nat} {o : List Int} {l h : Int} (e : cAt bs ps k = some (o, l, h)) (hn : 60000 ≤ o.length) : cAt bs ps (k + 1) = none := by
  rw [cAt, e]
  simp only
  rw [if_pos hn]
theorem cAt_none {bs ps : List Int} {k : Nat} (e : cAt bs ps k = none) : ∀ n, cAt bs ps (k + n) = none
  | 0 => e
  | n + 1 => by
    have := cAt_none e n
    rw [show k + (n + 1) = k + n + 1 by omega, cAt, this]
abbrev bitsOk (bs : List Int) : Prop := ∀ x ∈ bs, 0 ≤ x ∧ x ≤ 1
abbrev chsOk (ps : List Int) : Prop := ∀ x ∈ ps, isCh x = true
/-- Are these a row of bits with their chances? -/
def rowOk (bs ps : List Int) : Bool := decide (bs.length = ps.length ∧ bs.length ≤ 480000 ∧ bitsOk bs ∧ chsOk ps)
theorem bitsOk_at {bs : List Int} (h : bitsOk bs) {k : Nat} (hk : k < bs.length) : 0 ≤ bs.getD k 0 ∧ bs.getD k 0 ≤ 1 := by
  rw [List.getD_eq_getElem?_getD, List.getElem?_eq_getElem hk]
  exact h _ (List.getElem_mem hk)
theorem chsOk_at {ps : List Int} (h : chsOk ps) {k : Nat} (hk : k < ps.length) : isCh (ps.getD k 0) = true := by
  rw [List.getD_eq_getElem?_getD, List.getElem?_eq_getElem hk]
  exact h _ (List.getElem_mem hk)
/-- What a state of the coder keeps. -/
def CK (o : List Int) (l h : Int) : Prop := W32 l ∧ W32 h ∧ l < h ∧ o.length ≤ 60004 ∧ ∀ x ∈ o, 0 ≤ x ∧ x ≤ 255
theorem CK.step {o : List Int} {l h b p : Int} (hk : CK o l h) (hn : o.length < 60000) (hp : isCh p = true) : CK (o ++ (cPut l h b p).1) (cPut l h b p).2.1 (cPut l h b p).2.2 := by
  obtain ⟨h1, h2, h3, h4, h5⟩ := hk
  obtain ⟨a, b', c, d⟩ := cPut_word (b := b) (p := p) h1 h2
  have hle := cN_le _ _ (nLo_word (b := b) (p := p) h1 h2) (nHi_word (b := b) (p := p) h1 h2) (n_in h1 h2 h3 hp).2.1
  have hlen := cN_len (nLo l h b p) (nHi l h b p)
  refine ⟨a, b', ?_, ?_, ?_⟩
  · have hle' : (cPut l h b p).2.1 ≤ (cPut l h b p).2.2 := hle
    have hne : (cPut l h b p).2.1 ≠ (cPut l h b p).2.2 := fun e => d (by rw [e])
    omega
  · have : (cPut l h b p).1.length ≤ 4 := hlen
    rw [List.length_append]
    omega
  · intro x hx
    rcases List.mem_append.1 hx with hx | hx
    · exact h5 x hx
    · exact c x hx
theorem CK.zero : CK [] 0 4294967295 := ⟨⟨by decide, by decide⟩, ⟨by decide, by decide⟩, by decide, by simp, fun x hx => by simp at hx⟩
theorem cAt_ck {bs ps : List Int} (hp : chsOk ps) : ∀ k, k ≤ ps.length → ∀ o l h, cAt bs ps k = some (o, l, h) → CK o l h
  | 0, _, o, l, h, e => by
    cases e
    exact CK.zero
  | k + 1, hk, o, l, h, e => by
    cases e0 : cAt bs ps k with
    | none => rw [cAt, e0] at e; cases e
    | some q =>
      obtain ⟨o', l', h'⟩ := q
      have ih := cAt_ck hp k (by omega) o' l' h' e0
      by_cases hn : o'.length < 60000
      · rw [cAt_some e0 hn] at e
        have e1 := Option.some.inj e
        have e2 := congrArg Prod.fst e1
        have e3 := congrArg Prod.snd e1
        simp only at e2 e3
        rw [← e2, show l = (cPut l' h' (bs.getD k 0) (ps.getD k 0)).2.1 by rw [e3], show h = (cPut l' h' (bs.getD k 0) (ps.getD k 0)).2.2 by rw [e3]]
        exact ih.step hn (chsOk_at hp (by omega))
      · rw [cAt_full e0 (by omega)] at e
        cases e
def wordBytes (x : Int) : List Int := [x / 16777216, x / 65536 % 256, x / 256 % 256, x % 256]
/-- What CodeAll answers. -/
def allR (bs ps : List Int) : ByteArray × Bool :=
  if rowOk bs ps = true then
    (match cAt bs ps bs.length with
      | none => (⟨#[]⟩, false)
      | some (o, l, _) => if 60000 < o.length then (⟨#[]⟩, false) else (strOfNums (o ++ wordBytes l), true))
  else (⟨#[]⟩, false)

/-- The reader behind k bits. -/
structure RSt where
  lo : Int
  hi : Int
  co : Int
  at' : Int
def okG (r : RSt) (p : Int) : Bool := decide ((1 ≤ p ∧ p ≤ 4095) ∧ r.lo ≤ r.hi ∧ 0 ≤ r.at' ∧ r.at' ≤ 60008)
def rNext (s : ByteArray) (r : RSt) (p : Int) : RSt := ⟨(rP r.lo r.hi r.co p).2.1, (rP r.lo r.hi r.co p).2.2, rC r.co s r.at' (rP r.lo r.hi r.co p).1.length, r.at' + (rP r.lo r.hi r.co p).1.length⟩
def code0 (s : ByteArray) : Int := byteAt s 0 * 16777216 + byteAt s 1 * 65536 + byteAt s 2 * 256 + byteAt s 3
theorem code0_word (s : ByteArray) : W32 (code0 s) := by
  have h0 := byteAt_lt s 0
  have h1 := byteAt_lt s 1
  have h2 := byteAt_lt s 2
  have h3 := byteAt_lt s 3
  unfold W32 code0
  omega
def rAt (s : ByteArray) (ps : List Int) : Nat → Option (List Int × RSt)
  | 0 => some ([], ⟨0, 4294967295, code0 s, 4⟩)
  | k + 1 => match rAt s ps k with
    | none => none
    | some (o, r) => if okG r (ps.getD k 0) = true then some (o ++ [rBit r.lo r.hi r.co (ps.getD k 0)], rNext s r (ps.getD k 0)) else none
theorem rAt_some {s : ByteArray} {ps : List Int} {k : Nat} {o : List Int} {r : RSt} (e : rAt s ps k = some (o, r)) (hn : okG r (ps.getD k 0) = true) : rAt s ps (k + 1) = some (o ++ [rBit r.lo r.hi r.co (ps.getD k 0)], rNext s r (ps.getD k 0)) := by
  rw [rAt, e]
  simp only
  rw [if_pos hn]
theorem rAt_stop {s : ByteArray} {ps : List Int} {k : Nat} {o : List Int} {r : RSt} (e : rAt s ps k = some (o, r)) (hn : okG r (ps.getD k 0) = false) : rAt s ps (k + 1) = none := by
  rw [rAt, e]
  simp only
  rw [if_neg (by rw [hn]; decide)]
theorem rAt_none {s : ByteArray} {ps : List Int} {k : Nat} (e : rAt s ps k = none) : ∀ n, rAt s ps (k + n) = none
  | 0 => e
  | n + 1 => by
    have := rAt_none e n
    rw [show k + (n + 1) = k + n + 1 by omega, rAt, this]
def RK (r : RSt) : Prop := W32 r.lo ∧ W32 r.hi ∧ W32 r.co
theorem RK.next {s : ByteArray} {r : RSt} {p : Int} (h : RK r) : RK (rNext s r p) := by
  obtain ⟨h1, h2, h3⟩ := h
  obtain ⟨a, b, _, _⟩ := cPut_word (b := rBit r.lo r.hi r.co p) (p := p) h1 h2
  exact ⟨a, b, rC_word _ _ _ h3⟩
/-- What ReadAll answers. -/
def readR (s : ByteArray) (ps : List Int) : List Int × Bool :=
  if 480000 < ps.length then ([], false) else (match rAt s ps ps.length with | none => ([], false) | some (o, _) => (o, true))
end Go.Proofs.Ytahknoeloclofaa
