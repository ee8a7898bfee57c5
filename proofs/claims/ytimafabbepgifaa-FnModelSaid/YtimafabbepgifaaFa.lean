/- Plain facts: a row of bits with their chances, written and read. No machine in it. -/
import Derived.Test.YtimafabbepgifaaXa
import Derived.Test.YtimafabbepgifaaRd
import Derived.Test.YtimafabbepgifaaSp
namespace Go.Proofs.Ytimafabbepgifaa
open Go.RowKit
set_option linter.unusedVariables false

/-- The coder behind k bits: its bytes and its bounds; none where it had MaxBytes bytes ahead of one of them. -/
def cAt (bs ps : List Int) : Nat → Option (List Int × Int × Int)
  | 0 => some ([], 0, 4294967295)
  | k + 1 => match cAt bs ps k with
    | none => none
    | some (o, l, h) => if 60000 ≤ o.length then none else some (o ++ (cPut l h (bs.getD k 0) (ps.getD k 0)).1, (cPut l h (bs.getD k 0) (ps.getD k 0)).2)
theorem cAt_some {bs ps : List Int} {k : Nat} {o : List Int} {l h : Int} (e : cAt bs ps k = some (o, l, h)) (hn : o.length < 60000) : cAt bs ps (k + 1) = some (o ++ (cPut l h (bs.getD k 0) (ps.getD k 0)).1, (cPut l h (bs.getD k 0) (ps.getD k 0)).2) := by
  rw [cAt, e]
  simp only
  rw [if_neg (by omega)]
theorem cAt_full {bs ps : List Int} {k : Nat} {o : List Int} {l h : Int} (e : cAt bs ps k = some (o, l, h)) (hn : 60000 ≤ o.length) : cAt bs ps (k + 1) = none := by
  rw [cAt, e]
  simp only
  rw [if_pos hn]
theorem cAt_none {bs ps : List Int} {k : Nat} (e : cAt bs ps k = none) : ∀ n, cAt bs ps (k + n) = none
  | 0 => e
  | n + 1 => by
    have := cAt_none e n
    rw [show k + (n + 1) = k + n + 1 by omega, cAt, this]
abbrev bitsOk (bs : List Int) : Prop := ∀ x ∈ bs, 0 ≤ x ∧ x ≤ 1
abbrev chsOk (ps : List Int) : Prop := ∀ x ∈ ps, isCh x = true
/-- Are these a row of bits with their chances? -/
def rowOk (bs ps : List Int) : Bool := decide (bs.length = ps.length ∧ bs.length ≤ 480000 ∧ bitsOk bs ∧ chsOk ps)
theorem bitsOk_at {bs : List Int} (h : bitsOk bs) {k : Nat} (hk : k < bs.length) : 0 ≤ bs.getD k 0 ∧ bs.getD k 0 ≤ 1 := by
  rw [List.getD_eq_getElem?_getD, List.getElem?_eq_getElem hk]
  exact h _ (List.getElem_mem hk)
theorem chsOk_at {ps : List Int} (h : chsOk ps) {k : Nat} (hk : k < ps.length) : isCh (ps.getD k 0) = true := by
  rw [List.getD_eq_getElem?_getD, List.getElem?_eq_getElem hk]
  exact h _ (List.getElem_mem hk)
/-- What a state of the coder keeps. -/
def CK (o : List Int) (l h : Int) : Prop := W32 l ∧ W32 h ∧ l < h ∧ o.length ≤ 60004 ∧ ∀ x ∈ o, 0 ≤ x ∧ x ≤ 255
theorem CK.step {o : List Int} {l h b p : Int} (hk : CK o l h) (hn : o.length < 60000) (hp : isCh p = true) : CK (o ++ (cPut l h b p).1) (cPut l h b p).2.1 (cPut l h b p).2.2 := by
  obtain ⟨h1, h2, h3, h4, h5⟩ := hk
  obtain ⟨a, b', c, d⟩ := cPut_word (b := b) (p := p) h1 h2
  have hle := cN_le _ _ (nLo_word (b := b) (p := p) h1 h2) (nHi_word (b := b) (p := p) h1 h2) (n_in h1 h2 h3 hp).2.1
  have hlen := cN_len (nLo l h b p) (nHi l h b p)
  refine ⟨a, b', ?_, ?_, ?_⟩
  · have hle' : (cPut l h b p).2.1 ≤ (cPut l h b p).2.2 := hle
    have hne : (cPut l h b p).2.1 ≠ (cPut l h b p).2.2 := fun e => d (by rw [e])
    omega
  · have : (cPut l h b p).1.length ≤ 4 := hlen
    rw [List.length_append]
    omega
  · intro x hx
    rcases List.mem_append.1 hx with hx | hx
    · exact h5 x hx
    · exact c x hx
theorem CK.zero : CK [] 0 4294967295 := ⟨⟨by decide, by decide⟩, ⟨by decide, by decide⟩, by decide, by simp, fun x hx => by simp at hx⟩
theorem cAt_ck {bs ps : List Int} (hp : chsOk ps) : ∀ k, k ≤ ps.length → ∀ o l h, cAt bs ps k = some (o, l, h) → CK o l h
  | 0, _, o, l, h, e => by
    cases e
    exact CK.zero
  | k + 1, hk, o, l, h, e => by
    cases e0 : cAt bs ps k with
    | none => rw [cAt, e0] at e; cases e
    | some q =>
      obtain ⟨o', l', h'⟩ := q
      have ih := cAt_ck hp k (by omega) o' l' h' e0
      by_cases hn : o'.length < 60000
      · rw [cAt_some e0 hn] at e
        have e1 := Option.some.inj e
        have e2 := congrArg Prod.fst e1
        have e3 := congrArg Prod.snd e1
        simp only at e2 e3
        rw [← e2, show l = (cPut l' h' (bs.getD k 0) (ps.getD k 0)).2.1 by rw [e3], show h = (cPut l' h' (bs.getD k 0) (ps.getD k 0)).2.2 by rw [e3]]
        exact ih.step hn (chsOk_at hp (by omega))
      · rw [cAt_full e0 (by omega)] at e
        cases e
def wordBytes (x : Int) : List Int := [x / 16777216, x / 65536 % 256, x / 256 % 256, x % 256]
/-- What CodeAll answers. -/
def allR (bs ps : List Int) : ByteArray × Bool :=
  if rowOk bs ps = true then
    (match cAt bs ps bs.length with
      | none => (⟨#[]⟩, false)
      | some (o, l, _) => if 60000 < o.length then (⟨#[]⟩, false) else (strOfNums (o ++ wordBytes l), true))
  else (⟨#[]⟩, false)

/-- The reader behind k bits. -/
structure RdS where
  lo : Int
  hi : Int
  co : Int
  at' : Int
def okG (r : RdS) (p : Int) : Bool := decide ((1 ≤ p ∧ p ≤ 4095) ∧ r.lo ≤ r.hi ∧ 0 ≤ r.at' ∧ r.at' ≤ 60008)
def rNext (s : ByteArray) (r : RdS) (p : Int) : RdS := ⟨(rP r.lo r.hi r.co p).2.1, (rP r.lo r.hi r.co p).2.2, rC r.co s r.at' (rP r.lo r.hi r.co p).1.length, r.at' + (rP r.lo r.hi r.co p).1.length⟩
def code0 (s : ByteArray) : Int := byteAt s 0 * 16777216 + byteAt s 1 * 65536 + byteAt s 2 * 256 + byteAt s 3
theorem code0_word (s : ByteArray) : W32 (code0 s) := by
  have h0 := byteAt_lt s 0
  have h1 := byteAt_lt s 1
  have h2 := byteAt_lt s 2
  have h3 := byteAt_lt s 3
  unfold W32 code0
  omega
def rAt (s : ByteArray) (ps : List Int) : Nat → Option (List Int × RdS)
  | 0 => some ([], ⟨0, 4294967295, code0 s, 4⟩)
  | k + 1 => match rAt s ps k with
    | none => none
    | some (o, r) => if okG r (ps.getD k 0) = true then some (o ++ [rBit r.lo r.hi r.co (ps.getD k 0)], rNext s r (ps.getD k 0)) else none
theorem rAt_some {s : ByteArray} {ps : List Int} {k : Nat} {o : List Int} {r : RdS} (e : rAt s ps k = some (o, r)) (hn : okG r (ps.getD k 0) = true) : rAt s ps (k + 1) = some (o ++ [rBit r.lo r.hi r.co (ps.getD k 0)], rNext s r (ps.getD k 0)) := by
  rw [rAt, e]
  simp only
  rw [if_pos hn]
theorem rAt_stop {s : ByteArray} {ps : List Int} {k : Nat} {o : List Int} {r : RdS} (e : rAt s ps k = some (o, r)) (hn : okG r (ps.getD k 0) = false) : rAt s ps (k + 1) = none := by
  rw [rAt, e]
  simp only
  rw [if_neg (by rw [hn]; decide)]
theorem rAt_none {s : ByteArray} {ps : List Int} {k : Nat} (e : rAt s ps k = none) : ∀ n, rAt s ps (k + n) = none
  | 0 => e
  | n + 1 => by
    have := rAt_none e n
    rw [show k + (n + 1) = k + n + 1 by omega, rAt, this]
def RK (r : RdS) : Prop := W32 r.lo ∧ W32 r.hi ∧ W32 r.co
theorem RK.next {s : ByteArray} {r : RdS} {p : Int} (h : RK r) : RK (rNext s r p) := by
  obtain ⟨h1, h2, h3⟩ := h
  obtain ⟨a, b, _, _⟩ := cPut_word (b := rBit r.lo r.hi r.co p) (p := p) h1 h2
  exact ⟨a, b, rC_word _ _ _ h3⟩
/-- What ReadAll answers. -/
def readR (s : ByteArray) (ps : List Int) : List Int × Bool :=
  if 480000 < ps.length then ([], false) else (match rAt s ps ps.length with | none => ([], false) | some (o, _) => (o, true))
/-- The word at place i of a list of bytes. -/
def wd (L : List Int) (i : Nat) : Int := L.getD i 0 * 16777216 + L.getD (i + 1) 0 * 65536 + L.getD (i + 2) 0 * 256 + L.getD (i + 3) 0
def Bys (L : List Int) : Prop := ∀ x ∈ L, 0 ≤ x ∧ x ≤ 255
theorem Bys.at {L : List Int} (h : Bys L) (i : Nat) : 0 ≤ L.getD i 0 ∧ L.getD i 0 ≤ 255 := by
  by_cases hi : i < L.length
  · rw [List.getD_eq_getElem?_getD, List.getElem?_eq_getElem hi]
    exact h _ (List.getElem_mem hi)
  · rw [List.getD_eq_getElem?_getD, List.getElem?_eq_none (by omega)]
    exact ⟨by decide, by decide⟩
theorem strOf_at {L : List Int} (h : Bys L) (i : Nat) : byteAt (strOfNums L) i = L.getD i 0 := by
  have hb := h.at i
  unfold byteAt
  rw [strOf_size]
  by_cases hi : i < L.length
  · rw [if_pos ⟨by omega, by omega⟩]
    rw [List.getD_eq_getElem?_getD, List.getElem?_eq_getElem hi] at hb ⊢
    simp only [Option.getD_some, Int.toNat_natCast] at hb ⊢
    simp [strOfNums, Array.getD, hi]
    omega
  · rw [if_neg (by omega), List.getD_eq_getElem?_getD, List.getElem?_eq_none (by omega)]
    rfl
theorem wd_next {L : List Int} (h : Bys L) (i : Nat) : wd L i % 16777216 * 256 + L.getD (i + 4) 0 = wd L (i + 1) := by
  have h0 := h.at i
  have h1 := h.at (i + 1)
  have h2 := h.at (i + 2)
  have h3 := h.at (i + 3)
  have h4 := h.at (i + 4)
  unfold wd
  rw [show i + 1 + 1 = i + 2 by omega, show i + 1 + 2 = i + 3 by omega, show i + 1 + 3 = i + 4 by omega]
  omega
theorem rC_wd {L : List Int} (h : Bys L) : ∀ (m i : Nat), rC (wd L i) (strOfNums L) ((i + 4 : Nat) : Int) m = wd L (i + m)
  | 0, i => rfl
  | m + 1, i => by
    rw [rC, strOf_at h (i + 4), wd_next h i]
    have := rC_wd h m (i + 1)
    rw [show ((i + 4 : Nat) : Int) + 1 = ((i + 1 + 4 : Nat) : Int) by omega, this]
    congr 1
    omega
/-- Shifts backwards: the word ahead lies between the bounds ahead. -/
theorem shift_back {L : List Int} (hL : Bys L) (lo hi : Int) : ∀ i : Nat, W32 lo → W32 hi → (∀ j, j < (cN lo hi).1.length → L.getD (i + j) 0 = (cN lo hi).1.getD j 0) → (cN lo hi).2.1 ≤ wd L (i + (cN lo hi).1.length) → wd L (i + (cN lo hi).1.length) ≤ (cN lo hi).2.2 → lo ≤ wd L i ∧ wd L i ≤ hi := by
  refine cN_ind (fun lo hi => ∀ i : Nat, W32 lo → W32 hi → (∀ j, j < (cN lo hi).1.length → L.getD (i + j) 0 = (cN lo hi).1.getD j 0) → (cN lo hi).2.1 ≤ wd L (i + (cN lo hi).1.length) → wd L (i + (cN lo hi).1.length) ≤ (cN lo hi).2.2 → lo ≤ wd L i ∧ wd L i ≤ hi) ?_ ?_ lo hi
  · intro lo hi h i _ _ _ h1 h2
    rw [cN_no h] at h1 h2
    exact ⟨h1, h2⟩
  · intro lo hi h ih i hl hh hj h1 h2
    rw [cN_yes h] at hj h1 h2
    simp only [List.length_cons] at hj h1 h2
    have hb := ih (i + 1) (sl_word lo) (sh_word hi) (fun j hjj => by
      have := hj (j + 1) (by omega)
      rw [show i + (j + 1) = i + 1 + j by omega] at this
      simpa using this) (by rw [show i + 1 + (cN (sl lo) (sh hi)).1.length = i + ((cN (sl lo) (sh hi)).1.length + 1) by omega]; exact h1) (by rw [show i + 1 + (cN (sl lo) (sh hi)).1.length = i + ((cN (sl lo) (sh hi)).1.length + 1) by omega]; exact h2)
    have h0 := hj 0 (by omega)
    simp only [Nat.add_zero, List.getD_cons_zero] at h0
    have hn := wd_next hL i
    have b1 := hL.at (i + 1)
    have b2 := hL.at (i + 2)
    have b3 := hL.at (i + 3)
    have b4 := hL.at (i + 4)
    have hw : wd L i = top lo * 16777216 + (L.getD (i + 1) 0 * 65536 + L.getD (i + 2) 0 * 256 + L.getD (i + 3) 0) := by
      unfold wd
      rw [h0]
      omega
    rw [hw] at hn ⊢
    rw [← hn] at hb
    unfold top at h hw hn hb ⊢
    unfold sl sh at hb
    unfold W32 at hl hh
    omega

/-- A right row of at most 14000 bits. -/
structure Rowy (bs ps : List Int) (n : Nat) : Prop where
  lb : bs.length = n
  lp : ps.length = n
  hn : n ≤ 14000
  hb : bitsOk bs
  hp : chsOk ps
theorem Rowy.at {bs ps : List Int} {n : Nat} (h : Rowy bs ps n) : ∀ k, k ≤ n → ∃ o l hh, cAt bs ps k = some (o, l, hh) ∧ o.length ≤ 4 * k
  | 0, _ => ⟨[], 0, 4294967295, rfl, by simp⟩
  | k + 1, hk => by
    obtain ⟨o, l, hh, e, hl⟩ := h.at k (by omega)
    have := h.hn
    refine ⟨_, _, _, cAt_some e (by omega), ?_⟩
    have : (cPut l hh (bs.getD k 0) (ps.getD k 0)).1.length ≤ 4 := cN_len _ _
    rw [List.length_append]
    omega
/-- A later state's bytes begin with an earlier one's. -/
theorem cAt_pre {bs ps : List Int} {k : Nat} {o : List Int} {l h : Int} (e : cAt bs ps k = some (o, l, h)) : ∀ m o' l' h', cAt bs ps (k + m) = some (o', l', h') → ∃ r, o' = o ++ r
  | 0, o', l', h', e' => by
    rw [Nat.add_zero, e] at e'
    cases e'
    exact ⟨[], by simp⟩
  | m + 1, o', l', h', e' => by
    cases e0 : cAt bs ps (k + m) with
    | none => rw [show k + (m + 1) = k + m + 1 by omega, cAt, e0] at e'; cases e'
    | some q =>
      obtain ⟨o1, l1, h1⟩ := q
      obtain ⟨r, hr⟩ := cAt_pre e m o1 l1 h1 e0
      by_cases hn : o1.length < 60000
      · rw [show k + (m + 1) = k + m + 1 by omega, cAt_some e0 hn] at e'
        have e1 := congrArg Prod.fst (Option.some.inj e')
        simp only at e1
        exact ⟨r ++ (cPut l1 h1 (bs.getD (k + m) 0) (ps.getD (k + m) 0)).1, by rw [← e1, hr]; simp⟩
      · rw [show k + (m + 1) = k + m + 1 by omega, cAt_full e0 (by omega)] at e'
        cases e'
theorem getD_app_at (a b c : List Int) (j : Nat) (hj : j < b.length) : (a ++ (b ++ c)).getD (a.length + j) 0 = b.getD j 0 := by
  simp only [List.getD_eq_getElem?_getD]
  rw [List.getElem?_append_right (by omega), show a.length + j - a.length = j by omega, List.getElem?_append_left hj]

/-- The word that stands behind the first k bits' bytes lies between the coder's bounds there, and tells the next bit. -/
theorem between {bs ps : List Int} {n : Nat} (H : Rowy bs ps n) {O : List Int} {LN HN : Int} (E : cAt bs ps n = some (O, LN, HN)) (hL : Bys (O ++ wordBytes LN)) :
    ∀ m k, k + m = n → ∀ o l h, cAt bs ps k = some (o, l, h) → l ≤ wd (O ++ wordBytes LN) o.length ∧ wd (O ++ wordBytes LN) o.length ≤ h ∧ (k < n → rBit l h (wd (O ++ wordBytes LN) o.length) (ps.getD k 0) = bs.getD k 0)
  | 0, k, hk, o, l, h, e => by
    obtain rfl : k = n := by omega
    rw [e] at E
    have e9 := Option.some.inj E
    simp only [Prod.mk.injEq] at e9
    obtain ⟨e91, e92, e93⟩ := e9
    rw [← e91, ← e92]
    clear E e91 e92 e93 hL
    have hck := cAt_ck H.hp k (by rw [H.lp]; exact Nat.le_refl _) _ _ _ e
    have hw : wd (o ++ wordBytes l) o.length = l := by
      have hx := hck.1
      unfold W32 at hx
      have g : ∀ j, j < 4 → (o ++ wordBytes l).getD (o.length + j) 0 = (wordBytes l).getD j 0 := fun j hj => by
        have := getD_app_at o (wordBytes l) [] j hj
        simpa using this
      have g0 := g 0 (by decide)
      have g1 := g 1 (by decide)
      have g2 := g 2 (by decide)
      have g3 := g 3 (by decide)
      simp only [Nat.add_zero] at g0
      unfold wd
      rw [g0, g1, g2, g3]
      simp [wordBytes]
      omega
    rw [hw]
    exact ⟨Int.le_refl _, Int.le_of_lt hck.2.2.1, fun h => by omega⟩
  | m + 1, k, hk, o, l, h, e => by
    have hkn : k < n := by omega
    obtain ⟨o', l', h', e1, hl1⟩ := H.at (k + 1) (by omega)
    have hck := cAt_ck H.hp k (by rw [H.lp]; omega) _ _ _ e
    have hol : o.length ≤ 4 * k := by
      obtain ⟨o2, l2, h2, e2, hl2⟩ := H.at k (by omega)
      rw [e] at e2
      cases e2
      exact hl2
    have hlt : o.length < 60000 := by have := H.hn; omega
    have e2 := cAt_some e hlt
    have ih := between H E hL m (k + 1) (by omega) _ _ _ e2
    have hpre := cAt_pre e2 (n - (k + 1)) O LN HN (by rw [show k + 1 + (n - (k + 1)) = n by omega]; exact E)
    have hp := chsOk_at H.hp (k := k) (by rw [H.lp]; exact hkn)
    have hb := bitsOk_at H.hb (k := k) (by rw [H.lb]; exact hkn)
    generalize ps.getD k 0 = p at *
    generalize bs.getD k 0 = b at *
    obtain ⟨r, hr⟩ := hpre
    have hin := n_in (b := b) hck.1 hck.2.1 hck.2.2.1 hp
    have hmid := cMid_in hck.1 hck.2.1 (Int.le_of_lt hck.2.2.1) hp
    have hbk := shift_back hL (nLo l h b p) (nHi l h b p) o.length (nLo_word hck.1 hck.2.1) (nHi_word hck.1 hck.2.1) (fun j hj => by
      have := getD_app_at o (cPut l h b p).1 (r ++ wordBytes LN) j hj
      rw [hr]
      rw [show o ++ (cPut l h b p).1 ++ r ++ wordBytes LN = o ++ ((cPut l h b p).1 ++ (r ++ wordBytes LN)) by simp]
      exact this) (by
        have := ih.1
        rw [List.length_append] at this
        exact this) (by
        have := ih.2.1
        rw [List.length_append] at this
        exact this)
    generalize wd (O ++ wordBytes LN) o.length = X at *
    refine ⟨by omega, by omega, fun _ => ?_⟩
    unfold rBit
    obtain rfl | rfl : b = 0 ∨ b = 1 := by omega
    · rw [if_neg]
      unfold nLo at hbk
      rw [if_neg (by decide)] at hbk
      have h1 := hmid.2.2 hck.2.2.1
      have h2 := hck.2.1.2
      have h3 := hck.1.1
      have h4 := hmid.1
      omega
    · rw [if_pos]
      unfold nHi at hbk
      rw [if_pos rfl] at hbk
      omega

/-- The reader goes just the way that the coder went. -/
theorem reads {bs ps : List Int} {n : Nat} (H : Rowy bs ps n) {O : List Int} {LN HN : Int} (E : cAt bs ps n = some (O, LN, HN)) (hL : Bys (O ++ wordBytes LN)) :
    ∀ k, k ≤ n → ∀ o l h, cAt bs ps k = some (o, l, h) → rAt (strOfNums (O ++ wordBytes LN)) ps k = some (bs.take k, ⟨l, h, wd (O ++ wordBytes LN) o.length, ((o.length + 4 : Nat) : Int)⟩)
  | 0, _, o, l, h, e => by
    cases e
    rw [rAt]
    have hc : code0 (strOfNums (O ++ wordBytes LN)) = wd (O ++ wordBytes LN) 0 := by
      unfold code0 wd
      rw [show (0 : Int) = ((0 : Nat) : Int) from rfl, show (1 : Int) = ((1 : Nat) : Int) from rfl, show (2 : Int) = ((2 : Nat) : Int) from rfl, show (3 : Int) = ((3 : Nat) : Int) from rfl, strOf_at hL, strOf_at hL, strOf_at hL, strOf_at hL]
      rfl
    rw [hc]
    rfl
  | k + 1, hk, o', l', h', e' => by
    obtain ⟨o, l, h, e, hl⟩ := H.at k (by omega)
    have hlt : o.length < 60000 := by have := H.hn; omega
    have e2 := cAt_some e hlt
    rw [e2] at e'
    have ih := reads H E hL k (by omega) o l h e
    have hbt := between H E hL (n - k) k (by omega) o l h e
    have hp := chsOk_at H.hp (k := k) (by rw [H.lp]; omega)
    have hbit := hbt.2.2 (by omega)
    have hok : okG ⟨l, h, wd (O ++ wordBytes LN) o.length, ((o.length + 4 : Nat) : Int)⟩ (ps.getD k 0) = true := by
      unfold okG
      refine decide_eq_true ⟨(isCh_iff _).1 hp, ?_, ?_, ?_⟩
      · show l ≤ h
        omega
      · show (0 : Int) ≤ ((o.length + 4 : Nat) : Int)
        omega
      · show ((o.length + 4 : Nat) : Int) ≤ 60008
        have := H.hn
        omega
    rw [rAt_some ih hok]
    have e3 := Option.some.inj e'
    have e4 := congrArg Prod.fst e3
    have e5 := congrArg Prod.snd e3
    simp only at e4 e5
    have hP : rP l h (wd (O ++ wordBytes LN) o.length) (ps.getD k 0) = cPut l h (bs.getD k 0) (ps.getD k 0) := by
      unfold rP
      rw [hbit]
    have hn : rNext (strOfNums (O ++ wordBytes LN)) ⟨l, h, wd (O ++ wordBytes LN) o.length, ((o.length + 4 : Nat) : Int)⟩ (ps.getD k 0) = ⟨l', h', wd (O ++ wordBytes LN) o'.length, ((o'.length + 4 : Nat) : Int)⟩ := by
      unfold rNext
      simp only
      rw [hP, rC_wd hL, e5, ← e4, List.length_append]
      congr 1
      omega
    rw [hn]
    simp only
    rw [hbit]
    have ht : bs.take k ++ [bs.getD k 0] = bs.take (k + 1) := by
      have hkb : k < bs.length := by rw [H.lb]; omega
      rw [List.take_add_one, List.getD_eq_getElem?_getD, List.getElem?_eq_getElem hkb]
      rfl
    rw [ht]

end Go.Proofs.Ytimafabbepgifaa
