/- Plain helpers of this seat's proofs: slices of texts and of writes, as rows of cells, wherever they lie and where they are the call's own. No statement is proved here. -/
import Derived.Test.YtphhgfgmlfdkiaaView
import Derived.Maps.AppendAt
import Derived.Laws.AppendOwnNone
namespace Go.Proofs.Ytphhgfgmlfdkiaa
open Go.RowKit
set_option linter.unusedVariables false

/-- The cells that a slice leads to. -/
def Rw (w : World) (ao : Option Addr) (cs : List Value) : Prop :=
  ∀ j v, cs[j]? = some v → ∃ b off, ao = some ⟨b, off, none⟩ ∧ w.cell? ⟨b, off + j, none⟩ = some v
theorem Rw.below {w w' : World} {B : Nat} {ao : Option Addr} {cs : List Value} (h : Rw w ao cs) (hB : w.heap.size ≤ B) (hb : Below B w w') : Rw w' ao cs := by
  intro j v hj
  obtain ⟨b, off, rfl, hc⟩ := h j v hj
  exact ⟨b, off, rfl, (hb.cell (p := ⟨b, off + j, none⟩) (Nat.lt_of_lt_of_le (World.block_lt_of_cell? w _ hc) hB)).trans hc⟩
theorem Rw.nil (w : World) (ao : Option Addr) : Rw w ao [] := fun j v h => by simp at h

/-- Nil, or an address. -/
def Pc (ao : Option Addr) (n c : Nat) : Prop := (ao = none ∧ n = 0 ∧ c = 0) ∨ ∃ b off, ao = some ⟨b, off, none⟩

/-- The slice v, of n elements of sz cells each, is the call's own and holds the cells cs. -/
def OwG (w : World) (base : Nat) (e : TypeId) (sz : Nat) (v : Value) (n : Nat) (cs : List Value) : Prop := base ≤ w.heap.size ∧ w.ownsRow base e sz v n cs

variable {w w' : World} {base e sz : Nat} {v : Value} {n : Nat} {cs : List Value}

theorem OwG.shape (h : OwG w base e sz v n cs) : ∃ ao cap, v = .slice ao n cap ∧ Pc ao n cap ∧ n ≤ cap := by
  rcases h.2.2 with ⟨rfl, h0⟩ | ⟨g, cap, cur, rfl, _, _, hc, _⟩
  · exact ⟨none, 0, by rw [h0], .inl ⟨rfl, h0, rfl⟩, by omega⟩
  · exact ⟨_, _, rfl, .inr ⟨_, _, rfl⟩, hc⟩
theorem OwG.drew1 (h : OwG w base e sz v n cs) : OwG w.drew base e sz v n cs := h
theorem OwG.drew (h : OwG w base e sz v n cs) (k : Nat) : OwG (w.drewN k) base e sz v n cs := h
theorem OwG.alloc (h : OwG w base e sz v n cs) (o : Obj) : OwG (w.alloc o) base e sz v n cs := ⟨Nat.le_trans h.1 (by simp), h.2.alloc o⟩
theorem OwG.below (h : OwG w base e sz v n cs) (hb : Below w.heap.size w w') : OwG w' base e sz v n cs := by
  refine ⟨Nat.le_trans h.1 hb.size, h.2.1, ?_⟩
  rcases h.2.2 with h0 | ⟨g, cap, cur, hv, hg, hh, r⟩
  · exact .inl h0
  · exact .inr ⟨g, cap, cur, hv, hg, (hb.block g (Array.getElem?_eq_some_iff.1 hh).1).trans hh, r⟩
theorem OwG.mono (h : OwG w base e sz v n cs) {base' : Nat} (hb : base' ≤ base) : OwG w base' e sz v n cs := by
  refine ⟨Nat.le_trans hb h.1, h.2.1, ?_⟩
  rcases h.2.2 with h0 | ⟨g, cap, cur, hv, hg, r⟩
  · exact .inl h0
  · exact .inr ⟨g, cap, cur, hv, Nat.le_trans hb hg, r⟩
theorem OwG.setCell_below (h : OwG w base e sz v n cs) {a : Addr} (ha : a.block < base) (u : Value) : OwG (w.setCell a u) base e sz v n cs :=
  ⟨by have := h.1; simpa [World.setCell] using this, ownsRow_setCell_below h.2 ha u⟩
/-- A store into another block. -/
theorem OwG.setCell_other (h : OwG w base e sz v n cs) {a : Addr} (ha : v.ownBlock ≠ some a.block) (u : Value) : OwG (w.setCell a u) base e sz v n cs := by
  refine ⟨by have := h.1; simpa [World.setCell] using this, h.2.1, ?_⟩
  rcases h.2.2 with h0 | ⟨g, cap, cur, hv, hg, hh, r⟩
  · exact .inl h0
  · refine .inr ⟨g, cap, cur, hv, hg, ?_, r⟩
    rw [Below.heap_setCell _ _ _ _ (fun e => ha (by rw [hv, e]; rfl))]
    exact hh
theorem OwG.kept {row : Option Nat} (h : OwG w base e sz v n cs) (hg : w.grownBy w' row) (hne : ∀ g, v.ownBlock = some g → some g ≠ row) : OwG w' base e sz v n cs := by
  refine ⟨Nat.le_trans h.1 hg.size, h.2.1, ?_⟩
  rcases h.2.2 with h0 | ⟨g, cap, cur, hv, hg', hh, r⟩
  · exact .inl h0
  · exact .inr ⟨g, cap, cur, hv, hg', (hg.block g (Array.getElem?_eq_some_iff.1 hh).1 (hne g (by rw [hv]; rfl))).trans hh, r⟩
theorem OwG.nil (w : World) (base : Nat) (e : TypeId) (sz : Nat) (hb : base ≤ w.heap.size) : OwG w base e sz (.slice none 0 0) 0 [] := ⟨hb, World.ownsRow_nil _ _ _ _⟩
theorem OwG.empty (w : World) (base : Nat) (e : TypeId) (sz : Nat) (hb : base ≤ w.heap.size) : OwG (w.alloc (.cells #[] e)) base e sz (.slice (some ⟨w.heap.size, 0, none⟩) 0 0) 0 [] := by
  refine ⟨Nat.le_trans hb (by simp), by simp, .inr ⟨w.heap.size, 0, #[], rfl, hb, heap_alloc_new w _, Nat.le_refl _, by simp [maxLen], by simp, by simp⟩⟩
theorem OwG.rw {ao : Option Addr} {m c : Nat} (h : OwG w base e sz (.slice ao m c) n cs) : Rw w ao cs := by
  intro j u hj
  rcases h.2.2 with ⟨hv, h0⟩ | ⟨g, cap, cur, hv, _⟩
  · have hl := h.2.1
    rw [h0, Nat.zero_mul] at hl
    have : cs = [] := List.length_eq_zero_iff.1 hl
    subst this
    simp at hj
  · cases hv
    refine ⟨g, 0, rfl, ?_⟩
    rw [Nat.zero_add]
    have := h.2.cells (g := g) (by simp [Value.ownBlock]) j u hj
    rw [Addr.add_lit, Nat.zero_add] at this
    exact this
theorem OwG.len {ao : Option Addr} {m c : Nat} (h : OwG w base e sz (.slice ao m c) n cs) : m = n := by
  obtain ⟨ao', c', hv, _⟩ := h.shape
  cases hv; rfl
theorem OwG.free {g m c : Nat} (h : OwG w base e sz (.slice (some ⟨g, 0, none⟩) m c) n cs) (j : Nat) : w.frozen? ⟨g, j, none⟩ = false := by
  have hl := h.len
  subst hl
  exact h.2.frozenAt j
theorem OwG.ge {a : Addr} {m c : Nat} (h : OwG w base e sz (.slice (some a) m c) n cs) : base ≤ a.block ∧ a.block < w.heap.size := h.2.lt a.block rfl
theorem OwG.store {g m c : Nat} (h : OwG w base e sz (.slice (some ⟨g, 0, none⟩) m c) n cs) (j : Nat) (x : Value) : OwG (w.setCell ⟨g, j, none⟩ x) base e sz (.slice (some ⟨g, 0, none⟩) m c) n (cs.set j x) := by
  have hl := h.len
  subst hl
  exact ⟨by have := h.1; simpa [World.setCell] using this, (h.2.stored j x).1⟩
theorem OwG.addr {ao : Option Addr} {m c : Nat} (h : OwG w base e sz (.slice ao m c) n cs) (hn : 0 < n) : ∃ g, ao = some ⟨g, 0, none⟩ := by
  rcases h.2.2 with ⟨hv, h0⟩ | ⟨g, cap, cur, hv, _⟩
  · omega
  · cases hv; exact ⟨g, rfl⟩
/-- Two own slices of other types lie apart. -/
theorem OwG.apart {base' e' sz' : Nat} {v' : Value} {n' : Nat} {cs' : List Value} (h : OwG w base e sz v n cs) (k : OwG w base' e' sz' v' n' cs') (hne : e ≠ e') (g : Nat) (hg : v.ownBlock = some g) : some g ≠ v'.ownBlock := by
  intro eq
  rcases h.2.2 with ⟨hv, _⟩ | ⟨g1, cap, cur, hv, _, hh, _⟩
  · rw [hv] at hg; simp [Value.ownBlock] at hg
  · rcases k.2.2 with ⟨hv', _⟩ | ⟨g2, cap', cur', hv', _, hh', _⟩
    · rw [hv'] at eq; simp [Value.ownBlock] at eq
    · rw [hv] at hg
      rw [hv'] at eq
      simp only [Value.ownBlock, Option.some.injEq] at hg eq
      subst hg
      subst eq
      rw [hh] at hh'
      cases hh'
      exact hne rfl

/-- 'append(v, x)', x laid in a new block first. -/
theorem wpList_pushG {P : Program} {ops : Array Oper} {rest : List Oper} {o : Oper} {a : Act} {Q : Exit → Act → World → Prop} (w : World) (g : Nat) (hgs : w.heap.size = g) (hgd : o.guard = none) (s x : Operand) (t : TypeId)
    (ho : o.op = .call { callee := .builtin .append, args := #[s, x], argTypes := #[t, t] })
    (base : Nat) (e : TypeId) (z : Value) (sz bytes : Nat) (ht : P.underlying t = some (.slice e)) (hinfo : (P.info? e).map (fun i => (i.zero, i.size, i.bytes)) = some (some z, sz, bytes)) (hzs : z.cells.size = sz) (hsz : 0 < sz)
    (v : Value) (n : Nat) (cs : List Value) (hs : a.eval s = v) (hown : OwG w base e sz v n cs) (news : List Value) (hnl : news.length = sz) (h1 : ∀ u ∈ news, u.oneCell' = true) (hx : a.eval x = .slice (some ⟨g, 0, none⟩) 1 1)
    (hlen : n < 1000000000) (hbytes : bytes ≤ 24)
    (h : ∀ v' w', OwG w' base e sz v' (n + 1) (cs ++ news) → Below base w w' → w.grownBy w' v.ownBlock → (v'.ownBlock = v.ownBlock ∨ v'.ownBlock = some (w.heap.size + 1)) → wpList P ops Q rest (a.put o.dst v') w') : wpList P ops Q (o :: rest) a (w.alloc (.cells news.toArray e)) := by
  subst hgs
  obtain ⟨i, hi, hz0, hz1, hz2⟩ := info_parts hinfo
  have hb := hown.1
  have hlt := hown.2.lt
  have hmul : (n + 1) * bytes ≤ (n + 1) * 24 := Nat.mul_le_mul_left _ hbytes
  refine wpList_append_own_at _ hgd s x t ho base e i z sz bytes ht hi hz0 hz1 hz2 hzs hsz v n _ hs (hown.2.alloc _) ⟨w.heap.size, 0, none⟩ 1 1 news hx (by omega) ?_ h1 (by unfold maxLen; omega) (by omega) (Nat.le_trans hb (by simp)) ?_
  · intro j u hj
    have hh : (w.alloc (.cells news.toArray e)).heap[w.heap.size]? = some (.cells news.toArray e (0, 0)) := heap_alloc_new w _
    rw [Addr.add_lit, Nat.zero_add]
    unfold World.cell?
    rw [hh]
    simp [hj]
  · intro v' w' hown' hgrow _ hloc
    refine h v' w' ⟨Nat.le_trans hb (Nat.le_trans (by simp) hgrow.size), hown'⟩ ?_ ?_ ?_
    · exact ((Below.refl base w).alloc hb _).grown hgrow (Nat.le_trans hb (by simp)) (fun g hg => (hlt g hg).1)
    · exact (World.grownBy_alloc w _ _).trans hgrow
    · simpa using hloc

/-- 'append(v, xs...)'. -/
theorem wpList_appG {P : Program} {ops : Array Oper} {rest : List Oper} {o : Oper} {a : Act} {Q : Exit → Act → World → Prop} (w : World) (hgd : o.guard = none) (s x : Operand) (t : TypeId)
    (ho : o.op = .call { callee := .builtin .append, args := #[s, x], argTypes := #[t, t] })
    (base : Nat) (e : TypeId) (z : Value) (sz bytes : Nat) (ht : P.underlying t = some (.slice e)) (hinfo : (P.info? e).map (fun i => (i.zero, i.size, i.bytes)) = some (some z, sz, bytes)) (hzs : z.cells.size = sz) (hsz : 0 < sz)
    (v : Value) (n : Nat) (cs : List Value) (hs : a.eval s = v) (hown : OwG w base e sz v n cs) (yo : Option Addr) (yn yc : Nat) (ys : List Value) (hx : a.eval x = .slice yo yn yc) (hyl : ys.length = yn * sz) (hy : Rw w yo ys) (hyo : Pc yo yn yc) (h1 : ∀ u ∈ ys, u.oneCell' = true)
    (hlen : n + yn < 1000000000) (hbytes : bytes ≤ 24)
    (h : ∀ v' w', OwG w' base e sz v' (n + yn) (cs ++ ys) → Below base w w' → w.grownBy w' v.ownBlock → wpList P ops Q rest (a.put o.dst v') w') : wpList P ops Q (o :: rest) a w := by
  obtain ⟨i, hi, hz0, hz1, hz2⟩ := info_parts hinfo
  have hb := hown.1
  have hlt := hown.2.lt
  have hmul : (n + yn) * bytes ≤ (n + yn) * 24 := Nat.mul_le_mul_left _ hbytes
  rcases hyo with ⟨rfl, rfl, rfl⟩ | ⟨blk, off, rfl⟩
  · have : ys = [] := List.length_eq_zero_iff.1 (by omega)
    subst this
    refine wpList_append_own_none hgd s x t ho base e i sz ht hi v n _ hs hown.2 hx (h v w (by simpa using hown) (Below.refl _ _) (World.grownBy.refl w _))
  · refine wpList_append_own _ hgd s x t ho base e i z sz bytes ht hi hz0 hz1 hz2 hzs hsz v n _ hs hown.2 ⟨blk, off, none⟩ yn yc ys hx hyl ?_ h1 (by unfold maxLen; omega) (by omega) hb ?_
    · intro j u hj
      obtain ⟨b', off', e', hc⟩ := hy j u hj
      cases e'
      rw [Addr.add_lit, hc]
    · intro v' w' hown' hgrow _
      exact h v' w' ⟨Nat.le_trans hb hgrow.size, hown'⟩ ((Below.refl base w).grown hgrow hb (fun g hg => (hlt g hg).1)) hgrow

/-- 'make([]T, n)'. -/
theorem wpList_mkG {P : Program} {ops : Array Oper} {rest : List Oper} {o : Oper} {a : Act} {Q : Exit → Act → World → Prop} (w : World) (hgd : o.guard = none) (l c : Operand) (t : TypeId)
    (ho : o.op = Op.makeSlice t l c) (base : Nat) (e : TypeId) (z : Value) (sz bytes : Nat) (ht : P.underlying t = some (.slice e)) (hinfo : (P.info? e).map (fun i => (i.zero, i.size, i.bytes)) = some (some z, sz, bytes))
    (kl kc : IntKind) (L C : Int) (n : Nat) (hl : a.eval l = .int kl L) (hc : a.eval c = .int kc C) (hL : L = (n : Int)) (hC : C = (n : Int)) (hn : n ≤ 1000000000) (hbytes : bytes ≤ 24) (hb : base ≤ w.heap.size)
    (h : ∀ w', OwG w' base e sz (.slice (some ⟨w.heap.size, 0, none⟩) n n) n (madeCells z.cells (n * sz)).toList → Below base w w' → w.grownBy w' none → wpList P ops Q rest (a.put o.dst (.slice (some ⟨w.heap.size, 0, none⟩) n n)) w') : wpList P ops Q (o :: rest) a w := by
  obtain ⟨i, hi, hz0, hz1, hz2⟩ := info_parts hinfo
  have hmul : i.bytes * n ≤ 24 * n := Nat.mul_le_mul_right _ (by rw [hz2]; exact hbytes)
  refine wpList_make_full w hgd l c t ho base e i z sz ht hi hz0 hz1 kl kc L C n hl hc hL hC (by omega) (by unfold maxLen; omega) hb ?_
  intro w' hown hgrow
  exact h w' ⟨Nat.le_trans hb hgrow.size, hown⟩ ((Below.refl base w).grown hgrow hb (fun _ hg => by cases hg)) hgrow

/-- The j-th text, the j-th write. -/
def sAt (S : List ByteArray) (j : Nat) : ByteArray := S.getD j ByteArray.empty
def lAt (L : List (Int × ByteArray)) (j : Nat) : Int × ByteArray := L.getD j (0, ByteArray.empty)
/-- Their cells. -/
def encS (S : List ByteArray) : List Value := S.map Value.string
def encW : List (Int × ByteArray) → List Value
  | [] => []
  | x :: r => .int .i64 x.1 :: .string x.2 :: encW r
theorem encS_len (S : List ByteArray) : (encS S).length = S.length * 1 := by simp [encS]
theorem encW_len : ∀ L : List (Int × ByteArray), (encW L).length = L.length * 2
  | [] => rfl
  | x :: r => by simp [encW, encW_len r]; omega
theorem encS_at (S : List ByteArray) (j : Nat) (h : j < S.length) : (encS S)[j]? = some (.string (sAt S j)) := by simp [encS, sAt, List.getD, h]
theorem encW_at : ∀ (L : List (Int × ByteArray)) (j : Nat), j < L.length → (encW L)[j * 2]? = some (.int .i64 (lAt L j).1) ∧ (encW L)[j * 2 + 1]? = some (.string (lAt L j).2)
  | x :: r, 0, _ => by simp [encW, lAt]
  | x :: r, j + 1, h => by
    have := encW_at r j (by simpa using h)
    rw [show (j + 1) * 2 = j * 2 + 1 + 1 by omega, encW]
    simpa [lAt] using this
theorem encW_app : ∀ A B : List (Int × ByteArray), encW (A ++ B) = encW A ++ encW B
  | [], B => rfl
  | x :: r, B => by simp [encW, encW_app r B]
theorem encS_app (A B : List ByteArray) : encS (A ++ B) = encS A ++ encS B := by simp [encS]
theorem encS_one (S : List ByteArray) : ∀ u ∈ encS S, u.oneCell' = true := by
  intro u hu
  simp [encS] at hu
  obtain ⟨q, _, rfl⟩ := hu
  rfl
theorem encW_one : ∀ (L : List (Int × ByteArray)), ∀ u ∈ encW L, u.oneCell' = true
  | x :: r, u, hu => by
    simp [encW] at hu
    rcases hu with rfl | rfl | hu
    · rfl
    · rfl
    · exact encW_one r u hu
theorem encS_set (S : List ByteArray) (j : Nat) (x : ByteArray) : (encS S).set j (.string x) = encS (S.set j x) := by simp [encS]
theorem encW_set : ∀ (L : List (Int × ByteArray)) (j : Nat) (x : Int × ByteArray), ((encW L).set (j * 2) (.int .i64 x.1)).set (j * 2 + 1) (.string x.2) = encW (L.set j x)
  | [], j, x => by simp [encW]
  | y :: r, 0, x => by simp [encW]
  | y :: r, j + 1, x => by
    rw [show (j + 1) * 2 = j * 2 + 1 + 1 by omega]
    simp only [encW, List.set_cons_succ]
    rw [encW_set r j x]
theorem lAt_left (L : List (Int × ByteArray)) (x : Int × ByteArray) (j : Nat) (h : j < L.length) : lAt (L ++ [x]) j = lAt L j := by
  simp only [lAt, List.getD]
  rw [List.getElem?_append_left h]
theorem lAt_last (L : List (Int × ByteArray)) (x : Int × ByteArray) : lAt (L ++ [x]) L.length = x := by simp [lAt]
theorem sAt_set_same (S : List ByteArray) (j : Nat) (x : ByteArray) (h : j < S.length) : sAt (S.set j x) j = x := by simp [sAt, List.getD, h]
theorem sAt_set_ne (S : List ByteArray) (i j : Nat) (x : ByteArray) (h : i ≠ j) : sAt (S.set i x) j = sAt S j := by simp [sAt, List.getD, h]
theorem lAt_set_same (S : List (Int × ByteArray)) (j : Nat) (x : Int × ByteArray) (h : j < S.length) : lAt (S.set j x) j = x := by simp [lAt, List.getD, h]
theorem lAt_set_ne (S : List (Int × ByteArray)) (i j : Nat) (x : Int × ByteArray) (h : i ≠ j) : lAt (S.set i x) j = lAt S j := by simp [lAt, List.getD, h]
theorem s_ext {A B : List ByteArray} (hl : A.length = B.length) (h : ∀ i, i < A.length → sAt A i = sAt B i) : A = B := by
  apply List.ext_getElem hl
  intro i h1 h2
  have := h i h1
  simpa [sAt, List.getD, h1, h2] using this
theorem l_ext {A B : List (Int × ByteArray)} (hl : A.length = B.length) (h : ∀ i, i < A.length → lAt A i = lAt B i) : A = B := by
  apply List.ext_getElem hl
  intro i h1 h2
  have := h i h1
  simpa [lAt, List.getD, h1, h2] using this
theorem madeS (n : Nat) : (madeCells (Value.string ByteArray.empty).cells (n * 1)).toList = encS (List.replicate n ByteArray.empty) := by
  simp only [madeCells, Value.cells, encS, List.map_replicate]
  rw [List.eq_replicate_iff]
  refine ⟨by simp, ?_⟩
  intro b hb
  simp [Nat.mod_one] at hb
  exact hb.2.symm
theorem encW_rep : ∀ n, encW (List.replicate n (0, ByteArray.empty)) = (List.range (n * 2)).map fun i => if i % 2 = 0 then .int .i64 0 else .string ByteArray.empty
  | 0 => rfl
  | n + 1 => by
    rw [List.replicate_succ', encW_app, encW_rep n, show (n + 1) * 2 = n * 2 + 1 + 1 by omega, List.range_succ, List.range_succ]
    simp [encW]
theorem madeW (n : Nat) : (madeCells (Value.agg #[.int .i64 0, .string ByteArray.empty]).cells (n * 2)).toList = encW (List.replicate n (0, ByteArray.empty)) := by
  rw [encW_rep]
  apply List.ext_getElem
  · simp [madeCells]
  · intro i h1 h2
    simp [madeCells, Value.cells]
    have : i % 2 = 0 ∨ i % 2 = 1 := by omega
    rcases this with e | e <;> simp [e]
/-- 'make([]string, n)', 'make([]Write, n)'. -/
theorem wpList_mkS {P : Program} {ops : Array Oper} {rest : List Oper} {o : Oper} {a : Act} {Q : Exit → Act → World → Prop} (w : World) (hgd : o.guard = none) (l c : Operand) (t : TypeId)
    (ho : o.op = Op.makeSlice t l c) (base : Nat) (e : TypeId) (bytes : Nat) (ht : P.underlying t = some (.slice e)) (hinfo : (P.info? e).map (fun i => (i.zero, i.size, i.bytes)) = some (some (.string ByteArray.empty), 1, bytes))
    (kl kc : IntKind) (L C : Int) (n : Nat) (hl : a.eval l = .int kl L) (hc : a.eval c = .int kc C) (hL : L = (n : Int)) (hC : C = (n : Int)) (hn : n ≤ 1000000000) (hbytes : bytes ≤ 24) (hb : base ≤ w.heap.size)
    (h : ∀ w', OwG w' base e 1 (.slice (some ⟨w.heap.size, 0, none⟩) n n) n (encS (List.replicate n ByteArray.empty)) → Below base w w' → w.grownBy w' none → wpList P ops Q rest (a.put o.dst (.slice (some ⟨w.heap.size, 0, none⟩) n n)) w') : wpList P ops Q (o :: rest) a w :=
  wpList_mkG w hgd l c t ho base e _ 1 bytes ht hinfo kl kc L C n hl hc hL hC hn hbytes hb (fun w' h1 h2 h3 => h w' (by rw [madeS] at h1; exact h1) h2 h3)
theorem wpList_mkW {P : Program} {ops : Array Oper} {rest : List Oper} {o : Oper} {a : Act} {Q : Exit → Act → World → Prop} (w : World) (hgd : o.guard = none) (l c : Operand) (t : TypeId)
    (ho : o.op = Op.makeSlice t l c) (base : Nat) (e : TypeId) (bytes : Nat) (ht : P.underlying t = some (.slice e)) (hinfo : (P.info? e).map (fun i => (i.zero, i.size, i.bytes)) = some (some (.agg #[.int .i64 0, .string ByteArray.empty]), 2, bytes))
    (kl kc : IntKind) (L C : Int) (n : Nat) (hl : a.eval l = .int kl L) (hc : a.eval c = .int kc C) (hL : L = (n : Int)) (hC : C = (n : Int)) (hn : n ≤ 1000000000) (hbytes : bytes ≤ 24) (hb : base ≤ w.heap.size)
    (h : ∀ w', OwG w' base e 2 (.slice (some ⟨w.heap.size, 0, none⟩) n n) n (encW (List.replicate n (0, ByteArray.empty))) → Below base w w' → w.grownBy w' none → wpList P ops Q rest (a.put o.dst (.slice (some ⟨w.heap.size, 0, none⟩) n n)) w') : wpList P ops Q (o :: rest) a w :=
  wpList_mkG w hgd l c t ho base e _ 2 bytes ht hinfo kl kc L C n hl hc hL hC hn hbytes hb (fun w' h1 h2 h3 => h w' (by rw [madeW] at h1; exact h1) h2 h3)
end Go.Proofs.Ytphhgfgmlfdkiaa
