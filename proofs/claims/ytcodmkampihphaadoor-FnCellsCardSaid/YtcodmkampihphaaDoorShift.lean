/- Rows of blocks that are read; contracts of Shift, of the program and of the specification. -/
import Derived.Test.YtcodmkampihphaaDoorBlk
namespace Go.Proofs.YtcodmkampihphaaDoor
open Go.RowKit
set_option linter.unusedVariables false

/-- The j-th of some blocks. -/
def nth (L : List (Int × List Int)) (j : Nat) : Int × List Int := L.getD j (0, [])
/-- A row of blocks that is read: two cells a block. -/
def BRow (w : World) (ao : Option Addr) (L : List (Int × List Int)) : Prop :=
  ∀ j, j < L.length → ∃ b off a c, ao = some ⟨b, off, none⟩ ∧ w.cell? ⟨b, off + j * 2, none⟩ = some (.int .i64 (nth L j).1) ∧ w.cell? ⟨b, off + j * 2 + 1, none⟩ = some (.slice a (nth L j).2.length c) ∧ View .i64 w a (nth L j).2.length (nth L j).2
theorem BRow.below {w w' : World} {ao : Option Addr} {L : List (Int × List Int)} (h : BRow w ao L) (hb : Below w.heap.size w w') : BRow w' ao L := by
  intro j hj
  obtain ⟨b, off, a, c, h1, h2, h3, h4⟩ := h j hj
  exact ⟨b, off, a, c, h1, (hb.cell (p := ⟨b, off + j * 2, none⟩) (World.block_lt_of_cell? w _ h2)).trans h2, (hb.cell (p := ⟨b, off + j * 2 + 1, none⟩) (World.block_lt_of_cell? w _ h3)).trans h3, h4.below (Nat.le_refl _) hb⟩

/-- The first k blocks are right. -/
def oksTo (L : List (Int × List Int)) : Nat → Bool
  | 0 => true
  | k + 1 => oksTo L k && blkOk (nth L k).1 (nth L k).2
theorem oksTo_bad (L : List (Int × List Int)) (k : Nat) (h : blkOk (nth L k).1 (nth L k).2 = false) : ∀ n, k < n → oksTo L n = false
  | n + 1, hn => by
    rw [oksTo]
    by_cases e : k = n
    · subst e; rw [h, Bool.and_false]
    · rw [oksTo_bad L k h n (by omega), Bool.false_and]
theorem oksTo_at (L : List (Int × List Int)) : ∀ n, oksTo L n = true → ∀ k, k < n → blkOk (nth L k).1 (nth L k).2 = true
  | n + 1, h, k, hk => by
    simp only [oksTo, Bool.and_eq_true] at h
    by_cases e : k = n
    · subst e; exact h.2
    · exact oksTo_at L n h.1 k (by omega)
theorem blkOk_dc {d : Int} {xs : List Int} (h : blkOk d xs = true) : -1023 ≤ d ∧ d ≤ 1023 := by
  unfold blkOk at h
  simp only [Bool.and_eq_true] at h
  simpa [inC] using h.1
/-- What the Dc ahead of block k counts as. -/
def ahead (up : Bool) (L : List (Int × List Int)) (k : Nat) : Int := if up = true ∧ 0 < k then (nth L (k - 1)).1 else 0
/-- What is told of the first k blocks. -/
def shl (up : Bool) (L : List (Int × List Int)) : Nat → List Int
  | 0 => []
  | k + 1 => shl up L k ++ [(nth L k).1 - ahead up L k]
theorem shl_len (up : Bool) (L : List (Int × List Int)) : ∀ k, (shl up L k).length = k
  | 0 => rfl
  | k + 1 => by rw [shl, List.length_append, shl_len up L k]; rfl
theorem ahead_bd (up : Bool) (L : List (Int × List Int)) (k : Nat) (h : oksTo L k = true) : -1023 ≤ ahead up L k ∧ ahead up L k ≤ 1023 := by
  unfold ahead
  split
  · rename_i hc
    exact blkOk_dc (oksTo_at L k h (k - 1) (by omega))
  · omega
/-- What Shift answers. -/
def shR (up : Bool) (L : List (Int × List Int)) : List Int × Bool := if L.length ≤ 4000 ∧ oksTo L L.length = true then (shl up L L.length, true) else ([], false)
theorem shR_yes {up : Bool} {L : List (Int × List Int)} (h : L.length ≤ 4000) (h2 : oksTo L L.length = true) : shR up L = (shl up L L.length, true) := by unfold shR; rw [if_pos ⟨h, h2⟩]
theorem shR_no {up : Bool} {L : List (Int × List Int)} (h : ¬ (L.length ≤ 4000 ∧ oksTo L L.length = true)) : shR up L = ([], false) := by unfold shR; rw [if_neg h]
theorem shR_len (up : Bool) (L : List (Int × List Int)) : (shR up L).1.length ≤ 4000 := by
  unfold shR
  split
  · rename_i h
    show (shl up L L.length).length ≤ 4000
    rw [shl_len]
    exact h.1
  · simp

/-- 'out = append(out, y)': blocks of another type stay what they are. -/
theorem wpList_pushT {P : Program} {ops : Array Oper} {rest : List Oper} {o : Oper} {a : Act} {Q : Exit → Act → World → Prop} (w : World) (hgd : o.guard = none) (s x : Operand) (t : TypeId)
    (ho : o.op = .call { callee := .builtin .append, args := #[s, x], argTypes := #[t, t] })
    (base : Nat) (e : TypeId) (k : IntKind) (z : Int) (bytes : Nat) (ht : P.underlying t = some (.slice e)) (hinfo : (P.info? e).map (fun i => (i.zero, i.size, i.bytes)) = some (some (.int k z), 1, bytes))
    (v : Value) (xs : List Int) (hs : a.eval s = v) (hown : Own w base e k v xs) (y : Int) (hx : a.eval x = .slice (some ⟨w.heap.size, 0, none⟩) 1 1)
    (hlen : xs.length < 1000000000000) (hbytes : bytes ≤ 8)
    (h : ∀ v' w', Own w' base e k v' (xs ++ [y]) → Below base w w' → (∀ (g : Nat) (cur : Array Value) (tt : TypeId), tt ≠ e → w.heap[g]? = some (.cells cur tt (0, 0)) → w'.heap[g]? = some (.cells cur tt (0, 0))) → wpList P ops Q rest (a.put o.dst v') w') : wpList P ops Q (o :: rest) a (w.alloc (.cells #[.int k y] e)) := by
  obtain ⟨i, hi, hz0, hz1, hz2⟩ := info_parts hinfo
  have hb := hown.1
  have hlt := hown.2.lt
  have hmul : (xs.length + 1) * bytes ≤ (xs.length + 1) * 8 := Nat.mul_le_mul_left _ hbytes
  refine wpList_append_own _ hgd s x t ho base e i (.int k z) 1 bytes ht hi hz0 hz1 hz2 rfl (by decide) v xs.length _ hs (hown.2.alloc _) ⟨w.heap.size, 0, none⟩ 1 1 [.int k y] hx rfl ?_ ?_ (by unfold maxLen; omega) (by omega) (Nat.le_trans hb (by simp)) ?_
  · intro j u hj
    match j, hj with
    | 0, hj => simp at hj; subst hj; simp [Addr.add]
  · intro u hu; simp at hu; subst hu; rfl
  · intro v' w' hown' hgrow _
    refine h v' w' ⟨Nat.le_trans hb (Nat.le_trans (by simp) hgrow.size), ?_⟩ ?_ ?_
    · simpa using hown'
    · exact ((Below.refl base w).alloc hb _).grown hgrow (Nat.le_trans hb (by simp)) (fun g hg => (hlt g hg).1)
    · intro g cur tt htt hg
      have hglt : g < w.heap.size := (Array.getElem?_eq_some_iff.1 hg).1
      have h1 : (w.alloc (.cells #[.int k y] e)).heap[g]? = some (.cells cur tt (0, 0)) := (((Below.refl w.heap.size w).alloc (Nat.le_refl _) _).block g hglt).trans hg
      refine (hgrow.block g (Nat.lt_trans hglt (by simp)) ?_).trans h1
      intro eq
      rcases hown.2.2 with ⟨hv, _⟩ | ⟨g', cap, cur', hv, hg', hh, _⟩
      · subst hv; cases eq
      · subst hv
        have : g = g' := by simpa [Value.ownBlock] using eq
        subst this
        rw [hg] at hh
        cases hh
        exact htt rfl

end Go.Proofs.YtcodmkampihphaaDoor
