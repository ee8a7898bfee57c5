/- Slices of blocks that are the call's own. -/
import Derived.Test.YtnnakmgngkpghaaGreatMt
namespace Go.Proofs.YtnnakmgngkpghaaGreat
open Go.RowKit
set_option linter.unusedVariables false

/-- The cells of the first k blocks. -/
def flN (L : List (Int × List Int)) (vs : List Value) : Nat → List Value
  | 0 => []
  | k + 1 => flN L vs k ++ [.int .i64 (nth L k).1, vs.getD k (.bool false)]
theorem flN_len (L : List (Int × List Int)) (vs : List Value) : ∀ k, (flN L vs k).length = k * 2
  | 0 => rfl
  | k + 1 => by rw [flN, List.length_append, flN_len L vs k]; simp; omega
theorem flN_at (L : List (Int × List Int)) (vs : List Value) : ∀ n j, j < n → (flN L vs n)[j * 2]? = some (.int .i64 (nth L j).1) ∧ (flN L vs n)[j * 2 + 1]? = some (vs.getD j (.bool false))
  | n + 1, j, hj => by
    have hl := flN_len L vs n
    rw [flN]
    by_cases e : j = n
    · subst e
      rw [List.getElem?_append_right (by omega), List.getElem?_append_right (by omega), hl]
      simp [show j * 2 + 1 - j * 2 = 1 by omega]
    · rw [List.getElem?_append_left (by omega), List.getElem?_append_left (by omega)]
      exact flN_at L vs n j (by omega)
theorem nth_left (L : List (Int × List Int)) (x : Int × List Int) (j : Nat) (h : j < L.length) : nth (L ++ [x]) j = nth L j := by
  simp only [nth, List.getD]
  rw [List.getElem?_append_left h]
theorem nth_last (L : List (Int × List Int)) (x : Int × List Int) : nth (L ++ [x]) L.length = x := by simp [nth]
theorem flN_snoc (L : List (Int × List Int)) (vs : List Value) (x : Int × List Int) (y : Value) (hl : vs.length = L.length) : ∀ k, k ≤ L.length → flN (L ++ [x]) (vs ++ [y]) k = flN L vs k
  | 0, _ => rfl
  | k + 1, h => by
    rw [flN, flN, flN_snoc L vs x y hl k (by omega), nth_left L x k (by omega)]
    have : (vs ++ [y]).getD k (.bool false) = vs.getD k (.bool false) := by
      simp only [List.getD]
      rw [List.getElem?_append_left (by omega)]
    rw [this]
theorem flN_full (L : List (Int × List Int)) (vs : List Value) (x : Int × List Int) (y : Value) (hl : vs.length = L.length) : flN (L ++ [x]) (vs ++ [y]) (L.length + 1) = flN L vs L.length ++ [.int .i64 x.1, y] := by
  rw [flN, flN_snoc L vs x y hl _ (Nat.le_refl _), nth_last]
  have : (vs ++ [y]).getD L.length (.bool false) = y := by simp [← hl]
  rw [this]

/-- The slice v is the call's own and holds the blocks S, their numbers being the slices vs, one behind the other in memory. -/
def OwnK (w : World) (base : Nat) (v : Value) (S : List (Int × List Int)) (vs : List Value) : Prop :=
  base ≤ w.heap.size ∧ vs.length = S.length ∧ w.ownsRow base 65 2 v S.length (flN S vs S.length) ∧ (∀ j, j < S.length → Own w base 3 .i64 (vs.getD j (.bool false)) (nth S j).2) ∧
  ∀ i j, i < j → j < S.length → ∀ (a a' : Addr) (n n' c c' : Nat), vs.getD i (.bool false) = .slice (some a) n c → vs.getD j (.bool false) = .slice (some a') n' c' → a.block < a'.block
theorem OwnK.shape {w : World} {base : Nat} {v : Value} {S : List (Int × List Int)} {vs : List Value} (h : OwnK w base v S vs) : ∃ ao cap, v = .slice ao S.length cap := by
  rcases h.2.2.1.2 with ⟨rfl, h0⟩ | ⟨g, cap, cur, rfl, _⟩
  · exact ⟨none, 0, by rw [h0]⟩
  · exact ⟨_, _, rfl⟩
theorem OwnK.empty (w : World) (base : Nat) (hb : base ≤ w.heap.size) : OwnK (w.alloc (.cells #[] 65)) base (.slice (some ⟨w.heap.size, 0, none⟩) 0 0) [] [] :=
  ⟨Nat.le_trans hb (by simp), rfl, World.ownsRow_made w #[] 0 hb (by simp [maxLen]) rfl, fun j hj => by simp at hj, fun i j _ hj => by simp at hj⟩
theorem OwnK.below {w w' : World} {base : Nat} {v : Value} {S : List (Int × List Int)} {vs : List Value} (h : OwnK w base v S vs) (hb : Below w.heap.size w w') : OwnK w' base v S vs := by
  obtain ⟨h1, h2, h3, h4, h5⟩ := h
  refine ⟨Nat.le_trans h1 hb.size, h2, ⟨h3.1, ?_⟩, fun j hj => (h4 j hj).below hb, h5⟩
  rcases h3.2 with h0 | ⟨g, cap, cur, hv, hg, hh, r⟩
  · exact .inl h0
  · exact .inr ⟨g, cap, cur, hv, hg, (hb.block g (Array.getElem?_eq_some_iff.1 hh).1).trans hh, r⟩
theorem OwnK.lt {w : World} {base : Nat} {v : Value} {S : List (Int × List Int)} {vs : List Value} (h : OwnK w base v S vs) (j : Nat) (hj : j < S.length) (a : Addr) (n c : Nat) (e : vs.getD j (.bool false) = .slice (some a) n c) : a.block < w.heap.size := by
  have := h.2.2.2.1 j hj
  rw [e] at this
  exact this.ge.2

theorem OwnK.brow {w : World} {base : Nat} {ao : Option Addr} {n c : Nat} {S : List (Int × List Int)} {vs : List Value} (h : OwnK w base (.slice ao n c) S vs) : BRow w ao S := by
  obtain ⟨_, hl, h2, h3, _⟩ := h
  intro j hj
  obtain ⟨a, c', hy, hv⟩ := (h3 j hj).view
  rcases h2.2 with ⟨_, h0⟩ | ⟨g, cap, cur, hv', _⟩
  · omega
  · cases hv'
    have hc := flN_at S vs S.length j hj
    have c0 := h2.cells (g := g) (by simp [Value.ownBlock]) (j * 2) _ hc.1
    have c1 := h2.cells (g := g) (by simp [Value.ownBlock]) (j * 2 + 1) _ hc.2
    rw [Addr.add_lit, Nat.zero_add] at c0 c1
    exact ⟨g, 0, a, c', rfl, by rw [Nat.zero_add]; exact c0, by rw [Nat.zero_add, c1, hy], hv⟩

/-- What an append of one block leaves as it was, and what it makes. -/
theorem OwnK.pushed {w w' : World} {base : Nat} {v v' : Value} {S : List (Int × List Int)} {vs : List Value} {x : Int × List Int} {y : Value} {o : Obj} (h : OwnK w base v S vs) (hy : Own w base 3 .i64 y x.2)
    (hyb : ∀ j, j < S.length → ∀ (a a' : Addr) (n n' c c' : Nat), vs.getD j (.bool false) = .slice (some a) n c → y = .slice (some a') n' c' → a.block < a'.block)
    (hown' : w'.ownsRow base 65 2 v' (S.length + 1) (flN S vs S.length ++ [.int .i64 x.1, y])) (hgrow : (w.alloc o).grownBy w' v.ownBlock) : OwnK w' base v' (S ++ [x]) (vs ++ [y]) := by
  obtain ⟨hb, hvl, hrow, hels, hdis⟩ := h
  have hsz : w.heap.size ≤ w'.heap.size := Nat.le_trans (by simp) hgrow.size
  have hkeep : ∀ (g : Nat) (cur : Array Value), w.heap[g]? = some (.cells cur 3 (0, 0)) → w'.heap[g]? = some (.cells cur 3 (0, 0)) := by
    intro g cur hg
    have hglt : g < w.heap.size := (Array.getElem?_eq_some_iff.1 hg).1
    have h1 : (w.alloc o).heap[g]? = some (.cells cur 3 (0, 0)) := (((Below.refl w.heap.size w).alloc (Nat.le_refl _) _).block g hglt).trans hg
    refine (hgrow.block g (Nat.lt_trans hglt (by simp)) ?_).trans h1
    intro eq
    rcases hrow.2 with ⟨hv, _⟩ | ⟨g', cap, cur', hv, hg', hh, _⟩
    · subst hv; cases eq
    · subst hv
      have : g = g' := by simpa [Value.ownBlock] using eq
      subst this
      rw [hg] at hh
      cases hh
  have hkeepO : ∀ (y : Value) (ys : List Int), Own w base 3 .i64 y ys → Own w' base 3 .i64 y ys := by
    intro y ys hyo
    refine ⟨Nat.le_trans hyo.1 hsz, hyo.2.1, ?_⟩
    rcases hyo.2.2 with h0 | ⟨g, cap, cur, hv, hg, hh, r⟩
    · exact .inl h0
    · exact .inr ⟨g, cap, cur, hv, hg, hkeep g cur hh, r⟩
  have hleft : ∀ j, j < S.length → (vs ++ [y]).getD j (.bool false) = vs.getD j (.bool false) := fun j hj => by
    simp only [List.getD]
    rw [List.getElem?_append_left (by omega)]
  have hlast : (vs ++ [y]).getD S.length (.bool false) = y := by simp [← hvl]
  refine ⟨Nat.le_trans hb hsz, by simp [hvl], ?_, fun j hj => ?_, fun i j hij hj a a' n n' c c' e1 e2 => ?_⟩
  · rw [List.length_append, List.length_singleton, flN_full S vs x _ hvl]
    exact hown'
  · by_cases e : j < S.length
    · rw [nth_left S _ j e, hleft j e]
      exact hkeepO _ _ (hels j e)
    · have ej : j = S.length := by simp at hj; omega
      subst ej
      rw [nth_last, hlast]
      exact hkeepO _ _ hy
  · simp at hj
    by_cases e : j < S.length
    · rw [hleft j e] at e2
      rw [hleft i (by omega)] at e1
      exact hdis i j hij e a a' n n' c c' e1 e2
    · have ej : j = S.length := by omega
      subst ej
      rw [hlast] at e2
      rw [hleft i hij] at e1
      exact hyb i hij a a' n n' c c' e1 e2

/-- 'out = append(out, s)', s a block laid in a new block of its own first. -/
theorem wpList_pushK {P : Program} {ops : Array Oper} {rest : List Oper} {o : Oper} {a : Act} {Q : Exit → Act → World → Prop} (w : World) (gb : Nat) (hgb : w.heap.size = gb) (hgd : o.guard = none) (s x : Operand) (t : TypeId)
    (ho : o.op = .call { callee := .builtin .append, args := #[s, x], argTypes := #[t, t] })
    (base : Nat) (ht : P.underlying t = some (.slice 65)) (hinfo : (P.info? 65).map (fun i => (i.zero, i.size, i.bytes)) = some (some (.agg #[.int .i64 0, .slice none 0 0]), 2, 32))
    (v : Value) (S : List (Int × List Int)) (vs : List Value) (hs : a.eval s = v) (hown : OwnK w base v S vs) (d : Int) (ya : Option Addr) (yn yc : Nat) (xs : List Int) (hy : Own w base 3 .i64 (.slice ya yn yc) xs)
    (hyb : ∀ j, j < S.length → ∀ (a a' : Addr) (n n' c c' : Nat), vs.getD j (.bool false) = .slice (some a) n c → Value.slice ya yn yc = .slice (some a') n' c' → a.block < a'.block)
    (hx : a.eval x = .slice (some ⟨gb, 0, none⟩) 1 1)
    (hlen : S.length < 1000000000)
    (h : ∀ v' w', OwnK w' base v' (S ++ [(d, xs)]) (vs ++ [.slice ya yn yc]) → Below base w w' → (w.alloc (.cells #[.int .i64 d, .slice ya yn yc] 65)).grownBy w' v.ownBlock → wpList P ops Q rest (a.put o.dst v') w') : wpList P ops Q (o :: rest) a (w.alloc (.cells #[.int .i64 d, .slice ya yn yc] 65)) := by
  subst hgb
  obtain ⟨i, hi, hz0, hz1, hz2⟩ := info_parts hinfo
  have hb := hown.1
  have hlt := hown.2.2.1.lt
  refine wpList_append_own _ hgd s x t ho base 65 i (.agg #[.int .i64 0, .slice none 0 0]) 2 32 ht hi hz0 hz1 hz2 rfl (by decide) v S.length _ hs (hown.2.2.1.alloc _) ⟨w.heap.size, 0, none⟩ 1 1 [.int .i64 d, .slice ya yn yc] hx rfl ?_ ?_ (by unfold maxLen; omega) (by omega) (Nat.le_trans hb (by simp)) ?_
  · intro j u hj
    match j, hj with
    | 0, hj => simp at hj; subst hj; simp [Addr.add]
    | 1, hj => simp at hj; subst hj; simp [Addr.add]
  · intro u hu; simp at hu; rcases hu with rfl | rfl <;> rfl
  · intro v' w' hown' hgrow _
    refine h v' w' (OwnK.pushed (x := (d, xs)) hown hy hyb hown' hgrow) ?_ hgrow
    exact ((Below.refl base w).alloc hb _).grown hgrow (Nat.le_trans hb (by simp)) (fun g hg => (hlt g hg).1)
theorem OwnK.ne {base : Nat} {w : World} {v : Value} {L : List (Int × List Int)} {vs : List Value} (h : OwnK w base v L vs) {g : Nat} (hg : w.heap.size ≤ g) : v.ownBlock ≠ some g := fun e => by
  have := (h.2.2.1.lt g e).2
  omega
theorem OwnK.mono {base base' : Nat} {w : World} {v : Value} {L : List (Int × List Int)} {vs : List Value} (h : OwnK w base v L vs) (hb : base' ≤ base) : OwnK w base' v L vs := by
  obtain ⟨h1, h2, h3, h4, h5⟩ := h
  refine ⟨Nat.le_trans hb h1, h2, ⟨h3.1, ?_⟩, fun j hj => (h4 j hj).mono hb, h5⟩
  rcases h3.2 with h0 | ⟨g, cap, cur, hv, hg, r⟩
  · exact .inl h0
  · exact .inr ⟨g, cap, cur, hv, Nat.le_trans hb hg, r⟩
end Go.Proofs.YtnnakmgngkpghaaGreat
