/- Plain facts on the steps of a block, and slices of steps that are the call's own. -/
import Derived.Test.YtnnakmgngkpghaaRest
import Derived.Test.YtnnakmgngkpghaaRows4
namespace Go.Proofs.Ytnnakmgngkpghaa
open Go.RowKit
set_option linter.unusedVariables false

/-- The j-th of some steps. -/
def nthS (S : List (Int × Int × List Int)) (j : Nat) : Int × Int × List Int := S.getD j (0, 0, [])
theorem nthS_left (L : List (Int × Int × List Int)) (x : Int × Int × List Int) (j : Nat) (h : j < L.length) : nthS (L ++ [x]) j = nthS L j := by
  simp only [nthS, List.getD]
  rw [List.getElem?_append_left h]
theorem nthS_last (L : List (Int × Int × List Int)) (x : Int × Int × List Int) : nthS (L ++ [x]) L.length = x := by simp [nthS]
/-- A step that tells 16 zeros. -/
def skip : Int × Int × List Int := (15, 0, [])
/-- The steps of the first k numbers, and how many zeros are still to be told. -/
def stepTo (xs : List Int) : Nat → List (Int × Int × List Int) × Nat
  | 0 => ([], 0)
  | k + 1 => if xs.getD k 0 = 0 then ((stepTo xs k).1, (stepTo xs k).2 + 1)
    else ((stepTo xs k).1 ++ List.replicate ((stepTo xs k).2 / 16) skip ++ [((((stepTo xs k).2 % 16 : Nat) : Int), sz (xs.getD k 0), restL (xs.getD k 0))], 0)
theorem stepTo_zero (xs : List Int) (k : Nat) (h : xs.getD k 0 = 0) : stepTo xs (k + 1) = ((stepTo xs k).1, (stepTo xs k).2 + 1) := by rw [stepTo, if_pos h]
theorem stepTo_num (xs : List Int) (k : Nat) (h : xs.getD k 0 ≠ 0) : stepTo xs (k + 1) = ((stepTo xs k).1 ++ List.replicate ((stepTo xs k).2 / 16) skip ++ [((((stepTo xs k).2 % 16 : Nat) : Int), sz (xs.getD k 0), restL (xs.getD k 0))], 0) := by rw [stepTo, if_neg h]
theorem stepTo_len (xs : List Int) : ∀ k, (stepTo xs k).1.length + (stepTo xs k).2 ≤ k
  | 0 => by simp [stepTo]
  | k + 1 => by
    have ih := stepTo_len xs k
    by_cases h : xs.getD k 0 = 0
    · rw [stepTo_zero xs k h]
      show (stepTo xs k).1.length + ((stepTo xs k).2 + 1) ≤ k + 1
      omega
    · rw [stepTo_num xs k h]
      simp only [List.length_append, List.length_replicate, List.length_singleton]
      omega
/-- The steps of a block. -/
def stepsOf (xs : List Int) : List (Int × Int × List Int) := if 0 < (stepTo xs 63).2 then (stepTo xs 63).1 ++ [(0, 0, [])] else (stepTo xs 63).1
def stepsR (d : Int) (xs : List Int) : List (Int × Int × List Int) := if blkOk d xs = true then stepsOf xs else []

/-- The cells of the first k steps. -/
def flS (S : List (Int × Int × List Int)) (vs : List Value) : Nat → List Value
  | 0 => []
  | k + 1 => flS S vs k ++ [.int .i64 (nthS S k).1, .int .i64 (nthS S k).2.1, vs.getD k (.bool false)]
theorem flS_len (S : List (Int × Int × List Int)) (vs : List Value) : ∀ k, (flS S vs k).length = k * 3
  | 0 => rfl
  | k + 1 => by rw [flS, List.length_append, flS_len S vs k]; simp; omega
theorem flS_at (S : List (Int × Int × List Int)) (vs : List Value) : ∀ n j, j < n → (flS S vs n)[j * 3]? = some (.int .i64 (nthS S j).1) ∧ (flS S vs n)[j * 3 + 1]? = some (.int .i64 (nthS S j).2.1) ∧ (flS S vs n)[j * 3 + 2]? = some (vs.getD j (.bool false))
  | n + 1, j, hj => by
    have hl := flS_len S vs n
    rw [flS]
    by_cases e : j = n
    · subst e
      rw [List.getElem?_append_right (by omega), List.getElem?_append_right (by omega), List.getElem?_append_right (by omega), hl]
      simp [show j * 3 + 1 - j * 3 = 1 by omega, show j * 3 + 2 - j * 3 = 2 by omega]
    · rw [List.getElem?_append_left (by omega), List.getElem?_append_left (by omega), List.getElem?_append_left (by omega)]
      exact flS_at S vs n j (by omega)
theorem flS_snoc (S : List (Int × Int × List Int)) (vs : List Value) (x : Int × Int × List Int) (y : Value) (hl : vs.length = S.length) : ∀ k, k ≤ S.length → flS (S ++ [x]) (vs ++ [y]) k = flS S vs k
  | 0, _ => rfl
  | k + 1, h => by
    rw [flS, flS, flS_snoc S vs x y hl k (by omega), nthS_left S x k (by omega)]
    have : (vs ++ [y]).getD k (.bool false) = vs.getD k (.bool false) := by
      simp only [List.getD]
      rw [List.getElem?_append_left (by omega)]
    rw [this]
theorem flS_full (S : List (Int × Int × List Int)) (vs : List Value) (x : Int × Int × List Int) (y : Value) (hl : vs.length = S.length) : flS (S ++ [x]) (vs ++ [y]) (S.length + 1) = flS S vs S.length ++ [.int .i64 x.1, .int .i64 x.2.1, y] := by
  rw [flS, flS_snoc S vs x y hl _ (Nat.le_refl _), nthS_last]
  have : (vs ++ [y]).getD S.length (.bool false) = y := by simp [← hl]
  rw [this]

/-- The slice v is the call's own and holds the steps S, their bits being the slices vs, one behind the other in memory. -/
def OwnT (w : World) (base : Nat) (v : Value) (S : List (Int × Int × List Int)) (vs : List Value) : Prop :=
  base ≤ w.heap.size ∧ vs.length = S.length ∧ w.ownsRow base 85 3 v S.length (flS S vs S.length) ∧ (∀ j, j < S.length → Own w base 3 .i64 (vs.getD j (.bool false)) (nthS S j).2.2) ∧
  ∀ i j, i < j → j < S.length → ∀ (a a' : Addr) (n n' c c' : Nat), vs.getD i (.bool false) = .slice (some a) n c → vs.getD j (.bool false) = .slice (some a') n' c' → a.block < a'.block
theorem OwnT.shape {w : World} {base : Nat} {v : Value} {S : List (Int × Int × List Int)} {vs : List Value} (h : OwnT w base v S vs) : ∃ ao cap, v = .slice ao S.length cap := by
  rcases h.2.2.1.2 with ⟨rfl, h0⟩ | ⟨g, cap, cur, rfl, _⟩
  · exact ⟨none, 0, by rw [h0]⟩
  · exact ⟨_, _, rfl⟩
theorem OwnT.empty (w : World) (base : Nat) (hb : base ≤ w.heap.size) : OwnT (w.alloc (.cells #[] 85)) base (.slice (some ⟨w.heap.size, 0, none⟩) 0 0) [] [] :=
  ⟨Nat.le_trans hb (by simp), rfl, World.ownsRow_made w #[] 0 hb (by simp [maxLen]) rfl, fun j hj => by simp at hj, fun i j _ hj => by simp at hj⟩
theorem OwnT.below {w w' : World} {base : Nat} {v : Value} {S : List (Int × Int × List Int)} {vs : List Value} (h : OwnT w base v S vs) (hb : Below w.heap.size w w') : OwnT w' base v S vs := by
  obtain ⟨h1, h2, h3, h4, h5⟩ := h
  refine ⟨Nat.le_trans h1 hb.size, h2, ⟨h3.1, ?_⟩, fun j hj => (h4 j hj).below hb, h5⟩
  rcases h3.2 with h0 | ⟨g, cap, cur, hv, hg, hh, r⟩
  · exact .inl h0
  · exact .inr ⟨g, cap, cur, hv, hg, (hb.block g (Array.getElem?_eq_some_iff.1 hh).1).trans hh, r⟩
theorem OwnT.lt {w : World} {base : Nat} {v : Value} {S : List (Int × Int × List Int)} {vs : List Value} (h : OwnT w base v S vs) (j : Nat) (hj : j < S.length) (a : Addr) (n c : Nat) (e : vs.getD j (.bool false) = .slice (some a) n c) : a.block < w.heap.size := by
  have := h.2.2.2.1 j hj
  rw [e] at this
  exact this.ge.2

/-- A row of steps that is read: three cells a step. -/
def SRow (w : World) (ao : Option Addr) (S : List (Int × Int × List Int)) : Prop :=
  ∀ j, j < S.length → ∃ b off a c, ao = some ⟨b, off, none⟩ ∧ w.cell? ⟨b, off + j * 3, none⟩ = some (.int .i64 (nthS S j).1) ∧ w.cell? ⟨b, off + j * 3 + 1, none⟩ = some (.int .i64 (nthS S j).2.1) ∧ w.cell? ⟨b, off + j * 3 + 2, none⟩ = some (.slice a (nthS S j).2.2.length c) ∧ View .i64 w a (nthS S j).2.2.length (nthS S j).2.2
theorem SRow.below {w w' : World} {ao : Option Addr} {S : List (Int × Int × List Int)} (h : SRow w ao S) (hb : Below w.heap.size w w') : SRow w' ao S := by
  intro j hj
  obtain ⟨b, off, a, c, h1, h2, h3, h4, h5⟩ := h j hj
  exact ⟨b, off, a, c, h1, (hb.cell (p := ⟨b, off + j * 3, none⟩) (World.block_lt_of_cell? w _ h2)).trans h2, (hb.cell (p := ⟨b, off + j * 3 + 1, none⟩) (World.block_lt_of_cell? w _ h3)).trans h3, (hb.cell (p := ⟨b, off + j * 3 + 2, none⟩) (World.block_lt_of_cell? w _ h4)).trans h4, h5.below (Nat.le_refl _) hb⟩
theorem OwnT.srow {w : World} {base : Nat} {ao : Option Addr} {n c : Nat} {S : List (Int × Int × List Int)} {vs : List Value} (h : OwnT w base (.slice ao n c) S vs) : SRow w ao S := by
  obtain ⟨_, hl, h2, h3, _⟩ := h
  intro j hj
  obtain ⟨a, c', hy, hv⟩ := (h3 j hj).view
  rcases h2.2 with ⟨_, h0⟩ | ⟨g, cap, cur, hv', _⟩
  · omega
  · cases hv'
    have hc := flS_at S vs S.length j hj
    have c0 := h2.cells (g := g) (by simp [Value.ownBlock]) (j * 3) _ hc.1
    have c1 := h2.cells (g := g) (by simp [Value.ownBlock]) (j * 3 + 1) _ hc.2.1
    have c2 := h2.cells (g := g) (by simp [Value.ownBlock]) (j * 3 + 2) _ hc.2.2
    rw [Addr.add_lit, Nat.zero_add] at c0 c1 c2
    exact ⟨g, 0, a, c', rfl, by rw [Nat.zero_add]; exact c0, by rw [Nat.zero_add]; exact c1, by rw [Nat.zero_add, c2, hy], hv⟩

/-- What an append of one step leaves as it was, and what it makes. -/
theorem OwnT.pushed {w w' : World} {base : Nat} {v v' : Value} {S : List (Int × Int × List Int)} {vs : List Value} {x : Int × Int × List Int} {y : Value} {o : Obj} (h : OwnT w base v S vs) (hy : Own w base 3 .i64 y x.2.2)
    (hyb : ∀ j, j < S.length → ∀ (a a' : Addr) (n n' c c' : Nat), vs.getD j (.bool false) = .slice (some a) n c → y = .slice (some a') n' c' → a.block < a'.block)
    (hown' : w'.ownsRow base 85 3 v' (S.length + 1) (flS S vs S.length ++ [.int .i64 x.1, .int .i64 x.2.1, y])) (hgrow : (w.alloc o).grownBy w' v.ownBlock) : OwnT w' base v' (S ++ [x]) (vs ++ [y]) := by
  obtain ⟨hb, hvl, hrow, hels, hdis⟩ := h
  have hsz : w.heap.size ≤ w'.heap.size := Nat.le_trans (by simp) hgrow.size
  have hkeep : ∀ (g : Nat) (cur : Array Value), w.heap[g]? = some (.cells cur 3 (0, 0)) → w'.heap[g]? = some (.cells cur 3 (0, 0)) := by
    intro g cur hg
    have hglt : g < w.heap.size := (Array.getElem?_eq_some_iff.1 hg).1
    have h1 : (w.alloc o).heap[g]? = some (.cells cur 3 (0, 0)) := (((Below.refl w.heap.size w).alloc (Nat.le_refl _) _).block g hglt).trans hg
    refine (hgrow.block g (Nat.lt_trans hglt (by simp)) ?_).trans h1
    intro eq
    rcases hrow.2 with ⟨hv, _⟩ | ⟨g', cap, cur', hv, hg', hh, _⟩
    · subst hv; cases eq
    · subst hv
      have : g = g' := by simpa [Value.ownBlock] using eq
      subst this
      rw [hg] at hh
      cases hh
  have hkeepO : ∀ (y : Value) (ys : List Int), Own w base 3 .i64 y ys → Own w' base 3 .i64 y ys := by
    intro y ys hyo
    refine ⟨Nat.le_trans hyo.1 hsz, hyo.2.1, ?_⟩
    rcases hyo.2.2 with h0 | ⟨g, cap, cur, hv, hg, hh, r⟩
    · exact .inl h0
    · exact .inr ⟨g, cap, cur, hv, hg, hkeep g cur hh, r⟩
  have hleft : ∀ j, j < S.length → (vs ++ [y]).getD j (.bool false) = vs.getD j (.bool false) := fun j hj => by
    simp only [List.getD]
    rw [List.getElem?_append_left (by omega)]
  have hlast : (vs ++ [y]).getD S.length (.bool false) = y := by simp [← hvl]
  refine ⟨Nat.le_trans hb hsz, by simp [hvl], ?_, fun j hj => ?_, fun i j hij hj a a' n n' c c' e1 e2 => ?_⟩
  · rw [List.length_append, List.length_singleton, flS_full S vs x _ hvl]
    exact hown'
  · by_cases e : j < S.length
    · rw [nthS_left S _ j e, hleft j e]
      exact hkeepO _ _ (hels j e)
    · have ej : j = S.length := by simp at hj; omega
      subst ej
      rw [nthS_last, hlast]
      exact hkeepO _ _ hy
  · simp at hj
    by_cases e : j < S.length
    · rw [hleft j e] at e2
      rw [hleft i (by omega)] at e1
      exact hdis i j hij e a a' n n' c c' e1 e2
    · have ej : j = S.length := by omega
      subst ej
      rw [hlast] at e2
      rw [hleft i hij] at e1
      exact hyb i hij a a' n n' c c' e1 e2

/-- 'out = append(out, s)', s a step laid in a new block of its own first. -/
theorem wpList_pushS {P : Program} {ops : Array Oper} {rest : List Oper} {o : Oper} {a : Act} {Q : Exit → Act → World → Prop} (w : World) (gb : Nat) (hgb : w.heap.size = gb) (hgd : o.guard = none) (s x : Operand) (t : TypeId)
    (ho : o.op = .call { callee := .builtin .append, args := #[s, x], argTypes := #[t, t] })
    (base : Nat) (ht : P.underlying t = some (.slice 85)) (hinfo : (P.info? 85).map (fun i => (i.zero, i.size, i.bytes)) = some (some (.agg #[.int .i64 0, .int .i64 0, .slice none 0 0]), 3, 40))
    (v : Value) (S : List (Int × Int × List Int)) (vs : List Value) (hs : a.eval s = v) (hown : OwnT w base v S vs) (d e : Int) (ya : Option Addr) (yn yc : Nat) (xs : List Int) (hy : Own w base 3 .i64 (.slice ya yn yc) xs)
    (hyb : ∀ j, j < S.length → ∀ (a a' : Addr) (n n' c c' : Nat), vs.getD j (.bool false) = .slice (some a) n c → Value.slice ya yn yc = .slice (some a') n' c' → a.block < a'.block)
    (hx : a.eval x = .slice (some ⟨gb, 0, none⟩) 1 1)
    (hlen : S.length < 1000000000)
    (h : ∀ v' w', OwnT w' base v' (S ++ [(d, e, xs)]) (vs ++ [.slice ya yn yc]) → Below base w w' → wpList P ops Q rest (a.put o.dst v') w') : wpList P ops Q (o :: rest) a (w.alloc (.cells #[.int .i64 d, .int .i64 e, .slice ya yn yc] 85)) := by
  subst hgb
  obtain ⟨i, hi, hz0, hz1, hz2⟩ := info_parts hinfo
  have hb := hown.1
  have hlt := hown.2.2.1.lt
  refine wpList_append_own _ hgd s x t ho base 85 i (.agg #[.int .i64 0, .int .i64 0, .slice none 0 0]) 3 40 ht hi hz0 hz1 hz2 rfl (by decide) v S.length _ hs (hown.2.2.1.alloc _) ⟨w.heap.size, 0, none⟩ 1 1 [.int .i64 d, .int .i64 e, .slice ya yn yc] hx rfl ?_ ?_ (by unfold maxLen; omega) (by omega) (Nat.le_trans hb (by simp)) ?_
  · intro j u hj
    match j, hj with
    | 0, hj => simp at hj; subst hj; simp [Addr.add]
    | 1, hj => simp at hj; subst hj; simp [Addr.add]
    | 2, hj => simp at hj; subst hj; simp [Addr.add]
  · intro u hu; simp at hu; rcases hu with rfl | rfl | rfl <;> rfl
  · intro v' w' hown' hgrow _
    refine h v' w' (OwnT.pushed (x := (d, e, xs)) hown hy hyb hown' hgrow) ?_
    exact ((Below.refl base w).alloc hb _).grown hgrow (Nat.le_trans hb (by simp)) (fun g hg => (hlt g hg).1)
theorem Try.info85 : (Try.prog.info? 85).map (fun i => (i.zero, i.size, i.bytes)) = some (some (.agg #[.int .i64 0, .int .i64 0, .slice none 0 0]), 3, 40) := by kernel_rfl
end Go.Proofs.Ytnnakmgngkpghaa
