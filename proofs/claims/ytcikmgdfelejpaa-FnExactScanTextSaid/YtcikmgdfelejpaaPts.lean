/- Parts of blocks: plain lists, and slices of parts that are the call's own. -/
import Derived.Test.YtcikmgdfelejpaaStpS
import Derived.Test.YtcikmgdfelejpaaCodePlain
import Derived.Laws.AppendOwnNone
namespace Go.Proofs.Ytcikmgdfelejpaa
open Go.RowKit
set_option linter.unusedVariables false

/-- 'out = append(out, ys...)', ys an own slice, maybe empty. -/
theorem wpList_appO {P : Program} {ops : Array Oper} {rest : List Oper} {o : Oper} {a : Act} {Q : Exit → Act → World → Prop} (w : World) (hgd : o.guard = none) (s x : Operand) (t : TypeId)
    (ho : o.op = .call { callee := .builtin .append, args := #[s, x], argTypes := #[t, t] })
    (base : Nat) (e : TypeId) (k : IntKind) (z : Int) (bytes : Nat) (ht : P.underlying t = some (.slice e)) (hinfo : (P.info? e).map (fun i => (i.zero, i.size, i.bytes)) = some (some (.int k z), 1, bytes))
    (v : Value) (xs : List Int) (hs : a.eval s = v) (hown : Own w base e k v xs) (yb : Nat) (y : Value) (ys : List Int) (hx : a.eval x = y) (hy : Own w yb e k y ys)
    (hlen : xs.length + ys.length < 1000000000000) (hbytes : bytes ≤ 8)
    (h : ∀ v' w', Own w' base e k v' (xs ++ ys) → Below base w w' → wpList P ops Q rest (a.put o.dst v') w') : wpList P ops Q (o :: rest) a w := by
  obtain ⟨i, hi, hz0, hz1, hz2⟩ := info_parts hinfo
  have hb := hown.1
  have hlt := hown.2.lt
  have hmul : (xs.length + ys.length) * bytes ≤ (xs.length + ys.length) * 8 := Nat.mul_le_mul_left _ hbytes
  rcases hy.2.2 with ⟨rfl, h0⟩ | ⟨g, cap, cur, rfl, _⟩
  · have : ys = [] := List.length_eq_zero_iff.1 h0
    subst this
    refine wpList_append_own_none hgd s x t ho base e i 1 ht hi v xs.length _ hs hown.2 hx (h v w (by simpa using hown) (Below.refl _ _))
  · refine wpList_append_own _ hgd s x t ho base e i (.int k z) 1 bytes ht hi hz0 hz1 hz2 rfl (by decide) v xs.length _ hs hown.2 ⟨g, 0, none⟩ ys.length cap (ys.map (Value.int k)) hx (by simp) ?_ ?_ (by unfold maxLen; omega) (by omega) hb ?_
    · intro j u hj
      have hjl : j < ys.length := by have := (List.getElem?_eq_some_iff.1 hj).1; simpa using this
      rw [hy.cell rfl j hjl]
      simp [hjl] at hj
      rw [← hj]
      simp [List.getD, hjl]
    · intro u hu
      simp at hu
      obtain ⟨q, _, rfl⟩ := hu
      rfl
    · intro v' w' hown' hgrow _
      refine h v' w' ⟨Nat.le_trans hb hgrow.size, ?_⟩ ?_
      · simpa using hown'
      · exact (Below.refl base w).grown hgrow hb (fun g hg => (hlt g hg).1)
/-- The same as one step of a statement that leaves its order open. -/
theorem step_appO {P : Program} {ops : Array Oper} {o : Oper} {a : Act} {K : Act → World → Prop} {Q : Exit → Act → World → Prop} {E : Prop} (w : World) (hgd : o.guard = none) (s x : Operand) (t : TypeId)
    (ho : o.op = .call { callee := .builtin .append, args := #[s, x], argTypes := #[t, t] })
    (base : Nat) (e : TypeId) (k : IntKind) (z : Int) (bytes : Nat) (ht : P.underlying t = some (.slice e)) (hinfo : (P.info? e).map (fun i => (i.zero, i.size, i.bytes)) = some (some (.int k z), 1, bytes))
    (v : Value) (xs : List Int) (hs : a.eval s = v) (hown : Own w base e k v xs) (yb : Nat) (y : Value) (ys : List Int) (hx : a.eval x = y) (hy : Own w yb e k y ys)
    (hlen : xs.length + ys.length < 1000000000000) (hbytes : bytes ≤ 8)
    (h : ∀ v' w', Own w' base e k v' (xs ++ ys) → Below base w w' → K (a.put o.dst v') w') :
    if Region.wanted o (yielded ops a.tmps) = true then Oper.wp P o a w K Q else E := by
  have hw : Region.wanted o (yielded ops a.tmps) = true := by simp [Region.wanted, hgd]
  rw [if_pos hw]
  obtain ⟨i, hi, hz0, hz1, hz2⟩ := info_parts hinfo
  have hb := hown.1
  have hlt := hown.2.lt
  have hmul : (xs.length + ys.length) * bytes ≤ (xs.length + ys.length) * 8 := Nat.mul_le_mul_left _ hbytes
  rcases hy.2.2 with ⟨rfl, h0⟩ | ⟨g, cap, cur, rfl, _⟩
  · have : ys = [] := List.length_eq_zero_iff.1 h0
    subst this
    have hrun := run_append_owned_none (P := P) (w := w) base t o.type e i 1 ht hi v xs.length _ hown.2
    unfold Oper.wp
    simp [execOp, ho, resolve, invoke, builtin, hs, hx, hrun, Result.andThen]
    exact h v w (by simpa using hown) (Below.refl _ _)
  · refine wp_append_own _ s x t ho base e i (.int k z) 1 bytes ht hi hz0 hz1 hz2 rfl (by decide) v xs.length _ hs hown.2 ⟨g, 0, none⟩ ys.length cap (ys.map (Value.int k)) hx (by simp) ?_ ?_ (by unfold maxLen; omega) (by omega) hb ?_
    · intro j u hj
      have hjl : j < ys.length := by have := (List.getElem?_eq_some_iff.1 hj).1; simpa using this
      rw [hy.cell rfl j hjl]
      simp [hjl] at hj
      rw [← hj]
      simp [List.getD, hjl]
    · intro u hu
      simp at hu
      obtain ⟨q, _, rfl⟩ := hu
      rfl
    · intro v' w' hown' hgrow _
      refine h v' w' ⟨Nat.le_trans hb hgrow.size, ?_⟩ ?_
      · simpa using hown'
      · exact (Below.refl base w).grown hgrow hb (fun g hg => (hlt g hg).1)

/-- A part: a symbol of a table, or bits. -/
abbrev Pt := (Int × Int) ⊕ List Int
def nthP (L : List Pt) (j : Nat) : Pt := L.getD j (.inr [])
theorem nthP_left (L M : List Pt) (j : Nat) (h : j < L.length) : nthP (L ++ M) j = nthP L j := by
  simp only [nthP, List.getD]
  rw [List.getElem?_append_left h]
theorem nthP_right (L M : List Pt) (i : Nat) : nthP (L ++ M) (L.length + i) = nthP M i := by
  simp only [nthP, List.getD]
  rw [List.getElem?_append_right (by omega), Nat.add_sub_cancel_left]
/-- The value c stands for a part. -/
def PtAt (w : World) (base : Nat) : Pt → Value → Prop
  | .inl (t, x), c => c = .iface 110 (.agg #[.int .i64 t, .int .i64 x])
  | .inr xs, c => ∃ y, c = .iface 112 (.agg #[y]) ∧ Own w base 3 .i64 y xs
/-- The slice v is the call's own and holds the parts. -/
def OwnP (w : World) (base : Nat) (v : Value) (L : List Pt) : Prop :=
  base ≤ w.heap.size ∧ ∃ vs : List Value, vs.length = L.length ∧ w.ownsRow base 85 1 v L.length vs ∧ ∀ j, j < L.length → PtAt w base (nthP L j) (vs.getD j (.bool false))
theorem PtAt.keep {w w' : World} {base : Nat} {p : Pt} {c : Value} (h : PtAt w base p c) (hs : w.heap.size ≤ w'.heap.size) (hk : ∀ (g : Nat) (cur : Array Value), base ≤ g → w.heap[g]? = some (.cells cur 3 (0, 0)) → w'.heap[g]? = some (.cells cur 3 (0, 0))) : PtAt w' base p c := by
  cases p with
  | inl q => obtain ⟨t, x⟩ := q; exact h
  | inr xs =>
    obtain ⟨y, hc, ho⟩ := h
    refine ⟨y, hc, Nat.le_trans ho.1 hs, ho.2.1, ?_⟩
    rcases ho.2.2 with h0 | ⟨g, cap, cur, hv, hg, hh, r⟩
    · exact .inl h0
    · exact .inr ⟨g, cap, cur, hv, hg, hk g cur hg hh, r⟩
theorem OwnP.shape {w : World} {base : Nat} {v : Value} {L : List Pt} (h : OwnP w base v L) : ∃ ao cap, v = .slice ao L.length cap := by
  obtain ⟨_, vs, _, h2, _⟩ := h
  rcases h2.2 with ⟨rfl, h0⟩ | ⟨g, cap, cur, rfl, _⟩
  · exact ⟨none, 0, by rw [h0]⟩
  · exact ⟨_, _, rfl⟩
theorem OwnP.empty (w : World) (base : Nat) (hb : base ≤ w.heap.size) : OwnP (w.alloc (.cells #[] 85)) base (.slice (some ⟨w.heap.size, 0, none⟩) 0 0) [] :=
  ⟨Nat.le_trans hb (by simp), [], rfl, World.ownsRow_made w #[] 0 hb (by simp [maxLen]) rfl, fun j hj => by simp at hj⟩
theorem OwnP.below {w w' : World} {base : Nat} {v : Value} {L : List Pt} (h : OwnP w base v L) (hb : Below w.heap.size w w') : OwnP w' base v L := by
  obtain ⟨h1, vs, hl, h2, h3⟩ := h
  refine ⟨Nat.le_trans h1 hb.size, vs, hl, ⟨h2.1, ?_⟩, fun j hj => (h3 j hj).keep hb.size (fun g cur _ hg => (hb.block g (Array.getElem?_eq_some_iff.1 hg).1).trans hg)⟩
  rcases h2.2 with h0 | ⟨g, cap, cur, hv, hg, hh, r⟩
  · exact .inl h0
  · exact .inr ⟨g, cap, cur, hv, hg, (hb.block g (Array.getElem?_eq_some_iff.1 hh).1).trans hh, r⟩
/-- Where all its blocks lie below B. -/
theorem OwnP.cell {w : World} {base : Nat} {ao : Option Addr} {n c : Nat} {L : List Pt} (h : OwnP w base (.slice ao n c) L) (j : Nat) (hj : j < L.length) :
    ∃ g y, ao = some ⟨g, 0, none⟩ ∧ w.cell? ⟨g, j, none⟩ = some y ∧ PtAt w base (nthP L j) y := by
  obtain ⟨_, vs, hl, h2, h3⟩ := h
  rcases h2.2 with ⟨hn, h0⟩ | ⟨g, cap, cur, hv, _⟩
  · omega
  · have ha : ao = some ⟨g, 0, none⟩ := by cases hv; rfl
    subst ha
    refine ⟨g, vs.getD j (.bool false), rfl, ?_, h3 j hj⟩
    have hj' : vs[j]? = some (vs.getD j (.bool false)) := by simp [List.getD, show j < vs.length by omega]
    have := h2.cells (g := g) (by simp [Value.ownBlock]) j _ hj'
    rw [Addr.add_lit, Nat.zero_add] at this
    exact this
theorem OwnP.mono {w : World} {base base' : Nat} {v : Value} {L : List Pt} (h : OwnP w base v L) (hb : base' ≤ base) : OwnP w base' v L := by
  obtain ⟨h1, vs, hl, h2, h3⟩ := h
  refine ⟨Nat.le_trans hb h1, vs, hl, ⟨h2.1, ?_⟩, fun j hj => ?_⟩
  · rcases h2.2 with h0 | ⟨g, cap, cur, hv, hg, r⟩
    · exact .inl h0
    · exact .inr ⟨g, cap, cur, hv, Nat.le_trans hb hg, r⟩
  · have := h3 j hj
    revert this
    cases nthP L j with
    | inl q => obtain ⟨t, x⟩ := q; exact fun h => h
    | inr xs => exact fun ⟨y, e, ho⟩ => ⟨y, e, ho.mono hb⟩

theorem Try.info85 : (Try.prog.info? 85).map (fun i => (i.zero, i.size, i.bytes)) = some (some (.nilIface), 1, 16) := by kernel_rfl

/-- 'out = append(out, p, q)', both laid in a new block of its own first. -/
theorem wpList_pushP {P : Program} {ops : Array Oper} {rest : List Oper} {o : Oper} {a : Act} {Q : Exit → Act → World → Prop} (w : World) (gb : Nat) (hgb : w.heap.size = gb) (hgd : o.guard = none) (s x : Operand) (t : TypeId)
    (ho : o.op = .call { callee := .builtin .append, args := #[s, x], argTypes := #[t, t] })
    (base : Nat) (ht : P.underlying t = some (.slice 85)) (hinfo : (P.info? 85).map (fun i => (i.zero, i.size, i.bytes)) = some (some (.nilIface), 1, 16))
    (v : Value) (L : List Pt) (hs : a.eval s = v) (hown : OwnP w base v L) (tb sy : Int) (y : Value) (xs : List Int) (hy : Own w base 3 .i64 y xs)
    (hx : a.eval x = .slice (some ⟨gb, 0, none⟩) 2 2) (hlen : L.length < 1000000000)
    (h : ∀ v' w', OwnP w' base v' (L ++ [.inl (tb, sy), .inr xs]) → Below base w w' → (∀ (g : Nat) (cur : Array Value) (tt : TypeId), tt ≠ 85 → w.heap[g]? = some (.cells cur tt (0, 0)) → w'.heap[g]? = some (.cells cur tt (0, 0))) → wpList P ops Q rest (a.put o.dst v') w') : wpList P ops Q (o :: rest) a (w.alloc (.cells #[.iface 110 (.agg #[.int .i64 tb, .int .i64 sy]), .iface 112 (.agg #[y])] 85)) := by
  subst hgb
  obtain ⟨i, hi, hz0, hz1, hz2⟩ := info_parts hinfo
  obtain ⟨hb, vs, hvl, hrow, hels⟩ := hown
  have hlt := hrow.lt
  refine wpList_append_own _ hgd s x t ho base 85 i .nilIface 1 16 ht hi hz0 hz1 hz2 rfl (by decide) v L.length _ hs (hrow.alloc _) ⟨w.heap.size, 0, none⟩ 2 2 [.iface 110 (.agg #[.int .i64 tb, .int .i64 sy]), .iface 112 (.agg #[y])] hx rfl ?_ ?_ (by unfold maxLen; omega) (by omega) (Nat.le_trans hb (by simp)) ?_
  · intro j u hj
    match j, hj with
    | 0, hj => simp at hj; subst hj; simp [Addr.add]
    | 1, hj => simp at hj; subst hj; simp [Addr.add]
  · intro u hu; simp at hu; rcases hu with rfl | rfl <;> rfl
  · intro v' w' hown' hgrow _
    have hsz : w.heap.size ≤ w'.heap.size := Nat.le_trans (by simp) hgrow.size
    have hkeep : ∀ (g : Nat) (cur : Array Value) (tt : TypeId), tt ≠ 85 → w.heap[g]? = some (.cells cur tt (0, 0)) → w'.heap[g]? = some (.cells cur tt (0, 0)) := by
      intro g cur tt htt hg
      have hglt : g < w.heap.size := (Array.getElem?_eq_some_iff.1 hg).1
      have h1 : (w.alloc (.cells #[.iface 110 (.agg #[.int .i64 tb, .int .i64 sy]), .iface 112 (.agg #[y])] 85)).heap[g]? = some (.cells cur tt (0, 0)) := (((Below.refl w.heap.size w).alloc (Nat.le_refl _) _).block g hglt).trans hg
      refine (hgrow.block g (Nat.lt_trans hglt (by simp)) ?_).trans h1
      intro eq
      rcases hrow.2 with ⟨hv, _⟩ | ⟨g', cap, cur', hv, hg', hh, _⟩
      · subst hv; cases eq
      · subst hv
        have : g = g' := by simpa [Value.ownBlock] using eq
        subst this
        rw [hg] at hh
        cases hh
        exact htt rfl
    refine h v' w' ⟨Nat.le_trans hb hsz, vs ++ [.iface 110 (.agg #[.int .i64 tb, .int .i64 sy]), .iface 112 (.agg #[y])], by simp [hvl], ?_, fun j hj => ?_⟩ ?_ hkeep
    · simpa using hown'
    · by_cases e : j < L.length
      · rw [nthP_left L _ j e]
        have : (vs ++ [Value.iface 110 (.agg #[.int .i64 tb, .int .i64 sy]), Value.iface 112 (.agg #[y])]).getD j (.bool false) = vs.getD j (.bool false) := by
          simp only [List.getD]
          rw [List.getElem?_append_left (by omega)]
        rw [this]
        exact (hels j e).keep hsz (fun g cur _ hg => hkeep g cur 3 (by decide) hg)
      · have hj2 : j < L.length + 2 := by simpa using hj
        have hget : ∀ i, (vs ++ [Value.iface 110 (.agg #[.int .i64 tb, .int .i64 sy]), Value.iface 112 (.agg #[y])]).getD (L.length + i) (.bool false) = [Value.iface 110 (.agg #[.int .i64 tb, .int .i64 sy]), Value.iface 112 (.agg #[y])].getD i (.bool false) := fun i => by
          simp only [List.getD]
          rw [List.getElem?_append_right (by omega), hvl, Nat.add_sub_cancel_left]
        obtain rfl | rfl : j = L.length + 0 ∨ j = L.length + 1 := by omega
        · rw [nthP_right, hget]
          exact rfl
        · rw [nthP_right, hget]
          exact PtAt.keep (w := w) (p := .inr xs) ⟨y, rfl, hy⟩ hsz (fun g cur _ hg => hkeep g cur 3 (by decide) hg)
    · exact ((Below.refl base w).alloc hb _).grown hgrow (Nat.le_trans hb (by simp)) (fun g hg => (hlt g hg).1)

/-- The parts of the first k steps. -/
def ptsS (S : List (Int × Int × List Int)) : Nat → List Pt
  | 0 => []
  | k + 1 => ptsS S k ++ [.inl (1, (16 * (nthS S k).1 + (nthS S k).2.1)), .inr (nthS S k).2.2]
/-- What Shift tells of block k. -/
def df (L : List (Int × List Int)) (k : Nat) : Int := (nth L k).1 - ahead true L k
/-- The parts of the first k blocks. -/
def ptsTo (L : List (Int × List Int)) : Nat → List Pt
  | 0 => []
  | k + 1 => ptsTo L k ++ [.inl (0, (sz (df L k))), .inr (restL (df L k))] ++ ptsS (stepsR (nth L k).1 (nth L k).2) (stepsR (nth L k).1 (nth L k).2).length
theorem ptsS_len (S : List (Int × Int × List Int)) : ∀ k, (ptsS S k).length = 2 * k
  | 0 => rfl
  | k + 1 => by rw [ptsS, List.length_append, ptsS_len S k]; simp; omega

theorem stepTo_fine (xs : List Int) (hin : ∀ k, k < 63 → -1023 ≤ xs.getD k 0 ∧ xs.getD k 0 ≤ 1023) : ∀ k, k ≤ 63 → ∀ s ∈ (stepTo xs k).1, (0 ≤ s.1 ∧ s.1 ≤ 15) ∧ (0 ≤ s.2.1 ∧ s.2.1 ≤ 10) ∧ s.2.2.length ≤ 11
  | 0, _, s, hs => by simp [stepTo] at hs
  | k + 1, hk, s, hs => by
    by_cases h : xs.getD k 0 = 0
    · rw [stepTo_zero xs k h] at hs
      exact stepTo_fine xs hin k (by omega) s hs
    · rw [stepTo_num xs k h] at hs
      simp only [List.mem_append, List.mem_replicate, List.mem_singleton] at hs
      rcases hs with (hs | hs) | hs
      · exact stepTo_fine xs hin k (by omega) s hs
      · rw [hs.2]; exact ⟨by decide, by decide, by decide⟩
      · rw [hs]
        have h1 := hin k (by omega)
        have h2 := sz_in (x := xs.getD k 0) (by omega)
        have h4 := (bitLen_at (xs.getD k 0).natAbs 10 (by omega) (by omega)).1
        refine ⟨⟨by show (0 : Int) ≤ ((_ % 16 : Nat) : Int); omega, by show ((_ % 16 : Nat) : Int) ≤ 15; omega⟩, ⟨by show 0 ≤ sz _; rw [h2]; omega, ?_⟩, restL_len _⟩
        show sz _ ≤ 10
        rw [h2]
        omega
theorem nthS_mem (S : List (Int × Int × List Int)) (j : Nat) (h : j < S.length) : nthS S j ∈ S := by simp [nthS, List.getD, h]
theorem stepsR_fine (d : Int) (xs : List Int) (hb : blkOk d xs = true) : (stepsR d xs).length ≤ 63 ∧ ∀ j, j < (stepsR d xs).length → (0 ≤ (nthS (stepsR d xs) j).1 ∧ (nthS (stepsR d xs) j).1 ≤ 15) ∧ (0 ≤ (nthS (stepsR d xs) j).2.1 ∧ (nthS (stepsR d xs) j).2.1 ≤ 10) ∧ (nthS (stepsR d xs) j).2.2.length ≤ 11 := by
  have hin : ∀ k, k < 63 → -1023 ≤ xs.getD k 0 ∧ xs.getD k 0 ≤ 1023 := by
    unfold blkOk at hb
    simp only [Bool.and_eq_true, decide_eq_true_eq] at hb
    obtain ⟨_, _, hco⟩ := hb
    exact fun k hk => by simpa [inC] using coefTo_at xs 63 hco k hk
  have hl := stepTo_len xs 63
  have hf := stepTo_fine xs hin 63 (Nat.le_refl _)
  unfold stepsR
  rw [if_pos hb]
  unfold stepsOf
  by_cases h : 0 < (stepTo xs 63).2
  · rw [if_pos h]
    refine ⟨by rw [List.length_append, List.length_singleton]; omega, fun j hj => ?_⟩
    have hm := nthS_mem _ j hj
    rw [List.mem_append, List.mem_singleton] at hm
    rcases hm with hm | hm
    · exact hf _ hm
    · rw [hm]; exact ⟨by decide, by decide, by decide⟩
  · rw [if_neg h]
    exact ⟨by omega, fun j hj => hf _ (nthS_mem _ j hj)⟩
theorem df_bd (L : List (Int × List Int)) (k : Nat) (h : oksTo L L.length = true) (hk : k < L.length) : -2046 ≤ df L k ∧ df L k ≤ 2046 := by
  have h1 := blkOk_dc (oksTo_at L L.length h k hk)
  have h2 : -1023 ≤ ahead true L k ∧ ahead true L k ≤ 1023 := by
    unfold ahead
    split
    · exact blkOk_dc (oksTo_at L L.length h (k - 1) (by omega))
    · omega
  unfold df
  omega
theorem shl_get (up : Bool) (L : List (Int × List Int)) : ∀ n i, i < n → (shl up L n).getD i 0 = (nth L i).1 - ahead up L i
  | n + 1, i, hi => by
    have hl := shl_len up L n
    rw [shl]
    simp only [List.getD]
    by_cases e : i = n
    · subst e
      rw [List.getElem?_append_right (by omega)]
      simp [hl]
    · rw [List.getElem?_append_left (by omega)]
      exact shl_get up L n i (by omega)
theorem ptsTo_len (L : List (Int × List Int)) (h : oksTo L L.length = true) : ∀ k, k ≤ L.length → (ptsTo L k).length ≤ k * 128
  | 0, _ => by simp [ptsTo]
  | k + 1, hk => by
    have h1 := ptsTo_len L h k (by omega)
    have h2 := (stepsR_fine _ _ (oksTo_at L L.length h k (by omega))).1
    rw [ptsTo, List.length_append, List.length_append, ptsS_len]
    simp
    omega
end Go.Proofs.Ytcikmgdfelejpaa
