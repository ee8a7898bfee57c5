/- Texts joined: Pts, PtsI, CodeImpl, Bks, ScI. No statement is proved here. -/
import Derived.Test.YtcikmgdfelejpaaJGd
import Derived.Test.YtcikmgdfelejpaaJGf
import Derived.Laws.AppendOwnNone
import Derived.Deep.RegionHeld3

/- Parts of blocks: plain lists, and slices of parts that are the call's own. -/
namespace Go.Proofs.Ytcikmgdfelejpaa
open Go.RowKit
set_option linter.unusedVariables false

/-- 'out = append(out, ys...)', ys an own slice, maybe empty. -/
theorem wpList_appO {P : Program} {ops : Array Oper} {rest : List Oper} {o : Oper} {a : Act} {Q : Exit → Act → World → Prop} (w : World) (hgd : o.guard = none) (s x : Operand) (t : TypeId)
    (ho : o.op = .call { callee := .builtin .append, args := #[s, x], argTypes := #[t, t] })
    (base : Nat) (e : TypeId) (k : IntKind) (z : Int) (bytes : Nat) (ht : P.underlying t = some (.slice e)) (hinfo : (P.info? e).map (fun i => (i.zero, i.size, i.bytes)) = some (some (.int k z), 1, bytes))
    (v : Value) (xs : List Int) (hs : a.eval s = v) (hown : Own w base e k v xs) (yb : Nat) (y : Value) (ys : List Int) (hx : a.eval x = y) (hy : Own w yb e k y ys)
    (hlen : xs.length + ys.length < 1000000000000) (hbytes : bytes ≤ 8)
    (h : ∀ v' w', Own w' base e k v' (xs ++ ys) → Below base w w' → wpList P ops Q rest (a.put o.dst v') w') : wpList P ops Q (o :: rest) a w := by
  obtain ⟨i, hi, hz0, hz1, hz2⟩ := info_parts hinfo
  have hb := hown.1
  have hlt := hown.2.lt
  have hmul : (xs.length + ys.length) * bytes ≤ (xs.length + ys.length) * 8 := Nat.mul_le_mul_left _ hbytes
  rcases hy.2.2 with ⟨rfl, h0⟩ | ⟨g, cap, cur, rfl, _⟩
  · have : ys = [] := List.length_eq_zero_iff.1 h0
    subst this
    refine wpList_append_own_none hgd s x t ho base e i 1 ht hi v xs.length _ hs hown.2 hx (h v w (by simpa using hown) (Below.refl _ _))
  · refine wpList_append_own _ hgd s x t ho base e i (.int k z) 1 bytes ht hi hz0 hz1 hz2 rfl (by decide) v xs.length _ hs hown.2 ⟨g, 0, none⟩ ys.length cap (ys.map (Value.int k)) hx (by simp) ?_ ?_ (by unfold maxLen; omega) (by omega) hb ?_
    · intro j u hj
      have hjl : j < ys.length := by have := (List.getElem?_eq_some_iff.1 hj).1; simpa using this
      rw [hy.cell rfl j hjl]
      simp [hjl] at hj
      rw [← hj]
      simp [List.getD, hjl]
    · intro u hu
      simp at hu
      obtain ⟨q, _, rfl⟩ := hu
      rfl
    · intro v' w' hown' hgrow _
      refine h v' w' ⟨Nat.le_trans hb hgrow.size, ?_⟩ ?_
      · simpa using hown'
      · exact (Below.refl base w).grown hgrow hb (fun g hg => (hlt g hg).1)
/-- The same as one step of a statement that leaves its order open. -/
theorem step_appO {P : Program} {ops : Array Oper} {o : Oper} {a : Act} {K : Act → World → Prop} {Q : Exit → Act → World → Prop} {E : Prop} (w : World) (hgd : o.guard = none) (s x : Operand) (t : TypeId)
    (ho : o.op = .call { callee := .builtin .append, args := #[s, x], argTypes := #[t, t] })
    (base : Nat) (e : TypeId) (k : IntKind) (z : Int) (bytes : Nat) (ht : P.underlying t = some (.slice e)) (hinfo : (P.info? e).map (fun i => (i.zero, i.size, i.bytes)) = some (some (.int k z), 1, bytes))
    (v : Value) (xs : List Int) (hs : a.eval s = v) (hown : Own w base e k v xs) (yb : Nat) (y : Value) (ys : List Int) (hx : a.eval x = y) (hy : Own w yb e k y ys)
    (hlen : xs.length + ys.length < 1000000000000) (hbytes : bytes ≤ 8)
    (h : ∀ v' w', Own w' base e k v' (xs ++ ys) → Below base w w' → K (a.put o.dst v') w') :
    if Region.wanted o (yielded ops a.tmps) = true then Oper.wp P o a w K Q else E := by
  have hw : Region.wanted o (yielded ops a.tmps) = true := by simp [Region.wanted, hgd]
  rw [if_pos hw]
  obtain ⟨i, hi, hz0, hz1, hz2⟩ := info_parts hinfo
  have hb := hown.1
  have hlt := hown.2.lt
  have hmul : (xs.length + ys.length) * bytes ≤ (xs.length + ys.length) * 8 := Nat.mul_le_mul_left _ hbytes
  rcases hy.2.2 with ⟨rfl, h0⟩ | ⟨g, cap, cur, rfl, _⟩
  · have : ys = [] := List.length_eq_zero_iff.1 h0
    subst this
    have hrun := run_append_owned_none (P := P) (w := w) base t o.type e i 1 ht hi v xs.length _ hown.2
    unfold Oper.wp
    simp [execOp, ho, resolve, invoke, builtin, hs, hx, hrun, Result.andThen]
    exact h v w (by simpa using hown) (Below.refl _ _)
  · refine wp_append_own _ s x t ho base e i (.int k z) 1 bytes ht hi hz0 hz1 hz2 rfl (by decide) v xs.length _ hs hown.2 ⟨g, 0, none⟩ ys.length cap (ys.map (Value.int k)) hx (by simp) ?_ ?_ (by unfold maxLen; omega) (by omega) hb ?_
    · intro j u hj
      have hjl : j < ys.length := by have := (List.getElem?_eq_some_iff.1 hj).1; simpa using this
      rw [hy.cell rfl j hjl]
      simp [hjl] at hj
      rw [← hj]
      simp [List.getD, hjl]
    · intro u hu
      simp at hu
      obtain ⟨q, _, rfl⟩ := hu
      rfl
    · intro v' w' hown' hgrow _
      refine h v' w' ⟨Nat.le_trans hb hgrow.size, ?_⟩ ?_
      · simpa using hown'
      · exact (Below.refl base w).grown hgrow hb (fun g hg => (hlt g hg).1)

/-- A part: a symbol of a table, or bits. -/
abbrev Pt := (Int × Int) ⊕ List Int
def nthP (L : List Pt) (j : Nat) : Pt := L.getD j (.inr [])
theorem nthP_left (L M : List Pt) (j : Nat) (h : j < L.length) : nthP (L ++ M) j = nthP L j := by
  simp only [nthP, List.getD]
  rw [List.getElem?_append_left h]
theorem nthP_right (L M : List Pt) (i : Nat) : nthP (L ++ M) (L.length + i) = nthP M i := by
  simp only [nthP, List.getD]
  rw [List.getElem?_append_right (by omega), Nat.add_sub_cancel_left]
/-- The value c stands for a part. -/
def PtAt (w : World) (base : Nat) : Pt → Value → Prop
  | .inl (t, x), c => c = .iface 110 (.agg #[.int .i64 t, .int .i64 x])
  | .inr xs, c => ∃ y, c = .iface 112 (.agg #[y]) ∧ Own w base 3 .i64 y xs
/-- The slice v is the call's own and holds the parts. -/
def OwnP (w : World) (base : Nat) (v : Value) (L : List Pt) : Prop :=
  base ≤ w.heap.size ∧ ∃ vs : List Value, vs.length = L.length ∧ w.ownsRow base 85 1 v L.length vs ∧ ∀ j, j < L.length → PtAt w base (nthP L j) (vs.getD j (.bool false))
theorem PtAt.keep {w w' : World} {base : Nat} {p : Pt} {c : Value} (h : PtAt w base p c) (hs : w.heap.size ≤ w'.heap.size) (hk : ∀ (g : Nat) (cur : Array Value), base ≤ g → w.heap[g]? = some (.cells cur 3 (0, 0)) → w'.heap[g]? = some (.cells cur 3 (0, 0))) : PtAt w' base p c := by
  cases p with
  | inl q => obtain ⟨t, x⟩ := q; exact h
  | inr xs =>
    obtain ⟨y, hc, ho⟩ := h
    refine ⟨y, hc, Nat.le_trans ho.1 hs, ho.2.1, ?_⟩
    rcases ho.2.2 with h0 | ⟨g, cap, cur, hv, hg, hh, r⟩
    · exact .inl h0
    · exact .inr ⟨g, cap, cur, hv, hg, hk g cur hg hh, r⟩
theorem OwnP.shape {w : World} {base : Nat} {v : Value} {L : List Pt} (h : OwnP w base v L) : ∃ ao cap, v = .slice ao L.length cap := by
  obtain ⟨_, vs, _, h2, _⟩ := h
  rcases h2.2 with ⟨rfl, h0⟩ | ⟨g, cap, cur, rfl, _⟩
  · exact ⟨none, 0, by rw [h0]⟩
  · exact ⟨_, _, rfl⟩
theorem OwnP.empty (w : World) (base : Nat) (hb : base ≤ w.heap.size) : OwnP (w.alloc (.cells #[] 85)) base (.slice (some ⟨w.heap.size, 0, none⟩) 0 0) [] :=
  ⟨Nat.le_trans hb (by simp), [], rfl, World.ownsRow_made w #[] 0 hb (by simp [maxLen]) rfl, fun j hj => by simp at hj⟩
theorem OwnP.below {w w' : World} {base : Nat} {v : Value} {L : List Pt} (h : OwnP w base v L) (hb : Below w.heap.size w w') : OwnP w' base v L := by
  obtain ⟨h1, vs, hl, h2, h3⟩ := h
  refine ⟨Nat.le_trans h1 hb.size, vs, hl, ⟨h2.1, ?_⟩, fun j hj => (h3 j hj).keep hb.size (fun g cur _ hg => (hb.block g (Array.getElem?_eq_some_iff.1 hg).1).trans hg)⟩
  rcases h2.2 with h0 | ⟨g, cap, cur, hv, hg, hh, r⟩
  · exact .inl h0
  · exact .inr ⟨g, cap, cur, hv, hg, (hb.block g (Array.getElem?_eq_some_iff.1 hh).1).trans hh, r⟩
/-- Where all its blocks lie below B. -/
theorem OwnP.cell {w : World} {base : Nat} {ao : Option Addr} {n c : Nat} {L : List Pt} (h : OwnP w base (.slice ao n c) L) (j : Nat) (hj : j < L.length) :
    ∃ g y, ao = some ⟨g, 0, none⟩ ∧ w.cell? ⟨g, j, none⟩ = some y ∧ PtAt w base (nthP L j) y := by
  obtain ⟨_, vs, hl, h2, h3⟩ := h
  rcases h2.2 with ⟨hn, h0⟩ | ⟨g, cap, cur, hv, _⟩
  · omega
  · have ha : ao = some ⟨g, 0, none⟩ := by cases hv; rfl
    subst ha
    refine ⟨g, vs.getD j (.bool false), rfl, ?_, h3 j hj⟩
    have hj' : vs[j]? = some (vs.getD j (.bool false)) := by simp [List.getD, show j < vs.length by omega]
    have := h2.cells (g := g) (by simp [Value.ownBlock]) j _ hj'
    rw [Addr.add_lit, Nat.zero_add] at this
    exact this
theorem OwnP.mono {w : World} {base base' : Nat} {v : Value} {L : List Pt} (h : OwnP w base v L) (hb : base' ≤ base) : OwnP w base' v L := by
  obtain ⟨h1, vs, hl, h2, h3⟩ := h
  refine ⟨Nat.le_trans hb h1, vs, hl, ⟨h2.1, ?_⟩, fun j hj => ?_⟩
  · rcases h2.2 with h0 | ⟨g, cap, cur, hv, hg, r⟩
    · exact .inl h0
    · exact .inr ⟨g, cap, cur, hv, Nat.le_trans hb hg, r⟩
  · have := h3 j hj
    revert this
    cases nthP L j with
    | inl q => obtain ⟨t, x⟩ := q; exact fun h => h
    | inr xs => exact fun ⟨y, e, ho⟩ => ⟨y, e, ho.mono hb⟩

theorem Try.info85 : (Try.prog.info? 85).map (fun i => (i.zero, i.size, i.bytes)) = some (some (.nilIface), 1, 16) := by kernel_rfl

/-- 'out = append(out, p, q)', both laid in a new block of its own first. -/
theorem wpList_pushP {P : Program} {ops : Array Oper} {rest : List Oper} {o : Oper} {a : Act} {Q : Exit → Act → World → Prop} (w : World) (gb : Nat) (hgb : w.heap.size = gb) (hgd : o.guard = none) (s x : Operand) (t : TypeId)
    (ho : o.op = .call { callee := .builtin .append, args := #[s, x], argTypes := #[t, t] })
    (base : Nat) (ht : P.underlying t = some (.slice 85)) (hinfo : (P.info? 85).map (fun i => (i.zero, i.size, i.bytes)) = some (some (.nilIface), 1, 16))
    (v : Value) (L : List Pt) (hs : a.eval s = v) (hown : OwnP w base v L) (tb sy : Int) (y : Value) (xs : List Int) (hy : Own w base 3 .i64 y xs)
    (hx : a.eval x = .slice (some ⟨gb, 0, none⟩) 2 2) (hlen : L.length < 1000000000)
    (h : ∀ v' w', OwnP w' base v' (L ++ [.inl (tb, sy), .inr xs]) → Below base w w' → (∀ (g : Nat) (cur : Array Value) (tt : TypeId), tt ≠ 85 → w.heap[g]? = some (.cells cur tt (0, 0)) → w'.heap[g]? = some (.cells cur tt (0, 0))) → wpList P ops Q rest (a.put o.dst v') w') : wpList P ops Q (o :: rest) a (w.alloc (.cells #[.iface 110 (.agg #[.int .i64 tb, .int .i64 sy]), .iface 112 (.agg #[y])] 85)) := by
  subst hgb
  obtain ⟨i, hi, hz0, hz1, hz2⟩ := info_parts hinfo
  obtain ⟨hb, vs, hvl, hrow, hels⟩ := hown
  have hlt := hrow.lt
  refine wpList_append_own _ hgd s x t ho base 85 i .nilIface 1 16 ht hi hz0 hz1 hz2 rfl (by decide) v L.length _ hs (hrow.alloc _) ⟨w.heap.size, 0, none⟩ 2 2 [.iface 110 (.agg #[.int .i64 tb, .int .i64 sy]), .iface 112 (.agg #[y])] hx rfl ?_ ?_ (by unfold maxLen; omega) (by omega) (Nat.le_trans hb (by simp)) ?_
  · intro j u hj
    match j, hj with
    | 0, hj => simp at hj; subst hj; simp [Addr.add]
    | 1, hj => simp at hj; subst hj; simp [Addr.add]
  · intro u hu; simp at hu; rcases hu with rfl | rfl <;> rfl
  · intro v' w' hown' hgrow _
    have hsz : w.heap.size ≤ w'.heap.size := Nat.le_trans (by simp) hgrow.size
    have hkeep : ∀ (g : Nat) (cur : Array Value) (tt : TypeId), tt ≠ 85 → w.heap[g]? = some (.cells cur tt (0, 0)) → w'.heap[g]? = some (.cells cur tt (0, 0)) := by
      intro g cur tt htt hg
      have hglt : g < w.heap.size := (Array.getElem?_eq_some_iff.1 hg).1
      have h1 : (w.alloc (.cells #[.iface 110 (.agg #[.int .i64 tb, .int .i64 sy]), .iface 112 (.agg #[y])] 85)).heap[g]? = some (.cells cur tt (0, 0)) := (((Below.refl w.heap.size w).alloc (Nat.le_refl _) _).block g hglt).trans hg
      refine (hgrow.block g (Nat.lt_trans hglt (by simp)) ?_).trans h1
      intro eq
      rcases hrow.2 with ⟨hv, _⟩ | ⟨g', cap, cur', hv, hg', hh, _⟩
      · subst hv; cases eq
      · subst hv
        have : g = g' := by simpa [Value.ownBlock] using eq
        subst this
        rw [hg] at hh
        cases hh
        exact htt rfl
    refine h v' w' ⟨Nat.le_trans hb hsz, vs ++ [.iface 110 (.agg #[.int .i64 tb, .int .i64 sy]), .iface 112 (.agg #[y])], by simp [hvl], ?_, fun j hj => ?_⟩ ?_ hkeep
    · simpa using hown'
    · by_cases e : j < L.length
      · rw [nthP_left L _ j e]
        have : (vs ++ [Value.iface 110 (.agg #[.int .i64 tb, .int .i64 sy]), Value.iface 112 (.agg #[y])]).getD j (.bool false) = vs.getD j (.bool false) := by
          simp only [List.getD]
          rw [List.getElem?_append_left (by omega)]
        rw [this]
        exact (hels j e).keep hsz (fun g cur _ hg => hkeep g cur 3 (by decide) hg)
      · have hj2 : j < L.length + 2 := by simpa using hj
        have hget : ∀ i, (vs ++ [Value.iface 110 (.agg #[.int .i64 tb, .int .i64 sy]), Value.iface 112 (.agg #[y])]).getD (L.length + i) (.bool false) = [Value.iface 110 (.agg #[.int .i64 tb, .int .i64 sy]), Value.iface 112 (.agg #[y])].getD i (.bool false) := fun i => by
          simp only [List.getD]
          rw [List.getElem?_append_right (by omega), hvl, Nat.add_sub_cancel_left]
        obtain rfl | rfl : j = L.length + 0 ∨ j = L.length + 1 := by omega
        · rw [nthP_right, hget]
          exact rfl
        · rw [nthP_right, hget]
          exact PtAt.keep (w := w) (p := .inr xs) ⟨y, rfl, hy⟩ hsz (fun g cur _ hg => hkeep g cur 3 (by decide) hg)
    · exact ((Below.refl base w).alloc hb _).grown hgrow (Nat.le_trans hb (by simp)) (fun g hg => (hlt g hg).1)

/-- The parts of the first k steps. -/
def ptsS (S : List (Int × Int × List Int)) : Nat → List Pt
  | 0 => []
  | k + 1 => ptsS S k ++ [.inl (1, (16 * (nthS S k).1 + (nthS S k).2.1)), .inr (nthS S k).2.2]
/-- What Shift tells of block k. -/
def df (L : List (Int × List Int)) (k : Nat) : Int := (nth L k).1 - ahead true L k
/-- The parts of the first k blocks. -/
def ptsTo (L : List (Int × List Int)) : Nat → List Pt
  | 0 => []
  | k + 1 => ptsTo L k ++ [.inl (0, (sz (df L k))), .inr (restL (df L k))] ++ ptsS (stepsR (nth L k).1 (nth L k).2) (stepsR (nth L k).1 (nth L k).2).length
theorem ptsS_len (S : List (Int × Int × List Int)) : ∀ k, (ptsS S k).length = 2 * k
  | 0 => rfl
  | k + 1 => by rw [ptsS, List.length_append, ptsS_len S k]; simp; omega

theorem stepTo_fine (xs : List Int) (hin : ∀ k, k < 63 → -1023 ≤ xs.getD k 0 ∧ xs.getD k 0 ≤ 1023) : ∀ k, k ≤ 63 → ∀ s ∈ (stepTo xs k).1, (0 ≤ s.1 ∧ s.1 ≤ 15) ∧ (0 ≤ s.2.1 ∧ s.2.1 ≤ 10) ∧ s.2.2.length ≤ 11
  | 0, _, s, hs => by simp [stepTo] at hs
  | k + 1, hk, s, hs => by
    by_cases h : xs.getD k 0 = 0
    · rw [stepTo_zero xs k h] at hs
      exact stepTo_fine xs hin k (by omega) s hs
    · rw [stepTo_num xs k h] at hs
      simp only [List.mem_append, List.mem_replicate, List.mem_singleton] at hs
      rcases hs with (hs | hs) | hs
      · exact stepTo_fine xs hin k (by omega) s hs
      · rw [hs.2]; exact ⟨by decide, by decide, by decide⟩
      · rw [hs]
        have h1 := hin k (by omega)
        have h2 := sz_in (x := xs.getD k 0) (by omega)
        have h4 := (bitLen_at (xs.getD k 0).natAbs 10 (by omega) (by omega)).1
        refine ⟨⟨by show (0 : Int) ≤ ((_ % 16 : Nat) : Int); omega, by show ((_ % 16 : Nat) : Int) ≤ 15; omega⟩, ⟨by show 0 ≤ sz _; rw [h2]; omega, ?_⟩, restL_len _⟩
        show sz _ ≤ 10
        rw [h2]
        omega
theorem nthS_mem (S : List (Int × Int × List Int)) (j : Nat) (h : j < S.length) : nthS S j ∈ S := by simp [nthS, List.getD, h]
theorem stepsR_fine (d : Int) (xs : List Int) (hb : blkOk d xs = true) : (stepsR d xs).length ≤ 63 ∧ ∀ j, j < (stepsR d xs).length → (0 ≤ (nthS (stepsR d xs) j).1 ∧ (nthS (stepsR d xs) j).1 ≤ 15) ∧ (0 ≤ (nthS (stepsR d xs) j).2.1 ∧ (nthS (stepsR d xs) j).2.1 ≤ 10) ∧ (nthS (stepsR d xs) j).2.2.length ≤ 11 := by
  have hin : ∀ k, k < 63 → -1023 ≤ xs.getD k 0 ∧ xs.getD k 0 ≤ 1023 := by
    unfold blkOk at hb
    simp only [Bool.and_eq_true, decide_eq_true_eq] at hb
    obtain ⟨_, _, hco⟩ := hb
    exact fun k hk => by simpa [inC] using coefTo_at xs 63 hco k hk
  have hl := stepTo_len xs 63
  have hf := stepTo_fine xs hin 63 (Nat.le_refl _)
  unfold stepsR
  rw [if_pos hb]
  unfold stepsOf
  by_cases h : 0 < (stepTo xs 63).2
  · rw [if_pos h]
    refine ⟨by rw [List.length_append, List.length_singleton]; omega, fun j hj => ?_⟩
    have hm := nthS_mem _ j hj
    rw [List.mem_append, List.mem_singleton] at hm
    rcases hm with hm | hm
    · exact hf _ hm
    · rw [hm]; exact ⟨by decide, by decide, by decide⟩
  · rw [if_neg h]
    exact ⟨by omega, fun j hj => hf _ (nthS_mem _ j hj)⟩
theorem df_bd (L : List (Int × List Int)) (k : Nat) (h : oksTo L L.length = true) (hk : k < L.length) : -2046 ≤ df L k ∧ df L k ≤ 2046 := by
  have h1 := blkOk_dc (oksTo_at L L.length h k hk)
  have h2 : -1023 ≤ ahead true L k ∧ ahead true L k ≤ 1023 := by
    unfold ahead
    split
    · exact blkOk_dc (oksTo_at L L.length h (k - 1) (by omega))
    · omega
  unfold df
  omega
theorem shl_get (up : Bool) (L : List (Int × List Int)) : ∀ n i, i < n → (shl up L n).getD i 0 = (nth L i).1 - ahead up L i
  | n + 1, i, hi => by
    have hl := shl_len up L n
    rw [shl]
    simp only [List.getD]
    by_cases e : i = n
    · subst e
      rw [List.getElem?_append_right (by omega)]
      simp [hl]
    · rw [List.getElem?_append_left (by omega)]
      exact shl_get up L n i (by omega)
theorem ptsTo_len (L : List (Int × List Int)) (h : oksTo L L.length = true) : ∀ k, k ≤ L.length → (ptsTo L k).length ≤ k * 128
  | 0, _ => by simp [ptsTo]
  | k + 1, hk => by
    have h1 := ptsTo_len L h k (by omega)
    have h2 := (stepsR_fine _ _ (oksTo_at L L.length h k (by omega))).1
    rw [ptsTo, List.length_append, List.length_append, ptsS_len]
    simp
    omega
end Go.Proofs.Ytcikmgdfelejpaa

/- The contract of partsOf. -/
namespace Go.Proofs.Ytcikmgdfelejpaa
open Go.RowKit
set_option linter.unusedVariables false

theorem OwnT.at_ {w : World} {base : Nat} {ao : Option Addr} {n c : Nat} {S : List (Int × Int × List Int)} {vs : List Value} (h : OwnT w base (.slice ao n c) S vs) (j : Nat) (hj : j < S.length) :
    ∃ g a c', ao = some ⟨g, 0, none⟩ ∧ w.cell? ⟨g, j * 3, none⟩ = some (.int .i64 (nthS S j).1) ∧ w.cell? ⟨g, j * 3 + 1, none⟩ = some (.int .i64 (nthS S j).2.1) ∧ w.cell? ⟨g, j * 3 + 2, none⟩ = some (.slice a (nthS S j).2.2.length c') ∧ Own w base 3 .i64 (.slice a (nthS S j).2.2.length c') (nthS S j).2.2 := by
  obtain ⟨_, hl, h2, h3, _⟩ := h
  have ho := h3 j hj
  obtain ⟨a, c', hy⟩ := ho.shape
  rcases h2.2 with ⟨_, h0⟩ | ⟨g, cap, cur, hv', _⟩
  · omega
  · cases hv'
    have hc := flS_at S vs S.length j hj
    have c0 := h2.cells (g := g) (by simp [Value.ownBlock]) (j * 3) _ hc.1
    have c1 := h2.cells (g := g) (by simp [Value.ownBlock]) (j * 3 + 1) _ hc.2.1
    have c2 := h2.cells (g := g) (by simp [Value.ownBlock]) (j * 3 + 2) _ hc.2.2
    rw [Addr.add_lit, Nat.zero_add] at c0 c1 c2
    rw [hy] at c2 ho
    exact ⟨g, a, c', rfl, c0, c1, c2, ho⟩
theorem OwnT.keepT {w w' : World} {base : Nat} {v : Value} {S : List (Int × Int × List Int)} {vs : List Value} (h : OwnT w base v S vs) (hs : w.heap.size ≤ w'.heap.size) (hk : ∀ (g : Nat) (cur : Array Value) (tt : TypeId), tt ≠ 85 → w.heap[g]? = some (.cells cur tt (0, 0)) → w'.heap[g]? = some (.cells cur tt (0, 0))) : OwnT w' base v S vs := by
  obtain ⟨h1, h2, h3, h4, h5⟩ := h
  refine ⟨Nat.le_trans h1 hs, h2, ⟨h3.1, ?_⟩, fun j hj => ?_, h5⟩
  · rcases h3.2 with h0 | ⟨g, cap, cur, hv, hg, hh, r⟩
    · exact .inl h0
    · exact .inr ⟨g, cap, cur, hv, hg, hk g cur 73 (by decide) hh, r⟩
  · have ho := h4 j hj
    refine ⟨Nat.le_trans ho.1 hs, ho.2.1, ?_⟩
    rcases ho.2.2 with h0 | ⟨g, cap, cur, hv, hg, hh, r⟩
    · exact .inl h0
    · exact .inr ⟨g, cap, cur, hv, hg, hk g cur 3 (by decide) hh, r⟩

theorem parts_no (ao : Option Addr) (cap : Nat) (L : List (Int × List Int)) (w : World) (hn : L.length ≤ 1048576) (hs : ∀ j, j < L.length → (nth L j).2.length ≤ 1048576) (hv : BRow w ao L) (hno : ¬ (L.length ≤ 1600 ∧ oksTo L L.length = true)) :
    Calls Try.prog 46 #[.slice ao L.length cap] w fun e w' => e = .returned (.tuple #[.slice none 0 0, .bool false]) ∧ Below w.heap.size w w' := by
  by_cases hl : (1600 : Int) < (L.length : Int)
  · clear hv hs
    go_enter Try.func46, Try.ntmps46
    go_wp2_with fail
    go_ret2
    exact ⟨rfl, Below.refl _ _⟩
  · have HI := hid (impl_shift ao cap L true w hn hs hv)
    rw [shR_no (up := true) (fun h => hno ⟨by omega, h.2⟩)] at HI
    clear hv hs hno
    go_enter Try.func46, Try.ntmps46
    go_wp2_with fail
    refine HI.out.mono ?_
    rintro e w1 ⟨v1, rfl, ho1, hb1⟩
    obtain ⟨d1, c1, rfl⟩ := ho1.shape
    have B1 := hid hb1
    clear ho1 hb1
    go_wp2_with fail
    go_ret2
    exact ⟨rfl, B1.out⟩

set_option maxRecDepth 100000 in
set_option maxHeartbeats 1600000 in
theorem parts_yes (ao : Option Addr) (cap : Nat) (L : List (Int × List Int)) (w : World) (hl : L.length ≤ 1600) (hok : oksTo L L.length = true) (hv : BRow w ao L) :
    Calls Try.prog 46 #[.slice ao L.length cap] w fun e w' => ∃ v, e = .returned (.tuple #[v, .bool true]) ∧ OwnP w' w.heap.size v (ptsTo L L.length) ∧ Below w.heap.size w w' := by
  have hs : ∀ j, j < L.length → (nth L j).2.length ≤ 1048576 := fun j hj => by
    have := oksTo_at L L.length hok j hj
    unfold blkOk at this
    simp only [Bool.and_eq_true, decide_eq_true_eq] at this
    omega
  have HI := hid (impl_shift ao cap L true w (by omega) hs hv)
  rw [shR_yes (up := true) (by omega) hok] at HI
  have HV := hid hv
  have HSZ := hid hs
  have HOK := hid (oksTo_at L L.length hok)
  have HDF := hid (fun k hk => df_bd L k hok hk)
  have HPL := hid (fun k hk => ptsTo_len L hok k hk)
  have HG := hid (fun i hi => shl_get true L L.length i hi)
  have HLN := hid (shl_len true L L.length)
  have hl' : ¬ (1600 : Int) < (L.length : Int) := by omega
  clear hv hs hok
  generalize shl true L L.length = ST at *
  go_enter Try.func46, Try.ntmps46
  go_wp2_with fail
  refine HI.out.mono ?_
  rintro e w1 ⟨v1, rfl, ho1, hb1⟩
  obtain ⟨d1, c1, rfl, hv1⟩ := ho1.view
  simp only [HLN.out] at hv1 ⊢
  have HV1 := hid hv1
  have B1 := hid hb1
  have HO0 := hid (OwnP.empty w1 w1.heap.size (Nat.le_refl _))
  have HBA := hid ((Below.refl w1.heap.size w1).alloc (Nat.le_refl _) (.cells #[] 85))
  clear ho1 hb1 hv1 HI
  go_wp2_with fail
  generalize w1.alloc (.cells #[] 85) = wa at *
  go_loopw [6, 25] (fun p i wr => ∃ k : Nat, k ≤ L.length ∧ i = .int .i64 k ∧ Hid (OwnP wr w1.heap.size p (ptsTo L k)) ∧ Hid (Below w1.heap.size w1 wr)) (fun _ i _ => L.length - (intOf i).toNat)
  case atStart => exact ⟨0, by omega, rfl, HO0.out, HBA.out⟩
  case round =>
    obtain ⟨k, hk, rfl, hown, hb⟩ := hrel
    clear HO0 HBA
    obtain ⟨po, pc, rfl⟩ := hown.out.shape
    by_cases hlt : k < L.length
    · have hlt' : (k : Int) < (L.length : Int) := by omega
      have hpl := HPL.out k hk
      have HBW := hid (B1.out.trans (hb.out.mono B1.out.size))
      obtain ⟨b, off, a, c, rfl, hc1w, hc2w, hvw⟩ := HV.out k hlt
      have hc1 := (HBW.out.cell (p := ⟨b, off + k * 2, none⟩) (World.block_lt_of_cell? w _ hc1w)).trans hc1w
      have hc2 := (HBW.out.cell (p := ⟨b, off + k * 2 + 1, none⟩) (World.block_lt_of_cell? w _ hc2w)).trans hc2w
      clear hc1w hc2w
      obtain ⟨b2, off2, rfl, hd2⟩ := HV1.out.2 k hlt
      have hd : wr.cell? ⟨b2, off2 + k, none⟩ = some (.int .i64 (df L k)) := by
        rw [(hb.out.cell (p := ⟨b2, off2 + k, none⟩) (World.block_lt_of_cell? w1 _ hd2)).trans hd2, HG.out k hlt]; rfl
      have hdf := HDF.out k hlt
      have HF := hid (stepsR_fine _ _ (HOK.out k hlt))
      have hxl := HSZ.out k hlt
      have HPN := hid (show ptsTo L (k + 1) = ptsTo L k ++ [.inl (0, (sz (df L k))), .inr (restL (df L k))] ++ ptsS (stepsR (nth L k).1 (nth L k).2) (stepsR (nth L k).1 (nth L k).2).length from rfl)
      have HBC := hid ((Below.refl wr.heap.size wr).alloc (Nat.le_refl _) (.cells #[.int .i64 (nth L k).1, .slice a (nth L k).2.length c] 71))
      have HT := hid (Two.new wr (.int .i64 (nth L k).1) (.slice a (nth L k).2.length c) 71)
      have HIS := hid (fun q (hq : Below w.heap.size w q) => impl_steps (.agg #[.int .i64 (nth L k).1, .slice a (nth L k).2.length c]) (nth L k).1 (nth L k).2 q hxl ⟨a, c, rfl, hvw.below (Nat.le_refl _) hq⟩)
      have HO2 := hid (hown.out.below HBC.out)
      have hsr : w1.heap.size ≤ wr.heap.size := hb.out.size
      have hd' : (wr.alloc (.cells #[.int .i64 (nth L k).1, .slice a (nth L k).2.length c] 71)).cell? ⟨b2, off2 + k, none⟩ = some (.int .i64 (df L k)) := (HBC.out.cell (p := ⟨b2, off2 + k, none⟩) (World.block_lt_of_cell? wr _ hd)).trans hd
      generalize stepsR (nth L k).1 (nth L k).2 = S at *
      generalize (nth L k).1 = D at *
      generalize (nth L k).2 = XS at *
      generalize df L k = X at *
      generalize hP : ptsTo L k = PK at *
      clear hvw hP hd hd2
      obtain ⟨hX0, hX1⟩ := hdf
      go_wp2_with fail
      refine (impl_size X _ (by omega) (by omega)).mono ?_
      rintro e w2 ⟨rfl, rfl⟩
      have HRS := hid (fun q => impl_rest X q (by omega) (by omega))
      go_wp2_with fail
      refine (HRS.out _).mono ?_
      generalize wr.alloc (.cells #[.int .i64 D, .slice a XS.length c] 71) = w2 at *
      rintro e w3 ⟨v3, rfl, ho3, hb3⟩
      obtain ⟨ya, yc, rfl⟩ := ho3.shape
      have HO3 := hid (HO2.out.below hb3)
      have HT3 := hid (HT.out.below hb3 HT.out.lt)
      have HB3 := hid (HBC.out.trans (hb3.mono HBC.out.size))
      have HY3 := hid (ho3.mono (Nat.le_trans hsr HBC.out.size))
      have hs3 : wr.heap.size < w3.heap.size := Nat.lt_of_lt_of_le HT.out.lt hb3.size
      clear ho3 hb3 hc1 hc2 hd' HRS
      go_wp2_with (at_builtin; refine wpList_pushP w3 w3.heap.size rfl rfl _ _ 81 rfl w1.heap.size Try.underlying81 Try.info85 _ PK (by rfl) HO3.out 0 (sz X) (.slice ya (restL X).length yc) (restL X) HY3.out (by rfl) (by omega) ?_)
      intro v4 w4 ho4 hb4 hkp4
      obtain ⟨p4, q4, rfl⟩ := ho4.shape
      have HT4 := hid (show Two w4 wr.heap.size (.int .i64 D) (.slice a XS.length c) 71 from hkp4 _ _ 71 (by decide) HT3.out)
      have HB34 := hid ((HB3.out.mono hsr).trans hb4)
      have HB4 := hid (hb.out.trans HB34.out)
      have HO4 := hid ho4
      have HBW4 := hid (B1.out.trans (HB4.out.mono B1.out.size))
      clear ho4 hb4 hkp4 HO3 HT3 HY3 HB3 HB34 HO2 HT HBC hown hb HBW
      obtain ⟨q1, q2, q3, q4⟩ := HT4.out.cells
      go_wp2_with fail
      refine (HIS.out _ HBW4.out).mono ?_
      rintro e w5 ⟨v5, rfl, ⟨vs, hot⟩, hb5⟩
      obtain ⟨so, sc, rfl⟩ := hot.shape
      have HO5 := hid (HO4.out.below hb5)
      have HB5 := hid (HB4.out.trans (hb5.mono HB4.out.size))
      have HOT := hid hot
      have hw4 : w1.heap.size ≤ w4.heap.size := HB4.out.size
      have HPS0 := hid (show PK ++ [.inl (0, (sz X)), .inr (restL X)] ++ ptsS S 0 = PK ++ [.inl (0, (sz X)), .inr (restL X)] by simp [ptsS])
      have hSl := HF.out.1
      have HPLN := hid (show (PK ++ [Sum.inl (0, (sz X)), Sum.inr (restL X)]).length = PK.length + 2 by simp)
      clear hot hb5 HO4 HB4 HIS HBW4 HT4 q1 q2 q3 q4
      generalize PK ++ [Sum.inl (0, (sz X)), Sum.inr (restL X)] = PJ at *
      go_wp2_with fail
      go_loopw [6, 48] (fun p j wq => ∃ m : Nat, m ≤ S.length ∧ j = .int .i64 m ∧ Hid (OwnP wq w1.heap.size p (PJ ++ ptsS S m)) ∧ Hid (OwnT wq w4.heap.size (.slice so S.length sc) S vs) ∧ Hid (Below w1.heap.size w1 wq)) (fun _ j _ => S.length - (intOf j).toNat)
      case atStart => exact ⟨0, by omega, rfl, by rw [HPS0.out]; exact HO5.out, HOT.out, HB5.out⟩
      case round =>
        obtain ⟨m, hm, rfl, hp, ht, hb⟩ := hrel
        clear HO5 HOT HB5 HPS0
        obtain ⟨p5, c5, rfl⟩ := hp.out.shape
        by_cases hlt2 : m < S.length
        · have hlt2' : (m : Int) < (S.length : Int) := by omega
          obtain ⟨g, ya', yc', rfl, r0, r1, r2, hoy⟩ := ht.out.at_ m hlt2
          have hfi := HF.out.2 m hlt2
          have HNX := hid (show PJ ++ ptsS S (m + 1) = PJ ++ ptsS S m ++ [.inl (1, (16 * (nthS S m).1 + (nthS S m).2.1)), .inr (nthS S m).2.2] by rw [ptsS, List.append_assoc])
          have HML := hid (show (PJ ++ ptsS S m).length < 1000000000 by rw [List.length_append, ptsS_len, HPLN.out]; omega)
          generalize (nthS S m).1 = R at *
          generalize (nthS S m).2.1 = N at *
          generalize (nthS S m).2.2 = BT at *
          generalize PJ ++ ptsS S m = PM at *
          obtain ⟨⟨f0, f1⟩, ⟨f2, f3⟩, f4⟩ := hfi
          have hml := HML.out
          have HBC2 := hid ((Below.refl wr.heap.size wr).alloc (Nat.le_refl _) (.cells #[.int .i64 R, .int .i64 N, .slice ya' BT.length yc'] 73))
          have HP2 := hid (hp.out.below HBC2.out)
          have HT2 := hid (ht.out.below HBC2.out)
          have HY2 := hid ((hoy.below HBC2.out).mono hw4)
          have HB2 := hid (hb.out.trans (HBC2.out.mono hb.out.size))
          clear hoy hp ht hb HML
          go_wp2_with (at_builtin; refine wpList_pushP (wr.alloc (.cells #[.int .i64 R, .int .i64 N, .slice ya' BT.length yc'] 73)) (wr.heap.size + 1) (by simp) rfl _ _ 81 rfl w1.heap.size Try.underlying81 Try.info85 _ PM (by rfl) HP2.out 1 (16 * R + N) (.slice ya' BT.length yc') BT HY2.out (by rfl) hml ?_)
          intro v6 w6 ho6 hb6 hkp6
          obtain ⟨p6, c6, rfl⟩ := ho6.shape
          have HO6 := hid ho6
          have HT6 := hid (HT2.out.keepT hb6.size hkp6)
          have HB6 := hid (HB2.out.trans hb6)
          clear ho6 hb6 hkp6
          go_wp2_with fail
          go_roundw
          case rel => exact ⟨m + 1, by omega, by go_num, by rw [HNX.out]; exact HO6.out, HT6.out, HB6.out⟩
          case measure => simp [intOf]; omega
        · obtain rfl : m = S.length := by omega
          have HPN2 := hid HPN.out
          go_wp2_with fail
          go_roundw
          case rel => exact ⟨k + 1, by omega, by go_num, by rw [HPN2.out]; exact hp.out, hb.out⟩
          case measure => simp [intOf]; omega
    · obtain rfl : k = L.length := by omega
      go_wp2_with fail
      go_ret2
      exact ⟨_, rfl, hown.out.mono B1.out.size, B1.out.trans (hb.out.mono B1.out.size)⟩
end Go.Proofs.Ytcikmgdfelejpaa

/- Contracts of has, bitsOf and CodeOf of the program. -/
namespace Go.Proofs.Ytcikmgdfelejpaa
open Go.RowKit Go.Maps
set_option linter.unusedVariables false

/-- The two cells of a symbol's key. -/
theorem BookAt.key {w : World} {C M : Nat} {ss : List Int} {K : List (Nat × Int)} (h : BookAt w C M ss K) (j : Nat) (hj : j < 256) :
    w.cell? ⟨C, 1 + j * 2, none⟩ = some (.int .i64 (bookTo ss K j).1) ∧ w.cell? ⟨C, 1 + j * 2 + 1, none⟩ = some (.int .i64 (bookTo ss K j).2) := by
  obtain ⟨⟨arr, h1, h2, h3, h4⟩, _⟩ := h
  exact ⟨(h1.cell _).trans (h4 j hj).1, (h1.cell _).trans (h4 j hj).2⟩

set_option maxHeartbeats 800000 in
theorem has_any (C M : Nat) (ss : List Int) (K : List (Nat × Int)) (sym : Int) (w : World) (hb : BookAt w C M ss K) :
    Calls Try.prog 76 #[.pointer (some ⟨C, 0, none⟩), .int .i64 sym] w fun e w' => e = .returned (.bool (inB sym && decide (0 < ((bookTo ss K sym.toNat).1 : Int)))) ∧ w' = w := by
  by_cases hs : 0 ≤ sym ∧ sym ≤ 255
  · have hin := (inB_iff _).2 hs
    obtain ⟨j, rfl⟩ := Int.eq_ofNat_of_zero_le hs.1
    obtain ⟨q1, q2⟩ := hb.key j (by omega)
    have hj6 : (j : Int) < 256 := by omega
    rw [hin, Bool.true_and]
    show Calls _ _ _ _ fun e w' => e = .returned (.bool (decide (0 < ((bookTo ss K j).1 : Int)))) ∧ w' = w
    generalize (bookTo ss K j).1 = L at *
    generalize (bookTo ss K j).2 = D at *
    clear hb
    go_enter Try.func76, Try.ntmps76
    go_wp2_with (go_at_call 96; refine (isSym_any _ _).mono ?_; rw [hin]; rintro e w' ⟨rfl, rfl⟩)
    go_ret
    exact ⟨ret_bool (by simp), rfl⟩
  · have hin := (inB_no _).2 hs
    rw [hin, Bool.false_and]
    clear hb hs
    go_enter Try.func76, Try.ntmps76
    go_wp2_with (go_at_call 96; refine (isSym_any _ _).mono ?_; rw [hin]; rintro e w' ⟨rfl, rfl⟩)
    go_ret
    exact ⟨rfl, rfl⟩

set_option maxHeartbeats 800000 in
theorem bitsOf_any (C M : Nat) (ss : List Int) (K : List (Nat × Int)) (j : Nat) (w : World) (hj : j < 256) (hb : BookAt w C M ss K) (hk : KeyOk (bookTo ss K j)) :
    Calls Try.prog 77 #[.pointer (some ⟨C, 0, none⟩), .int .i64 j] w fun e w' => ∃ v, e = .returned v ∧ Own w' w.heap.size 3 .i64 v (bitsK (bookTo ss K j)) ∧ Below w.heap.size w w' := by
  obtain ⟨q1, q2⟩ := hb.key j hj
  obtain ⟨⟨k1, k2⟩, k3, k4⟩ := hk
  have hj6 : (j : Int) < 256 := by omega
  have HN := hid (fun q : World => impl_numBits (bookTo ss K j).2 (bookTo ss K j).1 q (by omega) k3 k4)
  have HE := hid (show bitsK (bookTo ss K j) = bl (rbX (bookTo ss K j).2 (bookTo ss K j).1) (bookTo ss K j).1 from rfl)
  generalize bitsK (bookTo ss K j) = R at *
  generalize (bookTo ss K j).1 = L at *
  generalize (bookTo ss K j).2 = D at *
  have HB := hid ((Below.refl w.heap.size w).alloc (Nat.le_refl _) (.cells #[.int .i64 (L : Int), .int .i64 D] 140))
  clear hb k4
  go_enter Try.func77, Try.ntmps77
  go_wp2_with fail
  refine (HN.out _).mono ?_
  rintro e w1 ⟨v, rfl, hown, hb1⟩
  have HO := hid (hown.mono HB.out.size)
  have HB1 := hid (HB.out.trans (hb1.mono HB.out.size))
  clear hown hb1
  go_wp2
  go_ret
  exact ⟨_, rfl, by rw [HE.out]; exact HO.out, HB1.out⟩

end Go.Proofs.Ytcikmgdfelejpaa

/- Contracts of booksOf, and of a pair of books' bits of a part. -/
namespace Go.Proofs.Ytcikmgdfelejpaa
open Go.RowKit Go.Maps
set_option linter.unusedVariables false

/-- The tables at v: codes for Dc, and codes for Ac. -/
def TV (w : World) (v : Value) (cs ss ct st : List Int) : Prop :=
  ∃ a0 c0 a1 c1 a2 c2 a3 c3, v = .agg #[.slice a0 cs.length c0, .slice a1 ss.length c1, .slice a2 ct.length c2, .slice a3 st.length c3] ∧ CV w (.agg #[.slice a0 cs.length c0, .slice a1 ss.length c1]) cs ss ∧ CV w (.agg #[.slice a2 ct.length c2, .slice a3 st.length c3]) ct st
theorem TV.below {w w' : World} {v : Value} {cs ss ct st : List Int} (h : TV w v cs ss ct st) (hb : Below w.heap.size w w') : TV w' v cs ss ct st := by
  obtain ⟨a0, c0, a1, c1, a2, c2, a3, c3, rfl, h1, h2⟩ := h
  exact ⟨a0, c0, a1, c1, a2, c2, a3, c3, rfl, h1.below hb, h2.below hb⟩
/-- Block b holds four cells. -/
def Four (w : World) (b : Nat) (x y z u : Value) (t : TypeId) : Prop := w.heap[b]? = some (.cells #[x, y, z, u] t (0, 0))
theorem Four.cells {w : World} {b : Nat} {x y z u : Value} {t : TypeId} (h : Four w b x y z u t) :
    w.cell? ⟨b, 0, none⟩ = some x ∧ w.cell? ⟨b, 1, none⟩ = some y ∧ w.cell? ⟨b, 2, none⟩ = some z ∧ w.cell? ⟨b, 3, none⟩ = some u := by
  refine ⟨?_, ?_, ?_, ?_⟩
  · rw [cell_of_row w b 0 _ t (0, 0) h]; rfl
  · rw [cell_of_row w b 1 _ t (0, 0) h]; rfl
  · rw [cell_of_row w b 2 _ t (0, 0) h]; rfl
  · rw [cell_of_row w b 3 _ t (0, 0) h]; rfl
theorem Four.lt {w : World} {b : Nat} {x y z u : Value} {t : TypeId} (h : Four w b x y z u t) : b < w.heap.size := (Array.getElem?_eq_some_iff.1 h).1
theorem Four.new (w : World) (x y z u : Value) (t : TypeId) : Four (w.alloc (.cells #[x, y, z, u] t)) w.heap.size x y z u t := heap_alloc_new w _
theorem Four.below {w w' : World} {B b : Nat} {x y z u : Value} {t : TypeId} (h : Four w b x y z u t) (hb : Below B w w') (hB : b < B) : Four w' b x y z u t := (hb.block b hB).trans h

/-- The books in memory, each at its place. -/
def Books (w : World) (C1 C2 : Nat) (cs ss ct st : List Int) : Prop := (∃ M, BookAt w C1 M ss (keysTo cs 16)) ∧ ∃ M, BookAt w C2 M st (keysTo ct 16)
theorem BookAt.blt {w : World} {C M : Nat} {ss : List Int} {K : List (Nat × Int)} (h : BookAt w C M ss K) : C < w.heap.size ∧ M < w.heap.size := by
  obtain ⟨⟨arr, h1, h2⟩, h3⟩ := h
  exact ⟨h1.lt, h3.lt⟩
theorem Books.below {w w' : World} {C1 C2 : Nat} {cs ss ct st : List Int} (h : Books w C1 C2 cs ss ct st) (hb : Below w.heap.size w w') : Books w' C1 C2 cs ss ct st := by
  obtain ⟨⟨M, h1⟩, M', h2⟩ := h
  exact ⟨⟨M, h1.below hb⟩, M', h2.below hb⟩

theorem BookAt.set {w : World} {C M b i : Nat} {ss : List Int} {K : List (Nat × Int)} {x y : Value} {t : TypeId} (h : BookAt w C M ss K) (ht : Two w b x y t) (hne : t ≠ 143) (u : Value) : BookAt (w.setCell ⟨b, i, none⟩ u) C M ss K := by
  obtain ⟨⟨arr, h1, h2⟩, h3⟩ := h
  obtain ⟨es, clock, hh, r⟩ := h3
  have hCb : C ≠ b := fun e => by
    subst e
    unfold Two at ht
    unfold Arr at h1
    rw [h1] at ht
    cases ht
    exact hne rfl
  have hMb : M ≠ b := fun e => by
    subst e
    unfold Two at ht
    rw [hh] at ht
    cases ht
  exact ⟨⟨arr, h1.other hCb u, h2⟩, es, clock, (heap_setCell_other _ ⟨b, i, none⟩ M _ (fun e => hMb e)).trans hh, r⟩
theorem Books.set {w : World} {C1 C2 b i : Nat} {cs ss ct st : List Int} {x y : Value} {t : TypeId} (h : Books w C1 C2 cs ss ct st) (ht : Two w b x y t) (hne : t ≠ 143) (u : Value) : Books (w.setCell ⟨b, i, none⟩ u) C1 C2 cs ss ct st := by
  obtain ⟨⟨M, h1⟩, M', h2⟩ := h
  exact ⟨⟨M, h1.set ht hne u⟩, M', h2.set ht hne u⟩

set_option maxRecDepth 100000 in
set_option maxHeartbeats 1600000 in
theorem books_yes (v : Value) (cs ss ct st : List Int) (w : World) (h0 : cs.length ≤ 1048576) (h1 : ss.length ≤ 1048576) (h2 : ct.length ≤ 1048576) (h3 : st.length ≤ 1048576) (hr : rightC cs ss = true) (hr2 : rightC ct st = true) (hv : TV w v cs ss ct st) :
    Calls Try.prog 45 #[v] w fun e w' => ∃ C1 C2, e = .returned (.tuple #[.agg #[.pointer (some ⟨C1, 0, none⟩), .pointer (some ⟨C2, 0, none⟩)], .bool true]) ∧ Books w' C1 C2 cs ss ct st ∧ Below w.heap.size w w' := by
  obtain ⟨a0, c0, a1, c1, a2, c2, a3, c3, rfl, u0, u1⟩ := hv
  have hA := (Below.refl w.heap.size w).alloc (Nat.le_refl _) (.cells #[.slice a0 cs.length c0, .slice a1 ss.length c1, .slice a2 ct.length c2, .slice a3 st.length c3] 34)
  have hA2 := hA.alloc hA.size (.cells #[.pointer none, .pointer none] 78)
  have HB := hid hA2
  have HF := hid ((Four.new w (.slice a0 cs.length c0) (.slice a1 ss.length c1) (.slice a2 ct.length c2) (.slice a3 st.length c3) 34).below ((Below.refl _ _).alloc (Nat.le_refl _) (.cells #[.pointer none, .pointer none] 78)) (Four.new w _ _ _ _ 34).lt)
  have HT := hid (Two.new (w.alloc (.cells #[.slice a0 cs.length c0, .slice a1 ss.length c1, .slice a2 ct.length c2, .slice a3 st.length c3] 34)) (.pointer none) (.pointer none) 78)
  have hsz : (w.alloc (.cells #[.slice a0 cs.length c0, .slice a1 ss.length c1, .slice a2 ct.length c2, .slice a3 st.length c3] 34)).heap.size = w.heap.size + 1 := by simp
  rw [hsz] at HT
  have HK1 := hid (fun q (hq : Below w.heap.size w q) => impl_ok (.agg #[.slice a0 cs.length c0, .slice a1 ss.length c1]) cs ss q h0 h1 (u0.below hq))
  have HK2 := hid (fun q (hq : Below w.heap.size w q) => impl_ok (.agg #[.slice a2 ct.length c2, .slice a3 st.length c3]) ct st q h2 h3 (u1.below hq))
  rw [hr] at HK1
  rw [hr2] at HK2
  have HN1 := hid (fun q (hq : Below w.heap.size w q) => book_any (.agg #[.slice a0 cs.length c0, .slice a1 ss.length c1]) cs ss q hr (u0.below hq))
  have HN2 := hid (fun q (hq : Below w.heap.size w q) => book_any (.agg #[.slice a2 ct.length c2, .slice a3 st.length c3]) ct st q hr2 (u1.below hq))
  clear u0 u1 hA hA2 hr hr2 h0 h1 h2 h3 hsz
  go_enter Try.func45, Try.ntmps45
  go_wp2_with fail
  refine (HK1.out _ HB.out).mono ?_
  generalize (w.alloc (.cells #[.slice a0 cs.length c0, .slice a1 ss.length c1, .slice a2 ct.length c2, .slice a3 st.length c3] 34)).alloc (.cells #[.pointer none, .pointer none] 78) = wa at *
  rintro e w1 ⟨rfl, hb1⟩
  have B1 := hid (HB.out.trans (hb1.mono HB.out.size))
  have F1 := hid (HF.out.below hb1 HF.out.lt)
  have T1 := hid (HT.out.below hb1 HT.out.lt)
  obtain ⟨q0, q1, q2, q3⟩ := F1.out.cells
  clear hb1 HK1 HF HT
  go_wp2_with fail
  refine (HK2.out _ B1.out).mono ?_
  rintro e w2 ⟨rfl, hb2⟩
  have B2 := hid (B1.out.trans (hb2.mono B1.out.size))
  have F2 := hid (F1.out.below hb2 F1.out.lt)
  have T2 := hid (T1.out.below hb2 T1.out.lt)
  clear hb2 HK2 F1 T1 q0 q1 q2 q3 B1 HB
  have HFC := hid (fun q (hq : Below w2.heap.size w2 q) => (F2.out.below hq F2.out.lt).cells)
  have HTC := hid (fun q (hq : Below w2.heap.size w2 q) => (T2.out.below hq T2.out.lt).cells)
  obtain ⟨q0, q1, q2, q3⟩ := F2.out.cells
  obtain ⟨r0, r1, r2, r3⟩ := T2.out.cells
  go_wp2_with fail
  go_region_held3 (fun q => q.cell? ⟨w.heap.size, 0, none⟩ = some (.slice a0 cs.length c0) ∧ q.cell? ⟨w.heap.size, 1, none⟩ = some (.slice a1 ss.length c1) ∧ q.cell? ⟨w.heap.size, 2, none⟩ = some (.slice a2 ct.length c2) ∧ q.cell? ⟨w.heap.size, 3, none⟩ = some (.slice a3 st.length c3)) (go_keep) (first
    | (go_at_call 71; have hX := hcA; refine (HN2.out _ ?_).mono ?_; · first | exact B2.out.trans (hcA.mono B2.out.size) | exact B2.out.trans ((hcA.trans ((Below.refl _ _).drew.mono hcA.size)).mono B2.out.size)
       rintro e w4 ⟨C2, M2, rfl, hk2, hb4⟩
       have hcB : Below w2.heap.size w2 w4 := by first | exact hcA.trans (hb4.mono hcA.size) | exact hcA.trans ((Below.trans (Below.refl _ _).drew hb4).mono hcA.size)
       have hk1' : BookAt w4 C1 M1 ss (keysTo cs 16) := by first | exact hk1.below hb4 | exact (hk1.below (Below.refl _ _).drew).below hb4
       obtain ⟨f0, f1, f2, f3⟩ := HFC.out _ hcB
       obtain ⟨g0, g1, g2, g3⟩ := HTC.out _ hcB)
    | (go_at_call 71; refine (HN1.out _ ?_).mono ?_; · first | exact B2.out | exact B2.out.trans ((Below.refl _ _).drew.mono B2.out.size)
       rintro e w3 ⟨C1, M1, rfl, hk1, hb3⟩
       have hcA : Below w2.heap.size w2 w3 := by first | exact hb3 | exact Below.trans (Below.refl _ _).drew hb3
       obtain ⟨e0, e1, e2, e3⟩ := HFC.out _ hcA
       obtain ⟨d0, d1, d2, d3⟩ := HTC.out _ hcA))
  all_goals
    have HBF := hid (B2.out.trans (hcB.mono B2.out.size))
    have HK := hid (show Books w4 C1 C2 cs ss ct st from ⟨⟨M1, hk1'⟩, M2, hk2⟩)
    have HS1 := hid (T2.out.below hcB T2.out.lt)
    clear hcA hcB hk1 hk1' hk2 hb3 hb4
    go_wp2_with fail
    refine bodyPost_ret (v := .tuple #[.agg #[.pointer (some ⟨C1, 0, none⟩), .pointer (some ⟨C2, 0, none⟩)], .bool true]) (by simp [results, Try.results45, go_sem, g0, g1]) rfl ⟨C1, C2, rfl, ?_, ?_⟩
    · exact (HK.out.set (i := 0) HS1.out (by decide) _).set (i := 1) (HS1.out.set0 _) (by decide) _
    · exact (HBF.out.setCell (p := ⟨w.heap.size + 1, 0, none⟩) (by show w.heap.size ≤ w.heap.size + 1; omega) _).setCell (p := ⟨w.heap.size + 1, 1, none⟩) (by show w.heap.size ≤ w.heap.size + 1; omega) _

set_option maxRecDepth 100000 in
set_option maxHeartbeats 1600000 in
theorem books_no (v : Value) (cs ss ct st : List Int) (w : World) (h0 : cs.length ≤ 1048576) (h1 : ss.length ≤ 1048576) (h2 : ct.length ≤ 1048576) (h3 : st.length ≤ 1048576) (hr : ¬ (rightC cs ss = true ∧ rightC ct st = true)) (hv : TV w v cs ss ct st) :
    Calls Try.prog 45 #[v] w fun e w' => e = .returned (.tuple #[.agg #[.pointer none, .pointer none], .bool false]) ∧ Below w.heap.size w w' := by
  obtain ⟨a0, c0, a1, c1, a2, c2, a3, c3, rfl, u0, u1⟩ := hv
  have hA := (Below.refl w.heap.size w).alloc (Nat.le_refl _) (.cells #[.slice a0 cs.length c0, .slice a1 ss.length c1, .slice a2 ct.length c2, .slice a3 st.length c3] 34)
  have hA2 := hA.alloc hA.size (.cells #[.pointer none, .pointer none] 78)
  have HB := hid hA2
  have HF := hid ((Four.new w (.slice a0 cs.length c0) (.slice a1 ss.length c1) (.slice a2 ct.length c2) (.slice a3 st.length c3) 34).below ((Below.refl _ _).alloc (Nat.le_refl _) (.cells #[.pointer none, .pointer none] 78)) (Four.new w _ _ _ _ 34).lt)
  have HT := hid (Two.new (w.alloc (.cells #[.slice a0 cs.length c0, .slice a1 ss.length c1, .slice a2 ct.length c2, .slice a3 st.length c3] 34)) (.pointer none) (.pointer none) 78)
  have hsz : (w.alloc (.cells #[.slice a0 cs.length c0, .slice a1 ss.length c1, .slice a2 ct.length c2, .slice a3 st.length c3] 34)).heap.size = w.heap.size + 1 := by simp
  rw [hsz] at HT
  have HK1 := hid (fun q (hq : Below w.heap.size w q) => impl_ok (.agg #[.slice a0 cs.length c0, .slice a1 ss.length c1]) cs ss q h0 h1 (u0.below hq))
  have HK2 := hid (fun q (hq : Below w.heap.size w q) => impl_ok (.agg #[.slice a2 ct.length c2, .slice a3 st.length c3]) ct st q h2 h3 (u1.below hq))
  clear u0 u1 hA hA2 h0 h1 h2 h3 hsz
  by_cases hr1 : rightC cs ss = true
  · have hr2 : rightC ct st = false := by
      have : ¬ rightC ct st = true := fun h => hr ⟨hr1, h⟩
      simpa using this
    rw [hr1] at HK1
    rw [hr2] at HK2
    clear hr hr1 hr2
    go_enter Try.func45, Try.ntmps45
    go_wp2_with fail
    refine (HK1.out _ HB.out).mono ?_
    generalize (w.alloc (.cells #[.slice a0 cs.length c0, .slice a1 ss.length c1, .slice a2 ct.length c2, .slice a3 st.length c3] 34)).alloc (.cells #[.pointer none, .pointer none] 78) = wa at *
    rintro e w1 ⟨rfl, hb1⟩
    have B1 := hid (HB.out.trans (hb1.mono HB.out.size))
    have F1 := hid (HF.out.below hb1 HF.out.lt)
    have T1 := hid (HT.out.below hb1 HT.out.lt)
    obtain ⟨q0, q1, q2, q3⟩ := F1.out.cells
    clear hb1 HK1 HF HT
    go_wp2_with fail
    refine (HK2.out _ B1.out).mono ?_
    rintro e w2 ⟨rfl, hb2⟩
    have B2 := hid (B1.out.trans (hb2.mono B1.out.size))
    have T2 := hid (T1.out.below hb2 T1.out.lt)
    clear hb2 HK2 F1 T1 q0 q1 q2 q3 B1 HB
    obtain ⟨r0, r1, r2, r3⟩ := T2.out.cells
    go_wp2_with fail
    refine bodyPost_ret (v := .tuple #[.agg #[.pointer none, .pointer none], .bool false]) (by simp [results, Try.results45, go_sem, r0, r1]) rfl ⟨rfl, ?_⟩
    exact (B2.out.setCell (p := ⟨w.heap.size + 1, 0, none⟩) (by show w.heap.size ≤ w.heap.size + 1; omega) _).setCell (p := ⟨w.heap.size + 1, 1, none⟩) (by show w.heap.size ≤ w.heap.size + 1; omega) _
  · have hr1' : rightC cs ss = false := by simpa using hr1
    rw [hr1'] at HK1
    clear hr hr1 hr1' HK2
    go_enter Try.func45, Try.ntmps45
    go_wp2_with fail
    refine (HK1.out _ HB.out).mono ?_
    generalize (w.alloc (.cells #[.slice a0 cs.length c0, .slice a1 ss.length c1, .slice a2 ct.length c2, .slice a3 st.length c3] 34)).alloc (.cells #[.pointer none, .pointer none] 78) = wa at *
    rintro e w1 ⟨rfl, hb1⟩
    have B2 := hid (HB.out.trans (hb1.mono HB.out.size))
    have T2 := hid (HT.out.below hb1 HT.out.lt)
    clear hb1 HK1 HF HT
    obtain ⟨r0, r1, r2, r3⟩ := T2.out.cells
    go_wp2_with fail
    refine bodyPost_ret (v := .tuple #[.agg #[.pointer none, .pointer none], .bool false]) (by simp [results, Try.results45, go_sem, r0, r1]) rfl ⟨rfl, ?_⟩
    exact (B2.out.setCell (p := ⟨w.heap.size + 1, 0, none⟩) (by show w.heap.size ≤ w.heap.size + 1; omega) _).setCell (p := ⟨w.heap.size + 1, 1, none⟩) (by show w.heap.size ≤ w.heap.size + 1; omega) _

theorem ta_ss (v : Value) (w : World) : (Instr.typeAssert (.iface 110 v) 85 110 true).run Try.prog w = .ok (.tuple #[v, .bool true]) w := by kernel_rfl
theorem ta_bb (v : Value) (w : World) : (Instr.typeAssert (.iface 112 v) 85 112 true).run Try.prog w = .ok (.tuple #[v, .bool true]) w := by kernel_rfl
theorem ta_bs (v : Value) (w : World) : (Instr.typeAssert (.iface 112 v) 85 110 true).run Try.prog w = .ok (.tuple #[.agg #[.int .i64 0, .int .i64 0], .bool false]) w := by kernel_rfl

set_option maxRecDepth 100000 in
/-- The bits of a part of bits. -/
theorem bitsOf_b (C1 C2 : Nat) (ya : Option Addr) (yn yc : Nat) (w : World) :
    Calls Try.prog 47 #[.agg #[.pointer (some ⟨C1, 0, none⟩), .pointer (some ⟨C2, 0, none⟩)], .iface 112 (.agg #[.slice ya yn yc])] w fun e w' => e = .returned (.tuple #[.slice ya yn yc, .bool true]) ∧ Below w.heap.size w w' := by
  have HB := hid (((Below.refl w.heap.size w).alloc (Nat.le_refl _) (.cells #[.pointer (some ⟨C1, 0, none⟩), .pointer (some ⟨C2, 0, none⟩)] 78)).alloc (by simp) (.cells #[.slice ya yn yc] 112))
  have t1 := ta_bs
  have t2 := ta_bb
  go_enter Try.func47, Try.ntmps47
  go_wp2_with fail
  go_ret2
  exact ⟨rfl, HB.out⟩

/-- What a symbol's bits are: none where it has no code. -/
def SymP (code : List Int) (w : World) (e : Ending) (w' : World) : Prop :=
  (code.length = 0 ∧ e = .returned (.tuple #[.slice none 0 0, .bool false]) ∨ 0 < code.length ∧ ∃ v, e = .returned (.tuple #[v, .bool true]) ∧ Own w' w.heap.size 3 .i64 v code) ∧ Below w.heap.size w w'

set_option maxRecDepth 100000 in
set_option maxHeartbeats 1600000 in
theorem bitsOf_s (C1 C2 : Nat) (t : Nat) (x : Int) (cs ss ct st : List Int) (w : World) (ht : t = 0 ∨ t = 1) (hr : rightC cs ss = true) (hr2 : rightC ct st = true) (hk : Books w C1 C2 cs ss ct st) :
    Calls Try.prog 47 #[.agg #[.pointer (some ⟨C1, 0, none⟩), .pointer (some ⟨C2, 0, none⟩)], .iface 110 (.agg #[.int .i64 t, .int .i64 x])] w (SymP (if t = 0 then codeL cs ss x else codeL ct st x) w) := by
  obtain ⟨C, M, cc, sc, hC, hrc, hbk, hcode⟩ : ∃ C M cc sc, C = (if t = 0 then C1 else C2) ∧ rightC cc sc = true ∧ BookAt w C M sc (keysTo cc 16) ∧ (if t = 0 then codeL cs ss x else codeL ct st x) = codeL cc sc x := by
    obtain ⟨⟨M, h1⟩, M', h2⟩ := hk
    rcases ht with rfl | rfl
    · exact ⟨C1, M, cs, ss, rfl, hr, h1, rfl⟩
    · exact ⟨C2, M', ct, st, rfl, hr2, h2, rfl⟩
  rw [hcode]
  have HB0 := hid (((Below.refl w.heap.size w).alloc (Nat.le_refl _) (.cells #[.pointer (some ⟨C1, 0, none⟩), .pointer (some ⟨C2, 0, none⟩)] 78)).alloc (by simp) (.cells #[.int .i64 t, .int .i64 x] 110))
  have HH := hid (has_any C M sc (keysTo cc 16) x _ (hbk.below HB0.out))
  have HKEY := hid (book_key cc sc hrc)
  have HBK := hid (hbk.below HB0.out)
  have T1 := hid ((Two.new w (.pointer (some ⟨C1, 0, none⟩)) (.pointer (some ⟨C2, 0, none⟩)) 78).alloc (.cells #[.int .i64 t, .int .i64 x] 110))
  have T2 := hid (Two.new (w.alloc (.cells #[.pointer (some ⟨C1, 0, none⟩), .pointer (some ⟨C2, 0, none⟩)] 78)) (.int .i64 t) (.int .i64 x) 110)
  have t1 := ta_ss
  have hsz : (w.alloc (.cells #[.pointer (some ⟨C1, 0, none⟩), .pointer (some ⟨C2, 0, none⟩)] 78)).heap.size = w.heap.size + 1 := by simp
  rw [hsz] at T2
  clear hk hbk hr hr2 hrc hcode hsz
  by_cases hs : 0 ≤ x ∧ x ≤ 255
  · have hin := (inB_iff _).2 hs
    obtain ⟨j, rfl⟩ := Int.eq_ofNat_of_zero_le hs.1
    have hj : j < 256 := by omega
    have hcl : codeL cc sc (j : Int) = bitsK (bookTo sc (keysTo cc 16) j) := by unfold codeL; rw [if_pos hin]; rfl
    rcases HKEY.out j with hz | hkk
    · have hfl : (inB (j : Int) && decide (0 < ((bookTo sc (keysTo cc 16) (j : Int).toNat).1 : Int))) = false := by
        show (inB (j : Int) && decide (0 < ((bookTo sc (keysTo cc 16) j).1 : Int))) = false
        rw [hz]; simp
      rw [hfl] at HH
      have HR := hid (show (codeL cc sc (j : Int)).length = 0 by rw [hcl, hz]; rfl)
      clear hz hin hs hcl hfl HKEY
      rcases ht with rfl | rfl
      all_goals
        simp only [if_true, if_false, Nat.one_ne_zero] at hC
        subst hC
        go_enter Try.func47, Try.ntmps47
        go_wp2_with fail
        refine HH.out.mono ?_
        rintro e w3 ⟨rfl, rfl⟩
        go_wp2_with fail
        go_ret2
        exact ⟨.inl ⟨HR.out, rfl⟩, HB0.out⟩
    · have hfl : (inB (j : Int) && decide (0 < ((bookTo sc (keysTo cc 16) (j : Int).toNat).1 : Int))) = true := by
        show (inB (j : Int) && decide (0 < ((bookTo sc (keysTo cc 16) j).1 : Int))) = true
        have := hkk.1.1
        rw [hin, Bool.true_and]; simp; omega
      rw [hfl] at HH
      have HBI := hid (bitsOf_any C M sc (keysTo cc 16) j _ hj HBK.out hkk)
      have HP := hid (show 0 < (codeL cc sc (j : Int)).length by rw [hcl, bitsK, bl_length]; exact hkk.1.1)
      rw [← hcl] at HBI
      clear hkk hin hs hcl hfl HKEY
      generalize codeL cc sc (j : Int) = Y at *
      rcases ht with rfl | rfl
      all_goals
        simp only [if_true, if_false, Nat.one_ne_zero] at hC
        subst hC
        go_enter Try.func47, Try.ntmps47
        go_wp2_with fail
        refine HH.out.mono ?_
        rintro e w3 ⟨rfl, rfl⟩
        go_wp2_with fail
        refine HBI.out.mono ?_
        rintro e w4 ⟨y, rfl, hy, hb4⟩
        obtain ⟨yo, yc, rfl⟩ := hy.shape
        have HY := hid (hy.mono HB0.out.size)
        have HB4 := hid (HB0.out.trans (hb4.mono HB0.out.size))
        clear hy hb4
        go_wp2_with fail
        go_ret2
        exact ⟨.inr ⟨HP.out, _, rfl, HY.out⟩, HB4.out⟩
  · have hin := (inB_no _).2 hs
    have HR := hid (show (codeL cc sc x).length = 0 by rw [codeL_out cc sc x hin]; rfl)
    rw [hin, Bool.false_and] at HH
    clear hin hs HKEY
    rcases ht with rfl | rfl
    all_goals
      simp only [if_true, if_false, Nat.one_ne_zero] at hC
      subst hC
      go_enter Try.func47, Try.ntmps47
      go_wp2_with fail
      refine HH.out.mono ?_
      rintro e w3 ⟨rfl, rfl⟩
      go_wp2_with fail
      go_ret2
      exact ⟨.inl ⟨HR.out, rfl⟩, HB0.out⟩
end Go.Proofs.Ytcikmgdfelejpaa

/- Plain facts on the bits of parts, and the contract of ScanBits of the program. -/
namespace Go.Proofs.Ytcikmgdfelejpaa
open Go.RowKit Go.Maps
set_option linter.unusedVariables false

/-- Two tables of codes. -/
structure Tb where
  cs : List Int
  ss : List Int
  ct : List Int
  st : List Int
def Tb.code (T : Tb) (t x : Int) : List Int := if t = 0 then codeL T.cs T.ss x else codeL T.ct T.st x
abbrev Tb.right (T : Tb) : Prop := rightC T.cs T.ss = true ∧ rightC T.ct T.st = true
/-- The bits of a part. -/
def bitsPt (T : Tb) : Pt → Option (List Int)
  | .inl (t, x) => if (T.code t x).length = 0 then none else some (T.code t x)
  | .inr xs => some xs
/-- One part more. -/
def more (T : Tb) (acc : List Int) (p : Pt) : Option (List Int) := (bitsPt T p).bind fun y => if 480000 < acc.length + y.length then none else some (acc ++ y)
/-- The bits of the first k parts. -/
def foldTo (T : Tb) (P : List Pt) : Nat → Option (List Int)
  | 0 => some []
  | k + 1 => (foldTo T P k).bind fun acc => more T acc (nthP P k)
theorem foldTo_next {T : Tb} {P : List Pt} {k : Nat} {acc : List Int} (h : foldTo T P k = some acc) : foldTo T P (k + 1) = more T acc (nthP P k) := by rw [foldTo, h]; rfl
theorem foldTo_none (T : Tb) (P : List Pt) (k : Nat) (h : foldTo T P k = none) : ∀ n, k ≤ n → foldTo T P n = none
  | 0, hn => by have : k = 0 := by omega
                subst this; exact h
  | n + 1, hn => by
    by_cases e : k = n + 1
    · rw [← e]; exact h
    · rw [foldTo, foldTo_none T P k h n (by omega)]; rfl
theorem more_len {T : Tb} {acc r : List Int} {p : Pt} (h : more T acc p = some r) : r.length ≤ 480000 := by
  unfold more at h
  cases hb : bitsPt T p with
  | none => rw [hb] at h; cases h
  | some y =>
    rw [hb] at h
    have h' : (if 480000 < acc.length + y.length then none else some (acc ++ y)) = some r := h
    by_cases hc : 480000 < acc.length + y.length
    · rw [if_pos hc] at h'; cases h'
    · rw [if_neg hc] at h'
      cases h'
      rw [List.length_append]
      omega
theorem foldTo_len {T : Tb} {P : List Pt} : ∀ {k : Nat} {acc : List Int}, foldTo T P k = some acc → acc.length ≤ 480000
  | 0, acc, h => by simp [foldTo] at h; subst h; simp
  | k + 1, acc, h => by
    rw [foldTo] at h
    cases hk : foldTo T P k with
    | none => rw [hk] at h; cases h
    | some a =>
      rw [hk] at h
      exact more_len h
def fineP : Pt → Prop
  | .inl (t, _) => t = 0 ∨ t = 1
  | .inr xs => xs.length ≤ 11
theorem ptsS_fine (S : List (Int × Int × List Int)) (h : ∀ j, j < S.length → (nthS S j).2.2.length ≤ 11) : ∀ k, k ≤ S.length → ∀ p ∈ ptsS S k, fineP p
  | 0, _, p, hp => by simp [ptsS] at hp
  | k + 1, hk, p, hp => by
    rw [ptsS, List.mem_append] at hp
    rcases hp with hp | hp
    · exact ptsS_fine S h k (by omega) p hp
    · simp only [List.mem_cons, List.not_mem_nil, or_false] at hp
      rcases hp with rfl | rfl
      · exact .inr rfl
      · exact h k (by omega)
theorem ptsTo_fine (L : List (Int × List Int)) (h : oksTo L L.length = true) : ∀ k, k ≤ L.length → ∀ p ∈ ptsTo L k, fineP p
  | 0, _, p, hp => by simp [ptsTo] at hp
  | k + 1, hk, p, hp => by
    rw [ptsTo, List.mem_append, List.mem_append] at hp
    rcases hp with (hp | hp) | hp
    · exact ptsTo_fine L h k (by omega) p hp
    · simp only [List.mem_cons, List.not_mem_nil, or_false] at hp
      rcases hp with rfl | rfl
      · exact .inl rfl
      · exact restL_len _
    · have hf := stepsR_fine _ _ (oksTo_at L L.length h k (by omega))
      exact ptsS_fine _ (fun j hj => (hf.2 j hj).2.2) _ (Nat.le_refl _) p hp
theorem nthP_mem (P : List Pt) (j : Nat) (h : j < P.length) : nthP P j ∈ P := by simp [nthP, List.getD, h]
/-- Blocks that can be written. -/
abbrev scanOk (L : List (Int × List Int)) : Prop := L.length ≤ 1600 ∧ oksTo L L.length = true
/-- What ScanBits answers. -/
def scanR (T : Tb) (L : List (Int × List Int)) : Option (List Int) := if T.right ∧ scanOk L then foldTo T (ptsTo L L.length) (ptsTo L L.length).length else none
theorem scanR_no {T : Tb} {L : List (Int × List Int)} (h : ¬ (T.right ∧ scanOk L)) : scanR T L = none := by unfold scanR; rw [if_neg h]
theorem scanR_yes {T : Tb} {L : List (Int × List Int)} (h : T.right) (h2 : scanOk L) : scanR T L = foldTo T (ptsTo L L.length) (ptsTo L L.length).length := by unfold scanR; rw [if_pos ⟨h, h2⟩]
theorem scanR_len (T : Tb) (L : List (Int × List Int)) : ((scanR T L).getD []).length ≤ 480000 := by
  cases h : scanR T L with
  | none => simp
  | some r =>
    unfold scanR at h
    split at h
    · exact foldTo_len h
    · cases h
/-- What is answered: the bits and true, or nothing and false. -/
def ScP (R : Option (List Int)) (w : World) (e : Ending) (w' : World) : Prop :=
  ∃ v, e = .returned (.tuple #[v, .bool R.isSome]) ∧ Own w' w.heap.size 3 .i64 v (R.getD []) ∧ Below w.heap.size w w'
theorem ScP.no {w w' : World} (hb : Below w.heap.size w w') : ScP none w (.returned (.tuple #[.slice (some ⟨w'.heap.size, 0, none⟩) 0 0, .bool false])) (w'.alloc (.cells #[] 3)) :=
  ⟨_, rfl, Own.empty _ _ _ _ hb.size, hb.alloc hb.size _⟩
theorem bitsOf_i (C1 C2 : Nat) (t x : Int) (T : Tb) (w : World) (ht : t = 0 ∨ t = 1) (hr : T.right) (hk : Books w C1 C2 T.cs T.ss T.ct T.st) :
    Calls Try.prog 47 #[.agg #[.pointer (some ⟨C1, 0, none⟩), .pointer (some ⟨C2, 0, none⟩)], .iface 110 (.agg #[.int .i64 t, .int .i64 x])] w (SymP (T.code t x) w) := by
  rcases ht with rfl | rfl
  · exact bitsOf_s C1 C2 0 x T.cs T.ss T.ct T.st w (.inl rfl) hr.1 hr.2 hk
  · exact bitsOf_s C1 C2 1 x T.cs T.ss T.ct T.st w (.inr rfl) hr.1 hr.2 hk
theorem code_len (T : Tb) (h : T.right) (t x : Int) : (T.code t x).length ≤ 16 := by
  have key : ∀ cs ss : List Int, rightC cs ss = true → (codeL cs ss x).length ≤ 16 := fun cs ss hr => by
    unfold codeL
    split
    · rw [bitsK, bl_length]
      rcases book_key cs ss hr x.toNat with h | h
      · rw [h]; decide
      · exact h.1.2
    · simp
  unfold Tb.code
  split
  · exact key _ _ h.1
  · exact key _ _ h.2
end Go.Proofs.Ytcikmgdfelejpaa
