/- Parts, books and ScanBits of both sides, in one text. -/
import Derived.Test.YtnnakmgngkpghaaGreatStpS
import Derived.Test.YtnnakmgngkpghaaGreatGd
import Derived.Laws.AppendOwnNone
import Derived.Deep.RegionHeld3
import Derived.Test.YtnnakmgngkpghaaGreatGb
import Derived.Maps.OwnSet
import Derived.Maps.Views
import Derived.Deep.CutRange

/- Parts of blocks: plain lists, and slices of parts that are the call's own. -/
namespace Go.Proofs.YtnnakmgngkpghaaGreat
open Go.RowKit
set_option linter.unusedVariables false

/-- 'out = append(out, ys...)', ys an own slice, maybe empty. -/
theorem wpList_appO {P : Program} {ops : Array Oper} {rest : List Oper} {o : Oper} {a : Act} {Q : Exit → Act → World → Prop} (w : World) (hgd : o.guard = none) (s x : Operand) (t : TypeId)
    (ho : o.op = .call { callee := .builtin .append, args := #[s, x], argTypes := #[t, t] })
    (base : Nat) (e : TypeId) (k : IntKind) (z : Int) (bytes : Nat) (ht : P.underlying t = some (.slice e)) (hinfo : (P.info? e).map (fun i => (i.zero, i.size, i.bytes)) = some (some (.int k z), 1, bytes))
    (v : Value) (xs : List Int) (hs : a.eval s = v) (hown : Own w base e k v xs) (yb : Nat) (y : Value) (ys : List Int) (hx : a.eval x = y) (hy : Own w yb e k y ys)
    (hlen : xs.length + ys.length < 1000000000000) (hbytes : bytes ≤ 8)
    (h : ∀ v' w', Own w' base e k v' (xs ++ ys) → Below base w w' → wpList P ops Q rest (a.put o.dst v') w') : wpList P ops Q (o :: rest) a w := by
  obtain ⟨i, hi, hz0, hz1, hz2⟩ := info_parts hinfo
  have hb := hown.1
  have hlt := hown.2.lt
  have hmul : (xs.length + ys.length) * bytes ≤ (xs.length + ys.length) * 8 := Nat.mul_le_mul_left _ hbytes
  rcases hy.2.2 with ⟨rfl, h0⟩ | ⟨g, cap, cur, rfl, _⟩
  · have : ys = [] := List.length_eq_zero_iff.1 h0
    subst this
    refine wpList_append_own_none hgd s x t ho base e i 1 ht hi v xs.length _ hs hown.2 hx (h v w (by simpa using hown) (Below.refl _ _))
  · refine wpList_append_own _ hgd s x t ho base e i (.int k z) 1 bytes ht hi hz0 hz1 hz2 rfl (by decide) v xs.length _ hs hown.2 ⟨g, 0, none⟩ ys.length cap (ys.map (Value.int k)) hx (by simp) ?_ ?_ (by unfold maxLen; omega) (by omega) hb ?_
    · intro j u hj
      have hjl : j < ys.length := by have := (List.getElem?_eq_some_iff.1 hj).1; simpa using this
      rw [hy.cell rfl j hjl]
      simp [hjl] at hj
      rw [← hj]
      simp [List.getD, hjl]
    · intro u hu
      simp at hu
      obtain ⟨q, _, rfl⟩ := hu
      rfl
    · intro v' w' hown' hgrow _
      refine h v' w' ⟨Nat.le_trans hb hgrow.size, ?_⟩ ?_
      · simpa using hown'
      · exact (Below.refl base w).grown hgrow hb (fun g hg => (hlt g hg).1)
/-- The same as one step of a statement that leaves its order open. -/
theorem step_appO {P : Program} {ops : Array Oper} {o : Oper} {a : Act} {K : Act → World → Prop} {Q : Exit → Act → World → Prop} {E : Prop} (w : World) (hgd : o.guard = none) (s x : Operand) (t : TypeId)
    (ho : o.op = .call { callee := .builtin .append, args := #[s, x], argTypes := #[t, t] })
    (base : Nat) (e : TypeId) (k : IntKind) (z : Int) (bytes : Nat) (ht : P.underlying t = some (.slice e)) (hinfo : (P.info? e).map (fun i => (i.zero, i.size, i.bytes)) = some (some (.int k z), 1, bytes))
    (v : Value) (xs : List Int) (hs : a.eval s = v) (hown : Own w base e k v xs) (yb : Nat) (y : Value) (ys : List Int) (hx : a.eval x = y) (hy : Own w yb e k y ys)
    (hlen : xs.length + ys.length < 1000000000000) (hbytes : bytes ≤ 8)
    (h : ∀ v' w', Own w' base e k v' (xs ++ ys) → Below base w w' → K (a.put o.dst v') w') :
    if Region.wanted o (yielded ops a.tmps) = true then Oper.wp P o a w K Q else E := by
  have hw : Region.wanted o (yielded ops a.tmps) = true := by simp [Region.wanted, hgd]
  rw [if_pos hw]
  obtain ⟨i, hi, hz0, hz1, hz2⟩ := info_parts hinfo
  have hb := hown.1
  have hlt := hown.2.lt
  have hmul : (xs.length + ys.length) * bytes ≤ (xs.length + ys.length) * 8 := Nat.mul_le_mul_left _ hbytes
  rcases hy.2.2 with ⟨rfl, h0⟩ | ⟨g, cap, cur, rfl, _⟩
  · have : ys = [] := List.length_eq_zero_iff.1 h0
    subst this
    have hrun := run_append_owned_none (P := P) (w := w) base t o.type e i 1 ht hi v xs.length _ hown.2
    unfold Oper.wp
    simp [execOp, ho, resolve, invoke, builtin, hs, hx, hrun, Result.andThen]
    exact h v w (by simpa using hown) (Below.refl _ _)
  · refine wp_append_own _ s x t ho base e i (.int k z) 1 bytes ht hi hz0 hz1 hz2 rfl (by decide) v xs.length _ hs hown.2 ⟨g, 0, none⟩ ys.length cap (ys.map (Value.int k)) hx (by simp) ?_ ?_ (by unfold maxLen; omega) (by omega) hb ?_
    · intro j u hj
      have hjl : j < ys.length := by have := (List.getElem?_eq_some_iff.1 hj).1; simpa using this
      rw [hy.cell rfl j hjl]
      simp [hjl] at hj
      rw [← hj]
      simp [List.getD, hjl]
    · intro u hu
      simp at hu
      obtain ⟨q, _, rfl⟩ := hu
      rfl
    · intro v' w' hown' hgrow _
      refine h v' w' ⟨Nat.le_trans hb hgrow.size, ?_⟩ ?_
      · simpa using hown'
      · exact (Below.refl base w).grown hgrow hb (fun g hg => (hlt g hg).1)

/-- A part: a symbol of a table, or bits. -/
abbrev Pt := (Int × Int) ⊕ List Int
def nthP (L : List Pt) (j : Nat) : Pt := L.getD j (.inr [])
theorem nthP_left (L M : List Pt) (j : Nat) (h : j < L.length) : nthP (L ++ M) j = nthP L j := by
  simp only [nthP, List.getD]
  rw [List.getElem?_append_left h]
theorem nthP_right (L M : List Pt) (i : Nat) : nthP (L ++ M) (L.length + i) = nthP M i := by
  simp only [nthP, List.getD]
  rw [List.getElem?_append_right (by omega), Nat.add_sub_cancel_left]
/-- The value c stands for a part. -/
def PtAt (w : World) (base : Nat) : Pt → Value → Prop
  | .inl (t, x), c => c = .iface 148 (.agg #[.int .i64 t, .int .i64 x])
  | .inr xs, c => ∃ y, c = .iface 150 (.agg #[y]) ∧ Own w base 3 .i64 y xs
/-- The slice v is the call's own and holds the parts. -/
def OwnP (w : World) (base : Nat) (v : Value) (L : List Pt) : Prop :=
  base ≤ w.heap.size ∧ ∃ vs : List Value, vs.length = L.length ∧ w.ownsRow base 125 1 v L.length vs ∧ ∀ j, j < L.length → PtAt w base (nthP L j) (vs.getD j (.bool false))
theorem PtAt.keep {w w' : World} {base : Nat} {p : Pt} {c : Value} (h : PtAt w base p c) (hs : w.heap.size ≤ w'.heap.size) (hk : ∀ (g : Nat) (cur : Array Value), base ≤ g → w.heap[g]? = some (.cells cur 3 (0, 0)) → w'.heap[g]? = some (.cells cur 3 (0, 0))) : PtAt w' base p c := by
  cases p with
  | inl q => obtain ⟨t, x⟩ := q; exact h
  | inr xs =>
    obtain ⟨y, hc, ho⟩ := h
    refine ⟨y, hc, Nat.le_trans ho.1 hs, ho.2.1, ?_⟩
    rcases ho.2.2 with h0 | ⟨g, cap, cur, hv, hg, hh, r⟩
    · exact .inl h0
    · exact .inr ⟨g, cap, cur, hv, hg, hk g cur hg hh, r⟩
theorem OwnP.shape {w : World} {base : Nat} {v : Value} {L : List Pt} (h : OwnP w base v L) : ∃ ao cap, v = .slice ao L.length cap := by
  obtain ⟨_, vs, _, h2, _⟩ := h
  rcases h2.2 with ⟨rfl, h0⟩ | ⟨g, cap, cur, rfl, _⟩
  · exact ⟨none, 0, by rw [h0]⟩
  · exact ⟨_, _, rfl⟩
theorem OwnP.empty (w : World) (base : Nat) (hb : base ≤ w.heap.size) : OwnP (w.alloc (.cells #[] 125)) base (.slice (some ⟨w.heap.size, 0, none⟩) 0 0) [] :=
  ⟨Nat.le_trans hb (by simp), [], rfl, World.ownsRow_made w #[] 0 hb (by simp [maxLen]) rfl, fun j hj => by simp at hj⟩
theorem OwnP.below {w w' : World} {base : Nat} {v : Value} {L : List Pt} (h : OwnP w base v L) (hb : Below w.heap.size w w') : OwnP w' base v L := by
  obtain ⟨h1, vs, hl, h2, h3⟩ := h
  refine ⟨Nat.le_trans h1 hb.size, vs, hl, ⟨h2.1, ?_⟩, fun j hj => (h3 j hj).keep hb.size (fun g cur _ hg => (hb.block g (Array.getElem?_eq_some_iff.1 hg).1).trans hg)⟩
  rcases h2.2 with h0 | ⟨g, cap, cur, hv, hg, hh, r⟩
  · exact .inl h0
  · exact .inr ⟨g, cap, cur, hv, hg, (hb.block g (Array.getElem?_eq_some_iff.1 hh).1).trans hh, r⟩
/-- Where all its blocks lie below B. -/
theorem OwnP.cell {w : World} {base : Nat} {ao : Option Addr} {n c : Nat} {L : List Pt} (h : OwnP w base (.slice ao n c) L) (j : Nat) (hj : j < L.length) :
    ∃ g y, ao = some ⟨g, 0, none⟩ ∧ w.cell? ⟨g, j, none⟩ = some y ∧ PtAt w base (nthP L j) y := by
  obtain ⟨_, vs, hl, h2, h3⟩ := h
  rcases h2.2 with ⟨hn, h0⟩ | ⟨g, cap, cur, hv, _⟩
  · omega
  · have ha : ao = some ⟨g, 0, none⟩ := by cases hv; rfl
    subst ha
    refine ⟨g, vs.getD j (.bool false), rfl, ?_, h3 j hj⟩
    have hj' : vs[j]? = some (vs.getD j (.bool false)) := by simp [List.getD, show j < vs.length by omega]
    have := h2.cells (g := g) (by simp [Value.ownBlock]) j _ hj'
    rw [Addr.add_lit, Nat.zero_add] at this
    exact this
theorem OwnP.mono {w : World} {base base' : Nat} {v : Value} {L : List Pt} (h : OwnP w base v L) (hb : base' ≤ base) : OwnP w base' v L := by
  obtain ⟨h1, vs, hl, h2, h3⟩ := h
  refine ⟨Nat.le_trans hb h1, vs, hl, ⟨h2.1, ?_⟩, fun j hj => ?_⟩
  · rcases h2.2 with h0 | ⟨g, cap, cur, hv, hg, r⟩
    · exact .inl h0
    · exact .inr ⟨g, cap, cur, hv, Nat.le_trans hb hg, r⟩
  · have := h3 j hj
    revert this
    cases nthP L j with
    | inl q => obtain ⟨t, x⟩ := q; exact fun h => h
    | inr xs => exact fun ⟨y, e, ho⟩ => ⟨y, e, ho.mono hb⟩

theorem Tryz.info125 : (Tryz.prog.info? 125).map (fun i => (i.zero, i.size, i.bytes)) = some (some (.nilIface), 1, 16) := by kernel_rfl

/-- 'out = append(out, p, q)', both laid in a new block of its own first. -/
theorem wpList_pushP {P : Program} {ops : Array Oper} {rest : List Oper} {o : Oper} {a : Act} {Q : Exit → Act → World → Prop} (w : World) (gb : Nat) (hgb : w.heap.size = gb) (hgd : o.guard = none) (s x : Operand) (t : TypeId)
    (ho : o.op = .call { callee := .builtin .append, args := #[s, x], argTypes := #[t, t] })
    (base : Nat) (ht : P.underlying t = some (.slice 125)) (hinfo : (P.info? 125).map (fun i => (i.zero, i.size, i.bytes)) = some (some (.nilIface), 1, 16))
    (v : Value) (L : List Pt) (hs : a.eval s = v) (hown : OwnP w base v L) (tb sy : Int) (y : Value) (xs : List Int) (hy : Own w base 3 .i64 y xs)
    (hx : a.eval x = .slice (some ⟨gb, 0, none⟩) 2 2) (hlen : L.length < 1000000000)
    (h : ∀ v' w', OwnP w' base v' (L ++ [.inl (tb, sy), .inr xs]) → Below base w w' → (∀ (g : Nat) (cur : Array Value) (tt : TypeId), tt ≠ 125 → w.heap[g]? = some (.cells cur tt (0, 0)) → w'.heap[g]? = some (.cells cur tt (0, 0))) → wpList P ops Q rest (a.put o.dst v') w') : wpList P ops Q (o :: rest) a (w.alloc (.cells #[.iface 148 (.agg #[.int .i64 tb, .int .i64 sy]), .iface 150 (.agg #[y])] 125)) := by
  subst hgb
  obtain ⟨i, hi, hz0, hz1, hz2⟩ := info_parts hinfo
  obtain ⟨hb, vs, hvl, hrow, hels⟩ := hown
  have hlt := hrow.lt
  refine wpList_append_own _ hgd s x t ho base 125 i .nilIface 1 16 ht hi hz0 hz1 hz2 rfl (by decide) v L.length _ hs (hrow.alloc _) ⟨w.heap.size, 0, none⟩ 2 2 [.iface 148 (.agg #[.int .i64 tb, .int .i64 sy]), .iface 150 (.agg #[y])] hx rfl ?_ ?_ (by unfold maxLen; omega) (by omega) (Nat.le_trans hb (by simp)) ?_
  · intro j u hj
    match j, hj with
    | 0, hj => simp at hj; subst hj; simp [Addr.add]
    | 1, hj => simp at hj; subst hj; simp [Addr.add]
  · intro u hu; simp at hu; rcases hu with rfl | rfl <;> rfl
  · intro v' w' hown' hgrow _
    have hsz : w.heap.size ≤ w'.heap.size := Nat.le_trans (by simp) hgrow.size
    have hkeep : ∀ (g : Nat) (cur : Array Value) (tt : TypeId), tt ≠ 125 → w.heap[g]? = some (.cells cur tt (0, 0)) → w'.heap[g]? = some (.cells cur tt (0, 0)) := by
      intro g cur tt htt hg
      have hglt : g < w.heap.size := (Array.getElem?_eq_some_iff.1 hg).1
      have h1 : (w.alloc (.cells #[.iface 148 (.agg #[.int .i64 tb, .int .i64 sy]), .iface 150 (.agg #[y])] 125)).heap[g]? = some (.cells cur tt (0, 0)) := (((Below.refl w.heap.size w).alloc (Nat.le_refl _) _).block g hglt).trans hg
      refine (hgrow.block g (Nat.lt_trans hglt (by simp)) ?_).trans h1
      intro eq
      rcases hrow.2 with ⟨hv, _⟩ | ⟨g', cap, cur', hv, hg', hh, _⟩
      · subst hv; cases eq
      · subst hv
        have : g = g' := by simpa [Value.ownBlock] using eq
        subst this
        rw [hg] at hh
        cases hh
        exact htt rfl
    refine h v' w' ⟨Nat.le_trans hb hsz, vs ++ [.iface 148 (.agg #[.int .i64 tb, .int .i64 sy]), .iface 150 (.agg #[y])], by simp [hvl], ?_, fun j hj => ?_⟩ ?_ hkeep
    · simpa using hown'
    · by_cases e : j < L.length
      · rw [nthP_left L _ j e]
        have : (vs ++ [Value.iface 148 (.agg #[.int .i64 tb, .int .i64 sy]), Value.iface 150 (.agg #[y])]).getD j (.bool false) = vs.getD j (.bool false) := by
          simp only [List.getD]
          rw [List.getElem?_append_left (by omega)]
        rw [this]
        exact (hels j e).keep hsz (fun g cur _ hg => hkeep g cur 3 (by decide) hg)
      · have hj2 : j < L.length + 2 := by simpa using hj
        have hget : ∀ i, (vs ++ [Value.iface 148 (.agg #[.int .i64 tb, .int .i64 sy]), Value.iface 150 (.agg #[y])]).getD (L.length + i) (.bool false) = [Value.iface 148 (.agg #[.int .i64 tb, .int .i64 sy]), Value.iface 150 (.agg #[y])].getD i (.bool false) := fun i => by
          simp only [List.getD]
          rw [List.getElem?_append_right (by omega), hvl, Nat.add_sub_cancel_left]
        obtain rfl | rfl : j = L.length + 0 ∨ j = L.length + 1 := by omega
        · rw [nthP_right, hget]
          exact rfl
        · rw [nthP_right, hget]
          exact PtAt.keep (w := w) (p := .inr xs) ⟨y, rfl, hy⟩ hsz (fun g cur _ hg => hkeep g cur 3 (by decide) hg)
    · exact ((Below.refl base w).alloc hb _).grown hgrow (Nat.le_trans hb (by simp)) (fun g hg => (hlt g hg).1)

/-- The parts of the first k steps. -/
def ptsS (S : List (Int × Int × List Int)) : Nat → List Pt
  | 0 => []
  | k + 1 => ptsS S k ++ [.inl (1, (16 * (nthS S k).1 + (nthS S k).2.1)), .inr (nthS S k).2.2]
/-- What Shift tells of block k. -/
def df (L : List (Int × List Int)) (k : Nat) : Int := (nth L k).1 - ahead true L k
/-- The parts of the first k blocks. -/
def ptsTo (L : List (Int × List Int)) : Nat → List Pt
  | 0 => []
  | k + 1 => ptsTo L k ++ [.inl (0, (sz (df L k))), .inr (restL (df L k))] ++ ptsS (stepsR (nth L k).1 (nth L k).2) (stepsR (nth L k).1 (nth L k).2).length
theorem ptsS_len (S : List (Int × Int × List Int)) : ∀ k, (ptsS S k).length = 2 * k
  | 0 => rfl
  | k + 1 => by rw [ptsS, List.length_append, ptsS_len S k]; simp; omega

theorem stepTo_fine (xs : List Int) (hin : ∀ k, k < 63 → -1023 ≤ xs.getD k 0 ∧ xs.getD k 0 ≤ 1023) : ∀ k, k ≤ 63 → ∀ s ∈ (stepTo xs k).1, (0 ≤ s.1 ∧ s.1 ≤ 15) ∧ (0 ≤ s.2.1 ∧ s.2.1 ≤ 10) ∧ s.2.2.length ≤ 11
  | 0, _, s, hs => by simp [stepTo] at hs
  | k + 1, hk, s, hs => by
    by_cases h : xs.getD k 0 = 0
    · rw [stepTo_zero xs k h] at hs
      exact stepTo_fine xs hin k (by omega) s hs
    · rw [stepTo_num xs k h] at hs
      simp only [List.mem_append, List.mem_replicate, List.mem_singleton] at hs
      rcases hs with (hs | hs) | hs
      · exact stepTo_fine xs hin k (by omega) s hs
      · rw [hs.2]; exact ⟨by decide, by decide, by decide⟩
      · rw [hs]
        have h1 := hin k (by omega)
        have h2 := sz_in (x := xs.getD k 0) (by omega)
        have h4 := (bitLen_at (xs.getD k 0).natAbs 10 (by omega) (by omega)).1
        refine ⟨⟨by show (0 : Int) ≤ ((_ % 16 : Nat) : Int); omega, by show ((_ % 16 : Nat) : Int) ≤ 15; omega⟩, ⟨by show 0 ≤ sz _; rw [h2]; omega, ?_⟩, restL_len _⟩
        show sz _ ≤ 10
        rw [h2]
        omega
theorem nthS_mem (S : List (Int × Int × List Int)) (j : Nat) (h : j < S.length) : nthS S j ∈ S := by simp [nthS, List.getD, h]
theorem stepsR_fine (d : Int) (xs : List Int) (hb : blkOk d xs = true) : (stepsR d xs).length ≤ 63 ∧ ∀ j, j < (stepsR d xs).length → (0 ≤ (nthS (stepsR d xs) j).1 ∧ (nthS (stepsR d xs) j).1 ≤ 15) ∧ (0 ≤ (nthS (stepsR d xs) j).2.1 ∧ (nthS (stepsR d xs) j).2.1 ≤ 10) ∧ (nthS (stepsR d xs) j).2.2.length ≤ 11 := by
  have hin : ∀ k, k < 63 → -1023 ≤ xs.getD k 0 ∧ xs.getD k 0 ≤ 1023 := by
    unfold blkOk at hb
    simp only [Bool.and_eq_true, decide_eq_true_eq] at hb
    obtain ⟨_, _, hco⟩ := hb
    exact fun k hk => by simpa [inC] using coefTo_at xs 63 hco k hk
  have hl := stepTo_len xs 63
  have hf := stepTo_fine xs hin 63 (Nat.le_refl _)
  unfold stepsR
  rw [if_pos hb]
  unfold stepsOf
  by_cases h : 0 < (stepTo xs 63).2
  · rw [if_pos h]
    refine ⟨by rw [List.length_append, List.length_singleton]; omega, fun j hj => ?_⟩
    have hm := nthS_mem _ j hj
    rw [List.mem_append, List.mem_singleton] at hm
    rcases hm with hm | hm
    · exact hf _ hm
    · rw [hm]; exact ⟨by decide, by decide, by decide⟩
  · rw [if_neg h]
    exact ⟨by omega, fun j hj => hf _ (nthS_mem _ j hj)⟩
theorem df_bd (L : List (Int × List Int)) (k : Nat) (h : oksTo L L.length = true) (hk : k < L.length) : -2046 ≤ df L k ∧ df L k ≤ 2046 := by
  have h1 := blkOk_dc (oksTo_at L L.length h k hk)
  have h2 : -1023 ≤ ahead true L k ∧ ahead true L k ≤ 1023 := by
    unfold ahead
    split
    · exact blkOk_dc (oksTo_at L L.length h (k - 1) (by omega))
    · omega
  unfold df
  omega
theorem shl_get (up : Bool) (L : List (Int × List Int)) : ∀ n i, i < n → (shl up L n).getD i 0 = (nth L i).1 - ahead up L i
  | n + 1, i, hi => by
    have hl := shl_len up L n
    rw [shl]
    simp only [List.getD]
    by_cases e : i = n
    · subst e
      rw [List.getElem?_append_right (by omega)]
      simp [hl]
    · rw [List.getElem?_append_left (by omega)]
      exact shl_get up L n i (by omega)
theorem ptsTo_len (L : List (Int × List Int)) (h : oksTo L L.length = true) : ∀ k, k ≤ L.length → (ptsTo L k).length ≤ k * 128
  | 0, _ => by simp [ptsTo]
  | k + 1, hk => by
    have h1 := ptsTo_len L h k (by omega)
    have h2 := (stepsR_fine _ _ (oksTo_at L L.length h k (by omega))).1
    rw [ptsTo, List.length_append, List.length_append, ptsS_len]
    simp
    omega
end Go.Proofs.YtnnakmgngkpghaaGreat

/- The contract of partsOf. -/
namespace Go.Proofs.YtnnakmgngkpghaaGreat
open Go.RowKit
set_option linter.unusedVariables false

theorem OwnT.at_ {w : World} {base : Nat} {ao : Option Addr} {n c : Nat} {S : List (Int × Int × List Int)} {vs : List Value} (h : OwnT w base (.slice ao n c) S vs) (j : Nat) (hj : j < S.length) :
    ∃ g a c', ao = some ⟨g, 0, none⟩ ∧ w.cell? ⟨g, j * 3, none⟩ = some (.int .i64 (nthS S j).1) ∧ w.cell? ⟨g, j * 3 + 1, none⟩ = some (.int .i64 (nthS S j).2.1) ∧ w.cell? ⟨g, j * 3 + 2, none⟩ = some (.slice a (nthS S j).2.2.length c') ∧ Own w base 3 .i64 (.slice a (nthS S j).2.2.length c') (nthS S j).2.2 := by
  obtain ⟨_, hl, h2, h3, _⟩ := h
  have ho := h3 j hj
  obtain ⟨a, c', hy⟩ := ho.shape
  rcases h2.2 with ⟨_, h0⟩ | ⟨g, cap, cur, hv', _⟩
  · omega
  · cases hv'
    have hc := flS_at S vs S.length j hj
    have c0 := h2.cells (g := g) (by simp [Value.ownBlock]) (j * 3) _ hc.1
    have c1 := h2.cells (g := g) (by simp [Value.ownBlock]) (j * 3 + 1) _ hc.2.1
    have c2 := h2.cells (g := g) (by simp [Value.ownBlock]) (j * 3 + 2) _ hc.2.2
    rw [Addr.add_lit, Nat.zero_add] at c0 c1 c2
    rw [hy] at c2 ho
    exact ⟨g, a, c', rfl, c0, c1, c2, ho⟩
theorem OwnT.keepT {w w' : World} {base : Nat} {v : Value} {S : List (Int × Int × List Int)} {vs : List Value} (h : OwnT w base v S vs) (hs : w.heap.size ≤ w'.heap.size) (hk : ∀ (g : Nat) (cur : Array Value) (tt : TypeId), tt ≠ 125 → w.heap[g]? = some (.cells cur tt (0, 0)) → w'.heap[g]? = some (.cells cur tt (0, 0))) : OwnT w' base v S vs := by
  obtain ⟨h1, h2, h3, h4, h5⟩ := h
  refine ⟨Nat.le_trans h1 hs, h2, ⟨h3.1, ?_⟩, fun j hj => ?_, h5⟩
  · rcases h3.2 with h0 | ⟨g, cap, cur, hv, hg, hh, r⟩
    · exact .inl h0
    · exact .inr ⟨g, cap, cur, hv, hg, hk g cur 104 (by decide) hh, r⟩
  · have ho := h4 j hj
    refine ⟨Nat.le_trans ho.1 hs, ho.2.1, ?_⟩
    rcases ho.2.2 with h0 | ⟨g, cap, cur, hv, hg, hh, r⟩
    · exact .inl h0
    · exact .inr ⟨g, cap, cur, hv, hg, hk g cur 3 (by decide) hh, r⟩

theorem parts_no (ao : Option Addr) (cap : Nat) (L : List (Int × List Int)) (w : World) (hn : L.length ≤ 1048576) (hs : ∀ j, j < L.length → (nth L j).2.length ≤ 1048576) (hv : BRow w ao L) (hno : ¬ (L.length ≤ 1600 ∧ oksTo L L.length = true)) :
    Calls Tryz.prog 95 #[.slice ao L.length cap] w fun e w' => e = .returned (.tuple #[.slice none 0 0, .bool false]) ∧ Below w.heap.size w w' := by
  by_cases hl : (1600 : Int) < (L.length : Int)
  · clear hv hs
    go_enter Tryz.func95, Tryz.ntmps95
    go_wp2_with fail
    go_ret2
    exact ⟨rfl, Below.refl _ _⟩
  · have HI := hid (impl_shift ao cap L true w hn hs hv)
    rw [shR_no (up := true) (fun h => hno ⟨by omega, h.2⟩)] at HI
    clear hv hs hno
    go_enter Tryz.func95, Tryz.ntmps95
    go_wp2_with fail
    refine HI.out.mono ?_
    rintro e w1 ⟨v1, rfl, ho1, hb1⟩
    obtain ⟨d1, c1, rfl⟩ := ho1.shape
    have B1 := hid hb1
    clear ho1 hb1
    go_wp2_with fail
    go_ret2
    exact ⟨rfl, B1.out⟩

set_option maxRecDepth 100000 in
set_option maxHeartbeats 1600000 in
theorem parts_yes (ao : Option Addr) (cap : Nat) (L : List (Int × List Int)) (w : World) (hl : L.length ≤ 1600) (hok : oksTo L L.length = true) (hv : BRow w ao L) :
    Calls Tryz.prog 95 #[.slice ao L.length cap] w fun e w' => ∃ v, e = .returned (.tuple #[v, .bool true]) ∧ OwnP w' w.heap.size v (ptsTo L L.length) ∧ Below w.heap.size w w' := by
  have hs : ∀ j, j < L.length → (nth L j).2.length ≤ 1048576 := fun j hj => by
    have := oksTo_at L L.length hok j hj
    unfold blkOk at this
    simp only [Bool.and_eq_true, decide_eq_true_eq] at this
    omega
  have HI := hid (impl_shift ao cap L true w (by omega) hs hv)
  rw [shR_yes (up := true) (by omega) hok] at HI
  have HV := hid hv
  have HSZ := hid hs
  have HOK := hid (oksTo_at L L.length hok)
  have HDF := hid (fun k hk => df_bd L k hok hk)
  have HPL := hid (fun k hk => ptsTo_len L hok k hk)
  have HG := hid (fun i hi => shl_get true L L.length i hi)
  have HLN := hid (shl_len true L L.length)
  have hl' : ¬ (1600 : Int) < (L.length : Int) := by omega
  clear hv hs hok
  generalize shl true L L.length = ST at *
  go_enter Tryz.func95, Tryz.ntmps95
  go_wp2_with fail
  refine HI.out.mono ?_
  rintro e w1 ⟨v1, rfl, ho1, hb1⟩
  obtain ⟨d1, c1, rfl, hv1⟩ := ho1.view
  simp only [HLN.out] at hv1 ⊢
  have HV1 := hid hv1
  have B1 := hid hb1
  have HO0 := hid (OwnP.empty w1 w1.heap.size (Nat.le_refl _))
  have HBA := hid ((Below.refl w1.heap.size w1).alloc (Nat.le_refl _) (.cells #[] 125))
  clear ho1 hb1 hv1 HI
  go_wp2_with fail
  generalize w1.alloc (.cells #[] 125) = wa at *
  go_loopw [6, 25] (fun p i wr => ∃ k : Nat, k ≤ L.length ∧ i = .int .i64 k ∧ Hid (OwnP wr w1.heap.size p (ptsTo L k)) ∧ Hid (Below w1.heap.size w1 wr)) (fun _ i _ => L.length - (intOf i).toNat)
  case atStart => exact ⟨0, by omega, rfl, HO0.out, HBA.out⟩
  case round =>
    obtain ⟨k, hk, rfl, hown, hb⟩ := hrel
    clear HO0 HBA
    obtain ⟨po, pc, rfl⟩ := hown.out.shape
    by_cases hlt : k < L.length
    · have hlt' : (k : Int) < (L.length : Int) := by omega
      have hpl := HPL.out k hk
      have HBW := hid (B1.out.trans (hb.out.mono B1.out.size))
      obtain ⟨b, off, a, c, rfl, hc1w, hc2w, hvw⟩ := HV.out k hlt
      have hc1 := (HBW.out.cell (p := ⟨b, off + k * 2, none⟩) (World.block_lt_of_cell? w _ hc1w)).trans hc1w
      have hc2 := (HBW.out.cell (p := ⟨b, off + k * 2 + 1, none⟩) (World.block_lt_of_cell? w _ hc2w)).trans hc2w
      clear hc1w hc2w
      obtain ⟨b2, off2, rfl, hd2⟩ := HV1.out.2 k hlt
      have hd : wr.cell? ⟨b2, off2 + k, none⟩ = some (.int .i64 (df L k)) := by
        rw [(hb.out.cell (p := ⟨b2, off2 + k, none⟩) (World.block_lt_of_cell? w1 _ hd2)).trans hd2, HG.out k hlt]; rfl
      have hdf := HDF.out k hlt
      have HF := hid (stepsR_fine _ _ (HOK.out k hlt))
      have hxl := HSZ.out k hlt
      have HPN := hid (show ptsTo L (k + 1) = ptsTo L k ++ [.inl (0, (sz (df L k))), .inr (restL (df L k))] ++ ptsS (stepsR (nth L k).1 (nth L k).2) (stepsR (nth L k).1 (nth L k).2).length from rfl)
      have HBC := hid ((Below.refl wr.heap.size wr).alloc (Nat.le_refl _) (.cells #[.int .i64 (nth L k).1, .slice a (nth L k).2.length c] 65))
      have HT := hid (Two.new wr (.int .i64 (nth L k).1) (.slice a (nth L k).2.length c) 65)
      have HIS := hid (fun q (hq : Below w.heap.size w q) => impl_steps (.agg #[.int .i64 (nth L k).1, .slice a (nth L k).2.length c]) (nth L k).1 (nth L k).2 q hxl ⟨a, c, rfl, hvw.below (Nat.le_refl _) hq⟩)
      have HO2 := hid (hown.out.below HBC.out)
      have hsr : w1.heap.size ≤ wr.heap.size := hb.out.size
      have hd' : (wr.alloc (.cells #[.int .i64 (nth L k).1, .slice a (nth L k).2.length c] 65)).cell? ⟨b2, off2 + k, none⟩ = some (.int .i64 (df L k)) := (HBC.out.cell (p := ⟨b2, off2 + k, none⟩) (World.block_lt_of_cell? wr _ hd)).trans hd
      generalize stepsR (nth L k).1 (nth L k).2 = S at *
      generalize (nth L k).1 = D at *
      generalize (nth L k).2 = XS at *
      generalize df L k = X at *
      generalize hP : ptsTo L k = PK at *
      clear hvw hP hd hd2
      obtain ⟨hX0, hX1⟩ := hdf
      go_wp2_with fail
      refine (impl_size X _ (by omega) (by omega)).mono ?_
      rintro e w2 ⟨rfl, rfl⟩
      have HRS := hid (fun q => impl_rest X q (by omega) (by omega))
      go_wp2_with fail
      refine (HRS.out _).mono ?_
      generalize wr.alloc (.cells #[.int .i64 D, .slice a XS.length c] 65) = w2 at *
      rintro e w3 ⟨v3, rfl, ho3, hb3⟩
      obtain ⟨ya, yc, rfl⟩ := ho3.shape
      have HO3 := hid (HO2.out.below hb3)
      have HT3 := hid (HT.out.below hb3 HT.out.lt)
      have HB3 := hid (HBC.out.trans (hb3.mono HBC.out.size))
      have HY3 := hid (ho3.mono (Nat.le_trans hsr HBC.out.size))
      have hs3 : wr.heap.size < w3.heap.size := Nat.lt_of_lt_of_le HT.out.lt hb3.size
      clear ho3 hb3 hc1 hc2 hd' HRS
      go_wp2_with (at_builtin; refine wpList_pushP w3 w3.heap.size rfl rfl _ _ 121 rfl w1.heap.size Tryz.underlying121 Tryz.info125 _ PK (by rfl) HO3.out 0 (sz X) (.slice ya (restL X).length yc) (restL X) HY3.out (by rfl) (by omega) ?_)
      intro v4 w4 ho4 hb4 hkp4
      obtain ⟨p4, q4, rfl⟩ := ho4.shape
      have HT4 := hid (show Two w4 wr.heap.size (.int .i64 D) (.slice a XS.length c) 65 from hkp4 _ _ 65 (by decide) HT3.out)
      have HB34 := hid ((HB3.out.mono hsr).trans hb4)
      have HB4 := hid (hb.out.trans HB34.out)
      have HO4 := hid ho4
      have HBW4 := hid (B1.out.trans (HB4.out.mono B1.out.size))
      clear ho4 hb4 hkp4 HO3 HT3 HY3 HB3 HB34 HO2 HT HBC hown hb HBW
      obtain ⟨q1, q2, q3, q4⟩ := HT4.out.cells
      go_wp2_with fail
      refine (HIS.out _ HBW4.out).mono ?_
      rintro e w5 ⟨v5, rfl, ⟨vs, hot⟩, hb5⟩
      obtain ⟨so, sc, rfl⟩ := hot.shape
      have HO5 := hid (HO4.out.below hb5)
      have HB5 := hid (HB4.out.trans (hb5.mono HB4.out.size))
      have HOT := hid hot
      have hw4 : w1.heap.size ≤ w4.heap.size := HB4.out.size
      have HPS0 := hid (show PK ++ [.inl (0, (sz X)), .inr (restL X)] ++ ptsS S 0 = PK ++ [.inl (0, (sz X)), .inr (restL X)] by simp [ptsS])
      have hSl := HF.out.1
      have HPLN := hid (show (PK ++ [Sum.inl (0, (sz X)), Sum.inr (restL X)]).length = PK.length + 2 by simp)
      clear hot hb5 HO4 HB4 HIS HBW4 HT4 q1 q2 q3 q4
      generalize PK ++ [Sum.inl (0, (sz X)), Sum.inr (restL X)] = PJ at *
      go_wp2_with fail
      go_loopw [6, 48] (fun p j wq => ∃ m : Nat, m ≤ S.length ∧ j = .int .i64 m ∧ Hid (OwnP wq w1.heap.size p (PJ ++ ptsS S m)) ∧ Hid (OwnT wq w4.heap.size (.slice so S.length sc) S vs) ∧ Hid (Below w1.heap.size w1 wq)) (fun _ j _ => S.length - (intOf j).toNat)
      case atStart => exact ⟨0, by omega, rfl, by rw [HPS0.out]; exact HO5.out, HOT.out, HB5.out⟩
      case round =>
        obtain ⟨m, hm, rfl, hp, ht, hb⟩ := hrel
        clear HO5 HOT HB5 HPS0
        obtain ⟨p5, c5, rfl⟩ := hp.out.shape
        by_cases hlt2 : m < S.length
        · have hlt2' : (m : Int) < (S.length : Int) := by omega
          obtain ⟨g, ya', yc', rfl, r0, r1, r2, hoy⟩ := ht.out.at_ m hlt2
          have hfi := HF.out.2 m hlt2
          have HNX := hid (show PJ ++ ptsS S (m + 1) = PJ ++ ptsS S m ++ [.inl (1, (16 * (nthS S m).1 + (nthS S m).2.1)), .inr (nthS S m).2.2] by rw [ptsS, List.append_assoc])
          have HML := hid (show (PJ ++ ptsS S m).length < 1000000000 by rw [List.length_append, ptsS_len, HPLN.out]; omega)
          generalize (nthS S m).1 = R at *
          generalize (nthS S m).2.1 = N at *
          generalize (nthS S m).2.2 = BT at *
          generalize PJ ++ ptsS S m = PM at *
          obtain ⟨⟨f0, f1⟩, ⟨f2, f3⟩, f4⟩ := hfi
          have hml := HML.out
          have HBC2 := hid ((Below.refl wr.heap.size wr).alloc (Nat.le_refl _) (.cells #[.int .i64 R, .int .i64 N, .slice ya' BT.length yc'] 104))
          have HP2 := hid (hp.out.below HBC2.out)
          have HT2 := hid (ht.out.below HBC2.out)
          have HY2 := hid ((hoy.below HBC2.out).mono hw4)
          have HB2 := hid (hb.out.trans (HBC2.out.mono hb.out.size))
          clear hoy hp ht hb HML
          go_wp2_with (at_builtin; refine wpList_pushP (wr.alloc (.cells #[.int .i64 R, .int .i64 N, .slice ya' BT.length yc'] 104)) (wr.heap.size + 1) (by simp) rfl _ _ 121 rfl w1.heap.size Tryz.underlying121 Tryz.info125 _ PM (by rfl) HP2.out 1 (16 * R + N) (.slice ya' BT.length yc') BT HY2.out (by rfl) hml ?_)
          intro v6 w6 ho6 hb6 hkp6
          obtain ⟨p6, c6, rfl⟩ := ho6.shape
          have HO6 := hid ho6
          have HT6 := hid (HT2.out.keepT hb6.size hkp6)
          have HB6 := hid (HB2.out.trans hb6)
          clear ho6 hb6 hkp6
          go_wp2_with fail
          go_roundw
          case rel => exact ⟨m + 1, by omega, by go_num, by rw [HNX.out]; exact HO6.out, HT6.out, HB6.out⟩
          case measure => simp [intOf]; omega
        · obtain rfl : m = S.length := by omega
          have HPN2 := hid HPN.out
          go_wp2_with fail
          go_roundw
          case rel => exact ⟨k + 1, by omega, by go_num, by rw [HPN2.out]; exact hp.out, hb.out⟩
          case measure => simp [intOf]; omega
    · obtain rfl : k = L.length := by omega
      go_wp2_with fail
      go_ret2
      exact ⟨_, rfl, hown.out.mono B1.out.size, B1.out.trans (hb.out.mono B1.out.size)⟩
end Go.Proofs.YtnnakmgngkpghaaGreat

/- Contracts of has, bitsOf and CodeOf of the program. -/
namespace Go.Proofs.YtnnakmgngkpghaaGreat
open Go.RowKit Go.Maps
set_option linter.unusedVariables false

/-- The two cells of a symbol's key. -/
theorem BookAt.key {w : World} {C M : Nat} {ss : List Int} {K : List (Nat × Int)} (h : BookAt w C M ss K) (j : Nat) (hj : j < 256) :
    w.cell? ⟨C, 1 + j * 2, none⟩ = some (.int .i64 (bookTo ss K j).1) ∧ w.cell? ⟨C, 1 + j * 2 + 1, none⟩ = some (.int .i64 (bookTo ss K j).2) := by
  obtain ⟨⟨arr, h1, h2, h3, h4⟩, _⟩ := h
  exact ⟨(h1.cell _).trans (h4 j hj).1, (h1.cell _).trans (h4 j hj).2⟩

set_option maxHeartbeats 800000 in
theorem has_any (C M : Nat) (ss : List Int) (K : List (Nat × Int)) (sym : Int) (w : World) (hb : BookAt w C M ss K) :
    Calls Tryz.prog 114 #[.pointer (some ⟨C, 0, none⟩), .int .i64 sym] w fun e w' => e = .returned (.bool (inB sym && decide (0 < ((bookTo ss K sym.toNat).1 : Int)))) ∧ w' = w := by
  by_cases hs : 0 ≤ sym ∧ sym ≤ 255
  · have hin := (inB_iff _).2 hs
    obtain ⟨j, rfl⟩ := Int.eq_ofNat_of_zero_le hs.1
    obtain ⟨q1, q2⟩ := hb.key j (by omega)
    have hj6 : (j : Int) < 256 := by omega
    rw [hin, Bool.true_and]
    show Calls _ _ _ _ fun e w' => e = .returned (.bool (decide (0 < ((bookTo ss K j).1 : Int)))) ∧ w' = w
    generalize (bookTo ss K j).1 = L at *
    generalize (bookTo ss K j).2 = D at *
    clear hb
    go_enter Tryz.func114, Tryz.ntmps114
    go_wp2_with (go_at_call 129; refine (isSym_any _ _).mono ?_; rw [hin]; rintro e w' ⟨rfl, rfl⟩)
    go_ret
    exact ⟨ret_bool (by simp), rfl⟩
  · have hin := (inB_no _).2 hs
    rw [hin, Bool.false_and]
    clear hb hs
    go_enter Tryz.func114, Tryz.ntmps114
    go_wp2_with (go_at_call 129; refine (isSym_any _ _).mono ?_; rw [hin]; rintro e w' ⟨rfl, rfl⟩)
    go_ret
    exact ⟨rfl, rfl⟩

set_option maxHeartbeats 800000 in
theorem bitsOf_any (C M : Nat) (ss : List Int) (K : List (Nat × Int)) (j : Nat) (w : World) (hj : j < 256) (hb : BookAt w C M ss K) (hk : KeyOk (bookTo ss K j)) :
    Calls Tryz.prog 115 #[.pointer (some ⟨C, 0, none⟩), .int .i64 j] w fun e w' => ∃ v, e = .returned v ∧ Own w' w.heap.size 3 .i64 v (bitsK (bookTo ss K j)) ∧ Below w.heap.size w w' := by
  obtain ⟨q1, q2⟩ := hb.key j hj
  obtain ⟨⟨k1, k2⟩, k3, k4⟩ := hk
  have hj6 : (j : Int) < 256 := by omega
  have HN := hid (fun q : World => impl_numBits (bookTo ss K j).2 (bookTo ss K j).1 q (by omega) k3 k4)
  have HE := hid (show bitsK (bookTo ss K j) = bl (rbX (bookTo ss K j).2 (bookTo ss K j).1) (bookTo ss K j).1 from rfl)
  generalize bitsK (bookTo ss K j) = R at *
  generalize (bookTo ss K j).1 = L at *
  generalize (bookTo ss K j).2 = D at *
  have HB := hid ((Below.refl w.heap.size w).alloc (Nat.le_refl _) (.cells #[.int .i64 (L : Int), .int .i64 D] 164))
  clear hb k4
  go_enter Tryz.func115, Tryz.ntmps115
  go_wp2_with fail
  refine (HN.out _).mono ?_
  rintro e w1 ⟨v, rfl, hown, hb1⟩
  have HO := hid (hown.mono HB.out.size)
  have HB1 := hid (HB.out.trans (hb1.mono HB.out.size))
  clear hown hb1
  go_wp2
  go_ret
  exact ⟨_, rfl, by rw [HE.out]; exact HO.out, HB1.out⟩

end Go.Proofs.YtnnakmgngkpghaaGreat

/- Contracts of booksOf, and of a pair of books' bits of a part. -/
namespace Go.Proofs.YtnnakmgngkpghaaGreat
open Go.RowKit Go.Maps
set_option linter.unusedVariables false

/-- The tables at v: codes for Dc, and codes for Ac. -/
def TV (w : World) (v : Value) (cs ss ct st : List Int) : Prop :=
  ∃ a0 c0 a1 c1 a2 c2 a3 c3, v = .agg #[.slice a0 cs.length c0, .slice a1 ss.length c1, .slice a2 ct.length c2, .slice a3 st.length c3] ∧ CV w (.agg #[.slice a0 cs.length c0, .slice a1 ss.length c1]) cs ss ∧ CV w (.agg #[.slice a2 ct.length c2, .slice a3 st.length c3]) ct st
theorem TV.below {w w' : World} {v : Value} {cs ss ct st : List Int} (h : TV w v cs ss ct st) (hb : Below w.heap.size w w') : TV w' v cs ss ct st := by
  obtain ⟨a0, c0, a1, c1, a2, c2, a3, c3, rfl, h1, h2⟩ := h
  exact ⟨a0, c0, a1, c1, a2, c2, a3, c3, rfl, h1.below hb, h2.below hb⟩
/-- Block b holds four cells. -/
def Four (w : World) (b : Nat) (x y z u : Value) (t : TypeId) : Prop := w.heap[b]? = some (.cells #[x, y, z, u] t (0, 0))
theorem Four.cells {w : World} {b : Nat} {x y z u : Value} {t : TypeId} (h : Four w b x y z u t) :
    w.cell? ⟨b, 0, none⟩ = some x ∧ w.cell? ⟨b, 1, none⟩ = some y ∧ w.cell? ⟨b, 2, none⟩ = some z ∧ w.cell? ⟨b, 3, none⟩ = some u := by
  refine ⟨?_, ?_, ?_, ?_⟩
  · rw [cell_of_row w b 0 _ t (0, 0) h]; rfl
  · rw [cell_of_row w b 1 _ t (0, 0) h]; rfl
  · rw [cell_of_row w b 2 _ t (0, 0) h]; rfl
  · rw [cell_of_row w b 3 _ t (0, 0) h]; rfl
theorem Four.lt {w : World} {b : Nat} {x y z u : Value} {t : TypeId} (h : Four w b x y z u t) : b < w.heap.size := (Array.getElem?_eq_some_iff.1 h).1
theorem Four.new (w : World) (x y z u : Value) (t : TypeId) : Four (w.alloc (.cells #[x, y, z, u] t)) w.heap.size x y z u t := heap_alloc_new w _
theorem Four.below {w w' : World} {B b : Nat} {x y z u : Value} {t : TypeId} (h : Four w b x y z u t) (hb : Below B w w') (hB : b < B) : Four w' b x y z u t := (hb.block b hB).trans h

/-- The books in memory, each at its place. -/
def Books (w : World) (C1 C2 : Nat) (cs ss ct st : List Int) : Prop := (∃ M, BookAt w C1 M ss (keysTo cs 16)) ∧ ∃ M, BookAt w C2 M st (keysTo ct 16)
theorem BookAt.blt {w : World} {C M : Nat} {ss : List Int} {K : List (Nat × Int)} (h : BookAt w C M ss K) : C < w.heap.size ∧ M < w.heap.size := by
  obtain ⟨⟨arr, h1, h2⟩, h3⟩ := h
  exact ⟨h1.lt, h3.lt⟩
theorem Books.below {w w' : World} {C1 C2 : Nat} {cs ss ct st : List Int} (h : Books w C1 C2 cs ss ct st) (hb : Below w.heap.size w w') : Books w' C1 C2 cs ss ct st := by
  obtain ⟨⟨M, h1⟩, M', h2⟩ := h
  exact ⟨⟨M, h1.below hb⟩, M', h2.below hb⟩

theorem BookAt.set {w : World} {C M b i : Nat} {ss : List Int} {K : List (Nat × Int)} {x y : Value} {t : TypeId} (h : BookAt w C M ss K) (ht : Two w b x y t) (hne : t ≠ 167) (u : Value) : BookAt (w.setCell ⟨b, i, none⟩ u) C M ss K := by
  obtain ⟨⟨arr, h1, h2⟩, h3⟩ := h
  obtain ⟨es, clock, hh, r⟩ := h3
  have hCb : C ≠ b := fun e => by
    subst e
    unfold Two at ht
    unfold Arr at h1
    rw [h1] at ht
    cases ht
    exact hne rfl
  have hMb : M ≠ b := fun e => by
    subst e
    unfold Two at ht
    rw [hh] at ht
    cases ht
  exact ⟨⟨arr, h1.other hCb u, h2⟩, es, clock, (heap_setCell_other _ ⟨b, i, none⟩ M _ (fun e => hMb e)).trans hh, r⟩
theorem Books.set {w : World} {C1 C2 b i : Nat} {cs ss ct st : List Int} {x y : Value} {t : TypeId} (h : Books w C1 C2 cs ss ct st) (ht : Two w b x y t) (hne : t ≠ 167) (u : Value) : Books (w.setCell ⟨b, i, none⟩ u) C1 C2 cs ss ct st := by
  obtain ⟨⟨M, h1⟩, M', h2⟩ := h
  exact ⟨⟨M, h1.set ht hne u⟩, M', h2.set ht hne u⟩

set_option maxRecDepth 100000 in
set_option maxHeartbeats 1600000 in
theorem books_yes (v : Value) (cs ss ct st : List Int) (w : World) (h0 : cs.length ≤ 1048576) (h1 : ss.length ≤ 1048576) (h2 : ct.length ≤ 1048576) (h3 : st.length ≤ 1048576) (hr : rightC cs ss = true) (hr2 : rightC ct st = true) (hv : TV w v cs ss ct st) :
    Calls Tryz.prog 94 #[v] w fun e w' => ∃ C1 C2, e = .returned (.tuple #[.agg #[.pointer (some ⟨C1, 0, none⟩), .pointer (some ⟨C2, 0, none⟩)], .bool true]) ∧ Books w' C1 C2 cs ss ct st ∧ Below w.heap.size w w' := by
  obtain ⟨a0, c0, a1, c1, a2, c2, a3, c3, rfl, u0, u1⟩ := hv
  have hA := (Below.refl w.heap.size w).alloc (Nat.le_refl _) (.cells #[.slice a0 cs.length c0, .slice a1 ss.length c1, .slice a2 ct.length c2, .slice a3 st.length c3] 33)
  have hA2 := hA.alloc hA.size (.cells #[.pointer none, .pointer none] 118)
  have HB := hid hA2
  have HF := hid ((Four.new w (.slice a0 cs.length c0) (.slice a1 ss.length c1) (.slice a2 ct.length c2) (.slice a3 st.length c3) 33).below ((Below.refl _ _).alloc (Nat.le_refl _) (.cells #[.pointer none, .pointer none] 118)) (Four.new w _ _ _ _ 33).lt)
  have HT := hid (Two.new (w.alloc (.cells #[.slice a0 cs.length c0, .slice a1 ss.length c1, .slice a2 ct.length c2, .slice a3 st.length c3] 33)) (.pointer none) (.pointer none) 118)
  have hsz : (w.alloc (.cells #[.slice a0 cs.length c0, .slice a1 ss.length c1, .slice a2 ct.length c2, .slice a3 st.length c3] 33)).heap.size = w.heap.size + 1 := by simp
  rw [hsz] at HT
  have HK1 := hid (fun q (hq : Below w.heap.size w q) => impl_ok (.agg #[.slice a0 cs.length c0, .slice a1 ss.length c1]) cs ss q h0 h1 (u0.below hq))
  have HK2 := hid (fun q (hq : Below w.heap.size w q) => impl_ok (.agg #[.slice a2 ct.length c2, .slice a3 st.length c3]) ct st q h2 h3 (u1.below hq))
  rw [hr] at HK1
  rw [hr2] at HK2
  have HN1 := hid (fun q (hq : Below w.heap.size w q) => book_any (.agg #[.slice a0 cs.length c0, .slice a1 ss.length c1]) cs ss q hr (u0.below hq))
  have HN2 := hid (fun q (hq : Below w.heap.size w q) => book_any (.agg #[.slice a2 ct.length c2, .slice a3 st.length c3]) ct st q hr2 (u1.below hq))
  clear u0 u1 hA hA2 hr hr2 h0 h1 h2 h3 hsz
  go_enter Tryz.func94, Tryz.ntmps94
  go_wp2_with fail
  refine (HK1.out _ HB.out).mono ?_
  generalize (w.alloc (.cells #[.slice a0 cs.length c0, .slice a1 ss.length c1, .slice a2 ct.length c2, .slice a3 st.length c3] 33)).alloc (.cells #[.pointer none, .pointer none] 118) = wa at *
  rintro e w1 ⟨rfl, hb1⟩
  have B1 := hid (HB.out.trans (hb1.mono HB.out.size))
  have F1 := hid (HF.out.below hb1 HF.out.lt)
  have T1 := hid (HT.out.below hb1 HT.out.lt)
  obtain ⟨q0, q1, q2, q3⟩ := F1.out.cells
  clear hb1 HK1 HF HT
  go_wp2_with fail
  refine (HK2.out _ B1.out).mono ?_
  rintro e w2 ⟨rfl, hb2⟩
  have B2 := hid (B1.out.trans (hb2.mono B1.out.size))
  have F2 := hid (F1.out.below hb2 F1.out.lt)
  have T2 := hid (T1.out.below hb2 T1.out.lt)
  clear hb2 HK2 F1 T1 q0 q1 q2 q3 B1 HB
  have HFC := hid (fun q (hq : Below w2.heap.size w2 q) => (F2.out.below hq F2.out.lt).cells)
  have HTC := hid (fun q (hq : Below w2.heap.size w2 q) => (T2.out.below hq T2.out.lt).cells)
  obtain ⟨q0, q1, q2, q3⟩ := F2.out.cells
  obtain ⟨r0, r1, r2, r3⟩ := T2.out.cells
  go_wp2_with fail
  go_region_held3 (fun q => q.cell? ⟨w.heap.size, 0, none⟩ = some (.slice a0 cs.length c0) ∧ q.cell? ⟨w.heap.size, 1, none⟩ = some (.slice a1 ss.length c1) ∧ q.cell? ⟨w.heap.size, 2, none⟩ = some (.slice a2 ct.length c2) ∧ q.cell? ⟨w.heap.size, 3, none⟩ = some (.slice a3 st.length c3)) (go_keep) (first
    | (go_at_call 109; have hX := hcA; refine (HN2.out _ ?_).mono ?_; · first | exact B2.out.trans (hcA.mono B2.out.size) | exact B2.out.trans ((hcA.trans ((Below.refl _ _).drew.mono hcA.size)).mono B2.out.size)
       rintro e w4 ⟨C2, M2, rfl, hk2, hb4⟩
       have hcB : Below w2.heap.size w2 w4 := by first | exact hcA.trans (hb4.mono hcA.size) | exact hcA.trans ((Below.trans (Below.refl _ _).drew hb4).mono hcA.size)
       have hk1' : BookAt w4 C1 M1 ss (keysTo cs 16) := by first | exact hk1.below hb4 | exact (hk1.below (Below.refl _ _).drew).below hb4
       obtain ⟨f0, f1, f2, f3⟩ := HFC.out _ hcB
       obtain ⟨g0, g1, g2, g3⟩ := HTC.out _ hcB)
    | (go_at_call 109; refine (HN1.out _ ?_).mono ?_; · first | exact B2.out | exact B2.out.trans ((Below.refl _ _).drew.mono B2.out.size)
       rintro e w3 ⟨C1, M1, rfl, hk1, hb3⟩
       have hcA : Below w2.heap.size w2 w3 := by first | exact hb3 | exact Below.trans (Below.refl _ _).drew hb3
       obtain ⟨e0, e1, e2, e3⟩ := HFC.out _ hcA
       obtain ⟨d0, d1, d2, d3⟩ := HTC.out _ hcA))
  all_goals
    have HBF := hid (B2.out.trans (hcB.mono B2.out.size))
    have HK := hid (show Books w4 C1 C2 cs ss ct st from ⟨⟨M1, hk1'⟩, M2, hk2⟩)
    have HS1 := hid (T2.out.below hcB T2.out.lt)
    clear hcA hcB hk1 hk1' hk2 hb3 hb4
    go_wp2_with fail
    refine bodyPost_ret (v := .tuple #[.agg #[.pointer (some ⟨C1, 0, none⟩), .pointer (some ⟨C2, 0, none⟩)], .bool true]) (by simp [results, Tryz.results94, go_sem, g0, g1]) rfl ⟨C1, C2, rfl, ?_, ?_⟩
    · exact (HK.out.set (i := 0) HS1.out (by decide) _).set (i := 1) (HS1.out.set0 _) (by decide) _
    · exact (HBF.out.setCell (p := ⟨w.heap.size + 1, 0, none⟩) (by show w.heap.size ≤ w.heap.size + 1; omega) _).setCell (p := ⟨w.heap.size + 1, 1, none⟩) (by show w.heap.size ≤ w.heap.size + 1; omega) _

set_option maxRecDepth 100000 in
set_option maxHeartbeats 1600000 in
theorem books_no (v : Value) (cs ss ct st : List Int) (w : World) (h0 : cs.length ≤ 1048576) (h1 : ss.length ≤ 1048576) (h2 : ct.length ≤ 1048576) (h3 : st.length ≤ 1048576) (hr : ¬ (rightC cs ss = true ∧ rightC ct st = true)) (hv : TV w v cs ss ct st) :
    Calls Tryz.prog 94 #[v] w fun e w' => e = .returned (.tuple #[.agg #[.pointer none, .pointer none], .bool false]) ∧ Below w.heap.size w w' := by
  obtain ⟨a0, c0, a1, c1, a2, c2, a3, c3, rfl, u0, u1⟩ := hv
  have hA := (Below.refl w.heap.size w).alloc (Nat.le_refl _) (.cells #[.slice a0 cs.length c0, .slice a1 ss.length c1, .slice a2 ct.length c2, .slice a3 st.length c3] 33)
  have hA2 := hA.alloc hA.size (.cells #[.pointer none, .pointer none] 118)
  have HB := hid hA2
  have HF := hid ((Four.new w (.slice a0 cs.length c0) (.slice a1 ss.length c1) (.slice a2 ct.length c2) (.slice a3 st.length c3) 33).below ((Below.refl _ _).alloc (Nat.le_refl _) (.cells #[.pointer none, .pointer none] 118)) (Four.new w _ _ _ _ 33).lt)
  have HT := hid (Two.new (w.alloc (.cells #[.slice a0 cs.length c0, .slice a1 ss.length c1, .slice a2 ct.length c2, .slice a3 st.length c3] 33)) (.pointer none) (.pointer none) 118)
  have hsz : (w.alloc (.cells #[.slice a0 cs.length c0, .slice a1 ss.length c1, .slice a2 ct.length c2, .slice a3 st.length c3] 33)).heap.size = w.heap.size + 1 := by simp
  rw [hsz] at HT
  have HK1 := hid (fun q (hq : Below w.heap.size w q) => impl_ok (.agg #[.slice a0 cs.length c0, .slice a1 ss.length c1]) cs ss q h0 h1 (u0.below hq))
  have HK2 := hid (fun q (hq : Below w.heap.size w q) => impl_ok (.agg #[.slice a2 ct.length c2, .slice a3 st.length c3]) ct st q h2 h3 (u1.below hq))
  clear u0 u1 hA hA2 h0 h1 h2 h3 hsz
  by_cases hr1 : rightC cs ss = true
  · have hr2 : rightC ct st = false := by
      have : ¬ rightC ct st = true := fun h => hr ⟨hr1, h⟩
      simpa using this
    rw [hr1] at HK1
    rw [hr2] at HK2
    clear hr hr1 hr2
    go_enter Tryz.func94, Tryz.ntmps94
    go_wp2_with fail
    refine (HK1.out _ HB.out).mono ?_
    generalize (w.alloc (.cells #[.slice a0 cs.length c0, .slice a1 ss.length c1, .slice a2 ct.length c2, .slice a3 st.length c3] 33)).alloc (.cells #[.pointer none, .pointer none] 118) = wa at *
    rintro e w1 ⟨rfl, hb1⟩
    have B1 := hid (HB.out.trans (hb1.mono HB.out.size))
    have F1 := hid (HF.out.below hb1 HF.out.lt)
    have T1 := hid (HT.out.below hb1 HT.out.lt)
    obtain ⟨q0, q1, q2, q3⟩ := F1.out.cells
    clear hb1 HK1 HF HT
    go_wp2_with fail
    refine (HK2.out _ B1.out).mono ?_
    rintro e w2 ⟨rfl, hb2⟩
    have B2 := hid (B1.out.trans (hb2.mono B1.out.size))
    have T2 := hid (T1.out.below hb2 T1.out.lt)
    clear hb2 HK2 F1 T1 q0 q1 q2 q3 B1 HB
    obtain ⟨r0, r1, r2, r3⟩ := T2.out.cells
    go_wp2_with fail
    refine bodyPost_ret (v := .tuple #[.agg #[.pointer none, .pointer none], .bool false]) (by simp [results, Tryz.results94, go_sem, r0, r1]) rfl ⟨rfl, ?_⟩
    exact (B2.out.setCell (p := ⟨w.heap.size + 1, 0, none⟩) (by show w.heap.size ≤ w.heap.size + 1; omega) _).setCell (p := ⟨w.heap.size + 1, 1, none⟩) (by show w.heap.size ≤ w.heap.size + 1; omega) _
  · have hr1' : rightC cs ss = false := by simpa using hr1
    rw [hr1'] at HK1
    clear hr hr1 hr1' HK2
    go_enter Tryz.func94, Tryz.ntmps94
    go_wp2_with fail
    refine (HK1.out _ HB.out).mono ?_
    generalize (w.alloc (.cells #[.slice a0 cs.length c0, .slice a1 ss.length c1, .slice a2 ct.length c2, .slice a3 st.length c3] 33)).alloc (.cells #[.pointer none, .pointer none] 118) = wa at *
    rintro e w1 ⟨rfl, hb1⟩
    have B2 := hid (HB.out.trans (hb1.mono HB.out.size))
    have T2 := hid (HT.out.below hb1 HT.out.lt)
    clear hb1 HK1 HF HT
    obtain ⟨r0, r1, r2, r3⟩ := T2.out.cells
    go_wp2_with fail
    refine bodyPost_ret (v := .tuple #[.agg #[.pointer none, .pointer none], .bool false]) (by simp [results, Tryz.results94, go_sem, r0, r1]) rfl ⟨rfl, ?_⟩
    exact (B2.out.setCell (p := ⟨w.heap.size + 1, 0, none⟩) (by show w.heap.size ≤ w.heap.size + 1; omega) _).setCell (p := ⟨w.heap.size + 1, 1, none⟩) (by show w.heap.size ≤ w.heap.size + 1; omega) _

theorem ta_ss (v : Value) (w : World) : (Instr.typeAssert (.iface 148 v) 125 148 true).run Tryz.prog w = .ok (.tuple #[v, .bool true]) w := by kernel_rfl
theorem ta_bb (v : Value) (w : World) : (Instr.typeAssert (.iface 150 v) 125 150 true).run Tryz.prog w = .ok (.tuple #[v, .bool true]) w := by kernel_rfl
theorem ta_bs (v : Value) (w : World) : (Instr.typeAssert (.iface 150 v) 125 148 true).run Tryz.prog w = .ok (.tuple #[.agg #[.int .i64 0, .int .i64 0], .bool false]) w := by kernel_rfl

set_option maxRecDepth 100000 in
/-- The bits of a part of bits. -/
theorem bitsOf_b (C1 C2 : Nat) (ya : Option Addr) (yn yc : Nat) (w : World) :
    Calls Tryz.prog 96 #[.agg #[.pointer (some ⟨C1, 0, none⟩), .pointer (some ⟨C2, 0, none⟩)], .iface 150 (.agg #[.slice ya yn yc])] w fun e w' => e = .returned (.tuple #[.slice ya yn yc, .bool true]) ∧ Below w.heap.size w w' := by
  have HB := hid (((Below.refl w.heap.size w).alloc (Nat.le_refl _) (.cells #[.pointer (some ⟨C1, 0, none⟩), .pointer (some ⟨C2, 0, none⟩)] 118)).alloc (by simp) (.cells #[.slice ya yn yc] 150))
  have t1 := ta_bs
  have t2 := ta_bb
  go_enter Tryz.func96, Tryz.ntmps96
  go_wp2_with fail
  go_ret2
  exact ⟨rfl, HB.out⟩

/-- What a symbol's bits are: none where it has no code. -/
def SymP (code : List Int) (w : World) (e : Ending) (w' : World) : Prop :=
  (code.length = 0 ∧ e = .returned (.tuple #[.slice none 0 0, .bool false]) ∨ 0 < code.length ∧ ∃ v, e = .returned (.tuple #[v, .bool true]) ∧ Own w' w.heap.size 3 .i64 v code) ∧ Below w.heap.size w w'

set_option maxRecDepth 100000 in
set_option maxHeartbeats 1600000 in
theorem bitsOf_s (C1 C2 : Nat) (t : Nat) (x : Int) (cs ss ct st : List Int) (w : World) (ht : t = 0 ∨ t = 1) (hr : rightC cs ss = true) (hr2 : rightC ct st = true) (hk : Books w C1 C2 cs ss ct st) :
    Calls Tryz.prog 96 #[.agg #[.pointer (some ⟨C1, 0, none⟩), .pointer (some ⟨C2, 0, none⟩)], .iface 148 (.agg #[.int .i64 t, .int .i64 x])] w (SymP (if t = 0 then codeL cs ss x else codeL ct st x) w) := by
  obtain ⟨C, M, cc, sc, hC, hrc, hbk, hcode⟩ : ∃ C M cc sc, C = (if t = 0 then C1 else C2) ∧ rightC cc sc = true ∧ BookAt w C M sc (keysTo cc 16) ∧ (if t = 0 then codeL cs ss x else codeL ct st x) = codeL cc sc x := by
    obtain ⟨⟨M, h1⟩, M', h2⟩ := hk
    rcases ht with rfl | rfl
    · exact ⟨C1, M, cs, ss, rfl, hr, h1, rfl⟩
    · exact ⟨C2, M', ct, st, rfl, hr2, h2, rfl⟩
  rw [hcode]
  have HB0 := hid (((Below.refl w.heap.size w).alloc (Nat.le_refl _) (.cells #[.pointer (some ⟨C1, 0, none⟩), .pointer (some ⟨C2, 0, none⟩)] 118)).alloc (by simp) (.cells #[.int .i64 t, .int .i64 x] 148))
  have HH := hid (has_any C M sc (keysTo cc 16) x _ (hbk.below HB0.out))
  have HKEY := hid (book_key cc sc hrc)
  have HBK := hid (hbk.below HB0.out)
  have T1 := hid ((Two.new w (.pointer (some ⟨C1, 0, none⟩)) (.pointer (some ⟨C2, 0, none⟩)) 118).alloc (.cells #[.int .i64 t, .int .i64 x] 148))
  have T2 := hid (Two.new (w.alloc (.cells #[.pointer (some ⟨C1, 0, none⟩), .pointer (some ⟨C2, 0, none⟩)] 118)) (.int .i64 t) (.int .i64 x) 148)
  have t1 := ta_ss
  have hsz : (w.alloc (.cells #[.pointer (some ⟨C1, 0, none⟩), .pointer (some ⟨C2, 0, none⟩)] 118)).heap.size = w.heap.size + 1 := by simp
  rw [hsz] at T2
  clear hk hbk hr hr2 hrc hcode hsz
  by_cases hs : 0 ≤ x ∧ x ≤ 255
  · have hin := (inB_iff _).2 hs
    obtain ⟨j, rfl⟩ := Int.eq_ofNat_of_zero_le hs.1
    have hj : j < 256 := by omega
    have hcl : codeL cc sc (j : Int) = bitsK (bookTo sc (keysTo cc 16) j) := by unfold codeL; rw [if_pos hin]; rfl
    rcases HKEY.out j with hz | hkk
    · have hfl : (inB (j : Int) && decide (0 < ((bookTo sc (keysTo cc 16) (j : Int).toNat).1 : Int))) = false := by
        show (inB (j : Int) && decide (0 < ((bookTo sc (keysTo cc 16) j).1 : Int))) = false
        rw [hz]; simp
      rw [hfl] at HH
      have HR := hid (show (codeL cc sc (j : Int)).length = 0 by rw [hcl, hz]; rfl)
      clear hz hin hs hcl hfl HKEY
      rcases ht with rfl | rfl
      all_goals
        simp only [if_true, if_false, Nat.one_ne_zero] at hC
        subst hC
        go_enter Tryz.func96, Tryz.ntmps96
        go_wp2_with fail
        refine HH.out.mono ?_
        rintro e w3 ⟨rfl, rfl⟩
        go_wp2_with fail
        go_ret2
        exact ⟨.inl ⟨HR.out, rfl⟩, HB0.out⟩
    · have hfl : (inB (j : Int) && decide (0 < ((bookTo sc (keysTo cc 16) (j : Int).toNat).1 : Int))) = true := by
        show (inB (j : Int) && decide (0 < ((bookTo sc (keysTo cc 16) j).1 : Int))) = true
        have := hkk.1.1
        rw [hin, Bool.true_and]; simp; omega
      rw [hfl] at HH
      have HBI := hid (bitsOf_any C M sc (keysTo cc 16) j _ hj HBK.out hkk)
      have HP := hid (show 0 < (codeL cc sc (j : Int)).length by rw [hcl, bitsK, bl_length]; exact hkk.1.1)
      rw [← hcl] at HBI
      clear hkk hin hs hcl hfl HKEY
      generalize codeL cc sc (j : Int) = Y at *
      rcases ht with rfl | rfl
      all_goals
        simp only [if_true, if_false, Nat.one_ne_zero] at hC
        subst hC
        go_enter Tryz.func96, Tryz.ntmps96
        go_wp2_with fail
        refine HH.out.mono ?_
        rintro e w3 ⟨rfl, rfl⟩
        go_wp2_with fail
        refine HBI.out.mono ?_
        rintro e w4 ⟨y, rfl, hy, hb4⟩
        obtain ⟨yo, yc, rfl⟩ := hy.shape
        have HY := hid (hy.mono HB0.out.size)
        have HB4 := hid (HB0.out.trans (hb4.mono HB0.out.size))
        clear hy hb4
        go_wp2_with fail
        go_ret2
        exact ⟨.inr ⟨HP.out, _, rfl, HY.out⟩, HB4.out⟩
  · have hin := (inB_no _).2 hs
    have HR := hid (show (codeL cc sc x).length = 0 by rw [codeL_out cc sc x hin]; rfl)
    rw [hin, Bool.false_and] at HH
    clear hin hs HKEY
    rcases ht with rfl | rfl
    all_goals
      simp only [if_true, if_false, Nat.one_ne_zero] at hC
      subst hC
      go_enter Tryz.func96, Tryz.ntmps96
      go_wp2_with fail
      refine HH.out.mono ?_
      rintro e w3 ⟨rfl, rfl⟩
      go_wp2_with fail
      go_ret2
      exact ⟨.inl ⟨HR.out, rfl⟩, HB0.out⟩
end Go.Proofs.YtnnakmgngkpghaaGreat

/- Plain facts on the bits of parts, and the contract of ScanBits of the program. -/
namespace Go.Proofs.YtnnakmgngkpghaaGreat
open Go.RowKit Go.Maps
set_option linter.unusedVariables false

/-- Two tables of codes. -/
structure Tb where
  cs : List Int
  ss : List Int
  ct : List Int
  st : List Int
def Tb.code (T : Tb) (t x : Int) : List Int := if t = 0 then codeL T.cs T.ss x else codeL T.ct T.st x
abbrev Tb.right (T : Tb) : Prop := rightC T.cs T.ss = true ∧ rightC T.ct T.st = true
/-- The bits of a part. -/
def bitsPt (T : Tb) : Pt → Option (List Int)
  | .inl (t, x) => if (T.code t x).length = 0 then none else some (T.code t x)
  | .inr xs => some xs
/-- One part more. -/
def more (T : Tb) (acc : List Int) (p : Pt) : Option (List Int) := (bitsPt T p).bind fun y => if 480000 < acc.length + y.length then none else some (acc ++ y)
/-- The bits of the first k parts. -/
def foldTo (T : Tb) (P : List Pt) : Nat → Option (List Int)
  | 0 => some []
  | k + 1 => (foldTo T P k).bind fun acc => more T acc (nthP P k)
theorem foldTo_next {T : Tb} {P : List Pt} {k : Nat} {acc : List Int} (h : foldTo T P k = some acc) : foldTo T P (k + 1) = more T acc (nthP P k) := by rw [foldTo, h]; rfl
theorem foldTo_none (T : Tb) (P : List Pt) (k : Nat) (h : foldTo T P k = none) : ∀ n, k ≤ n → foldTo T P n = none
  | 0, hn => by have : k = 0 := by omega
                subst this; exact h
  | n + 1, hn => by
    by_cases e : k = n + 1
    · rw [← e]; exact h
    · rw [foldTo, foldTo_none T P k h n (by omega)]; rfl
theorem more_len {T : Tb} {acc r : List Int} {p : Pt} (h : more T acc p = some r) : r.length ≤ 480000 := by
  unfold more at h
  cases hb : bitsPt T p with
  | none => rw [hb] at h; cases h
  | some y =>
    rw [hb] at h
    have h' : (if 480000 < acc.length + y.length then none else some (acc ++ y)) = some r := h
    by_cases hc : 480000 < acc.length + y.length
    · rw [if_pos hc] at h'; cases h'
    · rw [if_neg hc] at h'
      cases h'
      rw [List.length_append]
      omega
theorem foldTo_len {T : Tb} {P : List Pt} : ∀ {k : Nat} {acc : List Int}, foldTo T P k = some acc → acc.length ≤ 480000
  | 0, acc, h => by simp [foldTo] at h; subst h; simp
  | k + 1, acc, h => by
    rw [foldTo] at h
    cases hk : foldTo T P k with
    | none => rw [hk] at h; cases h
    | some a =>
      rw [hk] at h
      exact more_len h
def fineP : Pt → Prop
  | .inl (t, _) => t = 0 ∨ t = 1
  | .inr xs => xs.length ≤ 11
theorem ptsS_fine (S : List (Int × Int × List Int)) (h : ∀ j, j < S.length → (nthS S j).2.2.length ≤ 11) : ∀ k, k ≤ S.length → ∀ p ∈ ptsS S k, fineP p
  | 0, _, p, hp => by simp [ptsS] at hp
  | k + 1, hk, p, hp => by
    rw [ptsS, List.mem_append] at hp
    rcases hp with hp | hp
    · exact ptsS_fine S h k (by omega) p hp
    · simp only [List.mem_cons, List.not_mem_nil, or_false] at hp
      rcases hp with rfl | rfl
      · exact .inr rfl
      · exact h k (by omega)
theorem ptsTo_fine (L : List (Int × List Int)) (h : oksTo L L.length = true) : ∀ k, k ≤ L.length → ∀ p ∈ ptsTo L k, fineP p
  | 0, _, p, hp => by simp [ptsTo] at hp
  | k + 1, hk, p, hp => by
    rw [ptsTo, List.mem_append, List.mem_append] at hp
    rcases hp with (hp | hp) | hp
    · exact ptsTo_fine L h k (by omega) p hp
    · simp only [List.mem_cons, List.not_mem_nil, or_false] at hp
      rcases hp with rfl | rfl
      · exact .inl rfl
      · exact restL_len _
    · have hf := stepsR_fine _ _ (oksTo_at L L.length h k (by omega))
      exact ptsS_fine _ (fun j hj => (hf.2 j hj).2.2) _ (Nat.le_refl _) p hp
theorem nthP_mem (P : List Pt) (j : Nat) (h : j < P.length) : nthP P j ∈ P := by simp [nthP, List.getD, h]
/-- Blocks that can be written. -/
abbrev scanOk (L : List (Int × List Int)) : Prop := L.length ≤ 1600 ∧ oksTo L L.length = true
/-- What ScanBits answers. -/
def scanR (T : Tb) (L : List (Int × List Int)) : Option (List Int) := if T.right ∧ scanOk L then foldTo T (ptsTo L L.length) (ptsTo L L.length).length else none
theorem scanR_no {T : Tb} {L : List (Int × List Int)} (h : ¬ (T.right ∧ scanOk L)) : scanR T L = none := by unfold scanR; rw [if_neg h]
theorem scanR_yes {T : Tb} {L : List (Int × List Int)} (h : T.right) (h2 : scanOk L) : scanR T L = foldTo T (ptsTo L L.length) (ptsTo L L.length).length := by unfold scanR; rw [if_pos ⟨h, h2⟩]
theorem scanR_len (T : Tb) (L : List (Int × List Int)) : ((scanR T L).getD []).length ≤ 480000 := by
  cases h : scanR T L with
  | none => simp
  | some r =>
    unfold scanR at h
    split at h
    · exact foldTo_len h
    · cases h
/-- What is answered: the bits and true, or nothing and false. -/
def ScP (R : Option (List Int)) (w : World) (e : Ending) (w' : World) : Prop :=
  ∃ v, e = .returned (.tuple #[v, .bool R.isSome]) ∧ Own w' w.heap.size 3 .i64 v (R.getD []) ∧ Below w.heap.size w w'
theorem ScP.no {w w' : World} (hb : Below w.heap.size w w') : ScP none w (.returned (.tuple #[.slice (some ⟨w'.heap.size, 0, none⟩) 0 0, .bool false])) (w'.alloc (.cells #[] 3)) :=
  ⟨_, rfl, Own.empty _ _ _ _ hb.size, hb.alloc hb.size _⟩
theorem bitsOf_i (C1 C2 : Nat) (t x : Int) (T : Tb) (w : World) (ht : t = 0 ∨ t = 1) (hr : T.right) (hk : Books w C1 C2 T.cs T.ss T.ct T.st) :
    Calls Tryz.prog 96 #[.agg #[.pointer (some ⟨C1, 0, none⟩), .pointer (some ⟨C2, 0, none⟩)], .iface 148 (.agg #[.int .i64 t, .int .i64 x])] w (SymP (T.code t x) w) := by
  rcases ht with rfl | rfl
  · exact bitsOf_s C1 C2 0 x T.cs T.ss T.ct T.st w (.inl rfl) hr.1 hr.2 hk
  · exact bitsOf_s C1 C2 1 x T.cs T.ss T.ct T.st w (.inr rfl) hr.1 hr.2 hk
theorem code_len (T : Tb) (h : T.right) (t x : Int) : (T.code t x).length ≤ 16 := by
  have key : ∀ cs ss : List Int, rightC cs ss = true → (codeL cs ss x).length ≤ 16 := fun cs ss hr => by
    unfold codeL
    split
    · rw [bitsK, bl_length]
      rcases book_key cs ss hr x.toNat with h | h
      · rw [h]; decide
      · exact h.1.2
    · simp
  unfold Tb.code
  split
  · exact key _ _ h.1
  · exact key _ _ h.2
end Go.Proofs.YtnnakmgngkpghaaGreat

/- The contract of ScanBits of the program. -/
namespace Go.Proofs.YtnnakmgngkpghaaGreat
open Go.RowKit Go.Maps
set_option linter.unusedVariables false

theorem more_s_no {T : Tb} {acc : List Int} {t x : Int} (h : (T.code t x).length = 0) : more T acc (.inl (t, x)) = none := by
  unfold more; show (Option.bind (if (T.code t x).length = 0 then none else some (T.code t x)) _) = _; rw [if_pos h]; rfl
theorem more_s_big {T : Tb} {acc : List Int} {t x : Int} (h : 0 < (T.code t x).length) (hb : 480000 < acc.length + (T.code t x).length) : more T acc (.inl (t, x)) = none := by
  unfold more; show (Option.bind (if (T.code t x).length = 0 then none else some (T.code t x)) _) = _; rw [if_neg (by omega)]; show (if _ then _ else _) = _; rw [if_pos hb]
theorem more_s_ok {T : Tb} {acc : List Int} {t x : Int} (h : 0 < (T.code t x).length) (hb : ¬ 480000 < acc.length + (T.code t x).length) : more T acc (.inl (t, x)) = some (acc ++ T.code t x) := by
  unfold more; show (Option.bind (if (T.code t x).length = 0 then none else some (T.code t x)) _) = _; rw [if_neg (by omega)]; show (if _ then _ else _) = _; rw [if_neg hb]
theorem more_b_big {T : Tb} {acc xs : List Int} (hb : 480000 < acc.length + xs.length) : more T acc (.inr xs) = none := by
  unfold more bitsPt; show (if _ then _ else _) = _; rw [if_pos hb]
theorem more_b_ok {T : Tb} {acc xs : List Int} (hb : ¬ 480000 < acc.length + xs.length) : more T acc (.inr xs) = some (acc ++ xs) := by
  unfold more bitsPt; show (if _ then _ else _) = _; rw [if_neg hb]

theorem ScP.noG {w w' : World} (g : Nat) (hg : w'.heap.size = g) (hb : Below w.heap.size w w') : ScP none w (.returned (.tuple #[.slice (some ⟨g, 0, none⟩) 0 0, .bool false])) (w'.alloc (.cells #[] 3)) := by
  subst hg
  exact ScP.no hb

set_option maxRecDepth 100000 in
set_option maxHeartbeats 3200000 in
theorem impl_scanBits (v : Value) (T : Tb) (ao : Option Addr) (cap : Nat) (L : List (Int × List Int)) (w : World) (h0 : T.cs.length ≤ 1048576) (h1 : T.ss.length ≤ 1048576) (h2 : T.ct.length ≤ 1048576) (h3 : T.st.length ≤ 1048576)
    (hn : L.length ≤ 1048576) (hs : ∀ j, j < L.length → (nth L j).2.length ≤ 1048576) (ht : TV w v T.cs T.ss T.ct T.st) (hv : BRow w ao L) :
    Calls Tryz.prog 79 #[v, .slice ao L.length cap] w (ScP (scanR T L) w) := by
  have HTV := hid ht
  obtain ⟨a0, c0, a1, c1, a2, c2, a3, c3, rfl, _, _⟩ := ht
  have HB := hid ((Below.refl w.heap.size w).alloc (Nat.le_refl _) (.cells #[.slice a0 T.cs.length c0, .slice a1 T.ss.length c1, .slice a2 T.ct.length c2, .slice a3 T.st.length c3] 33))
  have HV := hid hv
  have HS := hid hs
  clear hv hs
  by_cases hr : T.right
  · have HKB := hid (books_yes _ T.cs T.ss T.ct T.st _ h0 h1 h2 h3 hr.1 hr.2 (HTV.out.below HB.out))
    have HR := hid hr
    clear h0 h1 h2 h3 HTV
    by_cases hk : scanOk L
    · have HPA := hid (fun q (hq : Below w.heap.size w q) => parts_yes ao cap L q hk.1 hk.2 (HV.out.below hq))
      have HRES := hid (scanR_yes hr hk)
      have HFN := hid (fun j hj => ptsTo_fine L hk.2 L.length (Nat.le_refl _) _ (nthP_mem (ptsTo L L.length) j hj))
      have hpl := ptsTo_len L hk.2 L.length (Nat.le_refl _)
      have hl1600 := hk.1
      clear hr hk
      generalize ptsTo L L.length = P at *
      have hP9 : P.length < 1000000 := by omega
      go_enter Tryz.func79, Tryz.ntmps79
      go_wp2_with fail
      refine HKB.out.mono ?_
      generalize w.alloc (.cells #[.slice a0 T.cs.length c0, .slice a1 T.ss.length c1, .slice a2 T.ct.length c2, .slice a3 T.st.length c3] 33) = wa at *
      rintro e w1 ⟨C1, C2, rfl, hbk, hb1⟩
      have HA1 := hid ((Below.refl w1.heap.size w1).alloc (Nat.le_refl _) (.cells #[.pointer (some ⟨C1, 0, none⟩), .pointer (some ⟨C2, 0, none⟩)] 118))
      have B1 := hid (HB.out.trans ((hb1.trans (HA1.out.mono hb1.size)).mono HB.out.size))
      have HT1 := hid (Two.new w1 (.pointer (some ⟨C1, 0, none⟩)) (.pointer (some ⟨C2, 0, none⟩)) 118)
      have HK1 := hid (hbk.below HA1.out)
      clear hbk hb1 HKB HB
      go_wp2_with fail
      generalize w1.alloc (.cells #[.pointer (some ⟨C1, 0, none⟩), .pointer (some ⟨C2, 0, none⟩)] 118) = w2 at *
      refine (HPA.out _ B1.out).mono ?_
      rintro e w3 ⟨v3, rfl, ho3, hb3⟩
      obtain ⟨po, pc, rfl⟩ := ho3.shape
      have B3 := hid (B1.out.trans (hb3.mono B1.out.size))
      have HT3 := hid (HT1.out.below hb3 HT1.out.lt)
      have HK3 := hid (HK1.out.below hb3)
      have HO3 := hid ho3
      have HE0 := hid (Own.empty w3 3 .i64 w3.heap.size (Nat.le_refl _))
      have HBE := hid ((Below.refl w3.heap.size w3).alloc (Nat.le_refl _) (.cells #[] 3))
      clear ho3 hb3 HT1 HK1 B1 HPA HA1
      obtain ⟨q1, q2, q3, q4⟩ := HT3.out.cells
      go_wp2_with fail
      generalize w3.alloc (.cells #[] 3) = wb at *
      clear q1 q2 q3 q4
      go_loopw [9, 33] (fun bs i wr => ∃ (k : Nat) (acc : List Int), k ≤ P.length ∧ i = .int .i64 k ∧ Hid (foldTo T P k = some acc) ∧ Hid (Own wr w3.heap.size 3 .i64 bs acc) ∧ Hid (Below w3.heap.size w3 wr)) (fun _ i _ => P.length - (intOf i).toNat)
      case atStart => exact ⟨0, [], by omega, rfl, rfl, HE0.out, HBE.out⟩
      case round =>
        obtain ⟨k, acc, hk, rfl, hfold, hown, hb⟩ := hrel
        clear HE0 HBE
        obtain ⟨bo, bc, rfl⟩ := hown.out.shape
        have HBW := hid (B3.out.trans (hb.out.mono B3.out.size))
        have hal := foldTo_len hfold.out
        by_cases hlt : k < P.length
        · have hlt' : (k : Int) < (P.length : Int) := by omega
          obtain ⟨g, y, rfl, hcy, hpt⟩ := (HO3.out.below hb.out).cell k hlt
          have HNO := hid (fun (h : more T acc (nthP P k) = none) => foldTo_none T P (k + 1) ((foldTo_next hfold.out).trans h) P.length (by omega))
          have HYES := hid (fun r (h : more T acc (nthP P k) = some r) => (foldTo_next hfold.out).trans h)
          have hfine := HFN.out k hlt
          have HT := hid (HT3.out.below hb.out HT3.out.lt)
          have HK := hid (HK3.out.below hb.out)
          obtain ⟨q1, q2, q3, q4⟩ := HT.out.cells
          have hszr : w.heap.size ≤ wr.heap.size := HBW.out.size
          revert hpt hfine HNO HYES
          cases nthP P k with
          | inl q =>
            obtain ⟨t, x⟩ := q
            intro hpt HNO HYES hfine
            obtain rfl : y = .iface 148 (.agg #[.int .i64 t, .int .i64 x]) := hpt
            have HBI := hid (bitsOf_i C1 C2 t x T wr hfine HR.out HK.out)
            have hcl := code_len T HR.out t x
            have HM1 := hid (fun h => HNO.out (more_s_no (T := T) (acc := acc) (t := t) (x := x) h))
            have HM2 := hid (fun h h' => HNO.out (more_s_big (T := T) (acc := acc) (t := t) (x := x) h h'))
            have HM3 := hid (fun h h' => HYES.out _ (more_s_ok (T := T) (acc := acc) (t := t) (x := x) h h'))
            clear hfine HNO HYES
            generalize T.code t x = Y at *
            go_wp2_with fail
            refine HBI.out.mono ?_
            rintro e w4 ⟨hcase, hb4⟩
            have HB4 := hid (hb.out.trans (hb4.mono hb.out.size))
            have HBW4 := hid (HBW.out.trans (hb4.mono HBW.out.size))
            have HOW4 := hid (hown.out.below hb4)
            clear hcy q1 q2 q3 q4 HBI HT HK
            rcases hcase with ⟨hz, rfl⟩ | ⟨hpos, y, rfl, hy⟩
            · have HRN := hid (HRES.out.trans (HM1.out hz))
              clear hz hb4
              go_wp2_with fail
              go_ret2
              rw [HRN.out]
              exact ScP.no HBW4.out
            · obtain ⟨yo, yc, rfl⟩ := hy.shape
              have HY := hid hy
              by_cases hbig : 480000 < acc.length + Y.length
              · have HRN := hid (HRES.out.trans (HM2.out hpos hbig))
                have hbig' : (480000 : Int) < (acc.length : Int) + (Y.length : Int) := by omega
                clear hb4 hy
                go_wp2_with fail
                go_ret2
                rw [HRN.out]
                exact ScP.no HBW4.out
              · have HNX := hid (HM3.out hpos hbig)
                have hbig' : ¬ (480000 : Int) < (acc.length : Int) + (Y.length : Int) := by omega
                clear hb4 hy
                go_wp2_with (at_builtin; refine wpList_appO w4 rfl _ _ 22 rfl w3.heap.size 3 .i64 0 8 Tryz.underlying22 Tryz.info3 _ acc (by rfl) HOW4.out wr.heap.size _ Y (by rfl) HY.out (by omega) (by decide) ?_)
                intro v5 w5 ho5 hb5
                obtain ⟨oo, oc, rfl⟩ := ho5.shape
                have HO5 := hid ho5
                have HB5 := hid (HB4.out.trans hb5)
                clear ho5 hb5
                go_wp2_with fail
                go_roundw
                case rel => exact ⟨k + 1, _, by omega, by go_num, HNX.out, HO5.out, HB5.out⟩
                case measure => simp [intOf]; omega
          | inr xs =>
            intro hpt HNO HYES hfine
            obtain ⟨y', rfl, hy⟩ := hpt
            obtain ⟨yo, yc, rfl⟩ := hy.shape
            have hxl : xs.length ≤ 11 := hfine
            have HM2 := hid (fun h' => HNO.out (more_b_big (T := T) (acc := acc) (xs := xs) h'))
            have HM3 := hid (fun h' => HYES.out _ (more_b_ok (T := T) (acc := acc) (xs := xs) h'))
            have HY0 := hid hy
            clear hfine HNO HYES hy
            go_wp2_with fail
            refine (bitsOf_b C1 C2 yo xs.length yc wr).mono ?_
            rintro e w4 ⟨rfl, hb4⟩
            have HB4 := hid (hb.out.trans (hb4.mono hb.out.size))
            have HBW4 := hid (HBW.out.trans (hb4.mono HBW.out.size))
            have HOW4 := hid (hown.out.below hb4)
            have HY := hid (HY0.out.below hb4)
            clear hcy q1 q2 q3 q4 HT HK hb4
            by_cases hbig : 480000 < acc.length + xs.length
            · have HRN := hid (HRES.out.trans (HM2.out hbig))
              have hbig' : (480000 : Int) < (acc.length : Int) + (xs.length : Int) := by omega
              go_wp2_with fail
              go_ret2
              rw [HRN.out]
              exact ScP.no HBW4.out
            · have HNX := hid (HM3.out hbig)
              have hbig' : ¬ (480000 : Int) < (acc.length : Int) + (xs.length : Int) := by omega
              go_wp2_with (at_builtin; refine wpList_appO w4 rfl _ _ 22 rfl w3.heap.size 3 .i64 0 8 Tryz.underlying22 Tryz.info3 _ acc (by rfl) HOW4.out w2.heap.size _ xs (by rfl) HY.out (by omega) (by decide) ?_)
              intro v5 w5 ho5 hb5
              obtain ⟨oo, oc, rfl⟩ := ho5.shape
              have HO5 := hid ho5
              have HB5 := hid (HB4.out.trans hb5)
              clear ho5 hb5
              go_wp2_with fail
              go_roundw
              case rel => exact ⟨k + 1, _, by omega, by go_num, HNX.out, HO5.out, HB5.out⟩
              case measure => simp [intOf]; omega
        · obtain rfl : k = P.length := by omega
          have HRS := hid (HRES.out.trans hfold.out)
          have HOF := hid (hown.out.mono B3.out.size)
          go_wp2_with fail
          go_ret2
          rw [HRS.out]
          exact ⟨_, rfl, HOF.out, HBW.out⟩
    · have HPA := hid (fun q (hq : Below w.heap.size w q) => parts_no ao cap L q hn HS.out (HV.out.below hq) hk)
      have HRN := hid (scanR_no (T := T) (L := L) (fun h => hk h.2))
      clear hr hk
      go_enter Tryz.func79, Tryz.ntmps79
      go_wp2_with fail
      refine HKB.out.mono ?_
      generalize w.alloc (.cells #[.slice a0 T.cs.length c0, .slice a1 T.ss.length c1, .slice a2 T.ct.length c2, .slice a3 T.st.length c3] 33) = wa at *
      rintro e w1 ⟨C1, C2, rfl, hbk, hb1⟩
      have HA1 := hid ((Below.refl w1.heap.size w1).alloc (Nat.le_refl _) (.cells #[.pointer (some ⟨C1, 0, none⟩), .pointer (some ⟨C2, 0, none⟩)] 118))
      have B1 := hid (HB.out.trans ((hb1.trans (HA1.out.mono hb1.size)).mono HB.out.size))
      clear hbk hb1 HKB HB
      go_wp2_with fail
      generalize w1.alloc (.cells #[.pointer (some ⟨C1, 0, none⟩), .pointer (some ⟨C2, 0, none⟩)] 118) = w2 at *
      refine (HPA.out _ B1.out).mono ?_
      rintro e w3 ⟨rfl, hb3⟩
      have B3 := hid (B1.out.trans (hb3.mono B1.out.size))
      clear hb3
      go_wp2_with fail
      go_ret2
      rw [HRN.out]
      exact ScP.no B3.out
  · have HKB := hid (books_no _ T.cs T.ss T.ct T.st _ h0 h1 h2 h3 hr (HTV.out.below HB.out))
    have HRN := hid (scanR_no (T := T) (L := L) (fun h => hr h.1))
    clear hr h0 h1 h2 h3 HTV
    go_enter Tryz.func79, Tryz.ntmps79
    go_wp2_with fail
    refine HKB.out.mono ?_
    generalize w.alloc (.cells #[.slice a0 T.cs.length c0, .slice a1 T.ss.length c1, .slice a2 T.ct.length c2, .slice a3 T.st.length c3] 33) = wa at *
    rintro e w1 ⟨rfl, hb1⟩
    have HA1 := hid ((Below.refl w1.heap.size w1).alloc (Nat.le_refl _) (.cells #[.pointer none, .pointer none] 118))
    have B1 := hid (HB.out.trans ((hb1.trans (HA1.out.mono hb1.size)).mono HB.out.size))
    have HS2 := hid (show (w1.alloc (.cells #[.pointer none, .pointer none] 118)).heap.size = w1.heap.size + 1 by simp)
    clear hb1 HKB HB
    go_wp2_with fail
    generalize w1.alloc (.cells #[.pointer none, .pointer none] 118) = w2 at *
    go_ret2
    rw [HRN.out]
    exact ScP.noG _ HS2.out B1.out
end Go.Proofs.YtnnakmgngkpghaaGreat

/- Plain facts: the bits of parts with no bound, and what the specification's ScanBits makes of them; appends to a slice that say where it lies. -/
namespace Go.Proofs.YtnnakmgngkpghaaGreat
open Go.RowKit Go.Maps
set_option linter.unusedVariables false

/-- The bits of parts. -/
def raw (T : Tb) : List Pt → Option (List Int)
  | [] => some []
  | p :: ps => (bitsPt T p).bind fun y => (raw T ps).bind fun r => some (y ++ r)
theorem raw_append (T : Tb) : ∀ P Q : List Pt, raw T (P ++ Q) = (raw T P).bind fun a => (raw T Q).bind fun b => some (a ++ b)
  | [], Q => by
    show raw T Q = (raw T Q).bind fun b => some ([] ++ b)
    cases raw T Q <;> rfl
  | p :: ps, Q => by
    show (bitsPt T p).bind (fun y => (raw T (ps ++ Q)).bind fun r => some (y ++ r)) = _
    rw [raw_append T ps Q]
    show _ = ((bitsPt T p).bind fun y => (raw T ps).bind fun r => some (y ++ r)).bind _
    cases bitsPt T p with
    | none => rfl
    | some y =>
      cases raw T ps with
      | none => rfl
      | some a =>
        cases raw T Q with
        | none => rfl
        | some b => show some (y ++ (a ++ b)) = some (y ++ a ++ b); rw [List.append_assoc]
theorem raw_one (T : Tb) (p : Pt) : raw T [p] = bitsPt T p := by
  show (bitsPt T p).bind (fun y => some (y ++ [])) = _
  cases bitsPt T p with
  | none => rfl
  | some y => show some (y ++ []) = some y; rw [List.append_nil]
theorem raw_snoc {T : Tb} {P : List Pt} {r y : List Int} {p : Pt} (h : raw T P = some r) (hp : bitsPt T p = some y) : raw T (P ++ [p]) = some (r ++ y) := by
  rw [raw_append, h, raw_one, hp]; rfl
theorem raw_none {T : Tb} {P : List Pt} (Q : List Pt) (h : raw T P = none) : raw T (P ++ Q) = none := by rw [raw_append, h]; rfl
theorem raw_snoc_none {T : Tb} {P : List Pt} {r : List Int} {p : Pt} (h : raw T P = some r) (hp : bitsPt T p = none) : raw T (P ++ [p]) = none := by
  rw [raw_append, h, raw_one, hp]; rfl
/-- Bits that are not too many. -/
def lim (r : List Int) : Option (List Int) := if 480000 < r.length then none else some r
theorem raw_big {T : Tb} {P : List Pt} {r : List Int} (Q : List Pt) (h : raw T P = some r) (hb : 480000 < r.length) : (raw T (P ++ Q)).bind lim = none := by
  rw [raw_append, h]
  cases raw T Q with
  | none => rfl
  | some b =>
    show lim (r ++ b) = none
    unfold lim
    rw [if_pos (by rw [List.length_append]; omega)]
theorem take_succP (P : List Pt) (k : Nat) (h : k < P.length) : P.take (k + 1) = P.take k ++ [nthP P k] := by
  rw [List.take_add_one]
  simp [nthP, List.getD, h]
theorem foldTo_raw (T : Tb) (P : List Pt) : ∀ k, k ≤ P.length → foldTo T P k = (raw T (P.take k)).bind lim
  | 0, _ => by simp [foldTo, raw, lim]
  | k + 1, hk => by
    rw [foldTo, foldTo_raw T P k (by omega), take_succP P k (by omega), raw_append, raw_one]
    cases raw T (P.take k) with
    | none => rfl
    | some r =>
      show (lim r).bind (fun acc => more T acc (nthP P k)) = ((bitsPt T (nthP P k)).bind fun b => some (r ++ b)).bind lim
      unfold lim more
      by_cases hr : 480000 < r.length
      · rw [if_pos hr]
        cases bitsPt T (nthP P k) with
        | none => rfl
        | some y =>
          show none = if _ then _ else _
          rw [if_pos (by rw [List.length_append]; omega)]
      · rw [if_neg hr]
        cases bitsPt T (nthP P k) with
        | none => rfl
        | some y =>
          show (if 480000 < r.length + y.length then none else some (r ++ y)) = if 480000 < (r ++ y).length then none else some (r ++ y)
          rw [List.length_append]
theorem scanR_raw {T : Tb} {L : List (Int × List Int)} (h : T.right) (h2 : scanOk L) : scanR T L = (raw T (ptsTo L L.length)).bind lim := by
  rw [scanR_yes h h2, foldTo_raw T _ _ (Nat.le_refl _), List.take_length]
theorem ptsTo_pre (L : List (Int × List Int)) (k : Nat) : ∀ n, k ≤ n → ∃ Q, ptsTo L n = ptsTo L k ++ Q
  | 0, hn => ⟨[], by have : k = 0 := by omega
                     subst this; simp⟩
  | n + 1, hn => by
    by_cases e : k = n + 1
    · subst e; exact ⟨[], by simp⟩
    · obtain ⟨Q, hQ⟩ := ptsTo_pre L k n (by omega)
      exact ⟨_, by rw [ptsTo, hQ, List.append_assoc, List.append_assoc]⟩
theorem ptsS_pre (S : List (Int × Int × List Int)) (k : Nat) : ∀ n, k ≤ n → ∃ Q, ptsS S n = ptsS S k ++ Q
  | 0, hn => ⟨[], by have : k = 0 := by omega
                     subst this; simp⟩
  | n + 1, hn => by
    by_cases e : k = n + 1
    · subst e; exact ⟨[], by simp⟩
    · obtain ⟨Q, hQ⟩ := ptsS_pre S k n (by omega)
      exact ⟨_, by rw [ptsS, hQ, List.append_assoc]⟩
/-- The parts of block k up to its m-th step. -/
def ptsAt (L : List (Int × List Int)) (k m : Nat) : List Pt := ptsTo L k ++ [.inl (0, (sz (df L k))), .inr (restL (df L k))] ++ ptsS (stepsR (nth L k).1 (nth L k).2) m
theorem ptsAt_pre (L : List (Int × List Int)) (k m : Nat) (hk : k < L.length) (hm : m ≤ (stepsR (nth L k).1 (nth L k).2).length) : ∃ Q, ptsTo L L.length = ptsAt L k m ++ Q := by
  obtain ⟨Q, hQ⟩ := ptsTo_pre L (k + 1) L.length (by omega)
  obtain ⟨Q', hQ'⟩ := ptsS_pre (stepsR (nth L k).1 (nth L k).2) m _ hm
  refine ⟨Q' ++ Q, ?_⟩
  rw [hQ, ptsTo, hQ', ptsAt]
  simp only [List.append_assoc]
theorem ptsAt_end (L : List (Int × List Int)) (k : Nat) : ptsAt L k (stepsR (nth L k).1 (nth L k).2).length = ptsTo L (k + 1) := rfl

/-- A slice's own block lies outside a stretch of blocks. -/
def Far (v : Value) (B M : Nat) : Prop := ∀ g, v.ownBlock = some g → g < B ∨ M ≤ g
def Mid (B M : Nat) (w w' : World) : Prop := ∀ g, B ≤ g → g < M → w'.heap[g]? = w.heap[g]?
theorem Mid.refl (B M : Nat) (w : World) : Mid B M w w := fun _ _ _ => rfl
theorem Mid.trans {B M : Nat} {a b c : World} (h : Mid B M a b) (k : Mid B M b c) : Mid B M a c := fun g h0 h1 => (k g h0 h1).trans (h g h0 h1)
theorem Mid.ofBelow {B M : Nat} {w w' : World} (h : Below w.heap.size w w') (hM : M ≤ w.heap.size) : Mid B M w w' := fun g _ h1 => h.block g (by omega)
/-- What an append leaves. -/
def AppP (w : World) (base : Nat) (v : Value) (zs : List Int) (v' : Value) (w' : World) : Prop :=
  Own w' base 3 .i64 v' zs ∧ w.grownBy w' v.ownBlock ∧ (v'.ownBlock = v.ownBlock ∨ v'.ownBlock = some w.heap.size)
theorem AppP.far {w w' : World} {base B M : Nat} {v v' : Value} {zs : List Int} (h : AppP w base v zs v' w') (hf : Far v B M) (hM : M ≤ w.heap.size) : Far v' B M ∧ Mid B M w w' := by
  obtain ⟨_, h2, h3⟩ := h
  refine ⟨fun g hg => ?_, fun g h0 h1 => h2.block g (by omega) (fun e => ?_)⟩
  · rcases h3 with h3 | h3
    · exact hf g (by rw [← h3]; exact hg)
    · rw [h3] at hg
      cases hg
      exact .inr hM
  · rcases hf g e.symm with h | h <;> omega
theorem AppP.below {w w' : World} {base : Nat} {v v' : Value} {zs xs : List Int} (h : AppP w base v zs v' w') (ho : Own w base 3 .i64 v xs) : Below base w w' :=
  (Below.refl base w).grown h.2.1 ho.1 (fun g hg => (ho.2.lt g hg).1)
theorem AppP.trans {w w1 w2 : World} {base : Nat} {v v1 v2 : Value} {xs zs : List Int} (h : AppP w base v xs v1 w1) (k : AppP w1 base v1 zs v2 w2) : Own w2 base 3 .i64 v2 zs := k.1

theorem run_app (P : Program) (w : World) (base : Nat) (t ty : TypeId) (i : TypeInfo) (ht : P.underlying t = some (.slice 3)) (hi : P.info? 3 = some i) (hz : i.zero = some (.int .i64 0)) (hsize : i.size = 1) (hby : i.bytes = 8)
    (g n cap : Nat) (xs : List Int) (hn : n = xs.length) (hown : Own w base 3 .i64 (.slice (some ⟨g, 0, none⟩) n cap) xs) (yb : Nat) (y : Value) (ys : List Int) (hy : Own w yb 3 .i64 y ys) (hlen : xs.length + ys.length < 1000000000000) :
    ∃ v' w', (Builtin.append_ #[t, t] ty #[.slice (some ⟨g, 0, none⟩) n cap, y]).run P w = .ok v' w' ∧ AppP w base (.slice (some ⟨g, 0, none⟩) n cap) (xs ++ ys) v' w' := by
  subst hn
  rcases hy.2.2 with ⟨rfl, h0⟩ | ⟨gy, cy, cury, rfl, _⟩
  · have : ys = [] := List.length_eq_zero_iff.1 h0
    subst this
    refine ⟨_, w, run_append_owned_none (P := P) (w := w) base t ty 3 i 1 ht hi _ xs.length _ hown.2, by simpa using hown, World.grownBy.refl w _, .inl rfl⟩
  · have hcell : ∀ j u, (ys.map (Value.int .i64))[j]? = some u → w.cell? ((⟨gy, 0, none⟩ : Addr).add j) = some u := by
      intro j u hj
      have hjl : j < ys.length := by have := (List.getElem?_eq_some_iff.1 hj).1; simpa using this
      rw [hy.cell rfl j hjl]
      simp [hjl] at hj
      rw [← hj]
      simp [List.getD, hjl]
    have hone : ∀ u ∈ ys.map (Value.int .i64), u.oneCell' = true := by
      intro u hu
      simp at hu
      obtain ⟨q, _, rfl⟩ := hu
      rfl
    have h63 : xs.length + ys.length ≤ maxLen := by unfold maxLen; omega
    have hbytes : (xs.length + ys.length) * 8 ≤ 140737488355328 := by omega
    obtain ⟨v', w', hr, h2, h3, _⟩ := run_append_own (P := P) w base t ty 3 i (.int .i64 0) 1 8 ht hi hz hsize hby rfl (by decide) _ xs.length _ hown.2 ⟨gy, 0, none⟩ ys.length cy (ys.map (Value.int .i64)) (by simp) hcell hone h63 hbytes hown.1
    refine ⟨v', w', hr, ⟨Nat.le_trans hown.1 h3.size, by simpa using h2⟩, h3, ?_⟩
    rcases hown.2.2 with ⟨h', _⟩ | ⟨g', cap', cur, h', hbg, hg, hnc, hcm, hcs, htake⟩
    · simp at h'
    · simp only [Value.slice.injEq, Option.some.injEq, Addr.mk.injEq, and_true, true_and] at h'
      obtain ⟨rfl, rfl⟩ := h'
      by_cases hroom : xs.length + ys.length ≤ cap
      · have hr2 := run_append_room (P := P) w t ty 3 i ht hi g xs.length cap cur hg ⟨gy, 0, none⟩ ys.length cy (ys.map (Value.int .i64)) (by simp [hsize]) hcell hone hroom (by rw [hsize, List.length_map]; omega)
        rw [hr2] at hr
        cases hr
        exact .inl rfl
      · have holds := hown.2.cells (g := g) rfl
        have hr2 := run_append_grow (P := P) w t ty 3 i (.int .i64 0) ht hi hz ⟨g, 0, none⟩ xs.length cap (xs.map (Value.int .i64)) (by simp [hsize]) holds ⟨gy, 0, none⟩ ys.length cy (ys.map (Value.int .i64)) (by simp [hsize]) hcell (by omega) (by unfold maxLen at h63; omega) (growslice_fits (by unfold maxLen at h63; omega) (by rw [hby]; exact hbytes))
        rw [hr2] at hr
        cases hr
        exact .inr rfl
/-- 'append(out, ys...)' as one step of a statement that leaves its order open. -/
theorem step_appX {P : Program} {ops : Array Oper} {o : Oper} {a : Act} {K : Act → World → Prop} {Q : Exit → Act → World → Prop} {E : Prop} (w : World) (hgd : o.guard = none) (s x : Operand) (t : TypeId)
    (ho : o.op = .call { callee := .builtin .append, args := #[s, x], argTypes := #[t, t] })
    (base : Nat) (ht : P.underlying t = some (.slice 3)) (hinfo : (P.info? 3).map (fun i => (i.zero, i.size, i.bytes)) = some (some (.int .i64 0), 1, 8))
    (v : Value) (xs : List Int) (hs : a.eval s = v) (hown : Own w base 3 .i64 v xs) (hne : ∃ g n c, v = .slice (some ⟨g, 0, none⟩) n c) (yb : Nat) (y : Value) (ys : List Int) (hx : a.eval x = y) (hy : Own w yb 3 .i64 y ys)
    (hlen : xs.length + ys.length < 1000000000000) (h : ∀ v' w', AppP w base v (xs ++ ys) v' w' → K (a.put o.dst v') w') :
    if Region.wanted o (yielded ops a.tmps) = true then Oper.wp P o a w K Q else E := by
  have hw : Region.wanted o (yielded ops a.tmps) = true := by simp [Region.wanted, hgd]
  rw [if_pos hw]
  obtain ⟨i, hi, hz0, hz1, hz2⟩ := info_parts hinfo
  obtain ⟨g, n, c, rfl⟩ := hne
  have hn : n = xs.length := by
    obtain ⟨_, _, e⟩ := hown.shape
    cases e
    rfl
  obtain ⟨v', w', hr, hp⟩ := run_app P w base t o.type i ht hi hz0 hz1 hz2 g n c xs hn hown yb y ys hy hlen
  unfold Oper.wp execOp
  simp only [ho, resolve, invoke, builtin, Sem.run_bind, Sem.run_pure, Result.andThen_ok, List.map_toArray, List.map_cons, List.map_nil, hs, hx, hr]
  exact h v' w' hp
theorem AppP.some {w w' : World} {base g n c : Nat} {v' : Value} {zs : List Int} (h : AppP w base (.slice (some ⟨g, 0, none⟩) n c) zs v' w') : ∃ g' c', v' = .slice (some ⟨g', 0, none⟩) zs.length c' := by
  rcases h.1.2.2 with ⟨rfl, _⟩ | ⟨g', c', cur, rfl, _⟩
  · rcases h.2.2 with h | h <;> simp [Value.ownBlock] at h
  · exact ⟨g', c', rfl⟩
end Go.Proofs.YtnnakmgngkpghaaGreat

/- Contracts of FromRest, of the program and of the specification, and the walk of the law FnExactFromRest. -/
namespace Go.Proofs.YtnnakmgngkpghaaGreat
open Go.RowKit
set_option linter.unusedVariables false

/-- All numbers of a list are bits. -/
def AllBits (xs : List Int) : Prop := ∀ j, j < xs.length → Bit (xs.getD j 0)
/-- The number that bits are the rest of. -/
def frv (xs : List Int) : Int := if 0 < xs.length ∧ xs.getD 0 0 = 0 then num (pad xs) 0 xs.length - (2 ^ xs.length - 1) else num (pad xs) 0 xs.length
/-- The bits are a rest of n bits. -/
def GoodRest (n : Int) (xs : List Int) : Prop := (0 ≤ n ∧ n ≤ 11) ∧ (xs.length : Int) = n ∧ AllBits xs
theorem ret_ib {a b : Int} {c : Bool} (h : a = b) : Ending.returned (.tuple #[.int .i64 a, .bool c]) = .returned (.tuple #[.int .i64 b, .bool c]) := by rw [h]
theorem sz2047 : sz 2047 = 11 := by decide +kernel
theorem frv_low {xs : List Int} (h : 0 < xs.length ∧ xs.getD 0 0 = 0) : frv xs = num (pad xs) 0 xs.length - (2 ^ xs.length - 1) := by unfold frv; rw [if_pos h]
theorem frv_high {xs : List Int} (h : ¬ (0 < xs.length ∧ xs.getD 0 0 = 0)) : frv xs = num (pad xs) 0 xs.length := by unfold frv; rw [if_neg h]

end Go.Proofs.YtnnakmgngkpghaaGreat

/- Plain facts: a number comes back from its size and its rest, and bits come back from the number that they are the rest of. -/
namespace Go.Proofs.YtnnakmgngkpghaaGreat
open Go.RowKit
set_option linter.unusedVariables false

theorem num_congr (f g : Nat → Int) (s : Nat) : ∀ c, (∀ j, j < c → f (s + j) = g (s + j)) → num f s c = num g s c
  | 0, _ => rfl
  | c + 1, h => by rw [num, num, num_congr f g s c (fun j hj => h j (by omega)), h c (by omega)]
theorem num_back (x : Int) (k : Nat) (h0 : 0 ≤ x) (h1 : x < 2 ^ k) : num (pad (bl (rbX x k) k)) 0 k = x := by
  rw [num_congr _ (rbX x k) 0 k, rbX_num x k h0 h1 k (Nat.le_refl _), Nat.sub_self]
  · simp
  · intro j hj
    rw [Nat.zero_add, pad_in _ _ (by rw [bl_length]; exact hj), bl_get _ _ _ hj]
theorem bits_of_num (b : Nat → Int) (hb : ∀ j, Bit (b j)) (n j : Nat) (hj : j < n) : num b 0 n / 2 ^ (n - 1 - j) % 2 = b j := by
  have h := num_split b 0 (j + 1) (n - 1 - j)
  rw [show j + 1 + (n - 1 - j) = n by omega] at h
  have hbd := num_bd b hb (0 + (j + 1)) (n - 1 - j)
  have hp : (0 : Int) < 2 ^ (n - 1 - j) := Int.pow_pos (by decide)
  rw [h, Int.add_comm, Int.add_mul_ediv_right _ _ (by omega), Int.ediv_eq_zero_of_lt hbd.1 hbd.2, num, Nat.zero_add]
  have := hb j
  unfold Bit at this
  omega
theorem bitLen_is (m n : Nat) (hn : 1 ≤ n) (hn2 : n ≤ 11) (h0 : (2 : Int) ^ (n - 1) ≤ m) (h1 : (m : Int) < 2 ^ n) : Lib.bitLen m = n := by
  have hm : m ≤ 2047 := by
    have := (pow_small n hn2).2
    omega
  have a1 := (bitLen_at m (n - 1) hm (by omega)).1.1 (by exact_mod_cast h0)
  have a2 : ¬ n < Lib.bitLen m := fun e => by
    have h2 := (bitLen_at m n hm hn2).1.2 e
    have h3 : m < 2 ^ n := by exact_mod_cast h1
    omega
  omega
theorem pow_pred (n : Nat) (hn : 1 ≤ n) : (2 : Int) ^ n = 2 * 2 ^ (n - 1) := by
  obtain ⟨k, rfl⟩ : ∃ k, n = k + 1 := ⟨n - 1, by omega⟩
  rw [Int.pow_succ, Nat.add_sub_cancel]
  omega
theorem pad_bl (xs : List Int) : xs = bl (pad xs) xs.length := by
  refine list_eq_of_getD (by rw [bl_length]) fun i hi => ?_
  rw [bl_get _ _ _ hi, pad_in _ _ hi]
theorem bl_congr (f g : Nat → Int) : ∀ n, (∀ j, j < n → f j = g j) → bl f n = bl g n
  | 0, _ => rfl
  | n + 1, h => by rw [bl, bl, bl_congr f g n (fun j hj => h j (by omega)), h n (by omega)]
theorem bits_back (xs : List Int) (h : AllBits xs) : bl (rbX (num (pad xs) 0 xs.length) xs.length) xs.length = xs := by
  rw [bl_congr _ (pad xs) xs.length (fun j hj => by rw [rbX]; exact bits_of_num (pad xs) (pad_bit xs h) xs.length j hj)]
  exact (pad_bl xs).symm

/-- Bits that are a rest: the number has their size, and they are its rest. -/
theorem from_back (xs : List Int) (h : AllBits xs) (h1 : 1 ≤ xs.length) (h2 : xs.length ≤ 11) : (-2047 ≤ frv xs ∧ frv xs ≤ 2047) ∧ sz (frv xs) = xs.length ∧ restL (frv xs) = xs := by
  have hN := num_bd (pad xs) (pad_bit xs h) 0 xs.length
  have hf := bits_of_num (pad xs) (pad_bit xs h) xs.length 0 (by omega)
  rw [pad_in xs 0 (by omega), Nat.sub_zero] at hf
  have hbk := bits_back xs h
  have hps := pow_small xs.length h2
  have hpp := pow_pred xs.length h1
  have hp1 : (1 : Int) ≤ 2 ^ (xs.length - 1) := (pow_small (xs.length - 1) (by omega)).1
  have hbit := h 0 (by omega)
  have hB := fun m => bitLen_is m xs.length h1 h2
  by_cases hz : xs.getD 0 0 = 0
  · have hv := frv_low (xs := xs) ⟨by omega, hz⟩
    rw [hz] at hf
    have hlow : num (pad xs) 0 xs.length < 2 ^ (xs.length - 1) := by
      rw [hpp] at hN
      generalize num (pad xs) 0 xs.length = N at *
      generalize hP : (2 : Int) ^ (xs.length - 1) = P at *
      have hq : N / P < 2 := Int.ediv_lt_of_lt_mul (by omega) (by omega)
      have hq0 : 0 ≤ N / P := Int.ediv_nonneg hN.1 (by omega)
      have : N / P = 0 := by omega
      have hm := Int.emod_add_mul_ediv N P
      have hl := Int.emod_lt_of_pos N (show 0 < P by omega)
      rw [this] at hm
      omega
    have hlen : Lib.bitLen (frv xs).natAbs = xs.length := hB _ (by rw [hv]; omega) (by rw [hv]; omega)
    have hin : -2047 ≤ frv xs ∧ frv xs ≤ 2047 := by rw [hv]; omega
    refine ⟨hin, by rw [sz_in hin, hlen], ?_⟩
    rw [rest_in hin, hlen]
    have hr : restN (frv xs) = num (pad xs) 0 xs.length := by
      unfold restN
      rw [hlen, if_pos (by rw [hv]; omega), hv]
      omega
    rw [hr]
    exact hbk
  · have hv := frv_high (xs := xs) (fun e => hz e.2)
    have h1' : xs.getD 0 0 = 1 := hbit.resolve_left hz
    rw [h1'] at hf
    have hhigh : (2 : Int) ^ (xs.length - 1) ≤ num (pad xs) 0 xs.length := by
      generalize num (pad xs) 0 xs.length = N at *
      generalize hP : (2 : Int) ^ (xs.length - 1) = P at *
      by_cases hlt : N < P
      · rw [Int.ediv_eq_zero_of_lt hN.1 hlt] at hf
        omega
      · omega
    have hlen : Lib.bitLen (frv xs).natAbs = xs.length := hB _ (by rw [hv]; omega) (by rw [hv]; omega)
    have hin : -2047 ≤ frv xs ∧ frv xs ≤ 2047 := by rw [hv]; omega
    refine ⟨hin, by rw [sz_in hin, hlen], ?_⟩
    rw [rest_in hin, hlen]
    have hr : restN (frv xs) = num (pad xs) 0 xs.length := by
      unfold restN
      rw [if_neg (by rw [hv]; omega), hv]
    rw [hr]
    exact hbk

/-- The rest of a number is bits, as many as its size, and the number comes back. -/
theorem rest_back (x : Int) (h : -2047 ≤ x ∧ x ≤ 2047) : AllBits (restL x) ∧ ((restL x).length : Int) = sz x ∧ frv (restL x) = x := by
  have hl := (bitLen_at x.natAbs 0 (by omega) (by omega)).2
  have hb := restN_bd h
  have hall : AllBits (restL x) := by
    rw [rest_in h]
    intro j hj
    rw [bl_length] at hj
    rw [bl_get _ _ _ hj]
    exact rbX_bit _ _ _
  have hlen : (restL x).length = Lib.bitLen x.natAbs := by rw [rest_in h, bl_length]
  refine ⟨hall, by rw [hlen, sz_in h], ?_⟩
  have hnum : num (pad (restL x)) 0 (restL x).length = restN x := by
    rw [hlen, rest_in h]
    exact num_back _ _ hb.1 hb.2
  by_cases h0 : x = 0
  · subst h0
    rfl
  · have hbl := fun c hc => (bitLen_at x.natAbs c (by omega) hc).1
    have hn1 : 1 ≤ Lib.bitLen x.natAbs := by
      have := (hbl 0 (by omega)).1 (by simp; omega)
      omega
    have hge : (2 : Int) ^ (Lib.bitLen x.natAbs - 1) ≤ x.natAbs := by
      have := (hbl (Lib.bitLen x.natAbs - 1) (by omega)).2 (by omega)
      exact_mod_cast this
    have hpp := pow_pred (Lib.bitLen x.natAbs) hn1
    have hp1 : (1 : Int) ≤ 2 ^ (Lib.bitLen x.natAbs - 1) := (pow_small _ (by omega)).1
    have hfirst : (restL x).getD 0 0 = restN x / 2 ^ (Lib.bitLen x.natAbs - 1) % 2 := by
      rw [rest_in h, bl_get _ _ _ (by omega), rbX, Nat.sub_zero]
    by_cases hneg : x < 0
    · have hr : restN x = x + 2 ^ Lib.bitLen x.natAbs - 1 := by unfold restN; rw [if_pos hneg]
      have hz : (restL x).getD 0 0 = 0 := by
        rw [hfirst, Int.ediv_eq_zero_of_lt hb.1 (by rw [hr, hpp]; omega)]
        rfl
      rw [frv_low ⟨by omega, hz⟩, hnum, hr, hlen]
      omega
    · have hr : restN x = x := by unfold restN; rw [if_neg hneg]
      have hz : (restL x).getD 0 0 = 1 := by
        rw [hfirst, hr]
        rw [hr] at hb
        generalize hP : (2 : Int) ^ (Lib.bitLen x.natAbs - 1) = P at *
        have e1 : x / P = 1 := by
          have hq : x / P < 2 := Int.ediv_lt_of_lt_mul (by omega) (by omega)
          have hq2 : 1 ≤ x / P := (Int.le_ediv_iff_mul_le (by omega)).2 (by omega)
          omega
        rw [e1]
        rfl
      rw [frv_high (fun e => by rw [hz] at e; exact absurd e.2 (by decide)), hnum, hr]
theorem sz_neg (x : Int) (h : -2047 ≤ x ∧ x ≤ 2047) : sz (-x) = sz x := by
  rw [sz_in h, sz_in (by omega), show (-x).natAbs = x.natAbs by omega]
end Go.Proofs.YtnnakmgngkpghaaGreat

/- Plain facts on finding a symbol by its code: the keys are in order, the map tells their symbols, and the first code that bits begin with. No function of the program is walked here. -/
namespace Go.Proofs.YtnnakmgngkpghaaGreat
open Go.RowKit Go.Maps
set_option linter.unusedVariables false

/-- The order of keys. -/
def KLt (x y : Nat × Int) : Prop := x.1 < y.1 ∨ (x.1 = y.1 ∧ x.2 < y.2)
theorem rowKeys_lt (cs : List Int) (i : Nat) : ∀ k, (rowKeys cs i k).Pairwise KLt ∧ ∀ x ∈ rowKeys cs i k, x.1 = i + 1 ∧ x.2 < sc cs i + k
  | 0 => ⟨.nil, by simp [rowKeys]⟩
  | k + 1 => by
    obtain ⟨h1, h2⟩ := rowKeys_lt cs i k
    rw [rowKeys]
    refine ⟨List.pairwise_append.2 ⟨h1, List.pairwise_singleton _ _, fun x hx y hy => ?_⟩, fun x hx => ?_⟩
    · have h3 := h2 x hx
      have e : y = (i + 1, sc cs i + k) := by simpa using hy
      subst e
      exact .inr ⟨h3.1, h3.2⟩
    · rw [List.mem_append] at hx
      rcases hx with hx | hx
      · have h3 := h2 x hx
        exact ⟨h3.1, by omega⟩
      · have e : x = (i + 1, sc cs i + k) := by simpa using hx
        subst e
        exact ⟨rfl, by show sc cs i + k < sc cs i + ((k + 1 : Nat) : Int); omega⟩
theorem keysTo_lt (cs : List Int) : ∀ i, (keysTo cs i).Pairwise KLt ∧ ∀ x ∈ keysTo cs i, x.1 ≤ i
  | 0 => ⟨.nil, by simp [keysTo]⟩
  | i + 1 => by
    obtain ⟨h1, h2⟩ := keysTo_lt cs i
    have h3 := rowKeys_lt cs i (cs.getD i 0).toNat
    rw [keysTo]
    refine ⟨List.pairwise_append.2 ⟨h1, h3.1, fun x hx y hy => ?_⟩, fun x hx => ?_⟩
    · have a := h2 x hx
      have b := (h3.2 y hy).1
      exact .inl (by omega)
    · rw [List.mem_append] at hx
      rcases hx with hx | hx
      · have := h2 x hx
        omega
      · have := (h3.2 x hx).1
        omega
/-- The p-th key. -/
def kp (K : List (Nat × Int)) (p : Nat) : Nat × Int := K.getD p (0, 0)
theorem kp_mem {K : List (Nat × Int)} {p : Nat} (h : p < K.length) : kp K p ∈ K := by
  have : kp K p = K[p] := by simp [kp, List.getD, h]
  rw [this]
  exact List.getElem_mem _
theorem kp_some {K : List (Nat × Int)} {p : Nat} (h : p < K.length) : K[p]? = some (kp K p) := by simp [kp, List.getD, h]
theorem kp_lt {K : List (Nat × Int)} (hK : K.Pairwise KLt) {p q : Nat} (h : p < q) (hq : q < K.length) : KLt (kp K p) (kp K q) := by
  have h1 : kp K p = K[p] := by simp [kp, List.getD, show p < K.length by omega]
  have h2 : kp K q = K[q] := by simp [kp, List.getD, hq]
  rw [h1, h2]
  exact List.pairwise_iff_getElem.1 hK p q (by omega) hq h
theorem kp_inj {K : List (Nat × Int)} (hK : K.Pairwise KLt) {p q : Nat} (hp : p < K.length) (hq : q < K.length) (h : kp K p = kp K q) : p = q := by
  refine Classical.byContradiction fun hne => ?_
  rcases Nat.lt_or_gt_of_ne hne with hl | hl
  · have := kp_lt hK hl hq
    rw [h] at this
    unfold KLt at this
    omega
  · have := kp_lt hK hl hp
    rw [h] at this
    unfold KLt at this
    omega

theorem wf_small {x : Int} (h0 : -9223372036854775808 ≤ x) (h1 : x ≤ 9223372036854775807) : (Lit.int .i64 x).wf = true := by
  simp [Lit.wf, IntKind.min, IntKind.max, IntKind.signed, IntKind.bits]
  omega
theorem keyOk_bd {x : Nat × Int} (h : KeyOk x) : x.2 < 65536 := by
  have := pow2_mono x.1 (16 - x.1)
  rw [show x.1 + (16 - x.1) = 16 by have := h.1; omega] at this
  have h3 := h.2.2
  have e : (2 : Int) ^ 16 = 65536 := by decide
  omega
theorem kl_ne (w : World) {a b c d : Int} (ha : (Lit.int .i64 a).wf = true) (hb : (Lit.int .i64 b).wf = true) (hc : (Lit.int .i64 c).wf = true) (hd : (Lit.int .i64 d).wf = true) (h : ¬ (a = c ∧ b = d)) : kl72 a b ≠ kl72 c d := fun e => h (by
  have h1 := key72 w a b ha hb
  have h2 := key72 w c d hc hd
  rw [e] at h1
  have := law72.inj h1 h2
  simpa using this)
theorem kl_key (w : World) {a b : Int} (ha : (Lit.int .i64 a).wf = true) (hb : (Lit.int .i64 b).wf = true) : WideAt.IsKeyLit (kl72 a b) := law72.key (key72 w a b ha hb)
theorem mapGo_isMap (ss : List Int) (K : List (Nat × Int)) : ∀ t, IsMap (mapGo ss K t)
  | 0 => isMap_empty
  | t + 1 => (mapGo_isMap ss K t).put _ _
theorem keyOk_wf {x : Nat × Int} (h : KeyOk x) : (Lit.int .i64 (x.1 : Int)).wf = true ∧ (Lit.int .i64 x.2).wf = true := by
  have := keyOk_bd h
  have := h.1
  have := h.2.1
  exact ⟨wf_small (by omega) (by omega), wf_small (by omega) (by omega)⟩
theorem mapGo_none (w : World) (ss : List Int) (K : List (Nat × Int)) (hK : ∀ x ∈ K, KeyOk x) (L N : Int) (hL : (Lit.int .i64 L).wf = true) (hN : (Lit.int .i64 N).wf = true) :
    ∀ t, t ≤ K.length → (∀ p, p < t → ¬ (((kp K p).1 : Int) = L ∧ (kp K p).2 = N)) → Maps.has (mapGo ss K t) (kl72 L N) = false
  | 0, _, _ => rfl
  | t + 1, ht, h => by
    have hk := keyOk_wf (hK _ (kp_mem (show t < K.length by omega)))
    rw [mapGo, has_put_other]
    · exact mapGo_none w ss K hK L N hL hN t (by omega) (fun p hp => h p (by omega))
    · exact kl_ne w hL hN hk.1 hk.2 (fun e => h t (by omega) ⟨e.1.symm, e.2.symm⟩)
theorem mapGo_some (w : World) (ss : List Int) (K : List (Nat × Int)) (hK : ∀ x ∈ K, KeyOk x) (hP : K.Pairwise KLt) (p : Nat) :
    ∀ t, t ≤ K.length → p < t → Maps.has (mapGo ss K t) (kl72 (kp K p).1 (kp K p).2) = true ∧ ∀ z, (mapGo ss K t).atKey (kl72 (kp K p).1 (kp K p).2) z = .lit (.int .i64 (ss.getD p 0))
  | t + 1, ht, hp => by
    have hk := keyOk_wf (hK _ (kp_mem (show t < K.length by omega)))
    have hkp := keyOk_wf (hK _ (kp_mem (show p < K.length by omega)))
    by_cases e : p = t
    · subst e
      rw [mapGo]
      exact ⟨has_put_same (mapGo_isMap ss K p) (kl_key w hk.1 hk.2) _, fun z => atKey_put_same (mapGo_isMap ss K p) (kl_key w hk.1 hk.2) _ z⟩
    · have hne : kl72 (kp K p).1 (kp K p).2 ≠ kl72 (K.getD t (0, 0)).1 (K.getD t (0, 0)).2 := kl_ne w hkp.1 hkp.2 hk.1 hk.2 (fun h => e (kp_inj hP (by omega) (by omega) (Prod.ext (by have := h.1; show (kp K p).1 = (K.getD t (0, 0)).1; omega) h.2)))
      have ih := mapGo_some w ss K hK hP p t (by omega) (by omega)
      rw [mapGo]
      exact ⟨by rw [has_put_other hne]; exact ih.1, fun z => by rw [atKey_put_other hne]; exact ih.2 z⟩

/-- Bits begin at i with the code of the key x. -/
def Mt (xs : List Int) (i : Nat) (x : Nat × Int) : Prop := i + x.1 ≤ xs.length ∧ ∀ t, t < x.1 → xs.getD (i + t) 0 = rbX x.2 x.1 t
/-- The number that L bits from i on tell. -/
def nL (xs : List Int) (i L : Nat) : Int := num (fun t => xs.getD (i + t) 0) 0 L
theorem nL_succ (xs : List Int) (i L : Nat) : nL xs i (L + 1) = 2 * nL xs i L + xs.getD (i + L) 0 := by rw [nL, num, Nat.zero_add]; rfl
def BitsTo (xs : List Int) (i L : Nat) : Prop := ∀ t, t < L → Bit (xs.getD (i + t) 0)
theorem nL_bd (xs : List Int) (i L : Nat) (h : BitsTo xs i L) : 0 ≤ nL xs i L ∧ nL xs i L < 2 ^ L := by
  have e : nL xs i L = num (fun t => if t < L then xs.getD (i + t) 0 else 0) 0 L := num_congr _ _ 0 L (fun j hj => by simp only [Nat.zero_add, if_pos hj])
  rw [e]
  refine num_bd _ (fun j => ?_) 0 L
  show Bit (if j < L then xs.getD (i + j) 0 else 0)
  split
  · rename_i hj; exact h j hj
  · exact .inl rfl
theorem mt_iff (xs : List Int) (i : Nat) (x : Nat × Int) (hx : KeyOk x) (hb : BitsTo xs i x.1) (hl : i + x.1 ≤ xs.length) : Mt xs i x ↔ nL xs i x.1 = x.2 := by
  constructor
  · rintro ⟨_, h⟩
    rw [nL, num_congr _ (rbX x.2 x.1) 0 x.1 (fun j hj => by simp only [Nat.zero_add]; exact h j hj), rbX_num x.2 x.1 hx.2.1 hx.2.2 x.1 (Nat.le_refl _), Nat.sub_self]
    simp
  · intro h
    refine ⟨hl, fun t ht => ?_⟩
    have hB : ∀ j, Bit ((fun t => if t < x.1 then xs.getD (i + t) 0 else 0) j) := fun j => by
      show Bit (if j < x.1 then xs.getD (i + j) 0 else 0)
      split
      · rename_i hj; exact hb j hj
      · exact .inl rfl
    have e : nL xs i x.1 = num (fun t => if t < x.1 then xs.getD (i + t) 0 else 0) 0 x.1 := num_congr _ _ 0 x.1 (fun j hj => by simp only [Nat.zero_add, if_pos hj])
    have := bits_of_num _ hB x.1 t ht
    rw [← e, h] at this
    simp only [if_pos ht] at this
    rw [← this, rbX]
theorem mt_bits {xs : List Int} {i : Nat} {x : Nat × Int} (h : Mt xs i x) : BitsTo xs i x.1 := fun t ht => by rw [h.2 t ht]; exact rbX_bit _ _ _

/-- What is found: the first key whose code the bits begin with. -/
def SymIs (K : List (Nat × Int)) (ss xs : List Int) (i : Nat) (r0 r1 : Int) : Prop :=
  (∃ p, p < K.length ∧ Mt xs i (kp K p) ∧ (∀ q, q < p → ¬ Mt xs i (kp K q)) ∧ r0 = ss.getD p 0 ∧ r1 = i + (kp K p).1) ∨ ((∀ q, q < K.length → ¬ Mt xs i (kp K q)) ∧ r0 = -1 ∧ r1 = -1)
theorem SymIs.one {K : List (Nat × Int)} {ss xs : List Int} {i : Nat} {r0 r1 s0 s1 : Int} (h : SymIs K ss xs i r0 r1) (g : SymIs K ss xs i s0 s1) : r0 = s0 ∧ r1 = s1 := by
  rcases h with ⟨p, hp, hm, hq, rfl, rfl⟩ | ⟨hn, rfl, rfl⟩
  · rcases g with ⟨p', hp', hm', hq', rfl, rfl⟩ | ⟨hn', rfl, rfl⟩
    · have : p = p' := by
        rcases Nat.lt_trichotomy p p' with h | h | h
        · exact absurd hm (hq' p h)
        · exact h
        · exact absurd hm' (hq p' h)
      subst this
      exact ⟨rfl, rfl⟩
    · exact absurd hm (hn' p hp)
  · rcases g with ⟨p', hp', hm', hq', rfl, rfl⟩ | ⟨hn', rfl, rfl⟩
    · exact absurd hm' (hn p' hp')
    · exact ⟨rfl, rfl⟩

/-- No key of at most L bits is found. -/
def NoneTo (K : List (Nat × Int)) (xs : List Int) (i L : Nat) : Prop := ∀ q, q < K.length → (kp K q).1 ≤ L → ¬ Mt xs i (kp K q)
theorem found {K : List (Nat × Int)} {ss xs : List Int} {i L p : Nat} (hK : ∀ x ∈ K, KeyOk x) (hP : K.Pairwise KLt) (hn : NoneTo K xs i L) (hb : BitsTo xs i (L + 1)) (hl : i + (L + 1) ≤ xs.length) (hp : p < K.length)
    (h : kp K p = (L + 1, nL xs i (L + 1))) : SymIs K ss xs i (ss.getD p 0) ((i : Int) + (L + 1 : Nat)) := by
  have hm : Mt xs i (kp K p) := (mt_iff xs i (kp K p) (hK _ (kp_mem hp)) (by rw [h]; exact hb) (by rw [h]; exact hl)).2 (by rw [h])
  refine .inl ⟨p, hp, hm, fun q hq hmq => ?_, rfl, by rw [h]⟩
  have hlt := kp_lt hP hq hp
  rw [h] at hlt
  rcases hlt with h1 | ⟨h1, h2⟩
  · exact hn q (by omega) (by simp only at h1; omega) hmq
  · have := (mt_iff xs i (kp K q) (hK _ (kp_mem (show q < K.length by omega))) (mt_bits hmq) hmq.1).1 hmq
    rw [h1] at this
    simp only at this h2
    omega
theorem notFound {K : List (Nat × Int)} {xs : List Int} {i L : Nat} (hK : ∀ x ∈ K, KeyOk x) (hn : NoneTo K xs i L) (h : ∀ p, p < K.length → ¬ (((kp K p).1 : Int) = ((L + 1 : Nat) : Int) ∧ (kp K p).2 = nL xs i (L + 1))) : NoneTo K xs i (L + 1) := by
  intro q hq hle hm
  by_cases e : (kp K q).1 ≤ L
  · exact hn q hq e hm
  · have e2 : (kp K q).1 = L + 1 := by omega
    have := (mt_iff xs i (kp K q) (hK _ (kp_mem hq)) (mt_bits hm) hm.1).1 hm
    rw [e2] at this
    exact h q hq ⟨by omega, this.symm⟩
theorem ended {K : List (Nat × Int)} {ss xs : List Int} {i L : Nat} (hK : ∀ x ∈ K, KeyOk x) (hn : NoneTo K xs i L) (h : ¬ (i + L < xs.length ∧ L < 16 ∧ Bit (xs.getD (i + L) 0))) : SymIs K ss xs i (-1) (-1) := by
  refine .inr ⟨fun q hq hm => ?_, rfl, rfl⟩
  by_cases e : (kp K q).1 ≤ L
  · exact hn q hq e hm
  · have h1 := hm.1
    have h2 := (hK _ (kp_mem hq)).1
    exact h ⟨by omega, by omega, mt_bits hm L (by omega)⟩
end Go.Proofs.YtnnakmgngkpghaaGreat

/- Contracts of the specification's finding of a symbol: l02At, l02Sym. -/
namespace Go.Proofs.YtnnakmgngkpghaaGreat
open Go.RowKit Go.Maps
set_option linter.unusedVariables false

/-- The numbers ys stand in xs from i on. -/
def At (xs : List Int) (i : Nat) (ys : List Int) : Prop := i + ys.length ≤ xs.length ∧ ∀ t, t < ys.length → xs.getD (i + t) 0 = ys.getD t 0
theorem at_key (xs : List Int) (i : Nat) (x : Nat × Int) : At xs i (bitsK x) ↔ Mt xs i x := by
  have hl : (bitsK x).length = x.1 := bl_length _ _
  unfold At Mt
  rw [hl]
  refine ⟨fun ⟨h1, h2⟩ => ⟨h1, fun t ht => ?_⟩, fun ⟨h1, h2⟩ => ⟨h1, fun t ht => ?_⟩⟩
  · rw [h2 t ht, bitsK, bl_get _ _ _ ht]
  · rw [h2 t ht, bitsK, bl_get _ _ _ ht]

/-- Slices that read as the codes of the keys stay so where all blocks stay what they are. -/
theorem AllAt.below {w w' : World} {base : Nat} {v : Value} {K : List (Nat × Int)} (h : AllAt w base v K) (hb : Below w.heap.size w w') : AllAt w' base v K := by
  obtain ⟨vs, h1, h2, h3⟩ := h
  refine ⟨vs, h1, h2.below hb, fun p x hx => ?_⟩
  obtain ⟨y, h4, h5⟩ := h3 p x hx
  exact ⟨y, h4, h5.below hb⟩

end Go.Proofs.YtnnakmgngkpghaaGreat

/- The code of a symbol by the specification, and plain facts for its ScanBits. -/
namespace Go.Proofs.YtnnakmgngkpghaaGreat
open Go.RowKit Go.Maps
set_option linter.unusedVariables false

theorem Own.keepM {w w' : World} {base : Nat} {e : TypeId} {k : IntKind} {v : Value} {xs : List Int} (ho : Own w base e k v xs) (hs : w.heap.size ≤ w'.heap.size) (hk : ∀ g, base ≤ g → g < w.heap.size → w'.heap[g]? = w.heap[g]?) : Own w' base e k v xs := by
  refine ⟨Nat.le_trans ho.1 hs, ho.2.1, ?_⟩
  rcases ho.2.2 with h0 | ⟨g, cap, cur, hv, hg, hh, r⟩
  · exact .inl h0
  · exact .inr ⟨g, cap, cur, hv, hg, (hk g hg (Array.getElem?_eq_some_iff.1 hh).1).trans hh, r⟩
theorem AllAt.keepM {w w' : World} {base : Nat} {v : Value} {K : List (Nat × Int)} (h : AllAt w base v K) (hs : w.heap.size ≤ w'.heap.size) (hk : ∀ g, base ≤ g → g < w.heap.size → w'.heap[g]? = w.heap[g]?) : AllAt w' base v K := by
  obtain ⟨vs, h1, h2, h3⟩ := h
  refine ⟨vs, h1, ⟨Nat.le_trans h2.1 hs, h2.2.1, ?_⟩, fun p x hx => ?_⟩
  · rcases h2.2.2 with h0 | ⟨g, cap, cur, hv, hg, hh, r⟩
    · exact .inl h0
    · exact .inr ⟨g, cap, cur, hv, hg, (hk g hg (Array.getElem?_eq_some_iff.1 hh).1).trans hh, r⟩
  · obtain ⟨y, h4, h5⟩ := h3 p x hx
    exact ⟨y, h4, h5.keepM hs hk⟩
theorem OwnT.keepM {w w' : World} {base : Nat} {v : Value} {S : List (Int × Int × List Int)} {vs : List Value} (h : OwnT w base v S vs) (hs : w.heap.size ≤ w'.heap.size) (hk : ∀ g, base ≤ g → g < w.heap.size → w'.heap[g]? = w.heap[g]?) : OwnT w' base v S vs := by
  obtain ⟨h1, h2, h3, h4, h5⟩ := h
  refine ⟨Nat.le_trans h1 hs, h2, ⟨h3.1, ?_⟩, fun j hj => (h4 j hj).keepM hs hk, h5⟩
  rcases h3.2 with h0 | ⟨g, cap, cur, hv, hg, hh, r⟩
  · exact .inl h0
  · exact .inr ⟨g, cap, cur, hv, hg, (hk g hg (Array.getElem?_eq_some_iff.1 hh).1).trans hh, r⟩
theorem AllAt.lt {w : World} {base : Nat} {v : Value} {K : List (Nat × Int)} (h : AllAt w base v K) : base ≤ w.heap.size := by
  obtain ⟨vs, h1, h2, h3⟩ := h
  exact h2.1

set_option maxRecDepth 100000 in
set_option maxHeartbeats 800000 in
theorem l04_code (v va : Value) (cs ss : List Int) (sym : Int) (base : Nat) (w : World) (hr : rightC cs ss = true) (hsl : ss.length ≤ 1048576) (hv : CV w v cs ss) (hall : AllAt w base va (keysTo cs 16)) :
    Calls Tryz.prog 71 #[v, va, .int .i64 sym] w fun e w' => ∃ v', e = .returned v' ∧ Own w' base 3 .i64 v' (codeL cs ss sym) ∧ Below w.heap.size w w' := by
  obtain ⟨a0, c0, a1, c1, rfl, u0, u1⟩ := hv
  have HB := hid ((Below.refl w.heap.size w).alloc (Nat.le_refl _) (.cells #[.slice a0 cs.length c0, .slice a1 ss.length c1] 31))
  have HT := hid (Two.new w (.slice a0 cs.length c0) (.slice a1 ss.length c1) 31)
  have HA := hid (hall.below HB.out)
  have hbase := hall.lt
  have HKL := hid (keys_len cs ss hr)
  have HHIT := hid (codeL_hit cs ss hr)
  have HMISS := hid (codeL_miss cs ss hr sym)
  have HU1 := hid (u1.below (Nat.le_refl _) HB.out)
  clear u0 u1 hall hr
  generalize keysTo cs 16 = K at *
  obtain ⟨vs, hvl, hos, hel⟩ := HA.out
  obtain ⟨vo, vc, rfl⟩ := hos.shape
  have HOS := hid hos
  have HEL := hid hel
  have HVL := hid (hvl.trans HKL.out)
  clear hos hel hvl
  simp only [HVL.out]
  go_enter Tryz.func71, Tryz.ntmps71
  go_wp2_with fail
  generalize w.alloc (.cells #[.slice a0 cs.length c0, .slice a1 ss.length c1] 31) = wa at *
  obtain ⟨q1, q2, q3, q4⟩ := HT.out.cells
  go_loop [7] (fun i => ∃ k : Nat, k ≤ ss.length ∧ i = .int .i64 k ∧ Hid (∀ p, p < k → ss.getD p 0 ≠ sym)) (fun i => ss.length - (intOf i).toNat)
  case atStart => exact ⟨0, by omega, rfl, fun p hp => by omega⟩
  case round =>
    obtain ⟨k, hk, rfl, hno⟩ := hrel
    by_cases hlt : k < ss.length
    · have hlt' : (k : Int) < (ss.length : Int) := by omega
      obtain ⟨b, off, rfl, hc⟩ := HU1.out.2 k hlt
      have hkK : k < K.length := by rw [HKL.out]; exact hlt
      have hget : K[k]? = some (K.getD k (0, 0)) := by simp [List.getD, hkK]
      obtain ⟨y, hy1, hy2⟩ := HEL.out k _ hget
      obtain ⟨g, rfl, hcy⟩ := HOS.out.cell k y hy1
      obtain ⟨yo, yc, rfl⟩ := hy2.shape
      by_cases he : ss.getD k 0 = sym
      · have HC := hid (HHIT.out k hlt _ hget)
        have hd : (ss.getD k 0 == sym) = true := by simpa using he
        rw [he] at HC
        have HY := hid hy2
        clear he hy2 hget hkK
        generalize ss.getD k 0 = X at *
        go_wp2_with fail
        go_ret
        rw [HC.out]
        exact ⟨_, rfl, HY.out, HB.out⟩
      · have hd : (ss.getD k 0 == sym) = false := by simpa using he
        have HNE := hid he
        clear he hy2 hget hkK
        generalize hX : ss.getD k 0 = X at *
        have HX := hid hX
        clear hX
        go_wp2_with fail
        go_round
        case rel => exact ⟨k + 1, by omega, by go_num, fun p hp => by
            by_cases e : p < k
            · exact hno.out p e
            · have : p = k := by omega
              subst this
              rw [HX.out]
              exact HNE.out⟩
        case measure => simp [intOf]; omega
    · obtain rfl : k = ss.length := by omega
      have HM := hid (HMISS.out (fun p hp => hno.out p hp))
      have hbw : base ≤ wa.heap.size := Nat.le_trans hbase HB.out.size
      go_wp2_with fail
      go_ret
      rw [HM.out]
      exact ⟨_, rfl, (Own.empty _ _ _ _ (Nat.le_refl _)).mono hbw, HB.out.alloc HB.out.size _⟩

theorem at_zero {T : Tb} {L : List (Int × List Int)} {k : Nat} {r : List Int} (h : raw T (ptsTo L k) = some r) (hc : 0 < (T.code 0 (sz (df L k))).length) : raw T (ptsAt L k 0) = some (r ++ T.code 0 (sz (df L k)) ++ restL (df L k)) := by
  have h1 : raw T (ptsTo L k ++ [.inl (0, (sz (df L k)))]) = some (r ++ T.code 0 (sz (df L k))) := raw_snoc h (by show (if _ then _ else _) = _; rw [if_neg (by omega)])
  have h2 := raw_snoc (p := .inr (restL (df L k))) h1 rfl
  have e : ptsAt L k 0 = ptsTo L k ++ [.inl (0, (sz (df L k)))] ++ [.inr (restL (df L k))] := by simp [ptsAt, ptsS]
  rw [e]; exact h2
theorem at_zero_no {T : Tb} {L : List (Int × List Int)} {k : Nat} {r : List Int} (hk : k < L.length) (h : raw T (ptsTo L k) = some r) (hc : (T.code 0 (sz (df L k))).length = 0) : raw T (ptsTo L L.length) = none := by
  have h1 : raw T (ptsTo L k ++ [.inl (0, (sz (df L k)))]) = none := raw_snoc_none h (by show (if _ then _ else _) = _; rw [if_pos hc])
  obtain ⟨Q, hQ⟩ := ptsAt_pre L k 0 hk (Nat.zero_le _)
  have e : ptsTo L L.length = (ptsTo L k ++ [.inl (0, (sz (df L k)))]) ++ ([.inr (restL (df L k))] ++ Q) := by rw [hQ]; simp [ptsAt, ptsS]
  rw [e]; exact raw_none _ h1
theorem at_step {T : Tb} {L : List (Int × List Int)} {k m : Nat} {r : List Int} {s : Int × Int × List Int} (hs : nthS (stepsR (nth L k).1 (nth L k).2) m = s) (h : raw T (ptsAt L k m) = some r) (hc : 0 < (T.code 1 (16 * s.1 + s.2.1)).length) : raw T (ptsAt L k (m + 1)) = some (r ++ T.code 1 (16 * s.1 + s.2.1) ++ s.2.2) := by
  have h1 : raw T (ptsAt L k m ++ [.inl (1, (16 * s.1 + s.2.1))]) = some (r ++ T.code 1 (16 * s.1 + s.2.1)) := raw_snoc h (by show (if _ then _ else _) = _; rw [if_neg (by omega)])
  have h2 := raw_snoc (p := .inr s.2.2) h1 rfl
  have e : ptsAt L k (m + 1) = ptsAt L k m ++ [.inl (1, (16 * s.1 + s.2.1))] ++ [.inr s.2.2] := by simp [ptsAt, ptsS, hs]
  rw [e]; exact h2
theorem at_step_no {T : Tb} {L : List (Int × List Int)} {k m : Nat} {r : List Int} {s : Int × Int × List Int} (hk : k < L.length) (hm : m < (stepsR (nth L k).1 (nth L k).2).length) (hs : nthS (stepsR (nth L k).1 (nth L k).2) m = s) (h : raw T (ptsAt L k m) = some r) (hc : (T.code 1 (16 * s.1 + s.2.1)).length = 0) : raw T (ptsTo L L.length) = none := by
  have h1 : raw T (ptsAt L k m ++ [.inl (1, (16 * s.1 + s.2.1))]) = none := raw_snoc_none h (by show (if _ then _ else _) = _; rw [if_pos hc])
  obtain ⟨Q, hQ⟩ := ptsAt_pre L k (m + 1) hk hm
  have e : ptsTo L L.length = (ptsAt L k m ++ [.inl (1, (16 * s.1 + s.2.1))]) ++ ([.inr s.2.2] ++ Q) := by rw [hQ]; simp [ptsAt, ptsS, hs]
  rw [e]; exact raw_none _ h1
theorem at_big {T : Tb} {L : List (Int × List Int)} {k : Nat} {r : List Int} (hk : k < L.length) (h : raw T (ptsTo L (k + 1)) = some r) (hb : 480000 < r.length) : (raw T (ptsTo L L.length)).bind lim = none := by
  obtain ⟨Q, hQ⟩ := ptsTo_pre L (k + 1) L.length (by omega)
  rw [hQ]
  exact raw_big Q h hb
theorem at_all {T : Tb} {L : List (Int × List Int)} {r : List Int} (h : raw T (ptsTo L L.length) = some r) (hb : r.length ≤ 480000) : (raw T (ptsTo L L.length)).bind lim = some r := by
  rw [h]
  show lim r = some r
  unfold lim
  rw [if_neg (by omega)]
end Go.Proofs.YtnnakmgngkpghaaGreat

/- The contract of ScanBits of the specification. -/
namespace Go.Proofs.YtnnakmgngkpghaaGreat
open Go.RowKit Go.Maps
set_option linter.unusedVariables false

/-- What the loop of blocks keeps: the bits so far in 'out', apart from what was made ahead of the loop. -/
def Kp (wA wr : World) (b0 : Nat) (out : Value) (r : List Int) : Prop :=
  Own wr b0 3 .i64 out r ∧ Far out (b0 + 1) wA.heap.size ∧ Mid (b0 + 1) wA.heap.size wA wr ∧ Below b0 wA wr ∧ (∃ g c, out = .slice (some ⟨g, 0, none⟩) r.length c) ∧ wA.heap.size ≤ wr.heap.size
theorem Kp.below {wA w w' : World} {b0 : Nat} {out : Value} {r : List Int} (h : Kp wA w b0 out r) (hb : Below w.heap.size w w') : Kp wA w' b0 out r := by
  obtain ⟨h1, h2, h3, h4, h5, h6⟩ := h
  exact ⟨h1.below hb, h2, h3.trans (Mid.ofBelow hb h6), h4.trans (hb.mono h1.1), h5, Nat.le_trans h6 hb.size⟩
theorem Kp.drew {wA w : World} {b0 : Nat} {out : Value} {r : List Int} (h : Kp wA w b0 out r) : Kp wA w.drew b0 out r := h.below (Below.refl _ _).drew
theorem Kp.app {wA w w' : World} {b0 : Nat} {out v' : Value} {r zs : List Int} (h : Kp wA w b0 out r) (ha : AppP w b0 out zs v' w') : Kp wA w' b0 v' zs := by
  obtain ⟨h1, h2, h3, h4, ⟨g, c, rfl⟩, h6⟩ := h
  obtain ⟨f1, f2⟩ := ha.far h2 h6
  exact ⟨ha.1, f1, h3.trans f2, h4.trans (ha.below h1), ha.some, Nat.le_trans h6 ha.2.1.size⟩
theorem Kp.mid {wA w : World} {b0 : Nat} {out : Value} {r : List Int} (h : Kp wA w b0 out r) : ∀ g, b0 + 1 ≤ g → g < wA.heap.size → w.heap[g]? = wA.heap[g]? := h.2.2.1
theorem Kp.keep {wA w : World} {b0 B : Nat} {out : Value} {r : List Int} (h : Kp wA w b0 out r) (hB : b0 + 1 ≤ B) : ∀ g, B ≤ g → g < wA.heap.size → w.heap[g]? = wA.heap[g]? := fun g h0 h1 => h.mid g (by omega) h1
/-- The same for what the steps of one block hold. -/
def Kq (B : Nat) (wS wq : World) (out : Value) : Prop := Far out B wS.heap.size ∧ Mid B wS.heap.size wS wq ∧ wS.heap.size ≤ wq.heap.size
theorem Kq.below {B : Nat} {wS w w' : World} {out : Value} (h : Kq B wS w out) (hb : Below w.heap.size w w') : Kq B wS w' out := ⟨h.1, h.2.1.trans (Mid.ofBelow hb h.2.2), Nat.le_trans h.2.2 hb.size⟩
theorem Kq.app {B base : Nat} {wS w w' : World} {out v' : Value} {zs : List Int} (h : Kq B wS w out) (ha : AppP w base out zs v' w') : Kq B wS w' v' := by
  obtain ⟨f1, f2⟩ := ha.far h.1 h.2.2
  exact ⟨f1, h.2.1.trans f2, Nat.le_trans h.2.2 ha.2.1.size⟩
theorem Kp.belowW {wA w w0 : World} {b0 : Nat} {out : Value} {r : List Int} (h : Kp wA w b0 out r) (hb : Below w0.heap.size w0 wA) (hw : w0.heap.size ≤ b0) : Below w0.heap.size w0 w := hb.trans (h.2.2.2.1.mono hw)
theorem AllAt.mono {w : World} {base base' : Nat} {v : Value} {K : List (Nat × Int)} (h : AllAt w base v K) (hb : base' ≤ base) : AllAt w base' v K := by
  obtain ⟨vs, t1, t2, t3⟩ := h
  refine ⟨vs, t1, ⟨Nat.le_trans hb t2.1, t2.2.1, ?_⟩, fun p x hx => by obtain ⟨y, t4, t5⟩ := t3 p x hx; exact ⟨y, t4, t5.mono hb⟩⟩
  rcases t2.2.2 with h0 | ⟨g, cap, cur, hv, hg, r⟩
  · exact .inl h0
  · exact .inr ⟨g, cap, cur, hv, Nat.le_trans hb hg, r⟩
/-- The same step, what comes out of it under a name of its own. -/
theorem step_appZ {P : Program} {ops : Array Oper} {o : Oper} {a : Act} {K : Act → World → Prop} {Q : Exit → Act → World → Prop} {E : Prop} (w : World) (hgd : o.guard = none) (s x : Operand) (t : TypeId)
    (ho : o.op = .call { callee := .builtin .append, args := #[s, x], argTypes := #[t, t] })
    (base : Nat) (ht : P.underlying t = some (.slice 3)) (hinfo : (P.info? 3).map (fun i => (i.zero, i.size, i.bytes)) = some (some (.int .i64 0), 1, 8))
    (v : Value) (xs : List Int) (hs : a.eval s = v) (hown : Own w base 3 .i64 v xs) (hne : ∃ g n c, v = .slice (some ⟨g, 0, none⟩) n c) (yb : Nat) (y : Value) (ys : List Int) (hx : a.eval x = y) (hy : Own w yb 3 .i64 y ys)
    (hlen : xs.length + ys.length < 1000000000000) (zs : List Int) (hzs : zs = xs ++ ys) (h : ∀ v' w', AppP w base v zs v' w' → K (a.put o.dst v') w') :
    if Region.wanted o (yielded ops a.tmps) = true then Oper.wp P o a w K Q else E := by
  subst hzs
  exact step_appX w hgd s x t ho base ht hinfo v xs hs hown hne yb y ys hx hy hlen h
theorem OwnT.fix {w : World} {base : Nat} {ao : Option Addr} {n c : Nat} {S : List (Int × Int × List Int)} {vs : List Value} (h : OwnT w base (.slice ao n c) S vs) (j : Nat) (hj : j < S.length) :
    ∃ g a c', ao = some ⟨g, 0, none⟩ ∧ ∀ w' : World, w.heap.size ≤ w'.heap.size → (∀ g, base ≤ g → g < w.heap.size → w'.heap[g]? = w.heap[g]?) →
      w'.cell? ⟨g, j * 3, none⟩ = some (.int .i64 (nthS S j).1) ∧ w'.cell? ⟨g, j * 3 + 1, none⟩ = some (.int .i64 (nthS S j).2.1) ∧ w'.cell? ⟨g, j * 3 + 2, none⟩ = some (.slice a (nthS S j).2.2.length c') ∧ Own w' base 3 .i64 (.slice a (nthS S j).2.2.length c') (nthS S j).2.2 := by
  obtain ⟨g, a, c', rfl, _, _, c2, _⟩ := h.at_ j hj
  refine ⟨g, a, c', rfl, fun w' hs hk => ?_⟩
  obtain ⟨g', a', c'', e, d0, d1, d2, do_⟩ := (h.keepM hs hk).at_ j hj
  cases e
  have hbg : base ≤ g ∧ g < w.heap.size := h.2.2.1.lt g rfl
  have e2 : w'.cell? ⟨g, j * 3 + 2, none⟩ = w.cell? ⟨g, j * 3 + 2, none⟩ := World.cell?_of_block (w := w) (a := ⟨g, j * 3 + 2, none⟩) (hk g hbg.1 hbg.2)
  rw [d2, c2] at e2
  cases e2
  exact ⟨d0, d1, d2, do_⟩
theorem code0 (T : Tb) (x : Int) : T.code 0 x = codeL T.cs T.ss x := rfl
theorem code1 (T : Tb) (x : Int) : T.code 1 x = codeL T.ct T.st x := rfl

set_option maxRecDepth 100000 in
set_option maxHeartbeats 3200000 in
theorem spec_scanBits (v : Value) (T : Tb) (ao : Option Addr) (cap : Nat) (L : List (Int × List Int)) (w : World) (h0 : T.cs.length ≤ 1048576) (h1 : T.ss.length ≤ 1048576) (h2 : T.ct.length ≤ 1048576) (h3 : T.st.length ≤ 1048576)
    (hn : L.length ≤ 1048576) (hs : ∀ j, j < L.length → (nth L j).2.length ≤ 1048576) (ht : TV w v T.cs T.ss T.ct T.st) (hv : BRow w ao L) :
    Calls Tryz.prog 57 #[v, .slice ao L.length cap] w (ScP (scanR T L) w) := by
  obtain ⟨a0, c0, a1, c1, a2, c2, a3, c3, rfl, u0, u1⟩ := ht
  have hA := (Below.refl w.heap.size w).alloc (Nat.le_refl _) (.cells #[.slice a0 T.cs.length c0, .slice a1 T.ss.length c1, .slice a2 T.ct.length c2, .slice a3 T.st.length c3] 33)
  have hsA : (w.alloc (.cells #[.slice a0 T.cs.length c0, .slice a1 T.ss.length c1, .slice a2 T.ct.length c2, .slice a3 T.st.length c3] 33)).heap.size = w.heap.size + 1 := by simp
  have hBB := (Below.refl (w.alloc (.cells #[.slice a0 T.cs.length c0, .slice a1 T.ss.length c1, .slice a2 T.ct.length c2, .slice a3 T.st.length c3] 33)).heap.size _).alloc (Nat.le_refl _) (.cells #[] 3)
  have HF1 := hid ((Four.new w (.slice a0 T.cs.length c0) (.slice a1 T.ss.length c1) (.slice a2 T.ct.length c2) (.slice a3 T.st.length c3) 33).below hBB (Four.new w _ _ _ _ 33).lt)
  have HO1 := hid (Own.empty (w.alloc (.cells #[.slice a0 T.cs.length c0, .slice a1 T.ss.length c1, .slice a2 T.ct.length c2, .slice a3 T.st.length c3] 33)) 3 .i64 (w.heap.size + 1) (by rw [hsA]; exact Nat.le_refl _))
  rw [hsA] at HO1
  have HB1 := hid (hA.trans (hBB.mono hA.size))
  have HSB := hid (show ((w.alloc (.cells #[.slice a0 T.cs.length c0, .slice a1 T.ss.length c1, .slice a2 T.ct.length c2, .slice a3 T.st.length c3] 33)).alloc (.cells #[] 3)).heap.size = w.heap.size + 2 by simp)
  have HV := hid hv
  have HU0 := hid (fun q (hq : Below w.heap.size w q) => u0.below hq)
  have HU1 := hid (fun q (hq : Below w.heap.size w q) => u1.below hq)
  have HK1 := hid (fun q (hq : Below w.heap.size w q) => spec_ok _ T.cs T.ss q h0 h1 (u0.below hq))
  have HK2 := hid (fun q (hq : Below w.heap.size w q) => spec_ok _ T.ct T.st q h2 h3 (u1.below hq))
  have HSH := hid (fun q (hq : Below w.heap.size w q) => spec_shift ao cap L true q hn hs (hv.below hq))
  clear u0 u1 hA hBB hsA hv hs
  go_enter Tryz.func57, Tryz.ntmps57
  go_wp2_with fail
  refine (HSH.out _ HB1.out).mono ?_
  generalize (w.alloc (.cells #[.slice a0 T.cs.length c0, .slice a1 T.ss.length c1, .slice a2 T.ct.length c2, .slice a3 T.st.length c3] 33)).alloc (.cells #[] 3) = wb at *
  rintro e w1 ⟨v1, rfl, ho1, hb1⟩
  have B1 := hid (HB1.out.trans (hb1.mono HB1.out.size))
  have F1 := hid (HF1.out.below hb1 HF1.out.lt)
  have O1 := hid (HO1.out.below hb1)
  have BB1 := hid hb1
  clear hb1
  obtain ⟨q0, q1, q2, q3⟩ := F1.out.cells
  obtain ⟨d1, e1, rfl⟩ := ho1.shape
  by_cases hr1 : rightC T.cs T.ss = true
  · rw [hr1] at HK1
    by_cases hr2 : rightC T.ct T.st = true
    · rw [hr2] at HK2
      have HR := hid (show T.right from ⟨hr1, hr2⟩)
      by_cases hk : scanOk L
      · have hRR := shR_yes (up := true) (show L.length ≤ 4000 by have := hk.1; omega) hk.2
        have hl' : ¬ (1600 : Int) < (L.length : Int) := by have := hk.1; omega
        have hok : (shR true L).2 = true := by rw [hRR]
        have hl1 : (shR true L).1 = shl true L L.length := by rw [hRR]
        have HRES := hid (scanR_raw HR.out hk)
        have HOK := hid (oksTo_at L L.length hk.2)
        have HDF := hid (fun k hk' => df_bd L k hk.2 hk')
        have hlen16 := hk.1
        rw [hok] at *
        rw [hl1] at ho1
        have HLN := hid (shl_len true L L.length)
        have HG := hid (fun i hi => shl_get true L L.length i hi)
        simp only [hl1, HLN.out]
        have HD1 := hid ho1
        clear ho1 hok hl1 hRR
        generalize shl true L L.length = ST at *
        go_wp2_with fail
        refine (HK1.out _ B1.out).mono ?_
        rintro e w2 ⟨rfl, hb2⟩
        have B2 := hid (B1.out.trans (hb2.mono B1.out.size))
        have F2 := hid (F1.out.below hb2 F1.out.lt)
        have O2 := hid (O1.out.below hb2)
        have D2 := hid (HD1.out.below hb2)
        clear hb2 F1 q0 q1 q2 q3
        obtain ⟨q0, q1, q2, q3⟩ := F2.out.cells
        go_wp2_with fail
        refine (HK2.out _ B2.out).mono ?_
        rintro e w3 ⟨rfl, hb3⟩
        have B3 := hid (B2.out.trans (hb3.mono B2.out.size))
        have F3 := hid (F2.out.below hb3 F2.out.lt)
        have O3 := hid (O2.out.below hb3)
        have D3 := hid (D2.out.below hb3)
        clear hb3 F2 q0 q1 q2 q3 O1 O2 D2 HD1 B1 B2 HK1 HK2 HSH HF1 HO1
        obtain ⟨q0, q1, q2, q3⟩ := F3.out.cells
        have HFC := hid (fun q (hq : Below w3.heap.size w3 q) => (F3.out.below hq F3.out.lt).cells)
        have HN1 := hid (fun q (hq : Below w.heap.size w q) => all_codes (.agg #[.slice a0 T.cs.length c0, .slice a1 T.ss.length c1]) T.cs T.ss q hr1 (HU0.out q hq))
        have HN2 := hid (fun q (hq : Below w.heap.size w q) => all_codes (.agg #[.slice a2 T.ct.length c2, .slice a3 T.st.length c3]) T.ct T.st q hr2 (HU1.out q hq))
        go_wp2_with fail
        go_region_held3 (fun q => q.cell? ⟨w.heap.size, 0, none⟩ = some (.slice a0 T.cs.length c0) ∧ q.cell? ⟨w.heap.size, 1, none⟩ = some (.slice a1 T.ss.length c1) ∧ q.cell? ⟨w.heap.size, 2, none⟩ = some (.slice a2 T.ct.length c2) ∧ q.cell? ⟨w.heap.size, 3, none⟩ = some (.slice a3 T.st.length c3)) (go_keep) (first
          | (go_at_call 70; have hX := hcA; refine (HN2.out _ ?_).mono ?_; · first | exact B3.out.trans (hcA.mono B3.out.size) | exact B3.out.trans ((hcA.trans ((Below.refl _ _).drew.mono hcA.size)).mono B3.out.size)
             rintro e w5 ⟨v5, rfl, hk2, hb5⟩
             have hcB : Below w3.heap.size w3 w5 := by first | exact hcA.trans (hb5.mono hcA.size) | exact hcA.trans ((Below.trans (Below.refl _ _).drew hb5).mono hcA.size)
             have hk1' : AllAt w5 w3.heap.size v4 (keysTo T.cs 16) := by first | exact hk1.below hb5 | exact (hk1.below (Below.refl _ _).drew).below hb5
             have hk2' : AllAt w5 w3.heap.size v5 (keysTo T.ct 16) := hk2.mono hcA.size
             obtain ⟨f0, f1, f2, f3⟩ := HFC.out _ hcB)
          | (go_at_call 70; refine (HN1.out _ ?_).mono ?_; · first | exact B3.out | exact B3.out.trans ((Below.refl _ _).drew.mono B3.out.size)
             rintro e w4 ⟨v4, rfl, hk1, hb4⟩
             have hcA : Below w3.heap.size w3 w4 := by first | exact hb4 | exact Below.trans (Below.refl _ _).drew hb4
             obtain ⟨g0, g1, g2, g3⟩ := HFC.out _ hcA))
        all_goals
          have B5 := hid (B3.out.trans (hcB.mono B3.out.size))
          have F5 := hid (F3.out.below hcB F3.out.lt)
          have O5 := hid (O3.out.below hcB)
          have D5 := hid (D3.out.below hcB)
          have A5 := hid hk1'
          have hwb : w.heap.size + 2 ≤ w3.heap.size := by
            have h1 := D3.out.1
            rw [HSB.out] at h1
            exact h1
          have C5 := hid hk2'
          clear hcA hcB hk1 hk1' hk2 hk2' hb4 hb5 F3 O3 D3 HN1 HN2 HFC q0 q1 q2 q3 f0 f1 f2 f3 g0 g1 g2 g3
          have hb0 : w3.heap.size ≤ w5.heap.size := A5.out.lt
          have HKP := hid (show Kp w5 w5 (w.heap.size + 1) (.slice (some ⟨w.heap.size + 1, 0, none⟩) 0 0) [] from ⟨O5.out, fun g hg => by simp [Value.ownBlock] at hg; omega, Mid.refl _ _ _, Below.refl _ _, ⟨_, _, rfl⟩, Nat.le_refl _⟩)
          obtain ⟨v4o, v4c, rfl⟩ : ∃ a c, v4 = .slice a (keysTo T.cs 16).length c := by
            obtain ⟨vs, t1, t2, _⟩ := A5.out
            obtain ⟨a, c, e⟩ := t2.shape
            exact ⟨a, c, by rw [e, t1]⟩
          obtain ⟨v5o, v5c, rfl⟩ : ∃ a c, v5 = .slice a (keysTo T.ct 16).length c := by
            obtain ⟨vs, t1, t2, _⟩ := C5.out
            obtain ⟨a, c, e⟩ := t2.shape
            exact ⟨a, c, by rw [e, t1]⟩
          have HFB := hid (fun (q : World) (o : Value) (r : List Int) (hq : Kp w5 q (w.heap.size + 1) o r) => (F5.out.below hq.2.2.2.1 (Nat.lt_succ_self _)))
          have HBQ := hid (fun (q : World) (o : Value) (r : List Int) (hq : Kp w5 q (w.heap.size + 1) o r) => hq.belowW B5.out (Nat.le_succ _))
          have HAQ := hid (fun (q : World) (o : Value) (r : List Int) (hq : Kp w5 q (w.heap.size + 1) o r) => A5.out.keepM hq.2.2.2.2.2 (hq.keep (by omega)))
          have HCQ := hid (fun (q : World) (o : Value) (r : List Int) (hq : Kp w5 q (w.heap.size + 1) o r) => C5.out.keepM hq.2.2.2.2.2 (hq.keep (by omega)))
          have HDQ := hid (fun (q : World) (o : Value) (r : List Int) (hq : Kp w5 q (w.heap.size + 1) o r) => (show Own q wb.heap.size 3 .i64 (.slice d1 ST.length e1) ST from by
            have := D5.out.keepM hq.2.2.2.2.2 (hq.keep (by rw [HSB.out]; exact Nat.le_refl _))
            exact this))
          clear A5 C5 O5 F5 D5
          go_wp2_with fail
          go_loopw [6, 11] (fun o i wr => ∃ (k : Nat) (r : List Int), k ≤ L.length ∧ i = .int .i64 k ∧ Hid (raw T (ptsTo L k) = some r) ∧ r.length ≤ 480000 ∧ Hid (Kp w5 wr (w.heap.size + 1) o r)) (fun _ i _ => L.length - (intOf i).toNat)
          case atStart => exact ⟨0, [], by omega, rfl, rfl, by simp, HKP.out⟩
          case round =>
            obtain ⟨k, r, hk', rfl, hraw, hr480, hkp⟩ := hrel
            clear HKP
            have HBW := hid (HBQ.out wr _ _ hkp.out)
            obtain ⟨_, _, _, _, ⟨og, oc, rfl⟩, _⟩ := hkp.out
            by_cases hlt : k < L.length
            · have hlt' : (k : Int) < (L.length : Int) := by omega
              have hdf := HDF.out k hlt
              have F := hid (HFB.out wr _ _ hkp.out)
              have hvd : View .i64 wr d1 ST.length ST := by
                obtain ⟨x, c, e, h⟩ := (HDQ.out wr _ _ hkp.out).view
                cases e
                exact h
              obtain ⟨b2, off2, rfl, hd0⟩ := hvd.2 k (by rw [HLN.out]; exact hlt)
              have HDC := hid (fun (q : World) (o : Value) (r : List Int) (hq : Kp w5 q (w.heap.size + 1) o r) => (show q.cell? ⟨b2, off2 + k, none⟩ = some (.int .i64 (df L k)) from by
                obtain ⟨x, c, e, h⟩ := (HDQ.out q _ _ hq).view
                cases e
                obtain ⟨b3, off3, e3, h3⟩ := h.2 k (by rw [HLN.out]; exact hlt)
                cases e3
                rw [h3, HG.out k hlt]
                rfl))
              have hd := HDC.out wr _ _ hkp.out
              have HLC := hid (fun q (hq : Below wr.heap.size wr q) => (show Calls Tryz.prog 71 #[.agg #[.slice a0 T.cs.length c0, .slice a1 T.ss.length c1], .slice v4o (keysTo T.cs 16).length v4c, .int .i64 (sz (df L k))] q fun e w' => ∃ v', e = .returned v' ∧ Own w' w3.heap.size 3 .i64 v' (T.code 0 (sz (df L k))) ∧ Below q.heap.size q w' from l04_code _ _ T.cs T.ss (sz (df L k)) w3.heap.size q hr1 h1 (HU0.out q (HBW.out.trans (hq.mono HBW.out.size))) ((HAQ.out wr _ _ hkp.out).below hq)))
              have HZ0 := hid (fun hc => at_zero hraw.out hc)
              have HZN := hid (fun hc => at_zero_no hlt hraw.out hc)
              have hcl := code_len T HR.out 0 (sz (df L k))
              have hrl := restL_len (df L k)
              have HSI := hid (fun q => spec_size (df L k) q (by omega) (by omega))
              have HRS := hid (fun q => spec_rest (df L k) q (by omega) (by omega))
              have HFW := hid (fun q (hq : Below wr.heap.size wr q) => (F.out.below hq F.out.lt).cells)
              have HF := hid (stepsR_fine _ _ (HOK.out k hlt))
              obtain ⟨q0, q1, q2, q3⟩ := F.out.cells
              clear hd0 hvd
              generalize T.code 0 (sz (df L k)) = CODE at *
              generalize restL (df L k) = RST at *
              generalize hX : df L k = X at *
              clear hX
              go_wp2_with fail
              go_region_held3 (fun q => q.cell? ⟨w.heap.size, 0, none⟩ = some (.slice a0 T.cs.length c0) ∧ q.cell? ⟨w.heap.size, 1, none⟩ = some (.slice a1 T.ss.length c1) ∧ q.cell? ⟨b2, off2 + k, none⟩ = some (.int .i64 X)) (go_keep) (first
                | (go_at_call 72; refine (HSI.out _).mono ?_; rintro e w6 ⟨rfl, rfl⟩)
                | (go_at_call 71; refine (HLC.out _ ?_).mono ?_; · first | exact Below.refl _ _ | exact (Below.refl _ _).drew
                   rintro e w7 ⟨v7, rfl, ho7, hb7⟩
                   have hc7 : Below wr.heap.size wr w7 := by first | exact hb7 | exact Below.trans (Below.refl _ _).drew hb7
                   have hk7 := hkp.out.below hc7
                   obtain ⟨f0, f1, f2, f3⟩ := HFW.out _ hc7
                   have fd := HDC.out w7 _ _ hk7))
              all_goals
                obtain ⟨y7, c7, rfl⟩ := ho7.shape
                have HY7 := hid ho7
                have KP7 := hid hk7
                have HB7 := hid (HBQ.out w7 _ _ hk7)
                clear ho7 hb7 hc7 hk7 HLC HSI HFW F q0 q1 q2 q3 f0 f1 f2 f3 hd
                by_cases hz : CODE.length = 0
                · have HRN := hid (HRES.out.trans (by rw [HZN.out hz]; rfl : _ = (none : Option (List Int))))
                  have hz' : ((CODE.length : Int) == 0) = true := beq_iff_eq.2 (by omega)
                  clear hz
                  go_wp2_with fail
                  go_ret2
                  rw [HRN.out]
                  exact ScP.no HB7.out
                · have hz' : ((CODE.length : Int) == 0) = false := beq_eq_false_iff_ne.2 (by omega)
                  have HZ := hid (HZ0.out (by omega))
                  clear hz
                  go_wp2_with fail
                  have HRL1 := hid (show r.length + CODE.length < 1000000000000 by omega)
                  obtain ⟨R1, hR1⟩ : ∃ R1, R1 = r ++ CODE := ⟨_, rfl⟩
                  obtain ⟨R2, hR2⟩ : ∃ R2, R2 = R1 ++ RST := ⟨_, rfl⟩
                  have HRL2 := hid (show R1.length + RST.length < 1000000000000 by rw [hR1, List.length_append]; omega)
                  have HRL3 := hid (show R2.length ≤ 480000 + 27 by rw [hR2, hR1, List.length_append, List.length_append]; omega)
                  have HZ2 := hid (show raw T (ptsAt L k 0) = some R2 by rw [hR2, hR1]; exact HZ.out)
                  have HR1 := hid hR1
                  have HR2 := hid hR2
                  clear hR1 hR2 HZ
                  have hog : og < w7.heap.size := KP7.out.1.ge.2
                  go_cut [6] from 47 to 118 (fun s wx => Kp w5 wx (w.heap.size + 1) s R2)
                  case first =>
                    go_region_held3 (fun q => q.cell? ⟨b2, off2 + k, none⟩ = some (.int .i64 X)) (go_keep) (first
                      | (have hX := hk9; refine step_appZ w9 rfl (.tmp 68) (.tmp 73) 22 rfl (w.heap.size + 1) Tryz.underlying22 Tryz.info3 _ R1 (by rfl) hk9.1 ⟨g8, _, _, rfl⟩ w8.heap.size _ RST (by rfl) ho9 HRL2.out R2 HR2.out ?_
                         intro v10 w10 hp10
                         obtain ⟨g10, c10, rfl⟩ := hp10.some
                         have hk10 := hk9.app hp10
                         have fd10 := HDC.out w10 _ _ hk10)
                      | (have hX := kk9; refine step_appZ u9 rfl (.tmp 68) (.tmp 73) 22 rfl (w.heap.size + 1) Tryz.underlying22 Tryz.info3 _ R1 (by rfl) kk9.1 ⟨t9, _, _, rfl⟩ w7.heap.size _ RST (by rfl) hr9 HRL2.out R2 HR2.out ?_
                         intro v10 w10 hp10
                         obtain ⟨g10, c10, rfl⟩ := hp10.some
                         have hk10 := kk9.app hp10
                         have fd10 := HDC.out w10 _ _ hk10)
                      | (go_at_call 73; have hX := hk8'; refine (HRS.out _).mono ?_
                         rintro e w9 ⟨v9, rfl, ho9, hb9⟩
                         obtain ⟨y9, c9, rfl⟩ := ho9.shape
                         have hk9 := hk8'.below hb9
                         have fd9 := HDC.out w9 _ _ hk9)
                      | (have hX := kk8; refine step_appZ u8 rfl (.tmp 66) (.tmp 67) 22 rfl (w.heap.size + 1) Tryz.underlying22 Tryz.info3 _ r (by rfl) kk8.1 ⟨og, _, _, rfl⟩ w3.heap.size _ CODE (by rfl) hy8 HRL1.out R1 HR1.out ?_
                         intro v9' u9 hp9
                         have kk9 := kk8.app hp9
                         obtain ⟨t9, c9, rfl⟩ := hp9.some
                         have hr9 := hr8.keepM hp9.2.1.size (fun g h0 h1 => hp9.2.1.block g h1 (fun e => by simp [Value.ownBlock] at e; omega))
                         have fd9 := HDC.out u9 _ _ kk9)
                      | (have hk8 := KP7.out.drew; refine step_appZ w7.drew rfl (.tmp 66) (.tmp 67) 22 rfl (w.heap.size + 1) Tryz.underlying22 Tryz.info3 _ r (by rfl) hk8.1 ⟨og, _, _, rfl⟩ w3.heap.size _ CODE (by rfl) HY7.out.drew1 HRL1.out R1 HR1.out ?_
                         intro v8 w8 hp8
                         obtain ⟨g8, c8, rfl⟩ := hp8.some
                         have hk8' := hk8.app hp8
                         have fd8 := HDC.out w8 _ _ hk8')
                      | (go_at_call 73; refine (HRS.out _).mono ?_
                         rintro e u8 ⟨v8', rfl, ho8', hb8'⟩
                         obtain ⟨y8, c8, rfl⟩ := ho8'.shape
                         have kk8 : Kp w5 u8 (w.heap.size + 1) (.slice (some ⟨og, 0, none⟩) r.length oc) r := by first | exact KP7.out.below hb8' | exact KP7.out.drew.below hb8'
                         have hy8 : Own u8 w3.heap.size 3 .i64 (.slice y7 CODE.length c7) CODE := by first | exact HY7.out.below hb8' | exact HY7.out.drew1.below hb8'
                         have hr8 : Own u8 w7.heap.size 3 .i64 (.slice y8 RST.length c8) RST := ho8'
                         have fd8 := HDC.out u8 _ _ kk8))
                    all_goals
                      clear fd
                      go_wp2_with fail
                      go_meet
                      exact hk10
                  case rest =>
                    generalize hwc : wc = wx at *
                    clear hwc
                    have KPX := hid hcut
                    have HBX := hid (HBQ.out wx _ _ hcut)
                    obtain ⟨_, _, _, _, ⟨xg, xc, rfl⟩, _⟩ := hcut
                    have hxg : xg < wx.heap.size := KPX.out.1.ge.2
                    obtain ⟨b, off, a, c, rfl, hc1w, hc2w, hvw⟩ := HV.out k hlt
                    have hc1 := (HBX.out.cell (p := ⟨b, off + k * 2, none⟩) (World.block_lt_of_cell? w _ hc1w)).trans hc1w
                    have hc2 := (HBX.out.cell (p := ⟨b, off + k * 2 + 1, none⟩) (World.block_lt_of_cell? w _ hc2w)).trans hc2w
                    have hxl : (nth L k).2.length ≤ 1048576 := by
                      have h63 := HOK.out k hlt
                      unfold blkOk at h63
                      simp only [Bool.and_eq_true, decide_eq_true_eq] at h63
                      omega
                    have HIS := hid (spec_steps (.agg #[.int .i64 (nth L k).1, .slice a (nth L k).2.length c]) (nth L k).1 (nth L k).2 wx hxl ⟨a, c, rfl, hvw.below (Nat.le_refl _) HBX.out⟩)
                    have HST := hid (fun m r s (e : nthS (stepsR (nth L k).1 (nth L k).2) m = s) (h : raw T (ptsAt L k m) = some r) hc => at_step e h hc)
                    have HSN := hid (fun m r s (hm : m < (stepsR (nth L k).1 (nth L k).2).length) (e : nthS (stepsR (nth L k).1 (nth L k).2) m = s) (h : raw T (ptsAt L k m) = some r) hc => at_step_no hlt hm e h hc)
                    have HEND := hid (ptsAt_end L k)
                    have HBIG := hid (fun r (h : raw T (ptsTo L (k + 1)) = some r) hb => at_big hlt h hb)
                    clear hc1w hc2w hvw hxl HY7 KP7 HB7 HDC HRS HZ0 HZN fd hog HRL1 HRL2 HR1 HR2
                    generalize stepsR (nth L k).1 (nth L k).2 = S at *
                    generalize (nth L k).1 = D at *
                    generalize (nth L k).2 = XS at *
                    go_wp2_with fail
                    refine HIS.out.mono ?_
                    rintro e w8 ⟨v8, rfl, ⟨vs, hot⟩, hb8⟩
                    obtain ⟨so, sc, rfl⟩ := hot.shape
                    have HOT := hid hot
                    have KP8 := hid (KPX.out.below hb8)
                    have KQ8 := hid (show Kq wx.heap.size w8 w8 (.slice (some ⟨xg, 0, none⟩) R2.length xc) from ⟨fun g hg => by simp [Value.ownBlock] at hg; omega, Mid.refl _ _ _, Nat.le_refl _⟩)
                    have hr3 := HRL3.out
                    have hSl := HF.out.1
                    clear hot hb8 hc1 hc2 HIS KPX
                    go_wp2_with fail
                    go_loopw [6, 14] (fun o j wq => ∃ (m : Nat) (r : List Int), m ≤ S.length ∧ j = .int .i64 m ∧ Hid (raw T (ptsAt L k m) = some r) ∧ r.length ≤ 480000 + 27 * (m + 1) ∧ Hid (Kp w5 wq (w.heap.size + 1) o r) ∧ Hid (Kq wx.heap.size w8 wq o)) (fun _ j _ => S.length - (intOf j).toNat)
                    case atStart => exact ⟨0, R2, by omega, rfl, HZ2.out, by omega, KP8.out, KQ8.out⟩
                    case round =>
                      obtain ⟨m, r', hm, rfl, hraw', hrl', hkp', hkq⟩ := hrel
                      clear KP8 KQ8 HZ2
                      have HBW' := hid (HBQ.out wr _ _ hkp'.out)
                      obtain ⟨_, _, _, _, ⟨mg, mc, rfl⟩, _⟩ := hkp'.out
                      by_cases hlt2 : m < S.length
                      · have hlt2' : (m : Int) < (S.length : Int) := by omega
                        obtain ⟨g, ya, yc, rfl, hfix⟩ := HOT.out.fix m hlt2
                        have HFX := hid (fun (q : World) (o : Value) (hq : Kq wx.heap.size w8 q o) => hfix q hq.2.2 hq.2.1)
                        have F' := hid (HFB.out wr _ _ hkp'.out)
                        obtain ⟨⟨f0, f1⟩, ⟨f2, f3⟩, f4⟩ := HF.out.2 m hlt2
                        have HS1 := hid (fun hc => HST.out m r' _ rfl hraw'.out hc)
                        have HS2 := hid (fun hc => HSN.out m r' _ hlt2 rfl hraw'.out hc)
                        have hcl' := code_len T HR.out 1 (16 * (nthS S m).1 + (nthS S m).2.1)
                        have HLC2 := hid (fun q (hq : Below wr.heap.size wr q) => (show Calls Tryz.prog 71 #[.agg #[.slice a2 T.ct.length c2, .slice a3 T.st.length c3], .slice v5o (keysTo T.ct 16).length v5c, .int .i64 (16 * (nthS S m).1 + (nthS S m).2.1)] q fun e w' => ∃ v', e = .returned v' ∧ Own w' w3.heap.size 3 .i64 v' (T.code 1 (16 * (nthS S m).1 + (nthS S m).2.1)) ∧ Below q.heap.size q w' from l04_code _ _ T.ct T.st _ w3.heap.size q hr2 h3 (HU1.out q (HBW'.out.trans (hq.mono HBW'.out.size))) ((HCQ.out wr _ _ hkp'.out).below hq)))
                        have HFW' := hid (fun q (hq : Below wr.heap.size wr q) => (F'.out.below hq F'.out.lt).cells)
                        obtain ⟨s0, s1, s2, _⟩ := HFX.out wr _ hkq.out
                        obtain ⟨q0, q1, q2, q3⟩ := F'.out.cells
                        clear hfix
                        generalize T.code 1 (16 * (nthS S m).1 + (nthS S m).2.1) = CD at *
                        generalize (nthS S m).1 = RN at *
                        generalize (nthS S m).2.1 = SZ at *
                        generalize (nthS S m).2.2 = BT at *
                        have HWR := hid (show IntKind.i64.wrap (IntKind.i64.wrap (16 * RN) + SZ) = 16 * RN + SZ by
                          have e1 : IntKind.i64.wrap (16 * RN) = 16 * RN := by rw [IntKind.wrap_i64]; omega
                          rw [e1, IntKind.wrap_i64]
                          omega)
                        go_wp2_with fail
                        go_region_held3 (fun q => q.cell? ⟨w.heap.size, 2, none⟩ = some (.slice a2 T.ct.length c2) ∧ q.cell? ⟨w.heap.size, 3, none⟩ = some (.slice a3 T.st.length c3) ∧ q.cell? ⟨g, m * 3, none⟩ = some (.int .i64 RN) ∧ q.cell? ⟨g, m * 3 + 1, none⟩ = some (.int .i64 SZ)) (go_keep) (first
                          | (go_at_call 71; rw [HWR.out]; refine (HLC2.out _ ?_).mono ?_; · first | exact Below.refl _ _ | exact (Below.refl _ _).drew
                             rintro e w9 ⟨v9, rfl, ho9, hb9⟩
                             have hc9 : Below wr.heap.size wr w9 := by first | exact hb9 | exact Below.trans (Below.refl _ _).drew hb9
                             have hk9 := hkp'.out.below hc9
                             have hq9 := hkq.out.below hc9
                             obtain ⟨t0, t1, t2, t3⟩ := HFW'.out _ hc9
                             obtain ⟨p0, p1, p2, p3⟩ := HFX.out w9 _ hq9))
                        all_goals
                          obtain ⟨y9, c9, rfl⟩ := ho9.shape
                          have HY9 := hid ho9
                          have KP9 := hid hk9
                          have KQ9 := hid hq9
                          have HB9 := hid (HBQ.out w9 _ _ hk9)
                          clear ho9 hb9 hc9 hk9 hq9 HLC2 HFW' F' q0 q1 q2 q3 t0 t1 t2 t3 s0 s1 s2 p0 p1 p3
                          by_cases hz : CD.length = 0
                          · have HRN := hid (HRES.out.trans (by rw [HS2.out hz]; rfl : _ = (none : Option (List Int))))
                            have hz' : ((CD.length : Int) == 0) = true := beq_iff_eq.2 (by omega)
                            clear hz
                            go_wp2_with fail
                            go_ret2
                            rw [HRN.out]
                            exact ScP.no HB9.out
                          · have hz' : ((CD.length : Int) == 0) = false := beq_eq_false_iff_ne.2 (by omega)
                            have HZ := hid (HS1.out (by omega))
                            have HRL1 := hid (show r'.length + CD.length < 1000000000000 by omega)
                            obtain ⟨R1, hR1⟩ : ∃ R1, R1 = r' ++ CD := ⟨_, rfl⟩
                            obtain ⟨R3, hR3⟩ : ∃ R3, R3 = R1 ++ BT := ⟨_, rfl⟩
                            have HRL2 := hid (show R1.length + BT.length < 1000000000000 by rw [hR1, List.length_append]; omega)
                            have HRL4 := hid (show R3.length ≤ 480000 + 27 * (m + 1 + 1) by rw [hR3, hR1, List.length_append, List.length_append]; omega)
                            have HZ3 := hid (show raw T (ptsAt L k (m + 1)) = some R3 by rw [hR3, hR1]; exact HZ.out)
                            have HR1 := hid hR1
                            have HR3 := hid hR3
                            clear hR1 hR3 HZ hz
                            go_wp2_with fail
                            go_region_held3 (fun q => q.cell? ⟨g, m * 3 + 2, none⟩ = some (.slice ya BT.length yc)) (go_keep) (first
                              | (have hX := hk10; refine step_appZ w10 rfl (.tmp 108) (.tmp 113) 22 rfl (w.heap.size + 1) Tryz.underlying22 Tryz.info3 _ R1 (by rfl) hk10.1 ⟨g10, _, _, rfl⟩ wx.heap.size _ BT (by rfl) o10 HRL2.out R3 HR3.out ?_
                                 intro v11 w11 hp11
                                 obtain ⟨g11, c11, rfl⟩ := hp11.some
                                 have hk11 := hk10.app hp11
                                 have hq11 := hq10.app hp11
                                 obtain ⟨x0, x1, x2, _⟩ := HFX.out w11 _ hq11)
                              | (have hk9 := KP9.out.drew; have hq9 : Kq wx.heap.size w8 w9.drew _ := KQ9.out.below (Below.refl _ _).drew; refine step_appZ w9.drew rfl (.tmp 106) (.tmp 107) 22 rfl (w.heap.size + 1) Tryz.underlying22 Tryz.info3 _ r' (by rfl) hk9.1 ⟨mg, _, _, rfl⟩ w3.heap.size _ CD (by rfl) HY9.out.drew1 HRL1.out R1 HR1.out ?_
                                 intro v10 w10 hp10
                                 obtain ⟨g10, c10, rfl⟩ := hp10.some
                                 have hk10 := hk9.app hp10
                                 have hq10 := hq9.app hp10
                                 obtain ⟨z0, z1, z2, o10⟩ := HFX.out w10 _ hq10))
                            all_goals
                              have KP11 := hid hk11
                              have KQ11 := hid hq11
                              have hr4 := HRL4.out
                              clear hk11 hq11 x0 x1 x2 z0 z1 z2 o10 hk10 hq10 hk9 hq9 hp10 hp11 p2
                              go_wp2_with fail
                              go_roundw
                              case rel => exact ⟨m + 1, R3, by omega, by go_num, HZ3.out, by omega, KP11.out, KQ11.out⟩
                              case measure => simp [intOf]; omega
                      · obtain rfl : m = S.length := by omega
                        have HRW := hid (show raw T (ptsTo L (k + 1)) = some r' by rw [← HEND.out]; exact hraw'.out)
                        by_cases hbig : 480000 < r'.length
                        · have hbig' : (480000 : Int) < (r'.length : Int) := by omega
                          have HRN := hid (HRES.out.trans (HBIG.out r' HRW.out hbig))
                          clear hbig
                          go_wp2_with fail
                          go_ret2
                          rw [HRN.out]
                          exact ScP.no HBW'.out
                        · have hbig' : ¬ (480000 : Int) < (r'.length : Int) := by omega
                          go_wp2_with fail
                          go_roundw
                          case rel => exact ⟨k + 1, r', by omega, by go_num, HRW.out, by omega, hkp'.out⟩
                          case measure => simp [intOf]; omega
            · obtain rfl : k = L.length := by omega
              have HRR := hid (HRES.out.trans (at_all hraw.out hr480))
              have HOF := hid (hkp.out.1.mono (Nat.le_succ w.heap.size))
              go_wp2_with fail
              go_ret2
              rw [HRR.out]
              exact ⟨_, rfl, HOF.out, HBW.out⟩
      · have HRN := hid (scanR_no (T := T) (L := L) (fun h => hk h.2))
        have hcase : (shR true L).2 = false ∨ (shR true L).2 = true ∧ 1600 < L.length := by
          by_cases h : L.length ≤ 4000 ∧ oksTo L L.length = true
          · refine .inr ⟨by rw [shR_yes h.1 h.2], ?_⟩
            have : ¬ L.length ≤ 1600 := fun h' => hk ⟨h', h.2⟩
            omega
          · exact .inl (by rw [shR_no h])
        clear hk ho1
        go_wp2_with fail
        refine (HK1.out _ B1.out).mono ?_
        rintro e w2 ⟨rfl, hb2⟩
        have B2 := hid (B1.out.trans (hb2.mono B1.out.size))
        have F2 := hid (F1.out.below hb2 F1.out.lt)
        have O2 := hid (O1.out.below hb2)
        clear hb2 F1 q0 q1 q2 q3
        obtain ⟨q0, q1, q2, q3⟩ := F2.out.cells
        go_wp2_with fail
        refine (HK2.out _ B2.out).mono ?_
        rintro e w3 ⟨rfl, hb3⟩
        have B3 := hid (B2.out.trans (hb3.mono B2.out.size))
        have O3 := hid ((O2.out.below hb3).mono (Nat.le_succ w.heap.size))
        clear hb3 F2 q0 q1 q2 q3
        rcases hcase with hc | ⟨hc, hl⟩
        · rw [hc]
          go_wp2_with fail
          go_ret2
          rw [HRN.out]
          exact ⟨_, rfl, O3.out, B3.out⟩
        · have hl' : (1600 : Int) < (L.length : Int) := by omega
          rw [hc]
          go_wp2_with fail
          go_ret2
          rw [HRN.out]
          exact ⟨_, rfl, O3.out, B3.out⟩
    · have hr2' : rightC T.ct T.st = false := by simpa using hr2
      have HRN := hid (scanR_no (T := T) (L := L) (fun h => hr2 h.1.2))
      rw [hr2'] at HK2
      clear ho1
      go_wp2_with fail
      refine (HK1.out _ B1.out).mono ?_
      rintro e w2 ⟨rfl, hb2⟩
      have B2 := hid (B1.out.trans (hb2.mono B1.out.size))
      have F2 := hid (F1.out.below hb2 F1.out.lt)
      have O2 := hid (O1.out.below hb2)
      clear hb2 F1 q0 q1 q2 q3
      obtain ⟨q0, q1, q2, q3⟩ := F2.out.cells
      go_wp2_with fail
      refine (HK2.out _ B2.out).mono ?_
      rintro e w3 ⟨rfl, hb3⟩
      have B3 := hid (B2.out.trans (hb3.mono B2.out.size))
      have O3 := hid ((O2.out.below hb3).mono (Nat.le_succ w.heap.size))
      clear hb3 F2 q0 q1 q2 q3
      go_wp2_with fail
      go_ret2
      rw [HRN.out]
      exact ⟨_, rfl, O3.out, B3.out⟩
  · have hr1' : rightC T.cs T.ss = false := by simpa using hr1
    have HRN := hid (scanR_no (T := T) (L := L) (fun h => hr1 h.1.1))
    rw [hr1'] at HK1
    clear ho1
    go_wp2_with fail
    refine (HK1.out _ B1.out).mono ?_
    rintro e w2 ⟨rfl, hb2⟩
    have B2 := hid (B1.out.trans (hb2.mono B1.out.size))
    have O2 := hid ((O1.out.below hb2).mono (Nat.le_succ w.heap.size))
    clear hb2 F1 q0 q1 q2 q3
    go_wp2_with fail
    go_ret2
    rw [HRN.out]
    exact ⟨_, rfl, O2.out, B2.out⟩
end Go.Proofs.YtnnakmgngkpghaaGreat
