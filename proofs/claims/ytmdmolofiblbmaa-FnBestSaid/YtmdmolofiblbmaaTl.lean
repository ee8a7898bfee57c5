/- The specification's trees, merged: plain lists, and the first part of l02Lengths: a tree for each symbol. -/
import Derived.Test.YtmdmolofiblbmaaTr
namespace Go.Proofs.Ytmdmolofiblbmaa
open Go.RowKit
set_option linter.unusedVariables false

/-- A tree, plain: its weight, its least symbol, its symbols. -/
abbrev PT := Int × Int × List Int
def TE.pl (e : TE) : PT := (e.w, e.l, e.s)
def nthP (S : List PT) (j : Nat) : PT := S.getD j (0, 0, [])
def betP (x y : PT) : Bool := decide (x.1 < y.1) || (decide (x.1 = y.1) && decide (x.2.1 < y.2.1))
def leastPTo (S : List PT) : Nat → Nat
  | 0 => 0
  | k + 1 => if betP (nthP S (k + 1)) (nthP S (leastPTo S k)) = true then k + 1 else leastPTo S k
def leastP (S : List PT) : Nat := leastPTo S (S.length - 1)
theorem nthE_pl (E : List TE) (j : Nat) : (nthE E j).pl = nthP (E.map TE.pl) j := by
  simp only [nthE, nthP, List.getD, List.getElem?_map]
  cases E[j]? <;> rfl
theorem bet_pl (x y : TE) : bet x y = betP x.pl y.pl := rfl
theorem leastTo_pl (E : List TE) : ∀ k, leastTo E k = leastPTo (E.map TE.pl) k
  | 0 => rfl
  | k + 1 => by
    simp only [leastTo, leastPTo]
    rw [leastTo_pl E k, bet_pl, nthE_pl, nthE_pl]
theorem least_pl (E : List TE) : least E = leastP (E.map TE.pl) := by
  unfold least leastP
  rw [leastTo_pl, List.length_map]
def mergeP (a b : PT) : PT := (a.1 + b.1, if b.2.1 < a.2.1 then b.2.1 else a.2.1, a.2.2 ++ b.2.2)
/-- One more for each of the first k symbols. -/
def bumpTo (lens syms : List Int) : Nat → List Int
  | 0 => lens
  | k + 1 => (bumpTo lens syms k).set (syms.getD k 0).toNat ((bumpTo lens syms k).getD (syms.getD k 0).toNat 0 + 1)
theorem bumpTo_len (lens syms : List Int) : ∀ k, (bumpTo lens syms k).length = lens.length
  | 0 => rfl
  | k + 1 => by rw [bumpTo, List.length_set, bumpTo_len lens syms k]
def stepP (S : List PT) : List PT × PT :=
  let i := leastP S
  let S1 := S.eraseIdx i
  let k := leastP S1
  (S1.eraseIdx k, mergeP (nthP S i) (nthP S1 k))
def runP : Nat → List PT → List Int → List Int
  | 0, _, l => l
  | f + 1, S, l => if 1 < S.length then runP f ((stepP S).1 ++ [(stepP S).2]) (bumpTo l (stepP S).2.2.2 (stepP S).2.2.2.length) else l
/-- The trees of the first k symbols. -/
def initP (fs : List Int) : Nat → List PT
  | 0 => []
  | k + 1 => if 0 < fs.getD k 0 then initP fs k ++ [(fs.getD k 0, (k : Int), [(k : Int)])] else initP fs k
theorem initP_len (fs : List Int) : ∀ k, (initP fs k).length ≤ k
  | 0 => Nat.le_refl _
  | k + 1 => by
    have := initP_len fs k
    rw [initP]
    split
    · simp; omega
    · omega
/-- The lengths of the codes. -/
def lensP (fs : List Int) : List Int := runP 257 (initP fs 256 ++ [(0, 256, [256])]) (List.replicate 257 0)

/-- 'out = append(out, y)', and what else is as it was. -/
theorem wpList_pushG {P : Program} {ops : Array Oper} {rest : List Oper} {o : Oper} {a : Act} {Q : Exit → Act → World → Prop} (w : World) (hgd : o.guard = none) (s x : Operand) (t : TypeId)
    (ho : o.op = .call { callee := .builtin .append, args := #[s, x], argTypes := #[t, t] })
    (base : Nat) (e : TypeId) (k : IntKind) (z : Int) (bytes : Nat) (ht : P.underlying t = some (.slice e)) (hinfo : (P.info? e).map (fun i => (i.zero, i.size, i.bytes)) = some (some (.int k z), 1, bytes))
    (v : Value) (xs : List Int) (hs : a.eval s = v) (hown : Own w base e k v xs) (y : Int) (hx : a.eval x = .slice (some ⟨w.heap.size, 0, none⟩) 1 1)
    (hlen : xs.length < 1000000000000) (hbytes : bytes ≤ 8)
    (h : ∀ v' w', Own w' base e k v' (xs ++ [y]) → Below base w w' → (∀ g, g < w.heap.size → some g ≠ v.ownBlock → w'.heap[g]? = w.heap[g]?) → wpList P ops Q rest (a.put o.dst v') w') : wpList P ops Q (o :: rest) a (w.alloc (.cells #[.int k y] e)) := by
  obtain ⟨i, hi, hz0, hz1, hz2⟩ := info_parts hinfo
  have hb := hown.1
  have hlt := hown.2.lt
  have hmul : (xs.length + 1) * bytes ≤ (xs.length + 1) * 8 := Nat.mul_le_mul_left _ hbytes
  refine wpList_append_own _ hgd s x t ho base e i (.int k z) 1 bytes ht hi hz0 hz1 hz2 rfl (by decide) v xs.length _ hs (hown.2.alloc _) ⟨w.heap.size, 0, none⟩ 1 1 [.int k y] hx rfl ?_ ?_ (by unfold maxLen; omega) (by omega) (Nat.le_trans hb (by simp)) ?_
  · intro j u hj
    match j, hj with
    | 0, hj => simp at hj; subst hj; simp [Addr.add]
  · intro u hu; simp at hu; subst hu; rfl
  · intro v' w' hown' hgrow _
    refine h v' w' ⟨Nat.le_trans hb (Nat.le_trans (by simp) hgrow.size), ?_⟩ ?_ ?_
    · simpa using hown'
    · exact ((Below.refl base w).alloc hb _).grown hgrow (Nat.le_trans hb (by simp)) (fun g hg => (hlt g hg).1)
    · intro g hg hne
      exact (hgrow.block g (Nat.lt_trans hg (by simp)) hne).trans (((Below.refl w.heap.size w).alloc (Nat.le_refl _) _).block g hg)

/-- Trees whose symbols' slices are rows of one cell, away from the row of lengths. -/
def Single (w : World) (E : List TE) : Prop := ∀ e ∈ E, ∃ (g : Nat) (x : Value), e.y = .slice (some ⟨g, 0, none⟩) 1 1 ∧ w.heap[g]? = some (.cells #[x] 3 (0, 0))
/-- A row of trees is as it was where a row of ints was written, or grew. -/
theorem TrL.grewI {w w' : World} {base : Nat} {v lv : Value} {E : List TE} {xs : List Int} {b2 : Nat} (h : TrL w base v E) (hl : Own w b2 3 .i64 lv xs) (hsz : w.heap.size ≤ w'.heap.size) (hne : ∀ e ∈ E, ∀ g, e.y.ownBlock = some g → lv.ownBlock ≠ some g)
    (hk : ∀ g, g < w.heap.size → some g ≠ lv.ownBlock → w'.heap[g]? = w.heap[g]?) : TrL w' base v E := by
  obtain ⟨h1, h2, h3⟩ := h
  refine ⟨Nat.le_trans h1 hsz, ⟨h2.1, ?_⟩, fun e he => ?_⟩
  · rcases h2.2 with h0 | ⟨g, cap, cur, hv, hg, hh, r⟩
    · exact .inl h0
    · refine .inr ⟨g, cap, cur, hv, hg, (hk g (Array.getElem?_eq_some_iff.1 hh).1 (fun e => ?_)).trans hh, r⟩
      rcases hl.2.2 with ⟨hv', _⟩ | ⟨g', cap', cur', hv', _, hh', _⟩
      · subst hv'; simp [Value.ownBlock] at e
      · subst hv'
        have : g = g' := by simpa [Value.ownBlock] using e
        subst this
        rw [hh] at hh'
        cases hh'
  · have ho := h3 e he
    refine ⟨Nat.zero_le _, ho.2.1, ?_⟩
    rcases ho.2.2 with h0 | ⟨g, cap, cur, hv, hg, hh, r⟩
    · exact .inl h0
    · exact .inr ⟨g, cap, cur, hv, hg, (hk g (Array.getElem?_eq_some_iff.1 hh).1 (fun eq => hne e he g (by rw [hv]; rfl) eq.symm)).trans hh, r⟩

theorem Own.madeI (w : World) (base : Nat) (xs : List Int) (hb : base ≤ w.heap.size) (hl : xs.length ≤ 1000) : Own (w.alloc (.cells (xs.map (Value.int .i64)).toArray 3)) base 3 .i64 (.slice (some ⟨w.heap.size, 0, none⟩) xs.length xs.length) xs :=
  ⟨Nat.le_trans hb (by simp), by simp, .inr ⟨w.heap.size, xs.length, _, rfl, hb, heap_alloc_new w _, Nat.le_refl _, by unfold maxLen; omega, by simp, by simpa using List.take_of_length_le (by simp)⟩⟩
theorem Own.blk_lt {w : World} {base : Nat} {v : Value} {xs : List Int} (h : Own w base 3 .i64 v xs) (g : Nat) (hg : v.ownBlock = some g) : g < w.heap.size := (h.2.lt g hg).2
/-- The row of a slice that is longer than one number has more than one cell. -/
theorem Own.big {w : World} {base : Nat} {v : Value} {xs : List Int} (h : Own w base 3 .i64 v xs) (hl : 2 ≤ xs.length) (g : Nat) (hg : v.ownBlock = some g) (x : Value) : w.heap[g]? ≠ some (.cells #[x] 3 (0, 0)) := by
  intro hh
  rcases h.2.2 with ⟨_, h0⟩ | ⟨g', cap, cur, hv, _, hh', hc, _, hs, _⟩
  · omega
  · subst hv
    have : g' = g := by simpa [Value.ownBlock] using hg
    subst this
    rw [hh] at hh'
    cases hh'
    simp at hs
    omega

/-- What stands behind the first k symbols. -/
def L1 (fs : List Int) (B : Nat) (w wr : World) (k : Nat) (v lv : Value) : Prop :=
  ∃ E : List TE, TrL wr B v E ∧ Own wr B 3 .i64 lv (List.replicate k 0) ∧ E.map TE.pl = initP fs k ∧ Single wr E ∧ (∀ e ∈ E, ∀ g, e.y.ownBlock = some g → lv.ownBlock ≠ some g) ∧ Below B w wr

theorem L1.pushed {fs : List Int} {B : Nat} {w wr w1 : World} {k : Nat} {v lv lv1 : Value} {E : List TE} (hT : TrL wr B v E) (hl : Own wr B 3 .i64 lv (List.replicate k 0)) (hp : E.map TE.pl = initP fs k) (hs : Single wr E) (hne : ∀ e ∈ E, ∀ g, e.y.ownBlock = some g → lv.ownBlock ≠ some g) (hb : Below B w wr)
    (hl1 : Own w1 B 3 .i64 lv1 (List.replicate k 0 ++ [0])) (hb1 : Below B wr w1) (hk : ∀ g, g < wr.heap.size → some g ≠ lv.ownBlock → w1.heap[g]? = wr.heap[g]?) :
    TrL w1 B v E ∧ Own w1 B 3 .i64 lv1 (List.replicate (k + 1) 0) ∧ Single w1 E ∧ (∀ e ∈ E, ∀ g, e.y.ownBlock = some g → lv1.ownBlock ≠ some g) ∧ Below B w w1 := by
  have hsg : Single w1 E := by
    intro e he
    obtain ⟨g, x, h1, h2⟩ := hs e he
    exact ⟨g, x, h1, (hk g (Array.getElem?_eq_some_iff.1 h2).1 (fun eq => hne e he g (by rw [h1]; rfl) eq.symm)).trans h2⟩
  refine ⟨hT.grewI hl hb1.size hne hk, by rw [List.replicate_succ']; exact hl1, hsg, fun e he g hg hg1 => ?_, hb.trans hb1⟩
  obtain ⟨g', x, h1, h2⟩ := hsg e he
  have e1 : g' = g := by rw [h1] at hg; simpa [Value.ownBlock] using hg
  subst e1
  cases k with
  | zero =>
    have : E = [] := by simpa [initP] using hp
    rw [this] at he
    cases he
  | succ k => exact hl1.big (by simp) g' hg1 x h2

/-- One tree more: what stays. -/
theorem tree_any {B : Nat} {w w1 w2 : World} {k f : Int} {lv1 : Value} {E : List TE} {xs : List Int} (hl : Own w1 B 3 .i64 lv1 xs) (hs : Single w1 E) (hne : ∀ e ∈ E, ∀ g, e.y.ownBlock = some g → lv1.ownBlock ≠ some g) (hb : Below B w w1)
    (hk : Kp3 ((w1.alloc (.cells #[.int .i64 k] 3)).alloc (.cells #[.int .i64 f, .int .i64 k, .slice (some ⟨w1.heap.size, 0, none⟩) 1 1] 95)) w2)
    (hb2 : Below B ((w1.alloc (.cells #[.int .i64 k] 3)).alloc (.cells #[.int .i64 f, .int .i64 k, .slice (some ⟨w1.heap.size, 0, none⟩) 1 1] 95)) w2) :
    Own w2 B 3 .i64 lv1 xs ∧ Single w2 (E ++ [(f, k, .slice (some ⟨w1.heap.size, 0, none⟩) 1 1, [k])]) ∧ (∀ e ∈ E ++ [(f, k, .slice (some ⟨w1.heap.size, 0, none⟩) 1 1, [k])], ∀ g, e.y.ownBlock = some g → lv1.ownBlock ≠ some g) ∧ Below B w w2 := by
  have hA : Below w1.heap.size w1 ((w1.alloc (.cells #[.int .i64 k] 3)).alloc (.cells #[.int .i64 f, .int .i64 k, .slice (some ⟨w1.heap.size, 0, none⟩) 1 1] 95)) := ((Below.refl _ _).alloc (Nat.le_refl _) _).alloc (by simp) _
  have hnew : ((w1.alloc (.cells #[.int .i64 k] 3)).alloc (.cells #[.int .i64 f, .int .i64 k, .slice (some ⟨w1.heap.size, 0, none⟩) 1 1] 95)).heap[w1.heap.size]? = some (.cells #[.int .i64 k] 3 (0, 0)) :=
    (((Below.refl _ (w1.alloc (.cells #[.int .i64 k] 3))).alloc (Nat.le_refl _) _).block w1.heap.size (by simp)).trans (heap_alloc_new w1 _)
  refine ⟨(hl.below hA).kp3 hk hb2.size, ?_, ?_, hb.trans ((hA.mono hl.1).trans hb2)⟩
  · intro e he
    rcases List.mem_append.1 he with he | he
    · obtain ⟨g, x, h1, h2⟩ := hs e he
      exact ⟨g, x, h1, hk g _ ((hA.block g (Array.getElem?_eq_some_iff.1 h2).1).trans h2)⟩
    · simp at he
      subst he
      exact ⟨w1.heap.size, _, rfl, hk _ _ hnew⟩
  · intro e he g hg
    rcases List.mem_append.1 he with he | he
    · exact hne e he g hg
    · simp at he
      subst he
      intro hg1
      have h1 : w1.heap.size = g := by simpa [TE.y, Value.ownBlock] using hg
      have := hl.blk_lt g hg1
      omega
theorem L1.tree {fs : List Int} {B : Nat} {w w1 w2 : World} {k : Nat} {f : Int} {v2 lv1 : Value} {E : List TE} (hl : Own w1 B 3 .i64 lv1 (List.replicate (k + 1) 0)) (hp : E.map TE.pl = initP fs k) (hf : f = fs.getD k 0) (hf0 : 0 < f) (hs : Single w1 E) (hne : ∀ e ∈ E, ∀ g, e.y.ownBlock = some g → lv1.ownBlock ≠ some g) (hb : Below B w w1)
    (hT2 : TrL w2 B v2 (E ++ [(f, (k : Int), .slice (some ⟨w1.heap.size, 0, none⟩) 1 1, [(k : Int)])]))
    (hk : Kp3 ((w1.alloc (.cells #[.int .i64 k] 3)).alloc (.cells #[.int .i64 f, .int .i64 k, .slice (some ⟨w1.heap.size, 0, none⟩) 1 1] 95)) w2)
    (hb2 : Below B ((w1.alloc (.cells #[.int .i64 k] 3)).alloc (.cells #[.int .i64 f, .int .i64 k, .slice (some ⟨w1.heap.size, 0, none⟩) 1 1] 95)) w2) : L1 fs B w w2 (k + 1) v2 lv1 := by
  obtain ⟨h1, h2, h3, h4⟩ := tree_any hl hs hne hb hk hb2
  refine ⟨_, hT2, h1, ?_, h2, h3, h4⟩
  rw [initP, if_pos (by omega), List.map_append, hp, ← hf]
  rfl

/-- Sums over trees. -/
def sumB (g : PT → Int) : List PT → Int
  | [] => 0
  | x :: S => g x + sumB g S
theorem sumB_append (g : PT → Int) (A B : List PT) : sumB g (A ++ B) = sumB g A + sumB g B := by
  induction A with
  | nil => simp [sumB]
  | cons x A ih => simp only [List.cons_append, sumB, ih]; omega
theorem sumB_erase (g : PT → Int) : ∀ (S : List PT) (i : Nat), i < S.length → sumB g (S.eraseIdx i) = sumB g S - g (nthP S i)
  | x :: S, 0, _ => by simp [sumB, nthP]; omega
  | x :: S, i + 1, h => by
    have ih := sumB_erase g S i (by simpa using h)
    have e : nthP (x :: S) (i + 1) = nthP S i := by simp [nthP]
    rw [List.eraseIdx_cons_succ, sumB, ih, e, sumB]
    omega
theorem leastPTo_le (S : List PT) : ∀ k, leastPTo S k ≤ k
  | 0 => Nat.le_refl _
  | k + 1 => by
    have := leastPTo_le S k
    simp only [leastPTo]
    split <;> omega
theorem leastP_lt (S : List PT) (h : 0 < S.length) : leastP S < S.length := by
  have := leastPTo_le S (S.length - 1)
  unfold leastP
  omega
theorem sumB_step (g : PT → Int) (S : List PT) (h : 1 < S.length) (hg : ∀ a b, g (mergeP a b) = g a + g b) : sumB g ((stepP S).1 ++ [(stepP S).2]) = sumB g S := by
  have h1 := leastP_lt S (by omega)
  have l1 : (S.eraseIdx (leastP S)).length = S.length - 1 := by rw [List.length_eraseIdx, if_pos h1]
  have h2 := leastP_lt (S.eraseIdx (leastP S)) (by omega)
  have e1 := sumB_erase g S _ h1
  have e2 := sumB_erase g (S.eraseIdx (leastP S)) _ h2
  show sumB g ((S.eraseIdx (leastP S)).eraseIdx (leastP (S.eraseIdx (leastP S))) ++ [mergeP (nthP S (leastP S)) (nthP (S.eraseIdx (leastP S)) (leastP (S.eraseIdx (leastP S))))]) = _
  rw [sumB_append, e2, e1]
  simp only [sumB, hg]
  omega

/-- Trees that are right. -/
def WFP (S : List PT) : Prop := sumB (·.1) S ≤ 25700000 ∧ (∀ x ∈ S, 0 ≤ x.1) ∧ sumB (fun x => (x.2.2.length : Int)) S ≤ 257 ∧ ∀ x ∈ S, x.2.2 ≠ [] ∧ ∀ s ∈ x.2.2, 0 ≤ s ∧ s ≤ 256
theorem WFP.init (fs : List Int) (hf : ∀ j, j < 256 → 0 ≤ fs.getD j 0 ∧ fs.getD j 0 ≤ 100000) : ∀ k, k ≤ 256 → sumB (·.1) (initP fs k) ≤ 100000 * k ∧ (∀ x ∈ initP fs k, 0 ≤ x.1) ∧ sumB (fun x => (x.2.2.length : Int)) (initP fs k) ≤ k ∧ ∀ x ∈ initP fs k, x.2.2 ≠ [] ∧ ∀ s ∈ x.2.2, 0 ≤ s ∧ s ≤ 256
  | 0, _ => by simp [initP, sumB]
  | k + 1, h => by
    obtain ⟨h1, h2, h3, h4⟩ := WFP.init fs hf k (by omega)
    have hk := hf k (by omega)
    rw [initP]
    split
    · rw [sumB_append, sumB_append]
      simp only [sumB, List.length_singleton]
      refine ⟨by omega, fun x hx => ?_, by omega, fun x hx => ?_⟩
      · rcases List.mem_append.1 hx with hx | hx
        · exact h2 x hx
        · simp at hx; subst hx; exact hk.1
      · rcases List.mem_append.1 hx with hx | hx
        · exact h4 x hx
        · simp at hx; subst hx; exact ⟨by simp, fun s hs => by simp at hs; subst hs; omega⟩
    · exact ⟨by omega, h2, by omega, h4⟩
theorem WFP.start (fs : List Int) (hf : ∀ j, j < 256 → 0 ≤ fs.getD j 0 ∧ fs.getD j 0 ≤ 100000) : WFP (initP fs 256 ++ [(0, 256, [256])]) := by
  obtain ⟨h1, h2, h3, h4⟩ := WFP.init fs hf 256 (by omega)
  refine ⟨?_, fun x hx => ?_, ?_, fun x hx => ?_⟩
  · rw [sumB_append]; simp only [sumB]; omega
  · rcases List.mem_append.1 hx with hx | hx
    · exact h2 x hx
    · simp at hx; subst hx; decide
  · rw [sumB_append]; simp only [sumB, List.length_singleton]; omega
  · rcases List.mem_append.1 hx with hx | hx
    · exact h4 x hx
    · simp at hx; subst hx; exact ⟨by simp, fun s hs => by simp at hs; subst hs; decide⟩

/-- What stands while trees are merged. -/
def L2 (fs : List Int) (B : Nat) (w wr : World) (f : Nat) (v lv : Value) : Prop :=
  ∃ (E : List TE) (lens : List Int), TrL wr B v E ∧ Own wr B 3 .i64 lv lens ∧ runP f (E.map TE.pl) lens = lensP fs ∧ (∀ e ∈ E, ∀ g, e.y.ownBlock = some g → lv.ownBlock ≠ some g) ∧ WFP (E.map TE.pl) ∧ E.length ≤ f ∧ f ≤ 257 ∧ 1 ≤ E.length ∧ lens.length = 257 ∧
    (∀ j, 0 ≤ lens.getD j 0 ∧ lens.getD j 0 ≤ 1000 * (257 - f)) ∧ Below B w wr
theorem L2.start {fs : List Int} {B : Nat} {w w1 w2 : World} {v2 lv1 : Value} {E : List TE} (hf : ∀ j, j < 256 → 0 ≤ fs.getD j 0 ∧ fs.getD j 0 ≤ 100000) (hl : Own w1 B 3 .i64 lv1 (List.replicate (256 + 1) 0)) (hp : E.map TE.pl = initP fs 256) (hs : Single w1 E) (hne : ∀ e ∈ E, ∀ g, e.y.ownBlock = some g → lv1.ownBlock ≠ some g) (hb : Below B w w1)
    (hT2 : TrL w2 B v2 (E ++ [(0, 256, .slice (some ⟨w1.heap.size, 0, none⟩) 1 1, [256])]))
    (hk : Kp3 ((w1.alloc (.cells #[.int .i64 256] 3)).alloc (.cells #[.int .i64 0, .int .i64 256, .slice (some ⟨w1.heap.size, 0, none⟩) 1 1] 95)) w2)
    (hb2 : Below B ((w1.alloc (.cells #[.int .i64 256] 3)).alloc (.cells #[.int .i64 0, .int .i64 256, .slice (some ⟨w1.heap.size, 0, none⟩) 1 1] 95)) w2) : L2 fs B w w2 257 v2 lv1 := by
  obtain ⟨h1, h2, h3, h4⟩ := tree_any hl hs hne hb hk hb2
  have hpl : (E ++ ([(0, 256, .slice (some ⟨w1.heap.size, 0, none⟩) 1 1, [256])] : List TE)).map TE.pl = initP fs 256 ++ [(0, 256, [256])] := by
    rw [List.map_append, hp]
    rfl
  have hEl : E.length ≤ 256 := by
    have h1 := congrArg List.length hp
    have h2 := initP_len fs 256
    rw [List.length_map] at h1
    omega
  refine ⟨_, _, hT2, h1, ?_, h3, by rw [hpl]; exact WFP.start fs hf, by rw [List.length_append, List.length_singleton]; omega, by omega, by rw [List.length_append, List.length_singleton]; omega, by rw [List.length_replicate], fun j => ?_, h4⟩
  · rw [hpl]; rfl
  · have : (List.replicate (256 + 1) (0 : Int)).getD j 0 = 0 := by
      simp only [List.getD, List.getElem?_replicate]
      split <;> rfl
    rw [this]
    omega

end Go.Proofs.Ytmdmolofiblbmaa
