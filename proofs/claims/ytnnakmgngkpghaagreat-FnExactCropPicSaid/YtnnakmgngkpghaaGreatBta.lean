/- Texts joined: Tr, Tl, Tm, Tn, Tp. No statement is proved here. -/
import Derived.Test.YtnnakmgngkpghaaGreatGa
import Derived.Deep.QuietTactic
import Derived.Deep.RegionHeld3
import Derived.Deep.RegionLaw
import Derived.OneCell
import Derived.BigQuiet
import Derived.Deep.CutRange

/- The specification's trees: plain lists, rows of trees that are the call's own, and the contract of l02Least. -/
namespace Go.Proofs.YtnnakmgngkpghaaGreat
open Go.RowKit
set_option linter.unusedVariables false

/-- A tree in a row: its weight, its least symbol, the slice of its symbols, and these. -/
abbrev TE := Int × Int × Value × List Int
def TE.w (e : TE) : Int := e.1
def TE.l (e : TE) : Int := e.2.1
def TE.y (e : TE) : Value := e.2.2.1
def TE.s (e : TE) : List Int := e.2.2.2
def nthE (E : List TE) (j : Nat) : TE := E.getD j (0, 0, .slice none 0 0, [])
/-- The cells of a row of trees. -/
def flE (E : List TE) : List Value := E.flatMap fun e => [.int .i64 e.w, .int .i64 e.l, e.y]
theorem flE_append (A B : List TE) : flE (A ++ B) = flE A ++ flE B := by simp [flE]
theorem flE_len : ∀ E : List TE, (flE E).length = E.length * 3
  | [] => rfl
  | e :: E => by
    have := flE_len E
    simp [flE] at this ⊢
    omega
theorem flE_at : ∀ (E : List TE) (j : Nat), j < E.length → (flE E)[j * 3]? = some (.int .i64 (nthE E j).w) ∧ (flE E)[j * 3 + 1]? = some (.int .i64 (nthE E j).l) ∧ (flE E)[j * 3 + 2]? = some (nthE E j).y
  | e :: E, 0, _ => by simp [flE, nthE]
  | e :: E, j + 1, h => by
    have ih := flE_at E j (by simpa using h)
    have e1 : (j + 1) * 3 = j * 3 + 3 := by omega
    have hn : nthE (e :: E) (j + 1) = nthE E j := by simp [nthE]
    rw [hn, e1]
    have hf : flE (e :: E) = [.int .i64 e.w, .int .i64 e.l, e.y] ++ flE E := by simp [flE]
    rw [hf]
    refine ⟨?_, ?_, ?_⟩
    · rw [List.getElem?_append_right (by simp)]; simpa using ih.1
    · rw [List.getElem?_append_right (by simp)]
      have : j * 3 + 3 + 1 - [Value.int .i64 e.w, Value.int .i64 e.l, e.y].length = j * 3 + 1 := by simp
      rw [this]; exact ih.2.1
    · rw [List.getElem?_append_right (by simp)]
      have : j * 3 + 3 + 2 - [Value.int .i64 e.w, Value.int .i64 e.l, e.y].length = j * 3 + 2 := by simp
      rw [this]; exact ih.2.2

/-- Rows of ints are as they were. -/
def Kp3 (w w' : World) : Prop := ∀ (g : Nat) (cur : Array Value), w.heap[g]? = some (.cells cur 3 (0, 0)) → w'.heap[g]? = some (.cells cur 3 (0, 0))
theorem Kp3.trans {a b c : World} (h : Kp3 a b) (k : Kp3 b c) : Kp3 a c := fun g cur hg => k g cur (h g cur hg)
theorem Kp3.ofBelow {w w' : World} (h : Below w.heap.size w w') : Kp3 w w' := fun g cur hg => (h.block g (Array.getElem?_eq_some_iff.1 hg).1).trans hg
theorem Own.kp3 {w w' : World} {base : Nat} {y : Value} {xs : List Int} (h : Own w base 3 .i64 y xs) (hk : Kp3 w w') (hs : w.heap.size ≤ w'.heap.size) : Own w' base 3 .i64 y xs := by
  refine ⟨Nat.le_trans h.1 hs, h.2.1, ?_⟩
  rcases h.2.2 with h0 | ⟨g, cap, cur, hv, hg, hh, r⟩
  · exact .inl h0
  · exact .inr ⟨g, cap, cur, hv, hg, hk g cur hh, r⟩

/-- The slice v is the call's own and holds these trees. -/
def TrL (w : World) (base : Nat) (v : Value) (E : List TE) : Prop := base ≤ w.heap.size ∧ w.ownsRow base 144 3 v E.length (flE E) ∧ ∀ e ∈ E, Own w 0 3 .i64 e.y e.s
theorem TrL.shape {w : World} {base : Nat} {v : Value} {E : List TE} (h : TrL w base v E) : ∃ ao cap, v = .slice ao E.length cap := by
  rcases h.2.1.2 with ⟨rfl, h0⟩ | ⟨g, cap, cur, rfl, _⟩
  · exact ⟨none, 0, by rw [h0]⟩
  · exact ⟨_, _, rfl⟩
theorem TrL.empty (w : World) (base : Nat) (hb : base ≤ w.heap.size) : TrL (w.alloc (.cells #[] 144)) base (.slice (some ⟨w.heap.size, 0, none⟩) 0 0) [] :=
  ⟨Nat.le_trans hb (by simp), World.ownsRow_made w #[] 0 hb (by simp [maxLen]) rfl, fun e he => by simp at he⟩
theorem TrL.below {w w' : World} {base : Nat} {v : Value} {E : List TE} (h : TrL w base v E) (hb : Below w.heap.size w w') : TrL w' base v E := by
  obtain ⟨h1, h2, h3⟩ := h
  refine ⟨Nat.le_trans h1 hb.size, ⟨h2.1, ?_⟩, fun e he => (h3 e he).below hb⟩
  rcases h2.2 with h0 | ⟨g, cap, cur, hv, hg, hh, r⟩
  · exact .inl h0
  · exact .inr ⟨g, cap, cur, hv, hg, (hb.block g (Array.getElem?_eq_some_iff.1 hh).1).trans hh, r⟩
/-- The cells of an own row of trees, from a place on. -/
theorem TrL.cells {w : World} {base : Nat} {g n c : Nat} {E : List TE} (h : TrL w base (.slice (some ⟨g, 0, none⟩) n c) E) (j : Nat) (u : Value) (hj : (flE E)[j]? = some u) : w.cell? ⟨g, j, none⟩ = some u := by
  have := h.2.1.cells (g := g) (by simp [Value.ownBlock]) j u hj
  rwa [Addr.add_lit, Nat.zero_add] at this

theorem Tryz.info144 : (Tryz.prog.info? 144).map (fun i => (i.zero, i.size, i.bytes)) = some (some (.agg #[.int .i64 0, .int .i64 0, .slice none 0 0]), 3, 40) := by kernel_rfl

/-- What an append of trees leaves as it was, and what it makes. -/
theorem TrL.pushed {w w' : World} {base : Nat} {v v' : Value} {E E2 : List TE} (h : TrL w base v E) (hE2 : ∀ e ∈ E2, Own w 0 3 .i64 e.y e.s)
    (hown' : w'.ownsRow base 144 3 v' (E.length + E2.length) (flE E ++ flE E2)) (hgrow : w.grownBy w' v.ownBlock) : TrL w' base v' (E ++ E2) ∧ Kp3 w w' := by
  have hk : Kp3 w w' := by
    intro g cur hg
    refine (hgrow.block g (Array.getElem?_eq_some_iff.1 hg).1 ?_).trans hg
    intro eq
    rcases h.2.1.2 with ⟨hv, _⟩ | ⟨g', cap, cur', hv, _, hh, _⟩
    · subst hv; cases eq
    · subst hv
      have : g = g' := by simpa [Value.ownBlock] using eq
      subst this
      rw [hg] at hh
      cases hh
  refine ⟨⟨Nat.le_trans h.1 hgrow.size, by rw [List.length_append, flE_append]; exact hown', fun e he => ?_⟩, hk⟩
  rcases List.mem_append.1 he with he | he
  · exact (h.2.2 e he).kp3 hk hgrow.size
  · exact (hE2 e he).kp3 hk hgrow.size

theorem wpList_appE {P : Program} {ops : Array Oper} {rest : List Oper} {o : Oper} {a : Act} {Q : Exit → Act → World → Prop} (w : World) (hgd : o.guard = none) (s x : Operand) (t : TypeId)
    (ho : o.op = .call { callee := .builtin .append, args := #[s, x], argTypes := #[t, t] })
    (base : Nat) (ht : P.underlying t = some (.slice 144)) (hinfo : (P.info? 144).map (fun i => (i.zero, i.size, i.bytes)) = some (some (.agg #[.int .i64 0, .int .i64 0, .slice none 0 0]), 3, 40))
    (v : Value) (E : List TE) (hs : a.eval s = v) (hown : TrL w base v E) (ad : Addr) (c : Nat) (E2 : List TE) (hx : a.eval x = .slice (some ad) E2.length c)
    (hcells : ∀ (j : Nat) u, (flE E2)[j]? = some u → w.cell? (ad.add j) = some u) (hE2 : ∀ e ∈ E2, Own w 0 3 .i64 e.y e.s) (hlen : E.length + E2.length < 1000000000)
    (h : ∀ v' w', TrL w' base v' (E ++ E2) → Kp3 w w' → Below base w w' → wpList P ops Q rest (a.put o.dst v') w') : wpList P ops Q (o :: rest) a w := by
  obtain ⟨i, hi, hz0, hz1, hz2⟩ := info_parts hinfo
  have hb := hown.1
  have hlt := hown.2.1.lt
  refine wpList_append_own _ hgd s x t ho base 144 i (.agg #[.int .i64 0, .int .i64 0, .slice none 0 0]) 3 40 ht hi hz0 hz1 hz2 rfl (by decide) v E.length _ hs hown.2.1 ad E2.length c (flE E2) hx (flE_len E2) hcells ?_ (by unfold maxLen; omega) (by omega) hb ?_
  · intro u hu
    simp only [flE, List.mem_flatMap] at hu
    obtain ⟨e, he, hu⟩ := hu
    obtain ⟨ao, cc, hy⟩ := (hE2 e he).shape
    simp at hu
    rcases hu with rfl | rfl | rfl
    · rfl
    · rfl
    · rw [hy]; rfl
  · intro v' w' hown' hgrow _
    obtain ⟨h1, h2⟩ := TrL.pushed hown hE2 hown' hgrow
    exact h v' w' h1 h2 ((Below.refl base w).grown hgrow hb (fun g hg => (hlt g hg).1))

/-- Is a tree ahead of another? -/
def bet (x y : TE) : Bool := decide (x.w < y.w) || (decide (x.w = y.w) && decide (x.l < y.l))
/-- The least of the first k + 1 trees. -/
def leastTo (E : List TE) : Nat → Nat
  | 0 => 0
  | k + 1 => if bet (nthE E (k + 1)) (nthE E (leastTo E k)) = true then k + 1 else leastTo E k
theorem leastTo_le (E : List TE) : ∀ k, leastTo E k ≤ k
  | 0 => Nat.le_refl _
  | k + 1 => by
    have := leastTo_le E k
    simp only [leastTo]
    split <;> omega
def least (E : List TE) : Nat := leastTo E (E.length - 1)
theorem least_lt (E : List TE) (h : 0 < E.length) : least E < E.length := by
  have := leastTo_le E (E.length - 1)
  unfold least
  omega

theorem bet_lt {x y : TE} (h : x.w < y.w) : bet x y = true := by simp [bet, h]
theorem bet_eq {x y : TE} (h : x.w = y.w) : bet x y = decide (x.l < y.l) := by simp [bet, h]
theorem bet_gt {x y : TE} (h : ¬ x.w < y.w) (h2 : ¬ x.w = y.w) : bet x y = false := by simp [bet, h, h2]

end Go.Proofs.YtnnakmgngkpghaaGreat

/- The specification's trees, merged: plain lists, and the first part of l02Lengths: a tree for each symbol. -/
namespace Go.Proofs.YtnnakmgngkpghaaGreat
open Go.RowKit
set_option linter.unusedVariables false

/-- A tree, plain: its weight, its least symbol, its symbols. -/
abbrev PT := Int × Int × List Int
def TE.pl (e : TE) : PT := (e.w, e.l, e.s)
def nthT (S : List PT) (j : Nat) : PT := S.getD j (0, 0, [])
def betP (x y : PT) : Bool := decide (x.1 < y.1) || (decide (x.1 = y.1) && decide (x.2.1 < y.2.1))
def leastPTo (S : List PT) : Nat → Nat
  | 0 => 0
  | k + 1 => if betP (nthT S (k + 1)) (nthT S (leastPTo S k)) = true then k + 1 else leastPTo S k
def leastP (S : List PT) : Nat := leastPTo S (S.length - 1)
theorem nthE_pl (E : List TE) (j : Nat) : (nthE E j).pl = nthT (E.map TE.pl) j := by
  simp only [nthE, nthT, List.getD, List.getElem?_map]
  cases E[j]? <;> rfl
theorem bet_pl (x y : TE) : bet x y = betP x.pl y.pl := rfl
theorem leastTo_pl (E : List TE) : ∀ k, leastTo E k = leastPTo (E.map TE.pl) k
  | 0 => rfl
  | k + 1 => by
    simp only [leastTo, leastPTo]
    rw [leastTo_pl E k, bet_pl, nthE_pl, nthE_pl]
theorem least_pl (E : List TE) : least E = leastP (E.map TE.pl) := by
  unfold least leastP
  rw [leastTo_pl, List.length_map]
def mergeP (a b : PT) : PT := (a.1 + b.1, if b.2.1 < a.2.1 then b.2.1 else a.2.1, a.2.2 ++ b.2.2)
/-- One more for each of the first k symbols. -/
def bumpTo (lens syms : List Int) : Nat → List Int
  | 0 => lens
  | k + 1 => (bumpTo lens syms k).set (syms.getD k 0).toNat ((bumpTo lens syms k).getD (syms.getD k 0).toNat 0 + 1)
theorem bumpTo_len (lens syms : List Int) : ∀ k, (bumpTo lens syms k).length = lens.length
  | 0 => rfl
  | k + 1 => by rw [bumpTo, List.length_set, bumpTo_len lens syms k]
def stepP (S : List PT) : List PT × PT :=
  let i := leastP S
  let S1 := S.eraseIdx i
  let k := leastP S1
  (S1.eraseIdx k, mergeP (nthT S i) (nthT S1 k))
def runP : Nat → List PT → List Int → List Int
  | 0, _, l => l
  | f + 1, S, l => if 1 < S.length then runP f ((stepP S).1 ++ [(stepP S).2]) (bumpTo l (stepP S).2.2.2 (stepP S).2.2.2.length) else l
/-- The trees of the first k symbols. -/
def initP (fs : List Int) : Nat → List PT
  | 0 => []
  | k + 1 => if 0 < fs.getD k 0 then initP fs k ++ [(fs.getD k 0, (k : Int), [(k : Int)])] else initP fs k
theorem initP_len (fs : List Int) : ∀ k, (initP fs k).length ≤ k
  | 0 => Nat.le_refl _
  | k + 1 => by
    have := initP_len fs k
    rw [initP]
    split
    · simp; omega
    · omega
/-- The lengths of the codes. -/
def lensP (fs : List Int) : List Int := runP 257 (initP fs 256 ++ [(0, 256, [256])]) (List.replicate 257 0)

/-- 'out = append(out, y)', and what else is as it was. -/
theorem wpList_pushG {P : Program} {ops : Array Oper} {rest : List Oper} {o : Oper} {a : Act} {Q : Exit → Act → World → Prop} (w : World) (hgd : o.guard = none) (s x : Operand) (t : TypeId)
    (ho : o.op = .call { callee := .builtin .append, args := #[s, x], argTypes := #[t, t] })
    (base : Nat) (e : TypeId) (k : IntKind) (z : Int) (bytes : Nat) (ht : P.underlying t = some (.slice e)) (hinfo : (P.info? e).map (fun i => (i.zero, i.size, i.bytes)) = some (some (.int k z), 1, bytes))
    (v : Value) (xs : List Int) (hs : a.eval s = v) (hown : Own w base e k v xs) (y : Int) (hx : a.eval x = .slice (some ⟨w.heap.size, 0, none⟩) 1 1)
    (hlen : xs.length < 1000000000000) (hbytes : bytes ≤ 8)
    (h : ∀ v' w', Own w' base e k v' (xs ++ [y]) → Below base w w' → (∀ g, g < w.heap.size → some g ≠ v.ownBlock → w'.heap[g]? = w.heap[g]?) → wpList P ops Q rest (a.put o.dst v') w') : wpList P ops Q (o :: rest) a (w.alloc (.cells #[.int k y] e)) := by
  obtain ⟨i, hi, hz0, hz1, hz2⟩ := info_parts hinfo
  have hb := hown.1
  have hlt := hown.2.lt
  have hmul : (xs.length + 1) * bytes ≤ (xs.length + 1) * 8 := Nat.mul_le_mul_left _ hbytes
  refine wpList_append_own _ hgd s x t ho base e i (.int k z) 1 bytes ht hi hz0 hz1 hz2 rfl (by decide) v xs.length _ hs (hown.2.alloc _) ⟨w.heap.size, 0, none⟩ 1 1 [.int k y] hx rfl ?_ ?_ (by unfold maxLen; omega) (by omega) (Nat.le_trans hb (by simp)) ?_
  · intro j u hj
    match j, hj with
    | 0, hj => simp at hj; subst hj; simp [Addr.add]
  · intro u hu; simp at hu; subst hu; rfl
  · intro v' w' hown' hgrow _
    refine h v' w' ⟨Nat.le_trans hb (Nat.le_trans (by simp) hgrow.size), ?_⟩ ?_ ?_
    · simpa using hown'
    · exact ((Below.refl base w).alloc hb _).grown hgrow (Nat.le_trans hb (by simp)) (fun g hg => (hlt g hg).1)
    · intro g hg hne
      exact (hgrow.block g (Nat.lt_trans hg (by simp)) hne).trans (((Below.refl w.heap.size w).alloc (Nat.le_refl _) _).block g hg)

/-- Trees whose symbols' slices are rows of one cell, away from the row of lengths. -/
def Single (w : World) (E : List TE) : Prop := ∀ e ∈ E, ∃ (g : Nat) (x : Value), e.y = .slice (some ⟨g, 0, none⟩) 1 1 ∧ w.heap[g]? = some (.cells #[x] 3 (0, 0))
/-- A row of trees is as it was where a row of ints was written, or grew. -/
theorem TrL.grewI {w w' : World} {base : Nat} {v lv : Value} {E : List TE} {xs : List Int} {b2 : Nat} (h : TrL w base v E) (hl : Own w b2 3 .i64 lv xs) (hsz : w.heap.size ≤ w'.heap.size) (hne : ∀ e ∈ E, ∀ g, e.y.ownBlock = some g → lv.ownBlock ≠ some g)
    (hk : ∀ g, g < w.heap.size → some g ≠ lv.ownBlock → w'.heap[g]? = w.heap[g]?) : TrL w' base v E := by
  obtain ⟨h1, h2, h3⟩ := h
  refine ⟨Nat.le_trans h1 hsz, ⟨h2.1, ?_⟩, fun e he => ?_⟩
  · rcases h2.2 with h0 | ⟨g, cap, cur, hv, hg, hh, r⟩
    · exact .inl h0
    · refine .inr ⟨g, cap, cur, hv, hg, (hk g (Array.getElem?_eq_some_iff.1 hh).1 (fun e => ?_)).trans hh, r⟩
      rcases hl.2.2 with ⟨hv', _⟩ | ⟨g', cap', cur', hv', _, hh', _⟩
      · subst hv'; simp [Value.ownBlock] at e
      · subst hv'
        have : g = g' := by simpa [Value.ownBlock] using e
        subst this
        rw [hh] at hh'
        cases hh'
  · have ho := h3 e he
    refine ⟨Nat.zero_le _, ho.2.1, ?_⟩
    rcases ho.2.2 with h0 | ⟨g, cap, cur, hv, hg, hh, r⟩
    · exact .inl h0
    · exact .inr ⟨g, cap, cur, hv, hg, (hk g (Array.getElem?_eq_some_iff.1 hh).1 (fun eq => hne e he g (by rw [hv]; rfl) eq.symm)).trans hh, r⟩

theorem Own.madeI (w : World) (base : Nat) (xs : List Int) (hb : base ≤ w.heap.size) (hl : xs.length ≤ 1000) : Own (w.alloc (.cells (xs.map (Value.int .i64)).toArray 3)) base 3 .i64 (.slice (some ⟨w.heap.size, 0, none⟩) xs.length xs.length) xs :=
  ⟨Nat.le_trans hb (by simp), by simp, .inr ⟨w.heap.size, xs.length, _, rfl, hb, heap_alloc_new w _, Nat.le_refl _, by unfold maxLen; omega, by simp, by simpa using List.take_of_length_le (by simp)⟩⟩
theorem Own.blk_lt {w : World} {base : Nat} {v : Value} {xs : List Int} (h : Own w base 3 .i64 v xs) (g : Nat) (hg : v.ownBlock = some g) : g < w.heap.size := (h.2.lt g hg).2
/-- The row of a slice that is longer than one number has more than one cell. -/
theorem Own.big {w : World} {base : Nat} {v : Value} {xs : List Int} (h : Own w base 3 .i64 v xs) (hl : 2 ≤ xs.length) (g : Nat) (hg : v.ownBlock = some g) (x : Value) : w.heap[g]? ≠ some (.cells #[x] 3 (0, 0)) := by
  intro hh
  rcases h.2.2 with ⟨_, h0⟩ | ⟨g', cap, cur, hv, _, hh', hc, _, hs, _⟩
  · omega
  · subst hv
    have : g' = g := by simpa [Value.ownBlock] using hg
    subst this
    rw [hh] at hh'
    cases hh'
    simp at hs
    omega

/-- What stands behind the first k symbols. -/
def L1 (fs : List Int) (B : Nat) (w wr : World) (k : Nat) (v lv : Value) : Prop :=
  ∃ E : List TE, TrL wr B v E ∧ Own wr B 3 .i64 lv (List.replicate k 0) ∧ E.map TE.pl = initP fs k ∧ Single wr E ∧ (∀ e ∈ E, ∀ g, e.y.ownBlock = some g → lv.ownBlock ≠ some g) ∧ Below B w wr

theorem L1.pushed {fs : List Int} {B : Nat} {w wr w1 : World} {k : Nat} {v lv lv1 : Value} {E : List TE} (hT : TrL wr B v E) (hl : Own wr B 3 .i64 lv (List.replicate k 0)) (hp : E.map TE.pl = initP fs k) (hs : Single wr E) (hne : ∀ e ∈ E, ∀ g, e.y.ownBlock = some g → lv.ownBlock ≠ some g) (hb : Below B w wr)
    (hl1 : Own w1 B 3 .i64 lv1 (List.replicate k 0 ++ [0])) (hb1 : Below B wr w1) (hk : ∀ g, g < wr.heap.size → some g ≠ lv.ownBlock → w1.heap[g]? = wr.heap[g]?) :
    TrL w1 B v E ∧ Own w1 B 3 .i64 lv1 (List.replicate (k + 1) 0) ∧ Single w1 E ∧ (∀ e ∈ E, ∀ g, e.y.ownBlock = some g → lv1.ownBlock ≠ some g) ∧ Below B w w1 := by
  have hsg : Single w1 E := by
    intro e he
    obtain ⟨g, x, h1, h2⟩ := hs e he
    exact ⟨g, x, h1, (hk g (Array.getElem?_eq_some_iff.1 h2).1 (fun eq => hne e he g (by rw [h1]; rfl) eq.symm)).trans h2⟩
  refine ⟨hT.grewI hl hb1.size hne hk, by rw [List.replicate_succ']; exact hl1, hsg, fun e he g hg hg1 => ?_, hb.trans hb1⟩
  obtain ⟨g', x, h1, h2⟩ := hsg e he
  have e1 : g' = g := by rw [h1] at hg; simpa [Value.ownBlock] using hg
  subst e1
  cases k with
  | zero =>
    have : E = [] := by simpa [initP] using hp
    rw [this] at he
    cases he
  | succ k => exact hl1.big (by simp) g' hg1 x h2

/-- One tree more: what stays. -/
theorem tree_any {B : Nat} {w w1 w2 : World} {k f : Int} {lv1 : Value} {E : List TE} {xs : List Int} (hl : Own w1 B 3 .i64 lv1 xs) (hs : Single w1 E) (hne : ∀ e ∈ E, ∀ g, e.y.ownBlock = some g → lv1.ownBlock ≠ some g) (hb : Below B w w1)
    (hk : Kp3 ((w1.alloc (.cells #[.int .i64 k] 3)).alloc (.cells #[.int .i64 f, .int .i64 k, .slice (some ⟨w1.heap.size, 0, none⟩) 1 1] 144)) w2)
    (hb2 : Below B ((w1.alloc (.cells #[.int .i64 k] 3)).alloc (.cells #[.int .i64 f, .int .i64 k, .slice (some ⟨w1.heap.size, 0, none⟩) 1 1] 144)) w2) :
    Own w2 B 3 .i64 lv1 xs ∧ Single w2 (E ++ [(f, k, .slice (some ⟨w1.heap.size, 0, none⟩) 1 1, [k])]) ∧ (∀ e ∈ E ++ [(f, k, .slice (some ⟨w1.heap.size, 0, none⟩) 1 1, [k])], ∀ g, e.y.ownBlock = some g → lv1.ownBlock ≠ some g) ∧ Below B w w2 := by
  have hA : Below w1.heap.size w1 ((w1.alloc (.cells #[.int .i64 k] 3)).alloc (.cells #[.int .i64 f, .int .i64 k, .slice (some ⟨w1.heap.size, 0, none⟩) 1 1] 144)) := ((Below.refl _ _).alloc (Nat.le_refl _) _).alloc (by simp) _
  have hnew : ((w1.alloc (.cells #[.int .i64 k] 3)).alloc (.cells #[.int .i64 f, .int .i64 k, .slice (some ⟨w1.heap.size, 0, none⟩) 1 1] 144)).heap[w1.heap.size]? = some (.cells #[.int .i64 k] 3 (0, 0)) :=
    (((Below.refl _ (w1.alloc (.cells #[.int .i64 k] 3))).alloc (Nat.le_refl _) _).block w1.heap.size (by simp)).trans (heap_alloc_new w1 _)
  refine ⟨(hl.below hA).kp3 hk hb2.size, ?_, ?_, hb.trans ((hA.mono hl.1).trans hb2)⟩
  · intro e he
    rcases List.mem_append.1 he with he | he
    · obtain ⟨g, x, h1, h2⟩ := hs e he
      exact ⟨g, x, h1, hk g _ ((hA.block g (Array.getElem?_eq_some_iff.1 h2).1).trans h2)⟩
    · simp at he
      subst he
      exact ⟨w1.heap.size, _, rfl, hk _ _ hnew⟩
  · intro e he g hg
    rcases List.mem_append.1 he with he | he
    · exact hne e he g hg
    · simp at he
      subst he
      intro hg1
      have h1 : w1.heap.size = g := by simpa [TE.y, Value.ownBlock] using hg
      have := hl.blk_lt g hg1
      omega
theorem L1.tree {fs : List Int} {B : Nat} {w w1 w2 : World} {k : Nat} {f : Int} {v2 lv1 : Value} {E : List TE} (hl : Own w1 B 3 .i64 lv1 (List.replicate (k + 1) 0)) (hp : E.map TE.pl = initP fs k) (hf : f = fs.getD k 0) (hf0 : 0 < f) (hs : Single w1 E) (hne : ∀ e ∈ E, ∀ g, e.y.ownBlock = some g → lv1.ownBlock ≠ some g) (hb : Below B w w1)
    (hT2 : TrL w2 B v2 (E ++ [(f, (k : Int), .slice (some ⟨w1.heap.size, 0, none⟩) 1 1, [(k : Int)])]))
    (hk : Kp3 ((w1.alloc (.cells #[.int .i64 k] 3)).alloc (.cells #[.int .i64 f, .int .i64 k, .slice (some ⟨w1.heap.size, 0, none⟩) 1 1] 144)) w2)
    (hb2 : Below B ((w1.alloc (.cells #[.int .i64 k] 3)).alloc (.cells #[.int .i64 f, .int .i64 k, .slice (some ⟨w1.heap.size, 0, none⟩) 1 1] 144)) w2) : L1 fs B w w2 (k + 1) v2 lv1 := by
  obtain ⟨h1, h2, h3, h4⟩ := tree_any hl hs hne hb hk hb2
  refine ⟨_, hT2, h1, ?_, h2, h3, h4⟩
  rw [initP, if_pos (by omega), List.map_append, hp, ← hf]
  rfl

/-- Sums over trees. -/
def sumB (g : PT → Int) : List PT → Int
  | [] => 0
  | x :: S => g x + sumB g S
theorem sumB_append (g : PT → Int) (A B : List PT) : sumB g (A ++ B) = sumB g A + sumB g B := by
  induction A with
  | nil => simp [sumB]
  | cons x A ih => simp only [List.cons_append, sumB, ih]; omega
theorem sumB_erase (g : PT → Int) : ∀ (S : List PT) (i : Nat), i < S.length → sumB g (S.eraseIdx i) = sumB g S - g (nthT S i)
  | x :: S, 0, _ => by simp [sumB, nthT]; omega
  | x :: S, i + 1, h => by
    have ih := sumB_erase g S i (by simpa using h)
    have e : nthT (x :: S) (i + 1) = nthT S i := by simp [nthT]
    rw [List.eraseIdx_cons_succ, sumB, ih, e, sumB]
    omega
theorem leastPTo_le (S : List PT) : ∀ k, leastPTo S k ≤ k
  | 0 => Nat.le_refl _
  | k + 1 => by
    have := leastPTo_le S k
    simp only [leastPTo]
    split <;> omega
theorem leastP_lt (S : List PT) (h : 0 < S.length) : leastP S < S.length := by
  have := leastPTo_le S (S.length - 1)
  unfold leastP
  omega
theorem sumB_step (g : PT → Int) (S : List PT) (h : 1 < S.length) (hg : ∀ a b, g (mergeP a b) = g a + g b) : sumB g ((stepP S).1 ++ [(stepP S).2]) = sumB g S := by
  have h1 := leastP_lt S (by omega)
  have l1 : (S.eraseIdx (leastP S)).length = S.length - 1 := by rw [List.length_eraseIdx, if_pos h1]
  have h2 := leastP_lt (S.eraseIdx (leastP S)) (by omega)
  have e1 := sumB_erase g S _ h1
  have e2 := sumB_erase g (S.eraseIdx (leastP S)) _ h2
  show sumB g ((S.eraseIdx (leastP S)).eraseIdx (leastP (S.eraseIdx (leastP S))) ++ [mergeP (nthT S (leastP S)) (nthT (S.eraseIdx (leastP S)) (leastP (S.eraseIdx (leastP S))))]) = _
  rw [sumB_append, e2, e1]
  simp only [sumB, hg]
  omega

/-- Trees that are right. -/
def WFP (S : List PT) : Prop := sumB (·.1) S ≤ 25700000 ∧ (∀ x ∈ S, 0 ≤ x.1) ∧ sumB (fun x => (x.2.2.length : Int)) S ≤ 257 ∧ ∀ x ∈ S, x.2.2 ≠ [] ∧ ∀ s ∈ x.2.2, 0 ≤ s ∧ s ≤ 256
theorem WFP.init (fs : List Int) (hf : ∀ j, j < 256 → 0 ≤ fs.getD j 0 ∧ fs.getD j 0 ≤ 100000) : ∀ k, k ≤ 256 → sumB (·.1) (initP fs k) ≤ 100000 * k ∧ (∀ x ∈ initP fs k, 0 ≤ x.1) ∧ sumB (fun x => (x.2.2.length : Int)) (initP fs k) ≤ k ∧ ∀ x ∈ initP fs k, x.2.2 ≠ [] ∧ ∀ s ∈ x.2.2, 0 ≤ s ∧ s ≤ 256
  | 0, _ => by simp [initP, sumB]
  | k + 1, h => by
    obtain ⟨h1, h2, h3, h4⟩ := WFP.init fs hf k (by omega)
    have hk := hf k (by omega)
    rw [initP]
    split
    · rw [sumB_append, sumB_append]
      simp only [sumB, List.length_singleton]
      refine ⟨by omega, fun x hx => ?_, by omega, fun x hx => ?_⟩
      · rcases List.mem_append.1 hx with hx | hx
        · exact h2 x hx
        · simp at hx; subst hx; exact hk.1
      · rcases List.mem_append.1 hx with hx | hx
        · exact h4 x hx
        · simp at hx; subst hx; exact ⟨by simp, fun s hs => by simp at hs; subst hs; omega⟩
    · exact ⟨by omega, h2, by omega, h4⟩
theorem WFP.start (fs : List Int) (hf : ∀ j, j < 256 → 0 ≤ fs.getD j 0 ∧ fs.getD j 0 ≤ 100000) : WFP (initP fs 256 ++ [(0, 256, [256])]) := by
  obtain ⟨h1, h2, h3, h4⟩ := WFP.init fs hf 256 (by omega)
  refine ⟨?_, fun x hx => ?_, ?_, fun x hx => ?_⟩
  · rw [sumB_append]; simp only [sumB]; omega
  · rcases List.mem_append.1 hx with hx | hx
    · exact h2 x hx
    · simp at hx; subst hx; decide
  · rw [sumB_append]; simp only [sumB, List.length_singleton]; omega
  · rcases List.mem_append.1 hx with hx | hx
    · exact h4 x hx
    · simp at hx; subst hx; exact ⟨by simp, fun s hs => by simp at hs; subst hs; decide⟩

/-- What stands while trees are merged. -/
def L2 (fs : List Int) (B : Nat) (w wr : World) (f : Nat) (v lv : Value) : Prop :=
  ∃ (E : List TE) (lens : List Int), TrL wr B v E ∧ Own wr B 3 .i64 lv lens ∧ runP f (E.map TE.pl) lens = lensP fs ∧ (∀ e ∈ E, ∀ g, e.y.ownBlock = some g → lv.ownBlock ≠ some g) ∧ WFP (E.map TE.pl) ∧ E.length ≤ f ∧ f ≤ 257 ∧ 1 ≤ E.length ∧ lens.length = 257 ∧
    (∀ j, 0 ≤ lens.getD j 0 ∧ lens.getD j 0 ≤ 1000 * (257 - f)) ∧ Below B w wr
theorem L2.start {fs : List Int} {B : Nat} {w w1 w2 : World} {v2 lv1 : Value} {E : List TE} (hf : ∀ j, j < 256 → 0 ≤ fs.getD j 0 ∧ fs.getD j 0 ≤ 100000) (hl : Own w1 B 3 .i64 lv1 (List.replicate (256 + 1) 0)) (hp : E.map TE.pl = initP fs 256) (hs : Single w1 E) (hne : ∀ e ∈ E, ∀ g, e.y.ownBlock = some g → lv1.ownBlock ≠ some g) (hb : Below B w w1)
    (hT2 : TrL w2 B v2 (E ++ [(0, 256, .slice (some ⟨w1.heap.size, 0, none⟩) 1 1, [256])]))
    (hk : Kp3 ((w1.alloc (.cells #[.int .i64 256] 3)).alloc (.cells #[.int .i64 0, .int .i64 256, .slice (some ⟨w1.heap.size, 0, none⟩) 1 1] 144)) w2)
    (hb2 : Below B ((w1.alloc (.cells #[.int .i64 256] 3)).alloc (.cells #[.int .i64 0, .int .i64 256, .slice (some ⟨w1.heap.size, 0, none⟩) 1 1] 144)) w2) : L2 fs B w w2 257 v2 lv1 := by
  obtain ⟨h1, h2, h3, h4⟩ := tree_any hl hs hne hb hk hb2
  have hpl : (E ++ ([(0, 256, .slice (some ⟨w1.heap.size, 0, none⟩) 1 1, [256])] : List TE)).map TE.pl = initP fs 256 ++ [(0, 256, [256])] := by
    rw [List.map_append, hp]
    rfl
  have hEl : E.length ≤ 256 := by
    have h1 := congrArg List.length hp
    have h2 := initP_len fs 256
    rw [List.length_map] at h1
    omega
  refine ⟨_, _, hT2, h1, ?_, h3, by rw [hpl]; exact WFP.start fs hf, by rw [List.length_append, List.length_singleton]; omega, by omega, by rw [List.length_append, List.length_singleton]; omega, by rw [List.length_replicate], fun j => ?_, h4⟩
  · rw [hpl]; rfl
  · have : (List.replicate (256 + 1) (0 : Int)).getD j 0 = 0 := by
      simp only [List.getD, List.getElem?_replicate]
      split <;> rfl
    rw [this]
    omega

end Go.Proofs.YtnnakmgngkpghaaGreat

/- Appends of pieces of a row of trees; the contract of l02Lengths. -/
namespace Go.Proofs.YtnnakmgngkpghaaGreat
open Go.RowKit
set_option linter.unusedVariables false

/-- 'append(out, piece...)' of trees as one step of a statement that leaves its order open. -/
theorem step_appE {P : Program} {ops : Array Oper} {o : Oper} {a : Act} {K : Act → World → Prop} {Q : Exit → Act → World → Prop} {X : Prop} (w : World) (hgd : o.guard = none) (s x : Operand) (t : TypeId)
    (ho : o.op = .call { callee := .builtin .append, args := #[s, x], argTypes := #[t, t] })
    (base : Nat) (ht : P.underlying t = some (.slice 144)) (hinfo : (P.info? 144).map (fun i => (i.zero, i.size, i.bytes)) = some (some (.agg #[.int .i64 0, .int .i64 0, .slice none 0 0]), 3, 40))
    (v : Value) (E : List TE) (hs : a.eval s = v) (hown : TrL w base v E) (ad : Addr) (c : Nat) (E2 : List TE) (hx : a.eval x = .slice (some ad) E2.length c)
    (hcells : ∀ (j : Nat) u, (flE E2)[j]? = some u → w.cell? (ad.add j) = some u) (hE2 : ∀ e ∈ E2, Own w 0 3 .i64 e.y e.s) (hlen : E.length + E2.length < 1000000000)
    (h : ∀ v' w', TrL w' base v' (E ++ E2) → Kp3 w w' → Below base w w' → w.grownBy w' v.ownBlock → K (a.put o.dst v') w') :
    if Region.wanted o (yielded ops a.tmps) = true then Oper.wp P o a w K Q else X := by
  have hw : Region.wanted o (yielded ops a.tmps) = true := by simp [Region.wanted, hgd]
  rw [if_pos hw]
  obtain ⟨i, hi, hz0, hz1, hz2⟩ := info_parts hinfo
  have hb := hown.1
  have hlt := hown.2.1.lt
  refine wp_append_own _ s x t ho base 144 i (.agg #[.int .i64 0, .int .i64 0, .slice none 0 0]) 3 40 ht hi hz0 hz1 hz2 rfl (by decide) v E.length _ hs hown.2.1 ad E2.length c (flE E2) hx (flE_len E2) hcells ?_ (by unfold maxLen; omega) (by omega) hb ?_
  · intro u hu
    simp only [flE, List.mem_flatMap] at hu
    obtain ⟨e, he, hu⟩ := hu
    obtain ⟨ao, cc, hy⟩ := (hE2 e he).shape
    simp at hu
    rcases hu with rfl | rfl | rfl
    · rfl
    · rfl
    · rw [hy]; rfl
  · intro v' w' hown' hgrow _
    obtain ⟨h1, h2⟩ := TrL.pushed hown hE2 hown' hgrow
    exact h v' w' h1 h2 ((Below.refl base w).grown hgrow hb (fun g hg => (hlt g hg).1)) hgrow

/-- 'append(out, ys...)' of ints, ys a slice that is read, as one step of a statement that leaves its order open. -/
theorem step_appI {P : Program} {ops : Array Oper} {o : Oper} {a : Act} {K : Act → World → Prop} {Q : Exit → Act → World → Prop} {X : Prop} (w : World) (hgd : o.guard = none) (s x : Operand) (t : TypeId)
    (ho : o.op = .call { callee := .builtin .append, args := #[s, x], argTypes := #[t, t] })
    (base : Nat) (ht : P.underlying t = some (.slice 3)) (hinfo : (P.info? 3).map (fun i => (i.zero, i.size, i.bytes)) = some (some (.int .i64 0), 1, 8))
    (v : Value) (xs : List Int) (hs : a.eval s = v) (hown : Own w base 3 .i64 v xs) (yb : Nat) (g c : Nat) (ys : List Int) (hx : a.eval x = .slice (some ⟨g, 0, none⟩) ys.length c) (hy : Own w yb 3 .i64 (.slice (some ⟨g, 0, none⟩) ys.length c) ys) (hlen : xs.length + ys.length < 1000000000000)
    (h : ∀ v' w', Own w' base 3 .i64 v' (xs ++ ys) → Below base w w' → w.grownBy w' v.ownBlock → K (a.put o.dst v') w') :
    if Region.wanted o (yielded ops a.tmps) = true then Oper.wp P o a w K Q else X := by
  have hw : Region.wanted o (yielded ops a.tmps) = true := by simp [Region.wanted, hgd]
  rw [if_pos hw]
  obtain ⟨i, hi, hz0, hz1, hz2⟩ := info_parts hinfo
  have hb := hown.1
  have hlt := hown.2.lt
  refine wp_append_own _ s x t ho base 3 i (.int .i64 0) 1 8 ht hi hz0 hz1 hz2 rfl (by decide) v xs.length _ hs hown.2 ⟨g, 0, none⟩ ys.length c (ys.map (Value.int .i64)) hx (by simp) ?_ ?_ (by unfold maxLen; omega) (by omega) hb ?_
  · intro j u hj
    exact hy.2.cells (g := g) (by simp [Value.ownBlock]) j u hj
  · intro u hu
    simp at hu
    obtain ⟨z, _, rfl⟩ := hu
    rfl
  · intro v' w' hown' hgrow _
    refine h v' w' ⟨Nat.le_trans hb hgrow.size, by simpa using hown'⟩ ?_ hgrow
    exact (Below.refl base w).grown hgrow hb (fun g hg => (hlt g hg).1)
theorem Own.some_of {w : World} {base : Nat} {ya : Option Addr} {n c : Nat} {xs : List Int} (h : Own w base 3 .i64 (.slice ya n c) xs) (hne : xs ≠ []) : ∃ g, ya = some ⟨g, 0, none⟩ := by
  rcases h.2.2 with ⟨_, h0⟩ | ⟨g, cap, cur, hv, _⟩
  · exact absurd (List.length_eq_zero_iff.1 h0) hne
  · cases hv
    exact ⟨g, rfl⟩

theorem flE_take (E : List TE) (i : Nat) : ∀ (j : Nat) u, (flE (E.take i))[j]? = some u → (flE E)[j]? = some u := by
  intro j u h
  have e : flE E = flE (E.take i) ++ flE (E.drop i) := by rw [← flE_append, List.take_append_drop]
  rw [e, List.getElem?_append_left (List.getElem?_eq_some_iff.1 h).1]
  exact h
theorem flE_drop (E : List TE) (i : Nat) (hi : i ≤ E.length) : ∀ (j : Nat) u, (flE (E.drop i))[j]? = some u → (flE E)[i * 3 + j]? = some u := by
  intro j u h
  have e : flE E = flE (E.take i) ++ flE (E.drop i) := by rw [← flE_append, List.take_append_drop]
  have l : (flE (E.take i)).length = i * 3 := by rw [flE_len, List.length_take_of_le hi]
  rw [e, List.getElem?_append_right (by omega), l]
  rw [show i * 3 + j - i * 3 = j by omega]
  exact h
theorem nthE_mem (E : List TE) (i : Nat) (h : i < E.length) : nthE E i ∈ E := by
  simp only [nthE, List.getD, List.getElem?_eq_getElem h]
  exact List.getElem_mem h
/-- The rest of a row of trees: without one of them. -/
theorem TrL.without {w : World} {base : Nat} {v : Value} {E : List TE} {i : Nat} (h : TrL w base v (([] ++ E.take i) ++ E.drop (i + 1))) : TrL w base v (E.eraseIdx i) := by
  rw [List.eraseIdx_eq_take_drop_succ]
  simpa using h
theorem nthT_mem (S : List PT) (i : Nat) (h : i < S.length) : nthT S i ∈ S := by
  simp only [nthT, List.getD, List.getElem?_eq_getElem h]
  exact List.getElem_mem h
theorem sumB_nonneg (g : PT → Int) : ∀ S : List PT, (∀ x ∈ S, 0 ≤ g x) → 0 ≤ sumB g S
  | [], _ => Int.le_refl _
  | x :: S, h => by
    have h1 := h x (by simp)
    have h2 := sumB_nonneg g S (fun y hy => h y (by simp [hy]))
    simp only [sumB]
    omega
/-- The sum of two trees is no more than that of all. -/
theorem two_sum (g : PT → Int) (S : List PT) (i k : Nat) (hi : i < S.length) (hk : k < (S.eraseIdx i).length) (h : ∀ x ∈ S, 0 ≤ g x) : g (nthT S i) + g (nthT (S.eraseIdx i) k) ≤ sumB g S := by
  have e1 := sumB_erase g S i hi
  have e2 := sumB_erase g (S.eraseIdx i) k hk
  have := sumB_nonneg g ((S.eraseIdx i).eraseIdx k) (fun x hx => h x (List.mem_of_mem_eraseIdx (List.mem_of_mem_eraseIdx hx)))
  omega
theorem map_erase (E : List TE) (i : Nat) : (E.eraseIdx i).map TE.pl = (E.map TE.pl).eraseIdx i := by
  rw [List.eraseIdx_eq_take_drop_succ, List.eraseIdx_eq_take_drop_succ, List.map_append, List.map_take, List.map_drop]
def sliceLen : Value → Nat
  | .slice _ n _ => n
  | _ => 0

/-- A new tree's block, with nothing in it yet. -/
def Zer (w : World) (O : Nat) : Prop := w.heap[O]? = some (.cells #[.int .i64 0, .int .i64 0, .slice none 0 0] 144 (0, 0))
theorem Own.ne95 {w : World} {base : Nat} {v : Value} {xs : List Int} {O : Nat} {cur : Array Value} (h : Own w base 3 .i64 v xs) (hz : w.heap[O]? = some (.cells cur 144 (0, 0))) : v.ownBlock ≠ some O := by
  intro e
  rcases h.2.2 with ⟨hv, _⟩ | ⟨g, cap, cur', hv, _, hh, _⟩
  · subst hv; simp [Value.ownBlock] at e
  · subst hv
    have : g = O := by simpa [Value.ownBlock] using e
    subst this
    rw [hz] at hh
    cases hh
theorem Zer.grown {w w' : World} {base O : Nat} {v : Value} {xs : List Int} (h : Zer w O) (ho : Own w base 3 .i64 v xs) (hg : w.grownBy w' v.ownBlock) : Zer w' O :=
  (hg.block O (Array.getElem?_eq_some_iff.1 h).1 (fun e => ho.ne95 h e.symm)).trans h
theorem Zer.facts {w : World} {O : Nat} (h : Zer w O) : w.cell? ⟨O, 0, none⟩ = some (.int .i64 0) ∧ w.cell? ⟨O, 1, none⟩ = some (.int .i64 0) ∧ w.cell? ⟨O, 2, none⟩ = some (.slice none 0 0) ∧ w.frozen? ⟨O, 0, none⟩ = false ∧ w.frozen? ⟨O, 1, none⟩ = false ∧ w.frozen? ⟨O, 2, none⟩ = false := by
  refine ⟨?_, ?_, ?_, frozen_of_row w O 0 _ 144 h, frozen_of_row w O 1 _ 144 h, frozen_of_row w O 2 _ 144 h⟩
  · rw [cell_of_row w O 0 _ 144 (0, 0) h]; rfl
  · rw [cell_of_row w O 1 _ 144 (0, 0) h]; rfl
  · rw [cell_of_row w O 2 _ 144 (0, 0) h]; rfl
/-- A tree that was made: its block, its symbols. -/
def Made (x : World) (p : Value) (a b : Int) (ss : List Int) (wx : World) : Prop :=
  ∃ (O : Nat) (yo : Option Addr) (yc : Nat), p = .pointer (some ⟨O, 0, none⟩) ∧ x.heap.size ≤ O ∧ wx.heap[O]? = some (.cells #[.int .i64 a, .int .i64 b, .slice yo ss.length yc] 144 (0, 0)) ∧ Own wx x.heap.size 3 .i64 (.slice yo ss.length yc) ss ∧ Below x.heap.size x wx
theorem Made.alloc {x w : World} {a b : Int} {yo : Option Addr} {yc : Nat} {ss : List Int} (ho : Own w x.heap.size 3 .i64 (.slice yo ss.length yc) ss) (hb : Below x.heap.size x w) :
    Made x (.pointer (some ⟨w.heap.size, 0, none⟩)) a b ss (w.alloc (.cells #[.int .i64 a, .int .i64 b, .slice yo ss.length yc] 144)) :=
  ⟨w.heap.size, yo, yc, rfl, hb.size, heap_alloc_new w _, ho.below ((Below.refl _ _).alloc (Nat.le_refl _) _), hb.alloc hb.size _⟩
theorem Made.store {x w : World} {O : Nat} {a b : Int} {yo : Option Addr} {yc : Nat} {ss : List Int} (hO : x.heap.size ≤ O) (hz : Zer w O) (ho : Own w x.heap.size 3 .i64 (.slice yo ss.length yc) ss) (hb : Below x.heap.size x w) :
    Made x (.pointer (some ⟨O, 0, none⟩)) a b ss (((w.setCell ⟨O, 0, none⟩ (.int .i64 a)).setCell ⟨O, 1, none⟩ (.int .i64 b)).setCell ⟨O, 2, none⟩ (.slice yo ss.length yc)) := by
  have h1 := heap_setCell_same w O 0 _ 144 (.int .i64 a) hz
  have h2 := heap_setCell_same _ O 1 _ 144 (.int .i64 b) h1
  have h3 := heap_setCell_same _ O 2 _ 144 (.slice yo ss.length yc) h2
  have keep : ∀ (q : World) (cur : Array Value) (i : Nat) (u : Value), q.heap[O]? = some (.cells cur 144 (0, 0)) → Own q x.heap.size 3 .i64 (.slice yo ss.length yc) ss → Own (q.setCell ⟨O, i, none⟩ u) x.heap.size 3 .i64 (.slice yo ss.length yc) ss := fun q cur i u hq hoq =>
    ⟨by have := hoq.1; simpa [World.setCell] using this, ownsRow_setCell_other hoq.2 (hoq.ne95 hq) u⟩
  refine ⟨O, yo, yc, rfl, hO, h3, keep _ _ 2 _ h2 (keep _ _ 1 _ h1 (keep _ _ 0 _ hz ho)), ?_⟩
  exact ((hb.setCell (p := ⟨O, 0, none⟩) hO _).setCell (p := ⟨O, 1, none⟩) hO _).setCell (p := ⟨O, 2, none⟩) hO _
end Go.Proofs.YtnnakmgngkpghaaGreat

/- The contract of l02Least. -/
namespace Go.Proofs.YtnnakmgngkpghaaGreat
open Go.RowKit
set_option linter.unusedVariables false

set_option maxRecDepth 100000 in
set_option maxHeartbeats 6400000 in
theorem spec_least (v : Value) (base : Nat) (E : List TE) (w : World) (hT : TrL w base v E) (hn : 1 ≤ E.length) (hl : E.length ≤ 1000) :
    Calls Tryz.prog 107 #[v] w fun e w' => e = .returned (.int .i64 (least E)) ∧ ∃ q, w' = w.drewN q := by
  have HT := hid hT
  obtain ⟨ao, cap, rfl⟩ := hT.shape
  obtain ⟨g, rfl⟩ : ∃ g, ao = some ⟨g, 0, none⟩ := by
    rcases hT.2.1.2 with ⟨hv, h0⟩ | ⟨g, c, cur, hv, _⟩
    · omega
    · cases hv
      exact ⟨g, rfl⟩
  have HC := hid (fun j (hj : j < E.length) => (show w.cell? ⟨g, j * 3, none⟩ = some (.int .i64 (nthE E j).w) ∧ w.cell? ⟨g, j * 3 + 1, none⟩ = some (.int .i64 (nthE E j).l) from ⟨hT.cells _ _ (flE_at E j hj).1, hT.cells _ _ (flE_at E j hj).2.1⟩))
  have HL : Hid (least E = leastTo E (E.length - 1)) := rfl
  generalize hN : E.length = N at *
  clear hT hN
  go_enter Tryz.func107, Tryz.ntmps107
  go_wp2_with fail
  go_loopw [3, 4] (fun b i wr => ∃ k : Nat, k + 1 ≤ N ∧ i = .int .i64 ((k + 1 : Nat) : Int) ∧ b = .int .i64 (leastTo E k) ∧ ∃ q, wr = w.drewN q) (fun _ i _ => N - (intOf i).toNat)
  case atStart => exact ⟨0, by omega, rfl, rfl, 0, rfl⟩
  case round =>
    obtain ⟨k, hk, rfl, rfl, q, rfl⟩ := hrel
    by_cases hlt : k + 1 < N
    · have hlt' : ((k + 1 : Nat) : Int) < (N : Int) := by omega
      have hle := leastTo_le E k
      obtain ⟨a0, a1⟩ := HC.out (k + 1) hlt
      obtain ⟨b0, b1⟩ := HC.out (leastTo E k) (by omega)
      have hbl : (leastTo E k : Int) < (N : Int) := by omega
      have HST : Hid (leastTo E (k + 1) = if bet (nthE E (k + 1)) (nthE E (leastTo E k)) = true then k + 1 else leastTo E k) := rfl
      obtain ⟨m, hm⟩ : ∃ m, leastTo E k = m := ⟨_, rfl⟩
      rw [hm] at HST b0 b1 hbl hle ⊢
      obtain ⟨i, hi⟩ : ∃ i, k + 1 = i := ⟨_, rfl⟩
      have HIK := hid hi
      have HM := hid hm
      rw [hi] at HST a0 a1 hlt' hlt ⊢
      have HLT := hid hlt
      clear hm hi
      by_cases h1 : (nthE E i).w < (nthE E m).w
      · have HR : Hid (leastTo E (k + 1) = i) := by
          show _ = _
          rw [HIK.out, HST.out, if_pos (bet_lt h1)]
        generalize (nthE E i).w = W1 at *
        generalize (nthE E m).w = W2 at *
        generalize (nthE E i).l = L1 at *
        generalize (nthE E m).l = L2 at *
        go_wp2_with fail
        go_quiet (fail)
        go_wp2_with fail
        go_roundw
        case rel => exact ⟨k + 1, by have h8 := HLT.out; have h9 := HIK.out; omega, by rw [← HIK.out]; go_num, by rw [HR.out], _, rfl⟩
        case measure => have h8 := HLT.out; simp [intOf]; omega
      · by_cases h2 : (nthE E i).w = (nthE E m).w
        · by_cases h3 : (nthE E i).l < (nthE E m).l
          · have HR : Hid (leastTo E (k + 1) = i) := by
              show _ = _
              rw [HIK.out, HST.out, if_pos (by rw [bet_eq h2]; exact decide_eq_true h3)]
            rw [h2] at a0
            clear h1 h2
            generalize (nthE E m).w = W2 at *
            generalize (nthE E i).l = L1 at *
            generalize (nthE E m).l = L2 at *
            go_wp2_with fail
            go_quiet (fail)
            go_wp2_with fail
            go_roundw
            case rel => exact ⟨k + 1, by have h8 := HLT.out; have h9 := HIK.out; omega, by rw [← HIK.out]; go_num, by rw [HR.out], _, rfl⟩
            case measure => have h8 := HLT.out; simp [intOf]; omega
          · have HR : Hid (leastTo E (k + 1) = m) := by
              show _ = _
              rw [HIK.out, HST.out, if_neg (by rw [bet_eq h2, decide_eq_false h3]; decide)]
            rw [h2] at a0
            clear h1 h2
            generalize (nthE E m).w = W2 at *
            generalize (nthE E i).l = L1 at *
            generalize (nthE E m).l = L2 at *
            go_wp2_with fail
            go_quiet (fail)
            go_wp2_with fail
            go_roundw
            case rel => exact ⟨k + 1, by have h8 := HLT.out; have h9 := HIK.out; omega, by rw [← HIK.out]; go_num, by rw [HR.out], _, rfl⟩
            case measure => have h8 := HLT.out; simp [intOf]; omega
        · have HR : Hid (leastTo E (k + 1) = m) := by
            show _ = _
            rw [HIK.out, HST.out, if_neg (by rw [bet_gt h1 h2]; decide)]
          generalize (nthE E i).w = W1 at *
          generalize (nthE E m).w = W2 at *
          generalize (nthE E i).l = L1 at *
          generalize (nthE E m).l = L2 at *
          go_wp2_with fail
          go_quiet (fail)
          go_wp2_with fail
          go_roundw
          case rel => exact ⟨k + 1, by have h8 := HLT.out; have h9 := HIK.out; omega, by rw [← HIK.out]; go_num, by rw [HR.out], _, rfl⟩
          case measure => have h8 := HLT.out; simp [intOf]; omega
    · obtain rfl : k + 1 = N := by omega
      have hd : ¬ ((k + 1 : Nat) : Int) < ((k + 1 : Nat) : Int) := by omega
      rw [Nat.add_sub_cancel] at HL
      have HLL := hid HL.out
      clear hlt
      go_wp2_with fail
      go_ret
      exact ⟨ret_int (by rw [HLL.out]), _, rfl⟩
end Go.Proofs.YtnnakmgngkpghaaGreat

/- Two trees merged: what stands behind it, plain; rows of trees beside a row of lengths that is written. -/
namespace Go.Proofs.YtnnakmgngkpghaaGreat
open Go.RowKit
set_option linter.unusedVariables false

theorem getD_set_off (l : List Int) (m j : Nat) (x : Int) (h : m ≠ j) : (l.set m x).getD j 0 = l.getD j 0 := by
  simp only [List.getD_eq_getElem?_getD, List.getElem?_set_ne h]
theorem bumpTo_bd (lens syms : List Int) (j : Nat) : ∀ k, lens.getD j 0 ≤ (bumpTo lens syms k).getD j 0 ∧ (bumpTo lens syms k).getD j 0 ≤ lens.getD j 0 + k
  | 0 => ⟨Int.le_refl _, by simp [bumpTo]⟩
  | k + 1 => by
    have ih := bumpTo_bd lens syms j k
    rw [bumpTo]
    by_cases e : (syms.getD k 0).toNat = j
    · rw [e]
      by_cases hj : j < (bumpTo lens syms k).length
      · have : ((bumpTo lens syms k).set j ((bumpTo lens syms k).getD j 0 + 1)).getD j 0 = (bumpTo lens syms k).getD j 0 + 1 := by
          simp [List.getD, hj]
        rw [this]
        omega
      · have : (bumpTo lens syms k).set j ((bumpTo lens syms k).getD j 0 + 1) = bumpTo lens syms k := List.set_eq_of_length_le (by omega)
        rw [this]
        omega
    · rw [getD_set_off _ _ _ _ e]
      omega
theorem WFP.step {S : List PT} (h : WFP S) (hm : 1 < S.length) : WFP ((stepP S).1 ++ [(stepP S).2]) := by
  obtain ⟨h1, h2, h3, h4⟩ := h
  have i1 := leastP_lt S (by omega)
  have l1 : (S.eraseIdx (leastP S)).length = S.length - 1 := by rw [List.length_eraseIdx, if_pos i1]
  have i2 := leastP_lt (S.eraseIdx (leastP S)) (by omega)
  have mA := nthT_mem S _ i1
  have mB := List.mem_of_mem_eraseIdx (nthT_mem _ _ i2)
  refine ⟨by rw [sumB_step _ S hm (fun a b => rfl)]; exact h1, fun x hx => ?_, ?_, fun x hx => ?_⟩
  · rcases List.mem_append.1 hx with hx | hx
    · exact h2 x (List.mem_of_mem_eraseIdx (List.mem_of_mem_eraseIdx hx))
    · simp only [List.mem_singleton] at hx
      subst hx
      have a := h2 _ mA
      have b := h2 _ mB
      show 0 ≤ (nthT S (leastP S)).1 + (nthT (S.eraseIdx (leastP S)) (leastP (S.eraseIdx (leastP S)))).1
      omega
  · rw [sumB_step _ S hm (fun a b => by simp [mergeP])]
    exact h3
  · rcases List.mem_append.1 hx with hx | hx
    · exact h4 x (List.mem_of_mem_eraseIdx (List.mem_of_mem_eraseIdx hx))
    · simp only [List.mem_singleton] at hx
      subst hx
      have a := h4 _ mA
      have b := h4 _ mB
      refine ⟨fun e => a.1 ?_, fun s hs => ?_⟩
      · have e' : (nthT S (leastP S)).2.2 ++ (nthT (S.eraseIdx (leastP S)) (leastP (S.eraseIdx (leastP S)))).2.2 = [] := e
        exact (List.append_eq_nil_iff.1 e').1
      · have hs' : s ∈ (nthT S (leastP S)).2.2 ++ (nthT (S.eraseIdx (leastP S)) (leastP (S.eraseIdx (leastP S)))).2.2 := hs
        rcases List.mem_append.1 hs' with h | h
        · exact a.2 s h
        · exact b.2 s h
theorem TrL.low {w : World} {base base' : Nat} {v : Value} {E : List TE} (h : TrL w base v E) (hb : base' ≤ base) : TrL w base' v E := by
  obtain ⟨h1, h2, h3⟩ := h
  refine ⟨Nat.le_trans hb h1, ⟨h2.1, ?_⟩, h3⟩
  rcases h2.2 with h0 | ⟨g, cap, cur, hv, hg, r⟩
  · exact .inl h0
  · exact .inr ⟨g, cap, cur, hv, Nat.le_trans hb hg, r⟩
theorem Own.low {w : World} {base base' : Nat} {v : Value} {xs : List Int} (h : Own w base 3 .i64 v xs) (hb : base' ≤ base) : Own w base' 3 .i64 v xs := by
  obtain ⟨h1, h2⟩ := h
  refine ⟨Nat.le_trans hb h1, h2.1, ?_⟩
  rcases h2.2 with h0 | ⟨g, cap, cur, hv, hg, r⟩
  · exact .inl h0
  · exact .inr ⟨g, cap, cur, hv, Nat.le_trans hb hg, r⟩

/-- Behind two trees that were merged. -/
theorem L2.next {fs : List Int} {B : Nat} {w xf : World} {f : Nat} {v' LV Y : Value} {E E1 : List TE} {lens : List Int} {I J : Nat} {AW AL BW BL LL : Int} {AS BS : List Int}
    (hrun : runP f (E.map TE.pl) lens = lensP fs) (hmore : 1 < E.length) (hEf : E.length ≤ f) (hf : f ≤ 257) (hlens : lens.length = 257) (hwf : WFP (E.map TE.pl)) (hbd : ∀ j, 0 ≤ lens.getD j 0 ∧ lens.getD j 0 ≤ 1000 * (257 - (f : Int)))
    (hI : I = least E) (hE1 : E1 = E.eraseIdx I) (hJ : J = least E1) (hPA : nthT (E.map TE.pl) I = (AW, AL, AS)) (hPB : nthT ((E.map TE.pl).eraseIdx I) J = (BW, BL, BS)) (hLL : LL = if BL < AL then BL else AL) (hS : (AS.length : Int) + BS.length ≤ 257)
    (hT : TrL xf B v' (E1.eraseIdx J ++ [(AW + BW, LL, Y, AS ++ BS)])) (hM : Own xf B 3 .i64 LV (bumpTo lens (AS ++ BS) (AS ++ BS).length)) (hne : ∀ e ∈ E1.eraseIdx J ++ [(AW + BW, LL, Y, AS ++ BS)], ∀ g, e.y.ownBlock = some g → LV.ownBlock ≠ some g) (hB : Below B w xf) :
    L2 fs B w xf (f - 1) v' LV := by
  obtain ⟨f', rfl⟩ : ∃ f', f = f' + 1 := ⟨f - 1, by omega⟩
  have hlS : 1 < (E.map TE.pl).length := by rw [List.length_map]; exact hmore
  have hIP : I = leastP (E.map TE.pl) := by rw [hI, least_pl]
  have hm1 : E1.map TE.pl = (E.map TE.pl).eraseIdx I := by rw [hE1, map_erase]
  have hJP : J = leastP ((E.map TE.pl).eraseIdx I) := by rw [hJ, least_pl, hm1]
  have hstep : stepP (E.map TE.pl) = (((E.map TE.pl).eraseIdx I).eraseIdx J, (AW + BW, LL, AS ++ BS)) := by
    unfold stepP
    simp only
    rw [← hIP, ← hJP, hPA, hPB, hLL]
    rfl
  have hpl : (E1.eraseIdx J ++ ([(AW + BW, LL, Y, AS ++ BS)] : List TE)).map TE.pl = (stepP (E.map TE.pl)).1 ++ [(stepP (E.map TE.pl)).2] := by
    rw [hstep, List.map_append, map_erase, hm1]
    rfl
  have hlI : I < E.length := by rw [hI]; exact least_lt E (by omega)
  have hl1 : E1.length = E.length - 1 := by rw [hE1, List.length_eraseIdx, if_pos hlI]
  have hlJ : J < E1.length := by rw [hJ]; exact least_lt E1 (by omega)
  have hl2 : (E1.eraseIdx J ++ ([(AW + BW, LL, Y, AS ++ BS)] : List TE)).length = E.length - 1 := by
    rw [List.length_append, List.length_eraseIdx, if_pos hlJ, List.length_singleton]
    omega
  refine ⟨_, _, hT, hM, ?_, hne, by rw [hpl]; exact hwf.step hlS, by rw [hl2]; omega, by omega, by rw [hl2]; omega, by rw [bumpTo_len]; exact hlens, fun j => ?_, hB⟩
  · rw [runP, if_pos hlS] at hrun
    rw [hpl, ← hrun, hstep]
    rfl
  · have h1 := bumpTo_bd lens (AS ++ BS) j (AS ++ BS).length
    have h2 := hbd j
    rw [List.length_append] at h1 ⊢
    omega
/-- The end: one tree is left. -/
theorem L2.end {fs : List Int} {f : Nat} {E : List TE} {lens : List Int} (hrun : runP f (E.map TE.pl) lens = lensP fs) (h1 : ¬ 1 < E.length) : lens = lensP fs := by
  rw [← hrun]
  cases f with
  | zero => rfl
  | succ f => rw [runP, if_neg (by rw [List.length_map]; exact h1)]
/-- Only the row of lengths may have turned. -/
def Turn (lv : Value) (w w' : World) : Prop := w.grownBy w' lv.ownBlock
end Go.Proofs.YtnnakmgngkpghaaGreat
