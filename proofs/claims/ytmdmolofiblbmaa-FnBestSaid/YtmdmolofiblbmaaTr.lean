/- The specification's trees: plain lists, rows of trees that are the call's own, and the contract of l02Least. -/
import Derived.Test.YtmdmolofiblbmaaInts
namespace Go.Proofs.Ytmdmolofiblbmaa
open Go.RowKit
set_option linter.unusedVariables false

/-- A tree in a row: its weight, its least symbol, the slice of its symbols, and these. -/
abbrev TE := Int × Int × Value × List Int
def TE.w (e : TE) : Int := e.1
def TE.l (e : TE) : Int := e.2.1
def TE.y (e : TE) : Value := e.2.2.1
def TE.s (e : TE) : List Int := e.2.2.2
def nthE (E : List TE) (j : Nat) : TE := E.getD j (0, 0, .slice none 0 0, [])
/-- The cells of a row of trees. -/
def flE (E : List TE) : List Value := E.flatMap fun e => [.int .i64 e.w, .int .i64 e.l, e.y]
theorem flE_append (A B : List TE) : flE (A ++ B) = flE A ++ flE B := by simp [flE]
theorem flE_len : ∀ E : List TE, (flE E).length = E.length * 3
  | [] => rfl
  | e :: E => by
    have := flE_len E
    simp [flE] at this ⊢
    omega
theorem flE_at : ∀ (E : List TE) (j : Nat), j < E.length → (flE E)[j * 3]? = some (.int .i64 (nthE E j).w) ∧ (flE E)[j * 3 + 1]? = some (.int .i64 (nthE E j).l) ∧ (flE E)[j * 3 + 2]? = some (nthE E j).y
  | e :: E, 0, _ => by simp [flE, nthE]
  | e :: E, j + 1, h => by
    have ih := flE_at E j (by simpa using h)
    have e1 : (j + 1) * 3 = j * 3 + 3 := by omega
    have hn : nthE (e :: E) (j + 1) = nthE E j := by simp [nthE]
    rw [hn, e1]
    have hf : flE (e :: E) = [.int .i64 e.w, .int .i64 e.l, e.y] ++ flE E := by simp [flE]
    rw [hf]
    refine ⟨?_, ?_, ?_⟩
    · rw [List.getElem?_append_right (by simp)]; simpa using ih.1
    · rw [List.getElem?_append_right (by simp)]
      have : j * 3 + 3 + 1 - [Value.int .i64 e.w, Value.int .i64 e.l, e.y].length = j * 3 + 1 := by simp
      rw [this]; exact ih.2.1
    · rw [List.getElem?_append_right (by simp)]
      have : j * 3 + 3 + 2 - [Value.int .i64 e.w, Value.int .i64 e.l, e.y].length = j * 3 + 2 := by simp
      rw [this]; exact ih.2.2

/-- Rows of ints are as they were. -/
def Kp3 (w w' : World) : Prop := ∀ (g : Nat) (cur : Array Value), w.heap[g]? = some (.cells cur 3 (0, 0)) → w'.heap[g]? = some (.cells cur 3 (0, 0))
theorem Kp3.trans {a b c : World} (h : Kp3 a b) (k : Kp3 b c) : Kp3 a c := fun g cur hg => k g cur (h g cur hg)
theorem Kp3.ofBelow {w w' : World} (h : Below w.heap.size w w') : Kp3 w w' := fun g cur hg => (h.block g (Array.getElem?_eq_some_iff.1 hg).1).trans hg
theorem Own.kp3 {w w' : World} {base : Nat} {y : Value} {xs : List Int} (h : Own w base 3 .i64 y xs) (hk : Kp3 w w') (hs : w.heap.size ≤ w'.heap.size) : Own w' base 3 .i64 y xs := by
  refine ⟨Nat.le_trans h.1 hs, h.2.1, ?_⟩
  rcases h.2.2 with h0 | ⟨g, cap, cur, hv, hg, hh, r⟩
  · exact .inl h0
  · exact .inr ⟨g, cap, cur, hv, hg, hk g cur hh, r⟩

/-- The slice v is the call's own and holds these trees. -/
def TrL (w : World) (base : Nat) (v : Value) (E : List TE) : Prop := base ≤ w.heap.size ∧ w.ownsRow base 95 3 v E.length (flE E) ∧ ∀ e ∈ E, Own w 0 3 .i64 e.y e.s
theorem TrL.shape {w : World} {base : Nat} {v : Value} {E : List TE} (h : TrL w base v E) : ∃ ao cap, v = .slice ao E.length cap := by
  rcases h.2.1.2 with ⟨rfl, h0⟩ | ⟨g, cap, cur, rfl, _⟩
  · exact ⟨none, 0, by rw [h0]⟩
  · exact ⟨_, _, rfl⟩
theorem TrL.empty (w : World) (base : Nat) (hb : base ≤ w.heap.size) : TrL (w.alloc (.cells #[] 95)) base (.slice (some ⟨w.heap.size, 0, none⟩) 0 0) [] :=
  ⟨Nat.le_trans hb (by simp), World.ownsRow_made w #[] 0 hb (by simp [maxLen]) rfl, fun e he => by simp at he⟩
theorem TrL.below {w w' : World} {base : Nat} {v : Value} {E : List TE} (h : TrL w base v E) (hb : Below w.heap.size w w') : TrL w' base v E := by
  obtain ⟨h1, h2, h3⟩ := h
  refine ⟨Nat.le_trans h1 hb.size, ⟨h2.1, ?_⟩, fun e he => (h3 e he).below hb⟩
  rcases h2.2 with h0 | ⟨g, cap, cur, hv, hg, hh, r⟩
  · exact .inl h0
  · exact .inr ⟨g, cap, cur, hv, hg, (hb.block g (Array.getElem?_eq_some_iff.1 hh).1).trans hh, r⟩
/-- The cells of an own row of trees, from a place on. -/
theorem TrL.cells {w : World} {base : Nat} {g n c : Nat} {E : List TE} (h : TrL w base (.slice (some ⟨g, 0, none⟩) n c) E) (j : Nat) (u : Value) (hj : (flE E)[j]? = some u) : w.cell? ⟨g, j, none⟩ = some u := by
  have := h.2.1.cells (g := g) (by simp [Value.ownBlock]) j u hj
  rwa [Addr.add_lit, Nat.zero_add] at this

theorem Try.info95 : (Try.prog.info? 95).map (fun i => (i.zero, i.size, i.bytes)) = some (some (.agg #[.int .i64 0, .int .i64 0, .slice none 0 0]), 3, 40) := by kernel_rfl

/-- What an append of trees leaves as it was, and what it makes. -/
theorem TrL.pushed {w w' : World} {base : Nat} {v v' : Value} {E E2 : List TE} (h : TrL w base v E) (hE2 : ∀ e ∈ E2, Own w 0 3 .i64 e.y e.s)
    (hown' : w'.ownsRow base 95 3 v' (E.length + E2.length) (flE E ++ flE E2)) (hgrow : w.grownBy w' v.ownBlock) : TrL w' base v' (E ++ E2) ∧ Kp3 w w' := by
  have hk : Kp3 w w' := by
    intro g cur hg
    refine (hgrow.block g (Array.getElem?_eq_some_iff.1 hg).1 ?_).trans hg
    intro eq
    rcases h.2.1.2 with ⟨hv, _⟩ | ⟨g', cap, cur', hv, _, hh, _⟩
    · subst hv; cases eq
    · subst hv
      have : g = g' := by simpa [Value.ownBlock] using eq
      subst this
      rw [hg] at hh
      cases hh
  refine ⟨⟨Nat.le_trans h.1 hgrow.size, by rw [List.length_append, flE_append]; exact hown', fun e he => ?_⟩, hk⟩
  rcases List.mem_append.1 he with he | he
  · exact (h.2.2 e he).kp3 hk hgrow.size
  · exact (hE2 e he).kp3 hk hgrow.size

theorem wpList_appE {P : Program} {ops : Array Oper} {rest : List Oper} {o : Oper} {a : Act} {Q : Exit → Act → World → Prop} (w : World) (hgd : o.guard = none) (s x : Operand) (t : TypeId)
    (ho : o.op = .call { callee := .builtin .append, args := #[s, x], argTypes := #[t, t] })
    (base : Nat) (ht : P.underlying t = some (.slice 95)) (hinfo : (P.info? 95).map (fun i => (i.zero, i.size, i.bytes)) = some (some (.agg #[.int .i64 0, .int .i64 0, .slice none 0 0]), 3, 40))
    (v : Value) (E : List TE) (hs : a.eval s = v) (hown : TrL w base v E) (ad : Addr) (c : Nat) (E2 : List TE) (hx : a.eval x = .slice (some ad) E2.length c)
    (hcells : ∀ (j : Nat) u, (flE E2)[j]? = some u → w.cell? (ad.add j) = some u) (hE2 : ∀ e ∈ E2, Own w 0 3 .i64 e.y e.s) (hlen : E.length + E2.length < 1000000000)
    (h : ∀ v' w', TrL w' base v' (E ++ E2) → Kp3 w w' → Below base w w' → wpList P ops Q rest (a.put o.dst v') w') : wpList P ops Q (o :: rest) a w := by
  obtain ⟨i, hi, hz0, hz1, hz2⟩ := info_parts hinfo
  have hb := hown.1
  have hlt := hown.2.1.lt
  refine wpList_append_own _ hgd s x t ho base 95 i (.agg #[.int .i64 0, .int .i64 0, .slice none 0 0]) 3 40 ht hi hz0 hz1 hz2 rfl (by decide) v E.length _ hs hown.2.1 ad E2.length c (flE E2) hx (flE_len E2) hcells ?_ (by unfold maxLen; omega) (by omega) hb ?_
  · intro u hu
    simp only [flE, List.mem_flatMap] at hu
    obtain ⟨e, he, hu⟩ := hu
    obtain ⟨ao, cc, hy⟩ := (hE2 e he).shape
    simp at hu
    rcases hu with rfl | rfl | rfl
    · rfl
    · rfl
    · rw [hy]; rfl
  · intro v' w' hown' hgrow _
    obtain ⟨h1, h2⟩ := TrL.pushed hown hE2 hown' hgrow
    exact h v' w' h1 h2 ((Below.refl base w).grown hgrow hb (fun g hg => (hlt g hg).1))

/-- Is a tree ahead of another? -/
def bet (x y : TE) : Bool := decide (x.w < y.w) || (decide (x.w = y.w) && decide (x.l < y.l))
/-- The least of the first k + 1 trees. -/
def leastTo (E : List TE) : Nat → Nat
  | 0 => 0
  | k + 1 => if bet (nthE E (k + 1)) (nthE E (leastTo E k)) = true then k + 1 else leastTo E k
theorem leastTo_le (E : List TE) : ∀ k, leastTo E k ≤ k
  | 0 => Nat.le_refl _
  | k + 1 => by
    have := leastTo_le E k
    simp only [leastTo]
    split <;> omega
def least (E : List TE) : Nat := leastTo E (E.length - 1)
theorem least_lt (E : List TE) (h : 0 < E.length) : least E < E.length := by
  have := leastTo_le E (E.length - 1)
  unfold least
  omega

theorem bet_lt {x y : TE} (h : x.w < y.w) : bet x y = true := by simp [bet, h]
theorem bet_eq {x y : TE} (h : x.w = y.w) : bet x y = decide (x.l < y.l) := by simp [bet, h]
theorem bet_gt {x y : TE} (h : ¬ x.w < y.w) (h2 : ¬ x.w = y.w) : bet x y = false := by simp [bet, h, h2]

end Go.Proofs.Ytmdmolofiblbmaa
