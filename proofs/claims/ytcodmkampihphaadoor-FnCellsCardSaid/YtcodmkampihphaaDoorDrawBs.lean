/- Contracts of the drawing of some blocks. -/
import Derived.Test.YtcodmkampihphaaDoorDrawB
namespace Go.Proofs.YtcodmkampihphaaDoor
open Go.RowKit
set_option linter.unusedVariables false

theorem Tryd.info28 : (Tryd.prog.info? 28).map (fun i => (i.zero, i.size, i.bytes)) = some (some (.agg #[.int .i64 0, .slice none 0 0]), 2, 32) := by kernel_rfl

/-- The cells of the first k blocks. -/
def flN (L : List (Int × List Int)) (vs : List Value) : Nat → List Value
  | 0 => []
  | k + 1 => flN L vs k ++ [.int .i64 (nth L k).1, vs.getD k (.bool false)]
theorem flN_len (L : List (Int × List Int)) (vs : List Value) : ∀ k, (flN L vs k).length = k * 2
  | 0 => rfl
  | k + 1 => by rw [flN, List.length_append, flN_len L vs k]; simp; omega
theorem flN_at (L : List (Int × List Int)) (vs : List Value) : ∀ n j, j < n → (flN L vs n)[j * 2]? = some (.int .i64 (nth L j).1) ∧ (flN L vs n)[j * 2 + 1]? = some (vs.getD j (.bool false))
  | n + 1, j, hj => by
    have hl := flN_len L vs n
    rw [flN]
    by_cases e : j = n
    · subst e
      rw [List.getElem?_append_right (by omega), List.getElem?_append_right (by omega), hl]
      simp [show j * 2 + 1 - j * 2 = 1 by omega]
    · rw [List.getElem?_append_left (by omega), List.getElem?_append_left (by omega)]
      exact flN_at L vs n j (by omega)
theorem nth_left (L : List (Int × List Int)) (x : Int × List Int) (j : Nat) (h : j < L.length) : nth (L ++ [x]) j = nth L j := by
  simp only [nth, List.getD]
  rw [List.getElem?_append_left h]
theorem nth_last (L : List (Int × List Int)) (x : Int × List Int) : nth (L ++ [x]) L.length = x := by simp [nth]
theorem flN_snoc (L : List (Int × List Int)) (vs : List Value) (x : Int × List Int) (y : Value) (hl : vs.length = L.length) : ∀ k, k ≤ L.length → flN (L ++ [x]) (vs ++ [y]) k = flN L vs k
  | 0, _ => rfl
  | k + 1, h => by
    rw [flN, flN, flN_snoc L vs x y hl k (by omega), nth_left L x k (by omega)]
    have : (vs ++ [y]).getD k (.bool false) = vs.getD k (.bool false) := by
      simp only [List.getD]
      rw [List.getElem?_append_left (by omega)]
    rw [this]
theorem flN_full (L : List (Int × List Int)) (vs : List Value) (x : Int × List Int) (y : Value) (hl : vs.length = L.length) : flN (L ++ [x]) (vs ++ [y]) (L.length + 1) = flN L vs L.length ++ [.int .i64 x.1, y] := by
  rw [flN, flN_snoc L vs x y hl _ (Nat.le_refl _), nth_last]
  have : (vs ++ [y]).getD L.length (.bool false) = y := by simp [← hl]
  rw [this]

/-- The slice v is the call's own and holds the blocks L, each with numbers of its own. -/
def OwnB (w : World) (base : Nat) (v : Value) (L : List (Int × List Int)) : Prop :=
  base ≤ w.heap.size ∧ ∃ vs, vs.length = L.length ∧ w.ownsRow base 28 2 v L.length (flN L vs L.length) ∧ ∀ j, j < L.length → Own w base 3 .i64 (vs.getD j (.bool false)) (nth L j).2
theorem OwnB.shape {w : World} {base : Nat} {v : Value} {L : List (Int × List Int)} (h : OwnB w base v L) : ∃ ao cap, v = .slice ao L.length cap := by
  obtain ⟨_, vs, _, h2, _⟩ := h
  rcases h2.2 with ⟨rfl, h0⟩ | ⟨g, cap, cur, rfl, _⟩
  · exact ⟨none, 0, by rw [h0]⟩
  · exact ⟨_, _, rfl⟩
theorem OwnB.empty (w : World) (base : Nat) (hb : base ≤ w.heap.size) : OwnB (w.alloc (.cells #[] 28)) base (.slice (some ⟨w.heap.size, 0, none⟩) 0 0) [] :=
  ⟨Nat.le_trans hb (by simp), [], rfl, World.ownsRow_made w #[] 0 hb (by simp [maxLen]) rfl, fun j hj => by simp at hj⟩
theorem OwnB.brow {w : World} {base : Nat} {ao : Option Addr} {n c : Nat} {L : List (Int × List Int)} (h : OwnB w base (.slice ao n c) L) : BRow w ao L := by
  obtain ⟨_, vs, hl, h2, h3⟩ := h
  intro j hj
  obtain ⟨a, c', hy, hv⟩ := (h3 j hj).view
  rcases h2.2 with ⟨_, h0⟩ | ⟨g, cap, cur, hv', _⟩
  · omega
  · cases hv'
    have hc := flN_at L vs L.length j hj
    have c0 := h2.cells (g := g) (by simp [Value.ownBlock]) (j * 2) _ hc.1
    have c1 := h2.cells (g := g) (by simp [Value.ownBlock]) (j * 2 + 1) _ hc.2
    rw [Addr.add_lit] at c0 c1
    exact ⟨g, 0, a, c', rfl, c0, by rw [Nat.zero_add] at c1; rw [Nat.zero_add, c1, hy], hv⟩
theorem OwnB.eff {C base : Nat} {w w' : World} {v : Value} {L : List (Int × List Int)} (h : OwnB w base v L) (he : Eff C w w') (hb : C < base) : OwnB w' base v L := by
  obtain ⟨h1, vs, hl, h2, h3⟩ := h
  refine ⟨Nat.le_trans h1 he.size, vs, hl, ⟨h2.1, ?_⟩, fun j hj => Eff.own (h3 j hj) he hb⟩
  rcases h2.2 with h0 | ⟨g, cap, cur, hv, hg, hh, r⟩
  · exact .inl h0
  · exact .inr ⟨g, cap, cur, hv, hg, (he.below' g (Array.getElem?_eq_some_iff.1 hh).1 (by omega)).trans hh, r⟩
theorem OwnB.below {base : Nat} {w w' : World} {v : Value} {L : List (Int × List Int)} (h : OwnB w base v L) (hb : Below w.heap.size w w') : OwnB w' base v L := by
  obtain ⟨h1, vs, hl, h2, h3⟩ := h
  refine ⟨Nat.le_trans h1 hb.size, vs, hl, ⟨h2.1, ?_⟩, fun j hj => (h3 j hj).below hb⟩
  rcases h2.2 with h0 | ⟨g, cap, cur, hv, hg, hh, r⟩
  · exact .inl h0
  · exact .inr ⟨g, cap, cur, hv, hg, (hb.block g (Array.getElem?_eq_some_iff.1 hh).1).trans hh, r⟩

/-- 'out = append(out, b)', b a block laid in a new block of its own first. -/
theorem wpList_pushB {P : Program} {ops : Array Oper} {rest : List Oper} {o : Oper} {a : Act} {Q : Exit → Act → World → Prop} (w : World) (hgd : o.guard = none) (s x : Operand) (t : TypeId)
    (ho : o.op = .call { callee := .builtin .append, args := #[s, x], argTypes := #[t, t] })
    (base : Nat) (ht : P.underlying t = some (.slice 28)) (hinfo : (P.info? 28).map (fun i => (i.zero, i.size, i.bytes)) = some (some (.agg #[.int .i64 0, .slice none 0 0]), 2, 32))
    (v : Value) (L : List (Int × List Int)) (hs : a.eval s = v) (hown : OwnB w base v L) (d : Int) (ya : Option Addr) (yc : Nat) (xs : List Int) (hy : Own w base 3 .i64 (.slice ya xs.length yc) xs) (hx : a.eval x = .slice (some ⟨w.heap.size, 0, none⟩) 1 1)
    (hlen : L.length < 1000000000)
    (h : ∀ v' w', OwnB w' base v' (L ++ [(d, xs)]) → Below base w w' → wpList P ops Q rest (a.put o.dst v') w') : wpList P ops Q (o :: rest) a (w.alloc (.cells #[.int .i64 d, .slice ya xs.length yc] 28)) := by
  obtain ⟨i, hi, hz0, hz1, hz2⟩ := info_parts hinfo
  obtain ⟨hb, vs, hvl, hrow, hels⟩ := hown
  have hlt := hrow.lt
  refine wpList_append_own _ hgd s x t ho base 28 i (.agg #[.int .i64 0, .slice none 0 0]) 2 32 ht hi hz0 hz1 hz2 rfl (by decide) v L.length _ hs (hrow.alloc _) ⟨w.heap.size, 0, none⟩ 1 1 [.int .i64 d, .slice ya xs.length yc] hx rfl ?_ ?_ (by unfold maxLen; omega) (by omega) (Nat.le_trans hb (by simp)) ?_
  · intro j u hj
    match j, hj with
    | 0, hj => simp at hj; subst hj; simp [Addr.add]
    | 1, hj => simp at hj; subst hj; simp [Addr.add]
  · intro u hu; simp at hu; rcases hu with rfl | rfl <;> rfl
  · intro v' w' hown' hgrow _
    have hsz : w.heap.size ≤ w'.heap.size := Nat.le_trans (by simp) hgrow.size
    have hkeep : ∀ (g : Nat) (cur : Array Value), w.heap[g]? = some (.cells cur 3 (0, 0)) → w'.heap[g]? = some (.cells cur 3 (0, 0)) := by
      intro g cur hg
      have hglt : g < w.heap.size := (Array.getElem?_eq_some_iff.1 hg).1
      have h1 : (w.alloc (.cells #[.int .i64 d, .slice ya xs.length yc] 28)).heap[g]? = some (.cells cur 3 (0, 0)) := (((Below.refl w.heap.size w).alloc (Nat.le_refl _) _).block g hglt).trans hg
      refine (hgrow.block g (Nat.lt_trans hglt (by simp)) ?_).trans h1
      intro eq
      rcases hrow.2 with ⟨hv, _⟩ | ⟨g', cap, cur', hv, hg', hh, _⟩
      · subst hv; cases eq
      · subst hv
        have : g = g' := by simpa [Value.ownBlock] using eq
        subst this
        rw [hg] at hh
        cases hh
    have hkeepO : ∀ (y : Value) (ys : List Int), Own w base 3 .i64 y ys → Own w' base 3 .i64 y ys := by
      intro y ys hyo
      refine ⟨Nat.le_trans hyo.1 hsz, hyo.2.1, ?_⟩
      rcases hyo.2.2 with h0 | ⟨g, cap, cur, hv, hg, hh, r⟩
      · exact .inl h0
      · exact .inr ⟨g, cap, cur, hv, hg, hkeep g cur hh, r⟩
    refine h v' w' ⟨Nat.le_trans hb hsz, vs ++ [.slice ya xs.length yc], by simp [hvl], ?_, fun j hj => ?_⟩ ?_
    · rw [List.length_append, List.length_singleton, flN_full L vs (d, xs) _ hvl]
      exact hown'
    · by_cases e : j < L.length
      · rw [nth_left L _ j e]
        have : (vs ++ [Value.slice ya xs.length yc]).getD j (.bool false) = vs.getD j (.bool false) := by
          simp only [List.getD]
          rw [List.getElem?_append_left (by omega)]
        rw [this]
        exact hkeepO _ _ (hels j e)
      · have ej : j = L.length := by simp at hj; omega
        subst ej
        rw [nth_last]
        have : (vs ++ [Value.slice ya xs.length yc]).getD L.length (.bool false) = Value.slice ya xs.length yc := by simp [← hvl]
        rw [this]
        exact hkeepO _ _ hy
    · exact ((Below.refl base w).alloc hb _).grown hgrow (Nat.le_trans hb (by simp)) (fun g hg => (hlt g hg).1)

/-- The same, the new block's number told by whatever term. -/
theorem wpList_pushBg {P : Program} {ops : Array Oper} {rest : List Oper} {o : Oper} {a : Act} {Q : Exit → Act → World → Prop} (w : World) (gb : Nat) (hgb : w.heap.size = gb) (hgd : o.guard = none) (s x : Operand) (t : TypeId)
    (ho : o.op = .call { callee := .builtin .append, args := #[s, x], argTypes := #[t, t] })
    (base : Nat) (ht : P.underlying t = some (.slice 28)) (hinfo : (P.info? 28).map (fun i => (i.zero, i.size, i.bytes)) = some (some (.agg #[.int .i64 0, .slice none 0 0]), 2, 32))
    (v : Value) (L : List (Int × List Int)) (hs : a.eval s = v) (hown : OwnB w base v L) (d : Int) (ya : Option Addr) (yc : Nat) (xs : List Int) (hy : Own w base 3 .i64 (.slice ya xs.length yc) xs) (hx : a.eval x = .slice (some ⟨gb, 0, none⟩) 1 1)
    (hlen : L.length < 1000000000)
    (h : ∀ v' w', OwnB w' base v' (L ++ [(d, xs)]) → Below base w w' → wpList P ops Q rest (a.put o.dst v') w') : wpList P ops Q (o :: rest) a (w.alloc (.cells #[.int .i64 d, .slice ya xs.length yc] 28)) := by
  subst hgb
  exact wpList_pushB w hgd s x t ho base ht hinfo v L hs hown d ya yc xs hy hx hlen h

/-- 'append([]int{}, ys...)' as one step of a statement that leaves its order open. -/
theorem step_copy {P : Program} {ops : Array Oper} {o : Oper} {a : Act} {K : Act → World → Prop} {Q : Exit → Act → World → Prop} {E : Prop} (w : World) (g : Nat) (hgs : w.heap.size = g) (hgd : o.guard = none) (s x : Operand) (t : TypeId)
    (ho : o.op = .call { callee := .builtin .append, args := #[s, x], argTypes := #[t, t] })
    (ht : P.underlying t = some (.slice 3)) (hinfo : (P.info? 3).map (fun i => (i.zero, i.size, i.bytes)) = some (some (.int .i64 0), 1, 8))
    (hs : a.eval s = .slice (some ⟨g, 0, none⟩) 0 0) (yb : Nat) (yo : Option Addr) (yc : Nat) (ys : List Int) (hx : a.eval x = .slice yo ys.length yc) (hy : Own w yb 3 .i64 (.slice yo ys.length yc) ys) (hpos : 0 < ys.length) (hlen : ys.length < 1000000000)
    (h : ∀ v' w', Own w' g 3 .i64 v' ys → Below g w w' → K (a.put o.dst v') w') :
    if Region.wanted o (yielded ops a.tmps) = true then Oper.wp P o a (w.alloc (.cells #[] 3)) K Q else E := by
  have hw : Region.wanted o (yielded ops a.tmps) = true := by simp [Region.wanted, hgd]
  rw [if_pos hw]
  subst hgs
  obtain ⟨i, hi, hz0, hz1, hz2⟩ := info_parts hinfo
  have hE := Own.empty w 3 .i64 w.heap.size (Nat.le_refl _)
  have hy2 := hy.below ((Below.refl w.heap.size w).alloc (Nat.le_refl _) (.cells #[] 3))
  rcases hy2.2.2 with ⟨_, h0⟩ | ⟨gy, cap, cur, hyv, _⟩
  · omega
  · cases hyv
    refine wp_append_own _ s x t ho w.heap.size 3 i (.int .i64 0) 1 8 ht hi hz0 hz1 hz2 rfl (by decide) _ 0 [] hs hE.2 ⟨gy, 0, none⟩ ys.length yc (ys.map (Value.int .i64)) hx (by simp) ?_ ?_ (by unfold maxLen; omega) (by omega) hE.1 ?_
    · intro j u hj
      have hjl : j < ys.length := by have := (List.getElem?_eq_some_iff.1 hj).1; simpa using this
      rw [hy2.cell rfl j hjl]
      simp [hjl] at hj
      rw [← hj]
      simp [List.getD, hjl]
    · intro u hu
      simp at hu
      obtain ⟨q, _, rfl⟩ := hu
      rfl
    · intro v' w' hown' hgrow _
      refine h v' w' ⟨Nat.le_trans hE.1 hgrow.size, by simpa using hown'⟩ ?_
      exact ((Below.refl w.heap.size w).alloc (Nat.le_refl _) _).grown hgrow hE.1 (fun g hg => by simp [Value.ownBlock] at hg; omega)

theorem oks_snoc (L : List (Int × List Int)) (x : Int × List Int) (h : ∀ j, j < L.length → blkOk (nth L j).1 (nth L j).2 = true) (hx : blkOk x.1 x.2 = true) : ∀ j, j < (L ++ [x]).length → blkOk (nth (L ++ [x]) j).1 (nth (L ++ [x]) j).2 = true := by
  intro j hj
  by_cases e : j < L.length
  · rw [nth_left L x j e]; exact h j e
  · have ej : j = L.length := by simp at hj; omega
    subst ej
    rw [nth_last]
    exact hx
theorem blkOk_len {d : Int} {xs : List Int} (h : blkOk d xs = true) : xs.length = 63 := by
  unfold blkOk at h
  simp only [Bool.and_eq_true, decide_eq_true_eq] at h
  exact h.2.1

set_option maxRecDepth 100000 in
set_option maxHeartbeats 3200000 in
theorem blocks_any (w0 : World) (ao : Option Addr) (n cap C : Nat) (zs : List Int) (m : Nat) (w : World) (hm : m ≤ 1000) (hcode : Code w0 ao n zs) (hcur : Cur w0 ao n cap C w) :
    Calls Tryd.prog 26 #[.pointer (some ⟨C, 0, none⟩), .int .i64 m] w fun e w' => ∃ v, e = .returned v ∧ (∃ L, L.length = m ∧ (∀ j, j < L.length → blkOk (nth L j).1 (nth L j).2 = true) ∧ OwnB w' w.heap.size v L) ∧ Cur w0 ao n cap C w' ∧ Eff C w w' := by
  have HC := hid hcode
  have hClt := hcur.lt
  have hA0 := (Below.refl w.heap.size w).alloc (Nat.le_refl _) (.cells #[] 28)
  have HU0 := hid (hcur.below hA0)
  have HE0 := hid ((Eff.refl C w).ofBelow hA0)
  have HO0 := hid (OwnB.empty w w.heap.size (Nat.le_refl _))
  clear hcode hcur hA0
  go_enter Tryd.func26, Tryd.ntmps26
  go_wp2_with fail
  generalize w.alloc (.cells #[] 28) = w1 at *
  go_loopw [5, 6] (fun s iv wr => ∃ (k : Nat) (L : List (Int × List Int)), k ≤ m ∧ iv = .int .i64 k ∧ Hid (L.length = k) ∧ Hid (∀ j, j < L.length → blkOk (nth L j).1 (nth L j).2 = true) ∧ Hid (OwnB wr w.heap.size s L) ∧ Hid (Cur w0 ao n cap C wr) ∧ Hid (Eff C w wr)) (fun _ iv _ => m - (intOf iv).toNat)
  case atStart => exact ⟨0, [], by omega, rfl, rfl, fun j hj => by simp at hj, HO0.out, HU0.out, HE0.out⟩
  case round =>
    obtain ⟨k, L, hk, rfl, hLk, hoks, hown, hcr, her⟩ := hrel
    clear HU0 HE0 HO0
    obtain ⟨so, sc', hsv⟩ := hown.out.shape
    subst hsv
    rw [hLk.out] at hown ⊢
    by_cases hlt : k < m
    · have hlt' : (k : Int) < (m : Int) := by omega
      go_wp2_with fail
      refine (block_any w0 ao n cap C zs _ HC.out hcr.out).mono ?_
      rintro e w2 ⟨v1, rfl, ⟨d, xs, hok, va, rfl, ho2⟩, hc2, he2⟩
      obtain ⟨ya, yc, rfl⟩ := ho2.shape
      have hwr : w.heap.size ≤ wr.heap.size := her.out.size
      have HB2 := hid (hown.out.eff he2 hClt)
      have HO2 := hid (ho2.mono hwr)
      have HE2 := hid (her.out.trans he2)
      have hw2 : w.heap.size ≤ w2.heap.size := Nat.le_trans hwr he2.size
      have hA2 := (Below.refl w2.heap.size w2).alloc (Nat.le_refl _) (.cells #[.int .i64 d, .slice ya xs.length yc] 28)
      have HT3 := hid (Two.new w2 (.int .i64 d) (.slice ya xs.length yc) 28)
      have HC3 := hid (hc2.below hA2)
      have HX3 := hid ((Eff.refl C w2).ofBelow hA2)
      have hC2 : C < w2.heap.size := hc2.lt
      have HOK := hid hok
      clear ho2 hc2 he2 hA2 hown hcr her hok
      have HB3 := hid (HB2.out.eff HX3.out hClt)
      have HO3 := hid (Eff.own HO2.out HX3.out hClt)
      have HE3 := hid (HE2.out.trans HX3.out)
      have hL9 : L.length < 1000000000 := by rw [hLk.out]; omega
      by_cases hk0 : k = 0
      · have hk0' : ¬ (0 : Int) < (k : Int) := by omega
        clear hk0
        go_wp2_with (at_builtin; refine wpList_pushBg (w2.alloc (.cells #[.int .i64 d, .slice ya xs.length yc] 28)) (w2.heap.size + 1) (by simp) rfl _ _ 24 rfl w.heap.size Tryd.underlying24 Tryd.info28 _ L (by rfl) HB3.out d ya yc xs HO3.out (by rfl) hL9 ?_)
        intro v9 w9 ho9 hb9
        have HO9 := hid ho9
        have HC9 := hid (HC3.out.belowB hClt hb9)
        have HE9 := hid (HE3.out.ofBelow hb9)
        obtain ⟨s9, c9, hv9⟩ := ho9.shape
        subst hv9
        clear ho9 hb9
        go_wp2_with fail
        go_roundw
        case rel => exact ⟨k + 1, L ++ [(d, xs)], by omega, by go_num, by show _ = _; rw [List.length_append, hLk.out]; rfl, oks_snoc L _ hoks.out HOK.out, HO9.out, HC9.out, HE9.out⟩
        case measure => simp [intOf]; omega
      · have hk0' : (0 : Int) < (k : Int) := by omega
        go_wp2_with fail
        refine (once_any w0 ao n cap C zs 3 _ HC.out HC3.out).mono ?_
        have hs3 : (w2.alloc (.cells #[.int .i64 d, .slice ya xs.length yc] 28)).heap.size = w2.heap.size + 1 := by simp
        generalize w2.alloc (.cells #[.int .i64 d, .slice ya xs.length yc] 28) = w3 at *
        rintro e w4 ⟨b4, rfl, hc4, he4⟩
        have hgC : w2.heap.size ≠ C := by omega
        have HT4 := hid (he4.two HT3.out hgC)
        have HX4 := hid (HX3.out.trans he4)
        have HC4 := hid hc4
        have HB4 := hid (HB2.out.eff HX4.out hClt)
        have HO4 := hid (Eff.own HO2.out HX4.out hClt)
        have HE4 := hid (HE2.out.trans HX4.out)
        have hs4 : w2.heap.size + 1 ≤ w4.heap.size := by rw [← hs3]; exact he4.size
        clear hc4 he4 HT3 HX3 HC3 HB3 HO3 HE3 hs3
        obtain ⟨q1, q2, q3, q4⟩ := HT4.out.cells
        cases b4 with
        | false =>
          go_wp2_with (at_builtin; refine wpList_pushBg w4 w4.heap.size rfl rfl _ _ 24 rfl w.heap.size Tryd.underlying24 Tryd.info28 _ L (by rfl) HB4.out d ya yc xs HO4.out (by rfl) hL9 ?_)
          intro v9 w9 ho9 hb9
          have HO9 := hid ho9
          have HC9 := hid (HC4.out.belowB hClt hb9)
          have HE9 := hid (HE4.out.ofBelow hb9)
          obtain ⟨s9, c9, hv9⟩ := ho9.shape
          subst hv9
          clear ho9 hb9
          go_wp2_with fail
          go_roundw
          case rel => exact ⟨k + 1, L ++ [(d, xs)], by omega, by go_num, by show _ = _; rw [List.length_append, hLk.out]; rfl, oks_snoc L _ hoks.out HOK.out, HO9.out, HC9.out, HE9.out⟩
          case measure => simp [intOf]; omega
        | true =>
          obtain ⟨j, rfl⟩ : ∃ j, k = j + 1 := ⟨k - 1, by omega⟩
          have hjL : j < L.length := by rw [hLk.out]; omega
          obtain ⟨bb, off, a', c', rfl, hp0, hp1, hvw⟩ := HB4.out.brow j hjL
          have hbo := hoks.out j hjL
          have HOY : Hid (Own w4 w.heap.size 3 .i64 (.slice a' (nth L j).2.length c') (nth L j).2) := hid (by
            obtain ⟨_, vs, hvl, hrow, hels⟩ := HB4.out
            have h1 := hels j hjL
            have h2 : w4.cell? ⟨bb, off + j * 2 + 1, none⟩ = some (vs.getD j (.bool false)) := by
              rcases hrow.2 with ⟨hv0, _⟩ | ⟨g', cap', cur', hv0, _⟩
              · cases hv0
              · simp only [Value.slice.injEq, Option.some.injEq, Addr.mk.injEq] at hv0
                obtain ⟨⟨rfl, rfl, _⟩, _, rfl⟩ := hv0
                have c1 := hrow.cells (g := bb) (by simp [Value.ownBlock]) (j * 2 + 1) _ (flN_at L vs L.length j hjL).2
                rw [Addr.add_lit] at c1
                simpa using c1
            rw [hp1] at h2
            have h3 := Option.some.inj h2
            rw [← h3] at h1
            exact h1)
          have hA4 := (Below.refl w4.heap.size w4).alloc (Nat.le_refl _) (.cells #[] 3)
          have hp0' := (hA4.cell (p := ⟨bb, off + j * 2, none⟩) (World.block_lt_of_cell? w4 _ hp0)).trans hp0
          have hp1' := (hA4.cell (p := ⟨bb, off + j * 2 + 1, none⟩) (World.block_lt_of_cell? w4 _ hp1)).trans hp1
          clear hA4
          have HOKJ := hid hbo
          have h63 : 0 < (nth L j).2.length ∧ (nth L j).2.length < 1000000000 := by rw [blkOk_len hbo]; decide
          obtain ⟨h63a, h63b⟩ := h63
          have hj1 : ((j + 1 : Nat) : Int) - 1 = (j : Int) := by omega
          have hj2 : (j : Int) < ((j + 1 : Nat) : Int) := by omega
          have hj3 : (j : Int) < (j : Int) + 1 := by omega
          have hwj : IntKind.i64.wrap (j : Int) = (j : Int) := by rw [IntKind.wrap_i64]; omega
          generalize (nth L j).1 = D at *
          generalize (nth L j).2 = XS at *
          clear hvw hbo
          go_wp2_with fail
          go_cut [36] from 22 to 40 (fun _ wx => ∃ ya' yc', Two wx w2.heap.size (.int .i64 D) (.slice ya' XS.length yc') 28 ∧ Own wx w.heap.size 3 .i64 (.slice ya' XS.length yc') XS ∧ Below w2.heap.size w4 wx)
          case first =>
            go_region_law (refine step_copy w4.drew w4.heap.size rfl rfl (.tmp 28) (.tmp 34) 26 rfl Tryd.underlying26 Tryd.info3 (by rfl) w.heap.size a' c' XS (by rfl) HOY.out.drew1 h63a h63b ?_; intro v7 w7 ho7 hb7; obtain ⟨ao7, cap7, rfl⟩ := ho7.shape; have hc7 : Below w4.heap.size w4 w7 := Below.trans (Below.refl _ _).drew hb7; have ht7 := HT4.out.below hc7 HT4.out.lt; obtain ⟨r1, r2, r3, r4⟩ := ht7.cells; have hp7 := (hc7.cell (p := ⟨bb, off + j * 2, none⟩) (World.block_lt_of_cell? w4 _ hp0)).trans hp0)
            all_goals
              have T8 := (ht7.set0 (.int .i64 D)).set1 (.slice ao7 XS.length cap7)
              have hg7 : w2.heap.size < w4.heap.size := by omega
              have O8 := ((ho7.setCell_below (a := ⟨w2.heap.size, 0, none⟩) hg7 (.int .i64 D)).setCell_below (a := ⟨w2.heap.size, 1, none⟩) hg7 (.slice ao7 XS.length cap7)).mono (show w.heap.size ≤ w4.heap.size by omega)
              have B8 := ((hc7.mono (Nat.le_of_lt hg7)).setCell (p := ⟨w2.heap.size, 0, none⟩) (Nat.le_refl _) (.int .i64 D)).setCell (p := ⟨w2.heap.size, 1, none⟩) (Nat.le_refl _) (.slice ao7 XS.length cap7)
              clear r1 r2 r3 r4 hp7
              go_wp2_with fail
              go_meet
              exact ⟨_, _, T8, O8, B8⟩
          case rest =>
            obtain ⟨ya', yc', T5, O5, B5⟩ := hcut
            generalize hwc : wc = w5 at *
            clear hwc
            have HX5 := hid (HX4.out.ofBelow B5)
            have HB5 := hid (HB2.out.eff HX5.out hClt)
            have HE5 := hid (HE2.out.trans HX5.out)
            have HC5 := hid (HC4.out.belowB hC2 B5)
            have HO5 := hid O5
            have HT5 := hid T5
            clear T5 O5 B5 q1 q2 q3 q4 hp0 hp1 hp0' hp1' HX4 HB4 HO4 HE4 HC4 HT4
            obtain ⟨q1, q2, q3, q4⟩ := HT5.out.cells
            go_wp2_with (at_builtin; refine wpList_pushBg w5 w5.heap.size rfl rfl _ _ 24 rfl w.heap.size Tryd.underlying24 Tryd.info28 _ L (by rfl) HB5.out D ya' yc' XS HO5.out (by rfl) hL9 ?_)
            intro v9 w9 ho9 hb9
            have HO9 := hid ho9
            have HC9 := hid (HC5.out.belowB hClt hb9)
            have HE9 := hid (HE5.out.ofBelow hb9)
            obtain ⟨s9, c9, hv9⟩ := ho9.shape
            subst hv9
            clear ho9 hb9
            go_wp2_with fail
            go_roundw
            case rel => exact ⟨j + 1 + 1, L ++ [(D, XS)], by omega, by go_num, by show _ = _; rw [List.length_append, hLk.out]; rfl, oks_snoc L _ hoks.out HOKJ.out, HO9.out, HC9.out, HE9.out⟩
            case measure => simp [intOf]; omega
    · obtain rfl : k = m := by omega
      go_wp2_with fail
      go_ret
      exact ⟨_, rfl, ⟨L, hLk.out, hoks.out, hown.out⟩, hcr.out, her.out⟩
end Go.Proofs.YtcodmkampihphaaDoor
