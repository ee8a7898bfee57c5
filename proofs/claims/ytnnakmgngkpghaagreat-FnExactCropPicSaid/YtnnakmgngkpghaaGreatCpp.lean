/- copyPic of the program: a picture in new memory. -/
import Derived.Test.YtnnakmgngkpghaaGreatCpb
import Derived.Test.YtnnakmgngkpghaaGreatScl
import Derived.Test.YtnnakmgngkpghaaGreatSfq
namespace Go.Proofs.YtnnakmgngkpghaaGreat
open Go.RowKit Go.Maps
set_option linter.unusedVariables false

/-- A picture, each of its rows known. -/
def PVq (w : World) (v : Value) (p : Pk) (vs : List Value) : Prop :=
  ∃ t0 t1 t2 t3 bv, v = .agg #[.int .i64 p.W, .int .i64 p.H, t0, t1, t2, t3, .string p.N, bv] ∧ Vp w t0 p.T.cs ∧ Vp w t1 p.T.ss ∧ Vp w t2 p.T.ct ∧ Vp w t3 p.T.st ∧ BLv w bv p.L vs
theorem PVq.below {w w' : World} {v : Value} {p : Pk} {vs : List Value} (h : PVq w v p vs) (hb : Below w.heap.size w w') : PVq w' v p vs := by
  obtain ⟨t0, t1, t2, t3, bv, rfl, h0, h1, h2, h3, h4⟩ := h
  exact ⟨t0, t1, t2, t3, bv, rfl, h0.below hb, h1.below hb, h2.below hb, h3.below hb, h4.below hb⟩
theorem row_below {w w' : World} {base size n : Nat} {e : TypeId} {v : Value} {l : List Value} (h : w.ownsRow base e size v n l) (hb : Below w.heap.size w w') : w'.ownsRow base e size v n l := by
  refine ⟨h.1, ?_⟩
  rcases h.2 with h0 | ⟨g, cap, cur, hv, hg, hh, r⟩
  · exact .inl h0
  · exact .inr ⟨g, cap, cur, hv, hg, (hb.block g (Array.getElem?_eq_some_iff.1 hh).1).trans hh, r⟩
/-- A copy under way: the first k rows are new. -/
structure Cpst (w wr : World) (base B2 : Nat) (p : Pk) (vs0 : List Value) (k : Nat) (x0 x1 x2 x3 bv : Value) (vs : List Value) : Prop where
  e1 : Eig wr w.heap.size (.int .i64 p.W) (.int .i64 p.H) x0 x1 x2 x3 (.string p.N) bv 36
  e2 : Eig wr (w.heap.size + 1) (.int .i64 0) (.int .i64 0) (.slice none 0 0) (.slice none 0 0) (.slice none 0 0) (.slice none 0 0) (.string ⟨#[]⟩) (.slice none 0 0) 36
  o0 : Own wr (w.heap.size + 1 + 1) 3 .i64 x0 p.T.cs
  o1 : Own wr (w.heap.size + 1 + 1) 3 .i64 x1 p.T.ss
  o2 : Own wr (w.heap.size + 1 + 1) 3 .i64 x2 p.T.ct
  o3 : Own wr (w.heap.size + 1 + 1) 3 .i64 x3 p.T.st
  lt : ∀ v, v = x0 ∨ v = x1 ∨ v = x2 ∨ v = x3 → ∀ g, v.ownBlock = some g → g < base
  lo : w.heap.size + 1 + 1 ≤ base
  lb : base ≤ B2
  hb : B2 ≤ wr.heap.size
  row : wr.ownsRow base 65 2 bv p.L.length (flN p.L vs p.L.length)
  gl : ∀ g, bv.ownBlock = some g → g < B2
  len : vs.length = p.L.length
  new : ∀ j, j < k → Own wr B2 3 .i64 (vs.getD j (.bool false)) (nth p.L j).2
  inc : ∀ i j, i < j → j < k → ∀ (a a' : Addr) (n n' c c' : Nat), vs.getD i (.bool false) = .slice (some a) n c → vs.getD j (.bool false) = .slice (some a') n' c' → a.block < a'.block
  old : ∀ j, k ≤ j → vs.getD j (.bool false) = vs0.getD j (.bool false)
  bel : Below w.heap.size w wr
theorem flN_setv (L : List (Int × List Int)) (vs : List Value) (k : Nat) (y : Value) (hk : k < vs.length) : ∀ n, k < n → flN L (vs.set k y) n = (flN L vs n).set (k * 2 + 1) y
  | n + 1, h => by
    have hl := flN_len L vs n
    by_cases e : k = n
    · subst e
      have hsame : flN L (vs.set k y) k = flN L vs k := by
        have : ∀ m, m ≤ k → flN L (vs.set k y) m = flN L vs m := fun m => by
          induction m with
          | zero => intro _; rfl
          | succ m ih =>
            intro hm
            rw [flN, flN, ih (by omega)]
            simp [List.getD, List.getElem?_set_ne (show k ≠ m by omega)]
        exact this k (Nat.le_refl _)
      rw [flN, flN, hsame, List.set_append_right _ _ (by omega), hl]
      simp [List.getD, hk]
    · rw [flN, flN, flN_setv L vs k y hk n (by omega), List.set_append_left _ _ (by omega)]
      simp [List.getD, List.getElem?_set_ne (show k ≠ n from e)]
theorem flN_cell (L : List (Int × List Int)) (vs : List Value) (n j : Nat) (h : j < n) : (flN L vs n)[j * 2]? = some (.int .i64 (nth L j).1) ∧ (flN L vs n)[j * 2 + 1]? = some (vs.getD j (.bool false)) := flN_at L vs n j h
theorem Own.lt_of {w : World} {base : Nat} {v : Value} {xs : List Int} (h : Own w base 3 .i64 v xs) (g : Nat) (hg : v.ownBlock = some g) : g < w.heap.size := (h.2.lt g hg).2

/-- One row more is new. -/
theorem Cpst.step {w wr w2 : World} {base B2 : Nat} {p : Pk} {vs0 : List Value} {k : Nat} {x0 x1 x2 x3 y : Value} {g c : Nat} {vs : List Value} (h : Cpst w wr base B2 p vs0 k x0 x1 x2 x3 (.slice (some ⟨g, 0, none⟩) p.L.length c) vs) (hk : k < p.L.length) (hb : Below wr.heap.size wr w2)
    (hy : Own w2 wr.heap.size 3 .i64 y (nth p.L k).2) : Cpst w (w2.setCell ⟨g, k * 2 + 1, none⟩ y) base B2 p vs0 (k + 1) x0 x1 x2 x3 (.slice (some ⟨g, 0, none⟩) p.L.length c) (vs.set k y) := by
  obtain ⟨e1, e2, o0, o1, o2, o3, lt, lo, lb, hbz, row, gl, len, new, inc, old, bel⟩ := h
  have hg : base ≤ g ∧ g < wr.heap.size := row.lt g rfl
  have hgB := gl g rfl
  have hrow2 : w2.ownsRow base 65 2 (.slice (some ⟨g, 0, none⟩) p.L.length c) p.L.length (flN p.L vs p.L.length) := row_below row hb
  have hst := (hrow2.stored (k * 2 + 1) y).1
  rw [← flN_setv p.L vs k y (by omega) p.L.length hk] at hst
  have off : ∀ {v : Value} {xs : List Int} {b : Nat}, Own wr b 3 .i64 v xs → (∀ q, v.ownBlock = some q → q ≠ g) → Own (w2.setCell ⟨g, k * 2 + 1, none⟩ y) b 3 .i64 v xs := fun {v xs b} o hne => (o.below hb).storeOther (g := g) (i := k * 2 + 1) (fun a n c e => hne a.block (by rw [e]; rfl)) y
  have hxl : ∀ v, v = x0 ∨ v = x1 ∨ v = x2 ∨ v = x3 → ∀ q, v.ownBlock = some q → q ≠ g := fun v hv q hq => by have := lt v hv q hq; omega
  have hnew : ∀ j, j < k → ∀ q, (vs.getD j (.bool false)).ownBlock = some q → q ≠ g := fun j hj q hq => by
    have := ((new j hj).2.lt q hq).1
    omega
  have hyl : ∀ q, y.ownBlock = some q → wr.heap.size ≤ q := fun q hq => (hy.2.lt q hq).1
  refine ⟨(e1.below hb e1.lt).other (by omega) y, (e2.below hb e2.lt).other (by omega) y, off o0 (hxl _ (.inl rfl)), off o1 (hxl _ (.inr (.inl rfl))), off o2 (hxl _ (.inr (.inr (.inl rfl)))), off o3 (hxl _ (.inr (.inr (.inr rfl)))), lt, lo, lb, by have := hb.size; simp [World.setCell]; omega, hst, gl, by rw [List.length_set]; exact len, fun j hj => ?_, fun i j hij hj a a' n n' c1 c2 h1 h2 => ?_, fun j hj => ?_, (bel.trans (hb.mono bel.size)).setCell (p := ⟨g, k * 2 + 1, none⟩) (show w.heap.size ≤ g by omega) _⟩
  · by_cases e : j = k
    · subst e
      rw [show (vs.set j y).getD j (.bool false) = y by simp [List.getD, show j < vs.length by omega]]
      exact (hy.storeOther (g := g) (i := j * 2 + 1) (fun a n c e => by have := hyl a.block (by rw [e]; rfl); omega) y).mono hbz
    · rw [show (vs.set k y).getD j (.bool false) = vs.getD j (.bool false) by simp [List.getD, List.getElem?_set_ne (show k ≠ j from fun h => e h.symm)]]
      exact off (new j (by omega)) (hnew j (by omega))
  · have h1' : vs.getD i (.bool false) = .slice (some a) n c1 := by rw [← h1]; simp [List.getD, List.getElem?_set_ne (show k ≠ i by omega)]
    by_cases e : j = k
    · subst e
      rw [show (vs.set j y).getD j (.bool false) = y by simp [List.getD, show j < vs.length by omega]] at h2
      have q1 := ((new i hij).2.lt a.block (by rw [h1']; rfl)).2
      have q2 := hyl a'.block (by rw [h2]; rfl)
      omega
    · have h2' : vs.getD j (.bool false) = .slice (some a') n' c2 := by rw [← h2]; simp [List.getD, List.getElem?_set_ne (show k ≠ j from fun h => e h.symm)]
      exact inc i j hij (by omega) a a' n n' c1 c2 h1' h2'
  · rw [show (vs.set k y).getD j (.bool false) = vs.getD j (.bool false) by simp [List.getD, List.getElem?_set_ne (show k ≠ j by omega)]]
    exact old j (by omega)
end Go.Proofs.YtnnakmgngkpghaaGreat
