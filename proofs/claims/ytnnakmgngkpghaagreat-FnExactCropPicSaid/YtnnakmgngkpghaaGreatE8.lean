/- Eight stores into one block: what stands behind them. -/
import Derived.Test.YtnnakmgngkpghaaGreatCpp
import Derived.Test.YtnnakmgngkpghaaGreatSb
namespace Go.Proofs.YtnnakmgngkpghaaGreat
open Go.RowKit Go.Maps
set_option linter.unusedVariables false

theorem Eig.set8 {w : World} {b : Nat} {x0 x1 x2 x3 x4 x5 x6 x7 : Value} {t : TypeId} (h : Eig w b x0 x1 x2 x3 x4 x5 x6 x7 t) (y0 y1 y2 y3 y4 y5 y6 y7 : Value) : Eig ((((((((w.setCell ⟨b, 0, none⟩ y0).setCell ⟨b, 1, none⟩ y1).setCell ⟨b, 2, none⟩ y2).setCell ⟨b, 3, none⟩ y3).setCell ⟨b, 4, none⟩ y4).setCell ⟨b, 5, none⟩ y5).setCell ⟨b, 6, none⟩ y6).setCell ⟨b, 7, none⟩ y7) b y0 y1 y2 y3 y4 y5 y6 y7 t :=
  ((((((((h.set y0).1.set y1).2.1.set y2).2.2.1.set y3).2.2.2.1.set y4).2.2.2.2.1.set y5).2.2.2.2.2.1.set y6).2.2.2.2.2.2.1.set y7).2.2.2.2.2.2.2
theorem Eig.other8 {w : World} {b c : Nat} {x0 x1 x2 x3 x4 x5 x6 x7 : Value} {t : TypeId} (h : Eig w b x0 x1 x2 x3 x4 x5 x6 x7 t) (hne : b ≠ c) (y0 y1 y2 y3 y4 y5 y6 y7 : Value) : Eig ((((((((w.setCell ⟨c, 0, none⟩ y0).setCell ⟨c, 1, none⟩ y1).setCell ⟨c, 2, none⟩ y2).setCell ⟨c, 3, none⟩ y3).setCell ⟨c, 4, none⟩ y4).setCell ⟨c, 5, none⟩ y5).setCell ⟨c, 6, none⟩ y6).setCell ⟨c, 7, none⟩ y7) b x0 x1 x2 x3 x4 x5 x6 x7 t :=
  (((((((h.other hne y0).other hne y1).other hne y2).other hne y3).other hne y4).other hne y5).other hne y6).other hne y7
theorem below8 {n : Nat} {w0 w : World} (h : Below n w0 w) {b : Nat} (hb : n ≤ b) (y0 y1 y2 y3 y4 y5 y6 y7 : Value) : Below n w0 ((((((((w.setCell ⟨b, 0, none⟩ y0).setCell ⟨b, 1, none⟩ y1).setCell ⟨b, 2, none⟩ y2).setCell ⟨b, 3, none⟩ y3).setCell ⟨b, 4, none⟩ y4).setCell ⟨b, 5, none⟩ y5).setCell ⟨b, 6, none⟩ y6).setCell ⟨b, 7, none⟩ y7) :=
  (((((((h.setCell (p := ⟨b, 0, none⟩) hb y0).setCell (p := ⟨b, 1, none⟩) hb y1).setCell (p := ⟨b, 2, none⟩) hb y2).setCell (p := ⟨b, 3, none⟩) hb y3).setCell (p := ⟨b, 4, none⟩) hb y4).setCell (p := ⟨b, 5, none⟩) hb y5).setCell (p := ⟨b, 6, none⟩) hb y6).setCell (p := ⟨b, 7, none⟩) hb y7
theorem Own.set8 {w : World} {base : Nat} {e : TypeId} {k : IntKind} {v : Value} {xs : List Int} (h : Own w base e k v xs) {b : Nat} (hb : b < base) (y0 y1 y2 y3 y4 y5 y6 y7 : Value) : Own ((((((((w.setCell ⟨b, 0, none⟩ y0).setCell ⟨b, 1, none⟩ y1).setCell ⟨b, 2, none⟩ y2).setCell ⟨b, 3, none⟩ y3).setCell ⟨b, 4, none⟩ y4).setCell ⟨b, 5, none⟩ y5).setCell ⟨b, 6, none⟩ y6).setCell ⟨b, 7, none⟩ y7) base e k v xs :=
  (((((((h.setCell_below (a := ⟨b, 0, none⟩) hb y0).setCell_below (a := ⟨b, 1, none⟩) hb y1).setCell_below (a := ⟨b, 2, none⟩) hb y2).setCell_below (a := ⟨b, 3, none⟩) hb y3).setCell_below (a := ⟨b, 4, none⟩) hb y4).setCell_below (a := ⟨b, 5, none⟩) hb y5).setCell_below (a := ⟨b, 6, none⟩) hb y6).setCell_below (a := ⟨b, 7, none⟩) hb y7
theorem OwnK.setCell_below {w : World} {base : Nat} {v : Value} {L : List (Int × List Int)} {vs : List Value} (h : OwnK w base v L vs) {a : Addr} (ha : a.block < base) (u : Value) : OwnK (w.setCell a u) base v L vs :=
  ⟨by simpa [World.setCell] using h.1, h.2.1, ownsRow_setCell_below h.2.2.1 ha u, fun j hj => (h.2.2.2.1 j hj).setCell_below ha u, h.2.2.2.2⟩
theorem OwnK.set8 {w : World} {base : Nat} {v : Value} {L : List (Int × List Int)} {vs : List Value} (h : OwnK w base v L vs) {b : Nat} (hb : b < base) (y0 y1 y2 y3 y4 y5 y6 y7 : Value) : OwnK ((((((((w.setCell ⟨b, 0, none⟩ y0).setCell ⟨b, 1, none⟩ y1).setCell ⟨b, 2, none⟩ y2).setCell ⟨b, 3, none⟩ y3).setCell ⟨b, 4, none⟩ y4).setCell ⟨b, 5, none⟩ y5).setCell ⟨b, 6, none⟩ y6).setCell ⟨b, 7, none⟩ y7) base v L vs :=
  (((((((h.setCell_below (a := ⟨b, 0, none⟩) hb y0).setCell_below (a := ⟨b, 1, none⟩) hb y1).setCell_below (a := ⟨b, 2, none⟩) hb y2).setCell_below (a := ⟨b, 3, none⟩) hb y3).setCell_below (a := ⟨b, 4, none⟩) hb y4).setCell_below (a := ⟨b, 5, none⟩) hb y5).setCell_below (a := ⟨b, 6, none⟩) hb y6).setCell_below (a := ⟨b, 7, none⟩) hb y7
theorem TT.setCell_below {w : World} {base : Nat} {v : Value} {cs ss ct st : List Int} (h : TT w base v cs ss ct st) {a : Addr} (ha : a.block < base) (u : Value) : TT (w.setCell a u) base v cs ss ct st := by
  obtain ⟨va, vb, vc, vd, m1, m2, m3, rfl, h1, h2, h3, o1, o2, o3, o4, r⟩ := h
  exact ⟨va, vb, vc, vd, m1, m2, m3, rfl, h1, h2, h3, o1.setCell_below ha u, o2.setCell_below (by omega) u, o3.setCell_below (by omega) u, o4.setCell_below (by omega) u, r⟩
theorem TT.set8 {w : World} {base : Nat} {v : Value} {cs ss ct st : List Int} (h : TT w base v cs ss ct st) {b : Nat} (hb : b < base) (y0 y1 y2 y3 y4 y5 y6 y7 : Value) : TT ((((((((w.setCell ⟨b, 0, none⟩ y0).setCell ⟨b, 1, none⟩ y1).setCell ⟨b, 2, none⟩ y2).setCell ⟨b, 3, none⟩ y3).setCell ⟨b, 4, none⟩ y4).setCell ⟨b, 5, none⟩ y5).setCell ⟨b, 6, none⟩ y6).setCell ⟨b, 7, none⟩ y7) base v cs ss ct st :=
  (((((((h.setCell_below (a := ⟨b, 0, none⟩) hb y0).setCell_below (a := ⟨b, 1, none⟩) hb y1).setCell_below (a := ⟨b, 2, none⟩) hb y2).setCell_below (a := ⟨b, 3, none⟩) hb y3).setCell_below (a := ⟨b, 4, none⟩) hb y4).setCell_below (a := ⟨b, 5, none⟩) hb y5).setCell_below (a := ⟨b, 6, none⟩) hb y6).setCell_below (a := ⟨b, 7, none⟩) hb y7
theorem TOwn.set8 {w : World} {base : Nat} {v : Value} {cs ss ct st : List Int} (h : TOwn w base v cs ss ct st) {b : Nat} (hb : b < base) (y0 y1 y2 y3 y4 y5 y6 y7 : Value) : TOwn ((((((((w.setCell ⟨b, 0, none⟩ y0).setCell ⟨b, 1, none⟩ y1).setCell ⟨b, 2, none⟩ y2).setCell ⟨b, 3, none⟩ y3).setCell ⟨b, 4, none⟩ y4).setCell ⟨b, 5, none⟩ y5).setCell ⟨b, 6, none⟩ y6).setCell ⟨b, 7, none⟩ y7) base v cs ss ct st :=
  (((((((h.setCell_below (a := ⟨b, 0, none⟩) hb y0).setCell_below (a := ⟨b, 1, none⟩) hb y1).setCell_below (a := ⟨b, 2, none⟩) hb y2).setCell_below (a := ⟨b, 3, none⟩) hb y3).setCell_below (a := ⟨b, 4, none⟩) hb y4).setCell_below (a := ⟨b, 5, none⟩) hb y5).setCell_below (a := ⟨b, 6, none⟩) hb y6).setCell_below (a := ⟨b, 7, none⟩) hb y7
theorem size8 (w : World) (b : Nat) (y0 y1 y2 y3 y4 y5 y6 y7 : Value) : ((((((((w.setCell ⟨b, 0, none⟩ y0).setCell ⟨b, 1, none⟩ y1).setCell ⟨b, 2, none⟩ y2).setCell ⟨b, 3, none⟩ y3).setCell ⟨b, 4, none⟩ y4).setCell ⟨b, 5, none⟩ y5).setCell ⟨b, 6, none⟩ y6).setCell ⟨b, 7, none⟩ y7).heap.size = w.heap.size := by simp [World.setCell]

/-- A picture in own memory: the blocks lie below m, the tables from m on. -/
def PO (base : Nat) (w : World) (v : Value) (p : Pk) : Prop :=
  ∃ x0 x1 x2 x3 bv vs m, v = .agg #[.int .i64 p.W, .int .i64 p.H, x0, x1, x2, x3, .string p.N, bv] ∧ base ≤ m ∧ TT w m (.agg #[x0, x1, x2, x3]) p.T.cs p.T.ss p.T.ct p.T.st ∧ OwnK w base bv p.L vs ∧
    (∀ a n c, bv = .slice (some a) n c → a.block < m) ∧ ∀ j, j < p.L.length → ∀ a n c, vs.getD j (.bool false) = .slice (some a) n c → a.block < m
/-- A picture in own memory. -/
def PQ (base : Nat) (w : World) (v : Value) (p : Pk) : Prop :=
  ∃ x0 x1 x2 x3 bv vs, v = .agg #[.int .i64 p.W, .int .i64 p.H, x0, x1, x2, x3, .string p.N, bv] ∧ TOwn w base (.agg #[x0, x1, x2, x3]) p.T.cs p.T.ss p.T.ct p.T.st ∧ OwnK w base bv p.L vs
theorem TT.town {w : World} {base : Nat} {v : Value} {cs ss ct st : List Int} (h : TT w base v cs ss ct st) : TOwn w base v cs ss ct st := by
  obtain ⟨va, vb, vc, vd, m1, m2, m3, rfl, h1, h2, h3, o1, o2, o3, o4, r⟩ := h
  obtain ⟨a0, c0, rfl⟩ := o1.shape
  obtain ⟨a1, c1, rfl⟩ := o2.shape
  obtain ⟨a2, c2, rfl⟩ := o3.shape
  obtain ⟨a3, c3, rfl⟩ := o4.shape
  exact ⟨_, _, _, _, _, _, _, _, rfl, o1, o2.mono (by omega), o3.mono (by omega), o4.mono (by omega)⟩
theorem PO.pq {base : Nat} {w : World} {v : Value} {p : Pk} (h : PO base w v p) : PQ base w v p := by
  obtain ⟨x0, x1, x2, x3, bv, vs, m, rfl, hm, ht, hk, _⟩ := h
  exact ⟨x0, x1, x2, x3, bv, vs, rfl, ht.town.low hm, hk⟩
theorem PQ.pv {base : Nat} {w : World} {v : Value} {p : Pk} (h : PQ base w v p) : PV w v p := by
  obtain ⟨x0, x1, x2, x3, bv, vs, rfl, ht, hk⟩ := h
  have hv := ht.tv
  obtain ⟨a0, c0, a1, c1, a2, c2, a3, c3, e, _⟩ := ht
  obtain ⟨ao, cap, rfl⟩ := hk.shape
  injection e with e
  injection e with e
  injection e with e0 e
  injection e with e1 e
  injection e with e2 e
  injection e with e3 e
  subst e0 e1 e2 e3
  exact ⟨_, _, _, _, _, _, _, _, _, _, rfl, hv, hk.brow⟩
theorem PO.below {base : Nat} {w w' : World} {v : Value} {p : Pk} (h : PO base w v p) (hb : Below w.heap.size w w') : PO base w' v p := by
  obtain ⟨x0, x1, x2, x3, bv, vs, m, rfl, hm, ht, hk, r⟩ := h
  exact ⟨x0, x1, x2, x3, bv, vs, m, rfl, hm, ht.below hb, hk.below hb, r⟩
theorem PQ.below {base : Nat} {w w' : World} {v : Value} {p : Pk} (h : PQ base w v p) (hb : Below w.heap.size w w') : PQ base w' v p := by
  obtain ⟨x0, x1, x2, x3, bv, vs, rfl, ht, hk⟩ := h
  exact ⟨x0, x1, x2, x3, bv, vs, rfl, ht.below hb, hk.below hb⟩
theorem PO.set8 {base : Nat} {w : World} {v : Value} {p : Pk} (h : PO base w v p) {b : Nat} (hb : b < base) (y0 y1 y2 y3 y4 y5 y6 y7 : Value) : PO base ((((((((w.setCell ⟨b, 0, none⟩ y0).setCell ⟨b, 1, none⟩ y1).setCell ⟨b, 2, none⟩ y2).setCell ⟨b, 3, none⟩ y3).setCell ⟨b, 4, none⟩ y4).setCell ⟨b, 5, none⟩ y5).setCell ⟨b, 6, none⟩ y6).setCell ⟨b, 7, none⟩ y7) v p := by
  obtain ⟨x0, x1, x2, x3, bv, vs, m, rfl, hm, ht, hk, r⟩ := h
  exact ⟨x0, x1, x2, x3, bv, vs, m, rfl, hm, ht.set8 (by omega) _ _ _ _ _ _ _ _, hk.set8 hb _ _ _ _ _ _ _ _, r⟩
theorem PQ.set8 {base : Nat} {w : World} {v : Value} {p : Pk} (h : PQ base w v p) {b : Nat} (hb : b < base) (y0 y1 y2 y3 y4 y5 y6 y7 : Value) : PQ base ((((((((w.setCell ⟨b, 0, none⟩ y0).setCell ⟨b, 1, none⟩ y1).setCell ⟨b, 2, none⟩ y2).setCell ⟨b, 3, none⟩ y3).setCell ⟨b, 4, none⟩ y4).setCell ⟨b, 5, none⟩ y5).setCell ⟨b, 6, none⟩ y6).setCell ⟨b, 7, none⟩ y7) v p := by
  obtain ⟨x0, x1, x2, x3, bv, vs, rfl, ht, hk⟩ := h
  exact ⟨x0, x1, x2, x3, bv, vs, rfl, ht.set8 hb _ _ _ _ _ _ _ _, hk.set8 hb _ _ _ _ _ _ _ _⟩
theorem PO.low {base base' : Nat} {w : World} {v : Value} {p : Pk} (h : PO base w v p) (hb : base' ≤ base) : PO base' w v p := by
  obtain ⟨x0, x1, x2, x3, bv, vs, m, rfl, hm, ht, hk, r⟩ := h
  exact ⟨x0, x1, x2, x3, bv, vs, m, rfl, by omega, ht, hk.mono hb, r⟩
theorem PQ.low {base base' : Nat} {w : World} {v : Value} {p : Pk} (h : PQ base w v p) (hb : base' ≤ base) : PQ base' w v p := by
  obtain ⟨x0, x1, x2, x3, bv, vs, rfl, ht, hk⟩ := h
  exact ⟨x0, x1, x2, x3, bv, vs, rfl, ht.low hb, hk.mono hb⟩
end Go.Proofs.YtnnakmgngkpghaaGreat
