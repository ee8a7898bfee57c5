/- copyPic of the program. -/
import Derived.Test.YtnnakmgngkpghaaGreatCpp
namespace Go.Proofs.YtnnakmgngkpghaaGreat
open Go.RowKit Go.Maps
set_option linter.unusedVariables false

/-- What a copy leaves. -/
def CpP (w : World) (p : Pk) (e : Ending) (w' : World) : Prop :=
  ∃ x0 x1 x2 x3 bv vs, e = .returned (.agg #[.int .i64 p.W, .int .i64 p.H, x0, x1, x2, x3, .string p.N, bv]) ∧ Own w' w.heap.size 3 .i64 x0 p.T.cs ∧ Own w' w.heap.size 3 .i64 x1 p.T.ss ∧ Own w' w.heap.size 3 .i64 x2 p.T.ct ∧ Own w' w.heap.size 3 .i64 x3 p.T.st ∧ OwnK w' w.heap.size bv p.L vs ∧ Below w.heap.size w w'

theorem row_low {w : World} {base base' size n : Nat} {e : TypeId} {v : Value} {l : List Value} (h : w.ownsRow base e size v n l) (hb : base' ≤ base) : w.ownsRow base' e size v n l := by
  refine ⟨h.1, ?_⟩
  rcases h.2 with h0 | ⟨g, cap, cur, hv, hg, r⟩
  · exact .inl h0
  · exact .inr ⟨g, cap, cur, hv, Nat.le_trans hb hg, r⟩
/-- What stands at a copy's end, whatever is stored into its box. -/
def Cen (w wr : World) (p : Pk) (x0 x1 x2 x3 bv : Value) (vs : List Value) : Prop :=
  Own wr (w.heap.size + 1 + 1) 3 .i64 x0 p.T.cs ∧ Own wr (w.heap.size + 1 + 1) 3 .i64 x1 p.T.ss ∧ Own wr (w.heap.size + 1 + 1) 3 .i64 x2 p.T.ct ∧ Own wr (w.heap.size + 1 + 1) 3 .i64 x3 p.T.st ∧ OwnK wr (w.heap.size + 1 + 1) bv p.L vs ∧ Below w.heap.size w wr
theorem Cen.set {w wr : World} {p : Pk} {x0 x1 x2 x3 bv : Value} {vs : List Value} (h : Cen w wr p x0 x1 x2 x3 bv vs) (i : Nat) (u : Value) : Cen w (wr.setCell ⟨w.heap.size + 1, i, none⟩ u) p x0 x1 x2 x3 bv vs := by
  obtain ⟨o0, o1, o2, o3, ⟨k1, k2, k3, k4, k5⟩, hb⟩ := h
  have lt : (⟨w.heap.size + 1, i, none⟩ : Addr).block < w.heap.size + 1 + 1 := Nat.lt_succ_self _
  exact ⟨o0.setCell_below lt u, o1.setCell_below lt u, o2.setCell_below lt u, o3.setCell_below lt u, ⟨by simpa [World.setCell] using k1, k2, ownsRow_setCell_below k3 lt u, fun j hj => (k4 j hj).setCell_below lt u, k5⟩, hb.setCell (p := ⟨w.heap.size + 1, i, none⟩) (Nat.le_succ _) u⟩
theorem Cpst.cen {w wr : World} {base B2 : Nat} {p : Pk} {vs0 : List Value} {x0 x1 x2 x3 bv : Value} {vs : List Value} (h : Cpst w wr base B2 p vs0 p.L.length x0 x1 x2 x3 bv vs) : Cen w wr p x0 x1 x2 x3 bv vs := by
  obtain ⟨e1, e2, o0, o1, o2, o3, lt, lo, lb, hbz, row, gl, len, new, inc, old, bel⟩ := h
  exact ⟨o0, o1, o2, o3, ⟨by omega, len, row_low row lo, fun j hj => (new j hj).mono (by omega), fun i j hij hj => inc i j hij hj⟩, bel⟩
theorem Cen.cp {w wr : World} {p : Pk} {x0 x1 x2 x3 bv : Value} {vs : List Value} (h : Cen w wr p x0 x1 x2 x3 bv vs) : CpP w p (.returned (.agg #[.int .i64 p.W, .int .i64 p.H, x0, x1, x2, x3, .string p.N, bv])) wr := by
  obtain ⟨o0, o1, o2, o3, k, hb⟩ := h
  have hl : w.heap.size ≤ w.heap.size + 1 + 1 := by omega
  exact ⟨x0, x1, x2, x3, bv, vs, rfl, o0.mono hl, o1.mono hl, o2.mono hl, o3.mono hl, k.mono hl, hb⟩

set_option maxRecDepth 100000 in
set_option maxHeartbeats 6400000 in
theorem copyPic_any (v : Value) (p : Pk) (vs0 : List Value) (w : World) (hf : p.Fits) (hv : PVq w v p vs0) : Calls Tryz.prog 65 #[v] w (CpP w p) := by
  obtain ⟨t0, t1, t2, t3, bv, rfl, u0, u1, u2, u3, ub⟩ := hv
  have HC0 := hid (fun q (hq : Below w.heap.size w q) => copyCodes_any t0 t1 p.T.cs p.T.ss q hf.h0 hf.h1 (u0.below hq) (u1.below hq))
  have HC1 := hid (fun q (hq : Below w.heap.size w q) => copyCodes_any t2 t3 p.T.ct p.T.st q hf.h2 hf.h3 (u2.below hq) (u3.below hq))
  have HCB := hid (fun q (hq : Below w.heap.size w q) => cloneB_any bv p.L vs0 q hf.hn (ub.below hq))
  have HCN := hid (fun q => strClone_any p.N q (by have := hf.hN; omega))
  have HCV := hid (fun j (hj : j < p.L.length) q (hq : Below w.heap.size w q) => clone_any (vs0.getD j (.bool false)) (nth p.L j).2 q (hf.hs j hj) ((ub.2.1 j hj).below hq))
  have HVP := hid (fun j (hj : j < p.L.length) => ub.2.1 j hj)
  have HVL := hid ub.1
  have HPN := hid hf.hn
  obtain ⟨a0, c0, rfl, _, _⟩ := u0
  obtain ⟨a1, c1, rfl, _, _⟩ := u1
  obtain ⟨a2, c2, rfl, _, _⟩ := u2
  obtain ⟨a3, c3, rfl, _, _⟩ := u3
  obtain ⟨ao, n, cap, rfl⟩ : ∃ ao n cap, bv = .slice ao n cap := by
    rcases ub.2.2 with ⟨rfl, _⟩ | ⟨b, off, c, rfl, _⟩
    · exact ⟨_, _, _, rfl⟩
    · exact ⟨_, _, _, rfl⟩
  obtain ⟨QQ, hQ1, HQ⟩ : ∃ QQ : Ending → World → Prop, QQ = CpP w p ∧ Hid (∀ e w', CpP w p e w' → QQ e w') := ⟨_, rfl, hid (fun _ _ h => h)⟩
  rw [← hQ1]
  have hA := (Below.refl w.heap.size w).alloc (Nat.le_refl _) (.cells #[.int .i64 p.W, .int .i64 p.H, .slice a0 p.T.cs.length c0, .slice a1 p.T.ss.length c1, .slice a2 p.T.ct.length c2, .slice a3 p.T.st.length c3, .string p.N, .slice ao n cap] 36)
  have hA2 := hA.alloc (by simp) (.cells #[.int .i64 0, .int .i64 0, .slice none 0 0, .slice none 0 0, .slice none 0 0, .slice none 0 0, .string ⟨#[]⟩, .slice none 0 0] 36)
  have k1 := Eig.new w (.int .i64 p.W) (.int .i64 p.H) (.slice a0 p.T.cs.length c0) (.slice a1 p.T.ss.length c1) (.slice a2 p.T.ct.length c2) (.slice a3 p.T.st.length c3) (.string p.N) (.slice ao n cap) 36
  have k1' := k1.below ((Below.refl _ _).alloc (Nat.le_refl _) (.cells #[.int .i64 0, .int .i64 0, .slice none 0 0, .slice none 0 0, .slice none 0 0, .slice none 0 0, .string ⟨#[]⟩, .slice none 0 0] 36)) k1.lt
  have k2 := Eig.new (w.alloc (.cells #[.int .i64 p.W, .int .i64 p.H, .slice a0 p.T.cs.length c0, .slice a1 p.T.ss.length c1, .slice a2 p.T.ct.length c2, .slice a3 p.T.st.length c3, .string p.N, .slice ao n cap] 36)) (.int .i64 0) (.int .i64 0) (.slice none 0 0) (.slice none 0 0) (.slice none 0 0) (.slice none 0 0) (.string ⟨#[]⟩) (.slice none 0 0) 36
  have hs1 : (w.alloc (.cells #[.int .i64 p.W, .int .i64 p.H, .slice a0 p.T.cs.length c0, .slice a1 p.T.ss.length c1, .slice a2 p.T.ct.length c2, .slice a3 p.T.st.length c3, .string p.N, .slice ao n cap] 36)).heap.size = w.heap.size + 1 := by simp
  rw [hs1] at k2
  have E1 := hid k1'
  have E2 := hid k2
  have B2 := hid hA2
  clear ub hA hA2 k1 k1' k2 hs1 hQ1 hf
  go_enter Tryz.func65, Tryz.ntmps65
  go_wp2_with fail
  generalize hwa : (w.alloc (.cells #[.int .i64 p.W, .int .i64 p.H, .slice a0 p.T.cs.length c0, .slice a1 p.T.ss.length c1, .slice a2 p.T.ct.length c2, .slice a3 p.T.st.length c3, .string p.N, .slice ao n cap] 36)).alloc (.cells #[.int .i64 0, .int .i64 0, .slice none 0 0, .slice none 0 0, .slice none 0 0, .slice none 0 0, .string ⟨#[]⟩, .slice none 0 0] 36) = wa at *
  clear hwa
  have h12 : w.heap.size + 1 < wa.heap.size := E2.out.lt
  have hlt2 := B2.out.size
  obtain ⟨q0, q1, q2, q3, q4, q5, q6, q7⟩ := E1.out.cells
  have qz := E1.out.free
  go_cut [13] from 5 to 14 (fun s wx => ∃ x0 x1 x2 x3, Eig wx w.heap.size (.int .i64 p.W) (.int .i64 p.H) x0 x1 x2 x3 (.string p.N) (.slice ao n cap) 36 ∧ Eig wx (w.heap.size + 1) (.int .i64 0) (.int .i64 0) (.slice none 0 0) (.slice none 0 0) (.slice none 0 0) (.slice none 0 0) (.string ⟨#[]⟩) (.slice none 0 0) 36 ∧ Own wx (w.heap.size + 1 + 1) 3 .i64 x0 p.T.cs ∧ Own wx (w.heap.size + 1 + 1) 3 .i64 x1 p.T.ss ∧ Own wx (w.heap.size + 1 + 1) 3 .i64 x2 p.T.ct ∧ Own wx (w.heap.size + 1 + 1) 3 .i64 x3 p.T.st ∧ Below w.heap.size w wx)
  case first =>
    have HX := hid (show Below wa.heap.size wa wa from Below.refl _ _)
    go_region_with (first
      | (go_at_call 82; refine (HC0.out _ ?_).mono ?_; · first | exact B2.out.trans (HX.out.mono hlt2) | exact (B2.out.trans (HX.out.mono hlt2)).drew | exact (B2.out.trans (HX.out.mono hlt2)).drew.drew
         rintro e wx ⟨y0, y1, rfl, hy0, hy1, hbx⟩
         have hX2 : Below wa.heap.size wa wx := by first | exact HX.out.trans (hbx.mono HX.out.size) | exact HX.out.drew.trans (hbx.mono HX.out.size) | exact HX.out.drew.drew.trans (hbx.mono HX.out.size)
         obtain ⟨ya, yc, rfl⟩ := hy0.shape
         obtain ⟨yb, yd, rfl⟩ := hy1.shape
         have HY0 := hid (hy0.mono (show wa.heap.size ≤ _ from HX.out.size))
         have HY1 := hid (hy1.mono (show wa.heap.size ≤ _ from HX.out.size))
         try (have HY2 := hid (show Own wx _ 3 .i64 _ _ from by first | exact HY2.out.below hbx | exact HY2.out.below (Below.trans (Below.refl _ _).drew hbx)))
         try (have HY3 := hid (show Own wx _ 3 .i64 _ _ from by first | exact HY3.out.below hbx | exact HY3.out.below (Below.trans (Below.refl _ _).drew hbx)))
         have TX1 := hid (E1.out.below hX2 E1.out.lt)
         have TX2 := hid (E2.out.below hX2 h12)
         obtain ⟨q0, q1, q2, q3, q4, q5, q6, q7⟩ := TX1.out.cells
         have qz := TX1.out.free
         have HX := hid hX2
         clear hy0 hy1 hbx hX2)
      | (go_at_call 82; refine (HC1.out _ ?_).mono ?_; · first | exact B2.out.trans (HX.out.mono hlt2) | exact (B2.out.trans (HX.out.mono hlt2)).drew | exact (B2.out.trans (HX.out.mono hlt2)).drew.drew
         rintro e wx ⟨y0, y1, rfl, hy0, hy1, hbx⟩
         have hX2 : Below wa.heap.size wa wx := by first | exact HX.out.trans (hbx.mono HX.out.size) | exact HX.out.drew.trans (hbx.mono HX.out.size) | exact HX.out.drew.drew.trans (hbx.mono HX.out.size)
         obtain ⟨za, zc, rfl⟩ := hy0.shape
         obtain ⟨zb, zd, rfl⟩ := hy1.shape
         have HY2 := hid (hy0.mono (show wa.heap.size ≤ _ from HX.out.size))
         have HY3 := hid (hy1.mono (show wa.heap.size ≤ _ from HX.out.size))
         try (have HY0 := hid (show Own wx _ 3 .i64 _ _ from by first | exact HY0.out.below hbx | exact HY0.out.below (Below.trans (Below.refl _ _).drew hbx)))
         try (have HY1 := hid (show Own wx _ 3 .i64 _ _ from by first | exact HY1.out.below hbx | exact HY1.out.below (Below.trans (Below.refl _ _).drew hbx)))
         have TX1 := hid (E1.out.below hX2 E1.out.lt)
         have TX2 := hid (E2.out.below hX2 h12)
         obtain ⟨q0, q1, q2, q3, q4, q5, q6, q7⟩ := TX1.out.cells
         have qz := TX1.out.free
         have HX := hid hX2
         clear hy0 hy1 hbx hX2))
    all_goals
      have hw : w.heap.size < wa.heap.size := by omega
      have key : ∀ {v : Value} {xs : List Int} (a b c d : Value), Own wx wa.heap.size 3 .i64 v xs → Own ((((wx.setCell ⟨w.heap.size, 2, none⟩ a).setCell ⟨w.heap.size, 3, none⟩ b).setCell ⟨w.heap.size, 4, none⟩ c).setCell ⟨w.heap.size, 5, none⟩ d) (w.heap.size + 1 + 1) 3 .i64 v xs := fun {v xs} a b c d o =>
        ((((o.setCell_below (a := ⟨w.heap.size, 2, none⟩) hw a).setCell_below (a := ⟨w.heap.size, 3, none⟩) hw b).setCell_below (a := ⟨w.heap.size, 4, none⟩) hw c).setCell_below (a := ⟨w.heap.size, 5, none⟩) hw d).mono h12
      have hne : w.heap.size + 1 ≠ w.heap.size := by omega
      have HE := hid (show _ ∧ _ ∧ _ ∧ _ ∧ _ ∧ _ ∧ _ from ⟨((((TX1.out.set (.slice ya p.T.cs.length yc)).2.2.1.set (.slice yb p.T.ss.length yd)).2.2.2.1.set (.slice za p.T.ct.length zc)).2.2.2.2.1.set (.slice zb p.T.st.length zd)).2.2.2.2.2.1,
        (((TX2.out.other hne (i := 2) (.slice ya p.T.cs.length yc)).other hne (i := 3) (.slice yb p.T.ss.length yd)).other hne (i := 4) (.slice za p.T.ct.length zc)).other hne (i := 5) (.slice zb p.T.st.length zd),
        key (.slice ya p.T.cs.length yc) (.slice yb p.T.ss.length yd) (.slice za p.T.ct.length zc) (.slice zb p.T.st.length zd) HY0.out, key (.slice ya p.T.cs.length yc) (.slice yb p.T.ss.length yd) (.slice za p.T.ct.length zc) (.slice zb p.T.st.length zd) HY1.out, key (.slice ya p.T.cs.length yc) (.slice yb p.T.ss.length yd) (.slice za p.T.ct.length zc) (.slice zb p.T.st.length zd) HY2.out, key (.slice ya p.T.cs.length yc) (.slice yb p.T.ss.length yd) (.slice za p.T.ct.length zc) (.slice zb p.T.st.length zd) HY3.out,
        ((((B2.out.trans (HX.out.mono hlt2)).setCell (p := ⟨w.heap.size, 2, none⟩) (Nat.le_refl _) (.slice ya p.T.cs.length yc)).setCell (p := ⟨w.heap.size, 3, none⟩) (Nat.le_refl _) (.slice yb p.T.ss.length yd)).setCell (p := ⟨w.heap.size, 4, none⟩) (Nat.le_refl _) (.slice za p.T.ct.length zc)).setCell (p := ⟨w.heap.size, 5, none⟩) (Nat.le_refl _) (.slice zb p.T.st.length zd)⟩)
      clear key
      go_wp2_with fail
      go_meet
      exact ⟨_, _, _, _, HE.out.1, HE.out.2.1, HE.out.2.2.1, HE.out.2.2.2.1, HE.out.2.2.2.2.1, HE.out.2.2.2.2.2.1, by first | exact HE.out.2.2.2.2.2.2 | exact HE.out.2.2.2.2.2.2.drew⟩
  case rest =>
    obtain ⟨x0, x1, x2, x3, hE1, hE2, o0, o1, o2, o3, hB⟩ := hcut
    generalize hwc : wc = w2 at *
    clear hwc
    have E3 := hid hE1
    have F3 := hid hE2
    have HO := hid (show Own w2 (w.heap.size + 1 + 1) 3 .i64 x0 p.T.cs ∧ Own w2 (w.heap.size + 1 + 1) 3 .i64 x1 p.T.ss ∧ Own w2 (w.heap.size + 1 + 1) 3 .i64 x2 p.T.ct ∧ Own w2 (w.heap.size + 1 + 1) 3 .i64 x3 p.T.st from ⟨o0, o1, o2, o3⟩)
    obtain ⟨b0, d0, rfl⟩ := o0.shape
    obtain ⟨b1, d1, rfl⟩ := o1.shape
    obtain ⟨b2, d2, rfl⟩ := o2.shape
    obtain ⟨b3, d3, rfl⟩ := o3.shape
    have B3 := hid hB
    clear hE1 hE2 o0 o1 o2 o3 hB q0 q1 q2 q3 q4 q5 q6 q7 qz E1 E2 B2 HC0 HC1
    obtain ⟨q0, q1, q2, q3, q4, q5, q6, q7⟩ := E3.out.cells
    go_wp2_with (first | (go_at_call 83; fail) | fail)
    refine (HCN.out w2).mono ?_
    rintro e w3 ⟨rfl, hb3⟩
    have E4 := hid (E3.out.below hb3 E3.out.lt)
    have F4 := hid (F3.out.below hb3 F3.out.lt)
    have O4 := hid (show Own w3 (w.heap.size + 1 + 1) 3 .i64 (.slice b0 p.T.cs.length d0) p.T.cs ∧ Own w3 (w.heap.size + 1 + 1) 3 .i64 (.slice b1 p.T.ss.length d1) p.T.ss ∧ Own w3 (w.heap.size + 1 + 1) 3 .i64 (.slice b2 p.T.ct.length d2) p.T.ct ∧ Own w3 (w.heap.size + 1 + 1) 3 .i64 (.slice b3 p.T.st.length d3) p.T.st from ⟨HO.out.1.below hb3, HO.out.2.1.below hb3, HO.out.2.2.1.below hb3, HO.out.2.2.2.below hb3⟩)
    have B4 := hid (B3.out.trans (hb3.mono B3.out.size))
    clear hb3 E3 F3 HO B3 q0 q1 q2 q3 q4 q5 q6 q7
    obtain ⟨q0, q1, q2, q3, q4, q5, q6, q7⟩ := E4.out.cells
    have qz := E4.out.free
    have lt1 : w.heap.size < w.heap.size + 1 + 1 := by omega
    have hne : w.heap.size + 1 ≠ w.heap.size := by omega
    have E5 := hid (E4.out.set (.string p.N)).2.2.2.2.2.2.1
    have F5 := hid (F4.out.other hne (i := 6) (.string p.N))
    have B5 := hid (B4.out.setCell (p := ⟨w.heap.size, 6, none⟩) (Nat.le_refl _) (.string p.N))
    have O5 := hid (show Own (w3.setCell ⟨w.heap.size, 6, none⟩ (.string p.N)) (w.heap.size + 1 + 1) 3 .i64 (.slice b0 p.T.cs.length d0) p.T.cs ∧ Own (w3.setCell ⟨w.heap.size, 6, none⟩ (.string p.N)) (w.heap.size + 1 + 1) 3 .i64 (.slice b1 p.T.ss.length d1) p.T.ss ∧ Own (w3.setCell ⟨w.heap.size, 6, none⟩ (.string p.N)) (w.heap.size + 1 + 1) 3 .i64 (.slice b2 p.T.ct.length d2) p.T.ct ∧ Own (w3.setCell ⟨w.heap.size, 6, none⟩ (.string p.N)) (w.heap.size + 1 + 1) 3 .i64 (.slice b3 p.T.st.length d3) p.T.st from
      ⟨O4.out.1.setCell_below (a := ⟨w.heap.size, 6, none⟩) lt1 _, O4.out.2.1.setCell_below (a := ⟨w.heap.size, 6, none⟩) lt1 _, O4.out.2.2.1.setCell_below (a := ⟨w.heap.size, 6, none⟩) lt1 _, O4.out.2.2.2.setCell_below (a := ⟨w.heap.size, 6, none⟩) lt1 _⟩)
    have HCB5 := hid (HCB.out _ B5.out)
    go_wp2_with (first | (go_at_call 84; fail) | fail)
    refine HCB5.out.mono ?_
    generalize hw4e : w3.setCell ⟨w.heap.size, 6, none⟩ (.string p.N) = w4 at *
    clear hw4e E4 F4 O4 B4 q0 q1 q2 q3 q4 q5 q6 q7 qz HCB HCB5
    rintro e w5 ⟨bv, rfl, hrow, hb5⟩
    obtain ⟨vo, vc, rfl⟩ : ∃ vo vc, bv = .slice vo p.L.length vc := by
      rcases hrow.2 with ⟨rfl, h0⟩ | ⟨g, cap, cur, rfl, _⟩
      · exact ⟨none, 0, by rw [h0]⟩
      · exact ⟨_, _, rfl⟩
    have E6 := hid (E5.out.below hb5 E5.out.lt)
    have F6 := hid (F5.out.below hb5 F5.out.lt)
    have h25 : w4.heap.size ≤ w5.heap.size := hb5.size
    have hlo : w.heap.size + 1 + 1 ≤ w4.heap.size := O5.out.1.1
    have hEB : w.heap.size < w4.heap.size := E5.out.lt
    obtain ⟨q0, q1, q2, q3, q4, q5, q6, q7⟩ := E6.out.cells
    have qz := E6.out.free
    have HK := hid (show Cpst w (w5.setCell ⟨w.heap.size, 7, none⟩ (.slice vo p.L.length vc)) w4.heap.size w5.heap.size p vs0 0 (.slice b0 p.T.cs.length d0) (.slice b1 p.T.ss.length d1) (.slice b2 p.T.ct.length d2) (.slice b3 p.T.st.length d3) (.slice vo p.L.length vc) vs0 from {
      e1 := (E6.out.set (.slice vo p.L.length vc)).2.2.2.2.2.2.2
      e2 := F6.out.other hne _
      o0 := (O5.out.1.below hb5).setCell_below (a := ⟨w.heap.size, 7, none⟩) lt1 _
      o1 := (O5.out.2.1.below hb5).setCell_below (a := ⟨w.heap.size, 7, none⟩) lt1 _
      o2 := (O5.out.2.2.1.below hb5).setCell_below (a := ⟨w.heap.size, 7, none⟩) lt1 _
      o3 := (O5.out.2.2.2.below hb5).setCell_below (a := ⟨w.heap.size, 7, none⟩) lt1 _
      lt := fun v hv g hg => by
        rcases hv with rfl | rfl | rfl | rfl
        · exact O5.out.1.lt_of g hg
        · exact O5.out.2.1.lt_of g hg
        · exact O5.out.2.2.1.lt_of g hg
        · exact O5.out.2.2.2.lt_of g hg
      lo := hlo
      lb := h25
      hb := by simp [World.setCell]
      row := ownsRow_setCell_below hrow (a := ⟨w.heap.size, 7, none⟩) hEB _
      gl := fun g hg => (hrow.lt g hg).2
      len := HVL.out
      new := fun j hj => by omega
      inc := fun i j _ hj => by omega
      old := fun j _ => rfl
      bel := (B5.out.trans (hb5.mono B5.out.size)).setCell (p := ⟨w.heap.size, 7, none⟩) (Nat.le_refl _) _ })
    generalize hBB : w4.heap.size = BB at *
    generalize hB2 : w5.heap.size = BZ at *
    clear E5 F5 O5 B5 hb5 hrow E6 F6 hBB hB2
    go_wp2_with fail
    generalize hw6e : w5.setCell ⟨w.heap.size, 7, none⟩ (.slice vo p.L.length vc) = w6 at *
    clear hw6e q0 q1 q2 q3 q4 q5 q6 q7 qz
    go_loopw [26] (fun i wr => ∃ (k : Nat) (vs : List Value), k ≤ p.L.length ∧ i = .int .i64 k ∧ Hid (Cpst w wr BB BZ p vs0 k (.slice b0 p.T.cs.length d0) (.slice b1 p.T.ss.length d1) (.slice b2 p.T.ct.length d2) (.slice b3 p.T.st.length d3) (.slice vo p.L.length vc) vs)) (fun i _ => p.L.length - (intOf i).toNat)
    case atStart => exact ⟨0, vs0, by omega, rfl, HK⟩
    case round =>
      obtain ⟨k, vs, hk, rfl, hst⟩ := hrel
      obtain ⟨q0, q1, q2, q3, q4, q5, q6, q7⟩ := hst.out.e1.cells
      have qz := hst.out.e1.free
      by_cases hlt : k < p.L.length
      · obtain ⟨g, cap', cur, hvv, hgB, hgh, hgn, hgm, hgs, hgt⟩ : ∃ g cap cur, Value.slice vo p.L.length vc = .slice (some ⟨g, 0, none⟩) p.L.length cap ∧ BB ≤ g ∧ wr.heap[g]? = some (.cells cur 65 (0, 0)) ∧ p.L.length ≤ cap ∧ cap ≤ maxLen ∧ cur.size = cap * 2 ∧ cur.toList.take (p.L.length * 2) = flN p.L vs p.L.length := by
          rcases hst.out.row.2 with ⟨_, h0⟩ | h
          · omega
          · exact h
        injection hvv with hvo _ hvc
        subst hvo hvc
        have hcell : ∀ (j : Nat) u, j < p.L.length * 2 → (flN p.L vs p.L.length)[j]? = some u → wr.cell? ⟨g, j, none⟩ = some u := fun j u hj hu => by
          rw [cell_of_row wr g j cur 65 (0, 0) hgh]
          rw [← hgt, List.getElem?_take, if_pos hj] at hu
          simpa using hu
        have hc1 := hcell (k * 2) _ (by omega) (flN_cell p.L vs p.L.length k hlt).1
        have hc2 := hcell (k * 2 + 1) _ (by omega) (flN_cell p.L vs p.L.length k hlt).2
        have hfz : wr.frozen? ⟨g, k * 2 + 1, none⟩ = false := frozen_of_row wr g (k * 2 + 1) cur 65 hgh
        rw [hst.out.old k (Nat.le_refl _)] at hc2
        have HCK := hid (fun q hq => HCV.out k hlt q hq)
        obtain ⟨aa, an, hvk, _, _⟩ := HVP.out k hlt
        rw [hvk] at HCK hc2
        have hlt' : (k : Int) < (p.L.length : Int) := by omega
        have hA := (Below.refl wr.heap.size wr).alloc (Nat.le_refl _) (.cells #[.int .i64 (nth p.L k).1, .slice aa (nth p.L k).2.length an] 65)
        have HAL := hid hA
        have HTB := hid (Two.new wr (.int .i64 (nth p.L k).1) (.slice aa (nth p.L k).2.length an) 65)
        have HEC := hid (fun q (hq : Below wr.heap.size wr q) => show (q.cell? ⟨w.heap.size, 7, none⟩ = some (.slice (some ⟨g, 0, none⟩) p.L.length vc)) ∧ q.cell? ⟨g, k * 2 + 1, none⟩ = some (.slice aa (nth p.L k).2.length an) ∧ q.frozen? ⟨g, k * 2 + 1, none⟩ = false from ⟨(hst.out.e1.below hq hst.out.e1.lt).cells.2.2.2.2.2.2.2, (hq.cell (p := ⟨g, k * 2 + 1, none⟩) (World.block_lt_of_cell? wr _ hc2)).trans hc2, frozen_of_row q g (k * 2 + 1) cur 65 ((hq.block g (Array.getElem?_eq_some_iff.1 hgh).1).trans hgh)⟩)
        have HBW := hid hst.out.bel
        clear hA hgh hcell hgt
        have hkw : IntKind.i64.wrap ((k : Int) + 1) = ((k + 1 : Nat) : Int) := by rw [IntKind.wrap_i64]; have := HPN.out; omega
        generalize hnk : (nth p.L k).1 = dk at *
        go_wp2_with fail
        generalize hwz : wr.alloc (.cells #[.int .i64 dk, .slice aa (nth p.L k).2.length an] 65) = wz at *
        clear hwz
        obtain ⟨z0, z1, z2, z3⟩ := HTB.out.cells
        obtain ⟨y7, yg, yf⟩ := HEC.out _ HAL.out
        clear q0 q1 q2 q3 q4 q5 q6 q7 qz hc1 hc2 hfz
        have hsz := HAL.out.size
        have HX := hid (show Below wz.heap.size wz wz from Below.refl _ _)
        go_region_with (go_at_call 85; refine (HCK.out _ ?_).mono ?_; · first | exact HBW.out.trans ((HAL.out.trans (HX.out.mono hsz)).mono HBW.out.size) | exact (HBW.out.trans ((HAL.out.trans (HX.out.mono hsz)).mono HBW.out.size)).drew
                        rintro e wx ⟨y, rfl, hoy, hbx⟩
                        have hX2 : Below wz.heap.size wz wx := by first | exact HX.out.trans (hbx.mono HX.out.size) | exact HX.out.drew.trans (hbx.mono HX.out.size)
                        obtain ⟨ya, yc, rfl⟩ := hoy.shape
                        have HOY := hid (hoy.mono (show wr.heap.size ≤ _ from Nat.le_trans hsz HX.out.size))
                        obtain ⟨y7, yg, yf⟩ := HEC.out _ (HAL.out.trans (hX2.mono hsz))
                        have HX := hid hX2
                        clear hoy hbx hX2)
        all_goals
          have hYY := hid (Cpst.step (y := .slice ya (nth p.L k).2.length yc) (w2 := wx) hst.out hlt (HAL.out.trans (HX.out.mono hsz)) HOY.out)
          go_wp2_with fail
          go_roundw
          case rel => exact ⟨k + 1, _, by omega, by go_num, hid (by first | exact hYY.out | exact hYY.out.drew)⟩
          case measure => simp [intOf]; omega
      · obtain rfl : k = p.L.length := by omega
        have HCE := hid ((((((((hst.out.cen.set 0 (.int .i64 p.W)).set 1 (.int .i64 p.H)).set 2 (.slice b0 p.T.cs.length d0)).set 3 (.slice b1 p.T.ss.length d1)).set 4 (.slice b2 p.T.ct.length d2)).set 5 (.slice b3 p.T.st.length d3)).set 6 (.string p.N)).set 7 (.slice vo p.L.length vc)).cp
        have HCL := hid (((((((((hst.out.e2.set (.int .i64 p.W)).1.set (.int .i64 p.H)).2.1.set (.slice b0 p.T.cs.length d0)).2.2.1.set (.slice b1 p.T.ss.length d1)).2.2.2.1.set (.slice b2 p.T.ct.length d2)).2.2.2.2.1.set (.slice b3 p.T.st.length d3)).2.2.2.2.2.1.set (.string p.N)).2.2.2.2.2.2.1.set (.slice vo p.L.length vc)).2.2.2.2.2.2.2.cells)
        obtain ⟨q0, q1, q2, q3, q4, q5, q6, q7⟩ := hst.out.e1.cells
        obtain ⟨s0, s1, s2, s3, s4, s5, s6, s7⟩ := hst.out.e2.cells
        have fz := hst.out.e2.free
        have hge : ¬ ((p.L.length : Int) < (p.L.length : Int)) := by omega
        clear HCV HVP HVL HPN
        go_wp2_with fail
        generalize hwf : (((((((wr.setCell ⟨w.heap.size + 1, 0, none⟩ (.int .i64 p.W)).setCell ⟨w.heap.size + 1, 1, none⟩ (.int .i64 p.H)).setCell ⟨w.heap.size + 1, 2, none⟩ (.slice b0 p.T.cs.length d0)).setCell ⟨w.heap.size + 1, 3, none⟩ (.slice b1 p.T.ss.length d1)).setCell ⟨w.heap.size + 1, 4, none⟩ (.slice b2 p.T.ct.length d2)).setCell ⟨w.heap.size + 1, 5, none⟩ (.slice b3 p.T.st.length d3)).setCell ⟨w.heap.size + 1, 6, none⟩ (.string p.N)).setCell ⟨w.heap.size + 1, 7, none⟩ (.slice vo p.L.length vc) = wf at *
        obtain ⟨s0, s1, s2, s3, s4, s5, s6, s7⟩ := HCL.out
        exact bodyPost_ret (v := .agg #[.int .i64 p.W, .int .i64 p.H, .slice b0 p.T.cs.length d0, .slice b1 p.T.ss.length d1, .slice b2 p.T.ct.length d2, .slice b3 p.T.st.length d3, .string p.N, .slice vo p.L.length vc]) (by simp [results, Tryz.results65, go_sem, s0, s1, s2, s3, s4, s5, s6, s7]) rfl (HQ.out _ _ HCE.out)
end Go.Proofs.YtnnakmgngkpghaaGreat
