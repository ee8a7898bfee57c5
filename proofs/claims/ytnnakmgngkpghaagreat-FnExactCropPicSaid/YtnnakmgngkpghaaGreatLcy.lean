/- l05Copy of the specification. -/
import Derived.Test.YtnnakmgngkpghaaGreatLcc
import Derived.Test.YtnnakmgngkpghaaGreatKpb
import Derived.Test.YtnnakmgngkpghaaGreatSht
namespace Go.Proofs.YtnnakmgngkpghaaGreat
open Go.RowKit Go.Maps
set_option linter.unusedVariables false

theorem take_nth (L : List (Int × List Int)) (k : Nat) (h : k < L.length) : L.take (k + 1) = L.take k ++ [nth L k] := by
  rw [List.take_add_one]
  simp [nth, List.getD, h]
/-- What the operations of the round leave. -/
def VP (x3 : Value) (b0 b off len cap k : Nat) (d : Int) (rv : Value) (xs : List Int) (M : Nat) : Nat → Value → World → Prop
  | 0, u, _ => u = x3
  | 1, u, _ => u = .pointer (some ⟨b0, 7, none⟩)
  | 2, u, _ => u = .slice (some ⟨b, off, none⟩) len cap
  | 3, u, _ => u = .int .i64 k
  | 4, u, _ => u = .pointer (some ⟨b, off + k * 2, none⟩)
  | 5, u, _ => u = .pointer (some ⟨b, off + k * 2, none⟩)
  | 6, u, _ => u = .int .i64 d
  | 7, u, w => ∃ g, u = .slice (some ⟨g, 0, none⟩) 0 0 ∧ Own w M 3 .i64 u []
  | 8, u, _ => u = .pointer (some ⟨b0, 7, none⟩)
  | 9, u, _ => u = .slice (some ⟨b, off, none⟩) len cap
  | 10, u, _ => u = .int .i64 k
  | 11, u, _ => u = .pointer (some ⟨b, off + k * 2, none⟩)
  | 12, u, _ => u = .pointer (some ⟨b, off + k * 2 + 1, none⟩)
  | 13, u, _ => u = rv
  | 14, u, w => Own w M 3 .i64 u xs
  | 15, u, w => ∃ a c, u = .agg #[.int .i64 d, .slice a xs.length c] ∧ Own w M 3 .i64 (.slice a xs.length c) xs
  | 16, u, w => ∃ g a c, u = .slice (some ⟨g, 0, none⟩) 1 1 ∧ Two w g (.int .i64 d) (.slice a xs.length c) 65 ∧ Own w M 3 .i64 (.slice a xs.length c) xs
  | _, _, _ => True
theorem VP.below {x3 : Value} {b0 b off len cap k : Nat} {d : Int} {rv : Value} {xs : List Int} {M : Nat} {w w' : World} (hb : Below w.heap.size w w') (j : Nat) (hj : j < 17) (u : Value) (h : VP x3 b0 b off len cap k d rv xs M j u w) : VP x3 b0 b off len cap k d rv xs M j u w' := by
  obtain rfl | rfl | rfl | rfl | rfl | rfl | rfl | rfl | rfl | rfl | rfl | rfl | rfl | rfl | rfl | rfl | rfl : j = 0 ∨ j = 1 ∨ j = 2 ∨ j = 3 ∨ j = 4 ∨ j = 5 ∨ j = 6 ∨ j = 7 ∨ j = 8 ∨ j = 9 ∨ j = 10 ∨ j = 11 ∨ j = 12 ∨ j = 13 ∨ j = 14 ∨ j = 15 ∨ j = 16 := by omega
  all_goals first
    | exact h
    | (obtain ⟨g, e, h1⟩ := h; exact ⟨g, e, h1.below hb⟩)
    | exact Own.below h hb
    | (obtain ⟨a, c, e, h1⟩ := h; exact ⟨a, c, e, h1.below hb⟩)
    | (obtain ⟨g, a, c, e, h1, h2⟩ := h; exact ⟨g, a, c, e, h1.below hb h1.lt, h2.below hb⟩)
def DP (j : Nat) : Nat := j + 25
/-- One block more, in whatever world it was laid. -/
theorem OwnK.pushed2 {w w' : World} {base : Nat} {v v' : Value} {S : List (Int × List Int)} {vs : List Value} {x : Int × List Int} {y : Value} (h : OwnK w base v S vs) (hy : Own w base 3 .i64 y x.2)
    (hyb : ∀ j, j < S.length → ∀ (a a' : Addr) (n n' c c' : Nat), vs.getD j (.bool false) = .slice (some a) n c → y = .slice (some a') n' c' → a.block < a'.block)
    (hown' : w'.ownsRow base 65 2 v' (S.length + 1) (flN S vs S.length ++ [.int .i64 x.1, y])) (hgrow : w.grownBy w' v.ownBlock) : OwnK w' base v' (S ++ [x]) (vs ++ [y]) := by
  obtain ⟨hb, hvl, hrow, hels, hdis⟩ := h
  have hsz : w.heap.size ≤ w'.heap.size := hgrow.size
  have hkeep : ∀ (g : Nat) (cur : Array Value), w.heap[g]? = some (.cells cur 3 (0, 0)) → w'.heap[g]? = some (.cells cur 3 (0, 0)) := by
    intro g cur hg
    have hglt : g < w.heap.size := (Array.getElem?_eq_some_iff.1 hg).1
    refine (hgrow.block g hglt ?_).trans hg
    intro eq
    rcases hrow.2 with ⟨hv, _⟩ | ⟨g', cap, cur', hv, hg', hh, _⟩
    · subst hv; cases eq
    · subst hv
      have : g = g' := by simpa [Value.ownBlock] using eq
      subst this
      rw [hg] at hh
      cases hh
  have hkeepO : ∀ (y : Value) (ys : List Int), Own w base 3 .i64 y ys → Own w' base 3 .i64 y ys := by
    intro y ys hyo
    refine ⟨Nat.le_trans hyo.1 hsz, hyo.2.1, ?_⟩
    rcases hyo.2.2 with h0 | ⟨g, cap, cur, hv, hg, hh, r⟩
    · exact .inl h0
    · exact .inr ⟨g, cap, cur, hv, hg, hkeep g cur hh, r⟩
  have hleft : ∀ j, j < S.length → (vs ++ [y]).getD j (.bool false) = vs.getD j (.bool false) := fun j hj => by
    simp only [List.getD]
    rw [List.getElem?_append_left (by omega)]
  have hlast : (vs ++ [y]).getD S.length (.bool false) = y := by simp [← hvl]
  refine ⟨Nat.le_trans hb hsz, by simp [hvl], ?_, fun j hj => ?_, fun i j hij hj a a' n n' c c' e1 e2 => ?_⟩
  · rw [List.length_append, List.length_singleton, flN_full S vs x _ hvl]
    exact hown'
  · by_cases e : j < S.length
    · rw [nth_left S _ j e, hleft j e]
      exact hkeepO _ _ (hels j e)
    · have ej : j = S.length := by simp at hj; omega
      subst ej
      rw [nth_last, hlast]
      exact hkeepO _ _ hy
  · simp at hj
    by_cases e : j < S.length
    · rw [hleft j e] at e2
      rw [hleft i (by omega)] at e1
      exact hdis i j hij e a a' n n' c c' e1 e2
    · have ej : j = S.length := by omega
      subst ej
      rw [hlast] at e2
      rw [hleft i hij] at e1
      exact hyb i hij a a' n n' c c' e1 e2

set_option maxRecDepth 100000 in
set_option maxHeartbeats 3200000 in
theorem spec_copy (v : Value) (p : Pk) (vs0 : List Value) (w : World) (hf : p.Fits) (hv : PVq w v p vs0) :
    Calls Tryz.prog 60 #[v] w fun e w' => ∃ v', e = .returned v' ∧ PQ w.heap.size w' v' p ∧ Below w.heap.size w w' := by
  obtain ⟨t0, t1, t2, t3, bv, rfl, u0, u1, u2, u3, ub⟩ := hv
  have HC0 := hid (fun q (hq : Below w.heap.size w q) => spec_copyCodes t0 t1 p.T.cs p.T.ss q hf.h0 hf.h1 (u0.below hq) (u1.below hq))
  have HC1 := hid (fun q (hq : Below w.heap.size w q) => spec_copyCodes t2 t3 p.T.ct p.T.st q hf.h2 hf.h3 (u2.below hq) (u3.below hq))
  have HUB := hid ub
  have HFN := hid hf.hn
  have HFS := hid hf.hs
  obtain ⟨a0, c0, rfl, _, _⟩ := u0
  obtain ⟨a1, c1, rfl, _, _⟩ := u1
  obtain ⟨a2, c2, rfl, _, _⟩ := u2
  obtain ⟨a3, c3, rfl, _, _⟩ := u3
  obtain ⟨ao, cap, rfl⟩ : ∃ ao cap, bv = .slice ao p.L.length cap := by
    rcases ub.2.2 with ⟨rfl, h⟩ | ⟨b, off, c, rfl, _⟩
    · exact ⟨none, 0, by rw [h]; rfl⟩
    · exact ⟨_, _, rfl⟩
  have hA := (Below.refl w.heap.size w).alloc (Nat.le_refl _) (.cells #[.int .i64 p.W, .int .i64 p.H, .slice a0 p.T.cs.length c0, .slice a1 p.T.ss.length c1, .slice a2 p.T.ct.length c2, .slice a3 p.T.st.length c3, .string p.N, .slice ao p.L.length cap] 36)
  have hA2 := hA.alloc (by simp) (.cells #[.int .i64 0, .int .i64 0, .slice none 0 0, .slice none 0 0, .slice none 0 0, .slice none 0 0, .string ⟨#[]⟩, .slice none 0 0] 36)
  have k1 := Eig.new w (.int .i64 p.W) (.int .i64 p.H) (.slice a0 p.T.cs.length c0) (.slice a1 p.T.ss.length c1) (.slice a2 p.T.ct.length c2) (.slice a3 p.T.st.length c3) (.string p.N) (.slice ao p.L.length cap) 36
  have k1' := k1.below ((Below.refl _ _).alloc (Nat.le_refl _) (.cells #[.int .i64 0, .int .i64 0, .slice none 0 0, .slice none 0 0, .slice none 0 0, .slice none 0 0, .string ⟨#[]⟩, .slice none 0 0] 36)) k1.lt
  have k2 := Eig.new (w.alloc (.cells #[.int .i64 p.W, .int .i64 p.H, .slice a0 p.T.cs.length c0, .slice a1 p.T.ss.length c1, .slice a2 p.T.ct.length c2, .slice a3 p.T.st.length c3, .string p.N, .slice ao p.L.length cap] 36)) (.int .i64 0) (.int .i64 0) (.slice none 0 0) (.slice none 0 0) (.slice none 0 0) (.slice none 0 0) (.string ⟨#[]⟩) (.slice none 0 0) 36
  have hs1 : (w.alloc (.cells #[.int .i64 p.W, .int .i64 p.H, .slice a0 p.T.cs.length c0, .slice a1 p.T.ss.length c1, .slice a2 p.T.ct.length c2, .slice a3 p.T.st.length c3, .string p.N, .slice ao p.L.length cap] 36)).heap.size = w.heap.size + 1 := by simp
  rw [hs1] at k2
  have E1 := hid k1'
  have E2 := hid k2
  have B2 := hid hA2
  clear ub hA hA2 k1 k1' k2 hs1 hf
  go_enter Tryz.func60, Tryz.ntmps60
  go_wp2_with (first | (go_at_call 76; fail) | fail)
  refine (HC0.out _ B2.out).mono ?_
  generalize (w.alloc _).alloc _ = wa at *
  rintro e w1 ⟨x0, x1, rfl, o0, o1, hb1⟩
  obtain ⟨b0, d0, rfl⟩ := o0.shape
  obtain ⟨b1, d1, rfl⟩ := o1.shape
  have h12 : w.heap.size + 1 < wa.heap.size := E2.out.lt
  have h02 : w.heap.size < wa.heap.size := by omega
  have hlt2 := B2.out.size
  have hne : w.heap.size + 1 ≠ w.heap.size := by omega
  have e1 := E1.out.below hb1 E1.out.lt
  obtain ⟨q0, q1, q2, q3, q4, q5, q6, q7⟩ := e1.cells
  have qz := e1.free
  have E3 := hid ((e1.set (.slice b0 p.T.cs.length d0)).2.2.1.set (.slice b1 p.T.ss.length d1)).2.2.2.1
  have F3 := hid (((E2.out.below hb1 E2.out.lt).other hne (i := 2) (.slice b0 p.T.cs.length d0)).other hne (i := 3) (.slice b1 p.T.ss.length d1))
  have B3 := hid (((B2.out.trans (hb1.mono hlt2)).setCell (p := ⟨w.heap.size, 2, none⟩) (Nat.le_refl _) (.slice b0 p.T.cs.length d0)).setCell (p := ⟨w.heap.size, 3, none⟩) (Nat.le_refl _) (.slice b1 p.T.ss.length d1))
  have P0 := hid ((o0.setCell_below (a := ⟨w.heap.size, 2, none⟩) h02 (.slice b0 p.T.cs.length d0)).setCell_below (a := ⟨w.heap.size, 3, none⟩) h02 (.slice b1 p.T.ss.length d1))
  have P1 := hid ((o1.setCell_below (a := ⟨w.heap.size, 2, none⟩) h02 (.slice b0 p.T.cs.length d0)).setCell_below (a := ⟨w.heap.size, 3, none⟩) h02 (.slice b1 p.T.ss.length d1))
  clear e1 o0 o1 hb1 E1 E2 B2 HC0
  go_wp2_with (first | (go_at_call 76; fail) | fail)
  generalize ((w1.setCell ⟨w.heap.size, 2, none⟩ (.slice b0 p.T.cs.length d0)).setCell ⟨w.heap.size, 3, none⟩ (.slice b1 p.T.ss.length d1)) = w2 at *
  clear q0 q1 q2 q3 q4 q5 q6 q7 qz
  refine (HC1.out _ B3.out).mono ?_
  rintro e w3 ⟨x2, x3, rfl, o2, o3, hb3⟩
  obtain ⟨b2, d2, rfl⟩ := o2.shape
  obtain ⟨b3, d3, rfl⟩ := o3.shape
  have h22 : wa.heap.size ≤ w2.heap.size := P0.out.1
  have h03 : w.heap.size < w2.heap.size := by omega
  have e3 := E3.out.below hb3 E3.out.lt
  obtain ⟨q0, q1, q2, q3, q4, q5, q6, q7⟩ := e3.cells
  have qz := e3.free
  have E5 := ((e3.set (.slice b2 p.T.ct.length d2)).2.2.2.2.1.set (.slice b3 p.T.st.length d3)).2.2.2.2.2.1
  have F5 := (((F3.out.below hb3 F3.out.lt).other hne (i := 4) (.slice b2 p.T.ct.length d2)).other hne (i := 5) (.slice b3 p.T.st.length d3))
  have B5 := (((B3.out.trans (hb3.mono B3.out.size)).setCell (p := ⟨w.heap.size, 4, none⟩) (Nat.le_refl _) (.slice b2 p.T.ct.length d2)).setCell (p := ⟨w.heap.size, 5, none⟩) (Nat.le_refl _) (.slice b3 p.T.st.length d3))
  have kp : ∀ {v : Value} {xs : List Int} {b : Nat}, wa.heap.size ≤ b → Own w3 b 3 .i64 v xs → Own ((w3.setCell ⟨w.heap.size, 4, none⟩ (.slice b2 p.T.ct.length d2)).setCell ⟨w.heap.size, 5, none⟩ (.slice b3 p.T.st.length d3)) wa.heap.size 3 .i64 v xs := fun {v xs b} hb o =>
    ((o.mono hb).setCell_below (a := ⟨w.heap.size, 4, none⟩) h02 _).setCell_below (a := ⟨w.heap.size, 5, none⟩) h02 _
  have R0 := kp (Nat.le_refl _) (P0.out.below hb3)
  have R1 := kp (Nat.le_refl _) (P1.out.below hb3)
  have R2 := kp h22 o2
  have R3 := kp h22 o3
  obtain ⟨W5, hW5⟩ : ∃ W5, W5 = ((w3.setCell ⟨w.heap.size, 4, none⟩ (.slice b2 p.T.ct.length d2)).setCell ⟨w.heap.size, 5, none⟩ (.slice b3 p.T.st.length d3)) := ⟨_, rfl⟩
  have hW5s : W5.heap.size = w3.heap.size := by rw [hW5]; simp [World.setCell]
  rw [← hW5] at E5 F5 B5 R0 R1 R2 R3
  have hA5 := (Below.refl W5.heap.size W5).alloc (Nat.le_refl _) (.cells #[] 65)
  have E6 := hid (E5.below hA5 E5.lt)
  have F6 := hid (F5.below hA5 F5.lt)
  have B6 := hid (B5.trans (hA5.mono B5.size))
  have R6 := hid (show (Own (W5.alloc (.cells #[] 65)) wa.heap.size 3 .i64 (.slice b0 p.T.cs.length d0) p.T.cs ∧ Own (W5.alloc (.cells #[] 65)) wa.heap.size 3 .i64 (.slice b1 p.T.ss.length d1) p.T.ss ∧ Own (W5.alloc (.cells #[] 65)) wa.heap.size 3 .i64 (.slice b2 p.T.ct.length d2) p.T.ct ∧ Own (W5.alloc (.cells #[] 65)) wa.heap.size 3 .i64 (.slice b3 p.T.st.length d3) p.T.st) ∧ (∀ g, (Value.slice b0 p.T.cs.length d0).ownBlock = some g → g < W5.heap.size) ∧ (∀ g, (Value.slice b1 p.T.ss.length d1).ownBlock = some g → g < W5.heap.size) ∧ (∀ g, (Value.slice b2 p.T.ct.length d2).ownBlock = some g → g < W5.heap.size) ∧ (∀ g, (Value.slice b3 p.T.st.length d3).ownBlock = some g → g < W5.heap.size) from
    ⟨⟨R0.below hA5, R1.below hA5, R2.below hA5, R3.below hA5⟩, fun g hg => (R0.2.lt g hg).2, fun g hg => (R1.2.lt g hg).2, fun g hg => (R2.2.lt g hg).2, fun g hg => (R3.2.lt g hg).2⟩)
  have K6 := hid (OwnK.empty W5 W5.heap.size (Nat.le_refl _))
  have hw5 : wa.heap.size ≤ W5.heap.size := R0.1
  clear E5 F5 B5 R0 R1 R2 R3 e3 o2 o3 hb3 E3 F3 B3 P0 P1 HC1 kp hA5
  go_wp2_with fail
  rw [← hW5]
  clear hW5 q0 q1 q2 q3 q4 q5 q6 q7 qz
  obtain ⟨BB, hBB⟩ : ∃ BB, BB = w3.heap.size := ⟨_, rfl⟩
  have hBs : BB < (W5.alloc (.cells #[] 65)).heap.size := by rw [hBB, ← hW5s]; simp
  rw [hW5s, ← hBB] at R6 K6 hw5
  rw [← hBB]
  generalize W5.alloc (.cells #[] 65) = wl at *
  clear hBB hW5s
  go_loopw [3, 4] (fun t3 t4 wr => ∃ (k : Nat) (vs : List Value), k ≤ p.L.length ∧ t4 = .int .i64 k ∧ Hid (OwnK wr BB t3 (p.L.take k) vs) ∧ Hid (Below BB wl wr)) (fun _ i _ => p.L.length - (intOf i).toNat)
  case atStart => exact ⟨0, [], by omega, rfl, K6, hid (Below.refl _ _)⟩
  case round =>
    obtain ⟨k, vs, hk, rfl, hown, hbr⟩ := hrel
    have E7 := hid (E6.out.below hbr.out (show w.heap.size < BB by omega))
    have C7 := hid (B6.out.trans (hbr.out.mono (show w.heap.size ≤ BB by omega)))
    obtain ⟨q0, q1, q2, q3, q4, q5, q6, q7⟩ := E7.out.cells
    by_cases hlt : k < p.L.length
    · have hlt' : (k : Int) < (p.L.length : Int) := by omega
      have hHV := HUB.out.below C7.out
      obtain ⟨_, b, off, rfl, hc1, hc2, hvp⟩ := hHV.at k hlt
      have HVP := hid hvp
      obtain ⟨ra, rc, hrv, _, _⟩ := hvp
      rw [hrv] at hc2 HVP
      have HK := hid (show ∀ q, Below wr.heap.size wr q → q.cell? ⟨w.heap.size, 7, none⟩ = some (.slice (some ⟨b, off, none⟩) p.L.length cap) ∧ q.cell? ⟨b, off + k * 2, none⟩ = some (.int .i64 (nth p.L k).1) ∧ q.cell? ⟨b, off + k * 2 + 1, none⟩ = some (.slice ra (nth p.L k).2.length rc) ∧ Vp q (.slice ra (nth p.L k).2.length rc) (nth p.L k).2 from fun q hq =>
        ⟨(E7.out.below hq E7.out.lt).cells.2.2.2.2.2.2.2, (hq.cell (p := ⟨b, off + k * 2, none⟩) (World.block_lt_of_cell? _ _ hc1)).trans hc1, (hq.cell (p := ⟨b, off + k * 2 + 1, none⟩) (World.block_lt_of_cell? _ _ hc2)).trans hc2, HVP.out.below hq⟩)
      have HXL := hid (HFS.out k hlt)
      have HTK := hid (take_nth p.L k hlt)
      have HKL := hid (show (p.L.take k).length = k by rw [List.length_take]; omega)
      clear hHV hc1 hc2 HVP hrv
      go_wp2_with fail
      have HD := hid (show (nth p.L k) = ((nth p.L k).1, (nth p.L k).2) from rfl)
      generalize (nth p.L k).1 = d at *
      generalize hxs : (nth p.L k).2 = xs at *
      generalize hrv : Value.slice ra xs.length rc = rv at *
      generalize p.L.take k = S at *
      refine wp_region_any (by kernel_rfl) ?_
      refine wpAny_inv (fun listed ac wq => ∃ u : Nat → Value, ac = { tmps := #[.agg #[.int .i64 p.W, .int .i64 p.H, .slice a0 p.T.cs.length c0, .slice a1 p.T.ss.length c1, .slice a2 p.T.ct.length c2, .slice a3 p.T.st.length c3, .string p.N, .slice (some ⟨b, off, none⟩) p.L.length cap], .pointer (some ⟨w.heap.size, 0, none⟩), .pointer (some ⟨w.heap.size + 1, 0, none⟩), u 3, .int .i64 k, .pointer (some ⟨w.heap.size, 2, none⟩), .pointer (some ⟨w.heap.size, 2, none⟩), .agg #[.slice a0 p.T.cs.length c0, .slice a1 p.T.ss.length c1], .agg #[.slice b0 p.T.cs.length d0, .slice b1 p.T.ss.length d1], .pointer (some ⟨w.heap.size, 2, none⟩), .pointer (some ⟨w.heap.size, 2, none⟩), .pointer (some ⟨w.heap.size, 2, none⟩), .pointer (some ⟨w.heap.size, 4, none⟩), .agg #[.slice a2 p.T.ct.length c2, .slice a3 p.T.st.length c3], .agg #[.slice b2 p.T.ct.length d2, .slice b3 p.T.st.length d3], .pointer (some ⟨w.heap.size, 2, none⟩), .pointer (some ⟨w.heap.size, 4, none⟩), .slice (some ⟨BB, 0, none⟩) 0 0, .int .i64 k, .pointer (some ⟨w.heap.size, 7, none⟩), .slice (some ⟨b, off, none⟩) p.L.length cap, .int .i64 p.L.length, .bool true, u23, u24, u 25, u 26, u 27, u 28, u 29, u 30, u 31, u 32, u 33, u 34, u 35, u 36, u 37, u 38, u 39, u 40, u 41, u 42, undef, undef, undef], defers := [] } ∧ Inv2 17 (VP u3 w.heap.size b off p.L.length cap k d rv xs wr.heap.size) DP (fun q => Below wr.heap.size wr q) (fun u => u 3 = u3) (fun listed u q => (∃ y, OwnK q BB (u 42) (S ++ [(d, xs)]) (vs ++ [y]) ∧ Below BB wr q) ∧ (listed.getD 18 false = true → u 3 = u 42)) listed u wq) ?hpre ?hstep ?hend _ _ _ _ rfl (by decide) (fun j oj _ hl => absurd hl (by simp [Array.getD])) ⟨upd (upd (upd (upd (upd (upd (upd (upd (upd (upd (upd (upd (upd (upd (upd (upd (upd (upd (upd (fun _ => undef) 3 u3) 25 u25) 26 u26) 27 u27) 28 u28) 29 u29) 30 u30) 31 u31) 32 u32) 33 u33) 34 u34) 35 u35) 36 u36) 37 u37) 38 u38) 39 u39) 40 u40) 41 u41) 42 u42, by simp [upd], fun _ => ⟨(Below.refl wr.heap.size wr).drew, by simp [upd], fun j _ hl => absurd hl (by simp [Array.getD])⟩, fun h => absurd h (by simp [Array.getD])⟩
      case hpre => exact pre_of (by kernel_rfl)
      case hend =>
        rintro listed ac wq hall ⟨u, rfl, hI⟩
        obtain ⟨⟨y, ok, hb⟩, h3⟩ := hI.2 (hall 17 (by decide))
        have h3' := h3 (hall 18 (by decide))
        have HOK := hid ok
        have HB := hid hb
        have H3 := hid h3'
        clear hI ok hb h3 h3'
        have hfn := HFN.out
        go_wp2_with fail
        go_roundw
        case rel =>
          refine ⟨k + 1, vs ++ [y], by omega, by go_num, hid ?_, hid (hbr.out.trans HB.out)⟩
          rw [HTK.out, HD.out, H3.out]
          exact HOK.out
        case measure =>
          simp only [intOf]
          omega
      case hstep =>
        rintro listed ac wq i o hszl ⟨u, rfl, hI⟩ ho hall hun hcl
        have hin : i < 19 := (Array.getElem?_eq_some_iff.1 ho).1
        have HNS : Hid (i < 17 → listed.getD 17 false = false) := hid (fun hi => by
          cases hl : listed.getD 17 false with
          | false => rfl
          | true =>
            exfalso
            have l0 := hcl 17 _ rfl hl ⟨0, .data⟩ (by simp) rfl
            have l16 := hcl 17 _ rfl hl ⟨16, .data⟩ (by simp) rfl
            have l15 := hcl 16 _ rfl l16 ⟨15, .data⟩ (by simp) rfl
            have l6 := hcl 15 _ rfl l15 ⟨6, .data⟩ (by simp) rfl
            have l14 := hcl 15 _ rfl l15 ⟨14, .data⟩ (by simp) rfl
            have l5 := hcl 6 _ rfl l6 ⟨5, .data⟩ (by simp) rfl
            have l7 := hcl 14 _ rfl l14 ⟨7, .data⟩ (by simp) rfl
            have l13 := hcl 14 _ rfl l14 ⟨13, .data⟩ (by simp) rfl
            have l4 := hcl 5 _ rfl l5 ⟨4, .data⟩ (by simp) rfl
            have l12 := hcl 13 _ rfl l13 ⟨12, .data⟩ (by simp) rfl
            have l2 := hcl 4 _ rfl l4 ⟨2, .data⟩ (by simp) rfl
            have l3 := hcl 4 _ rfl l4 ⟨3, .data⟩ (by simp) rfl
            have l11 := hcl 12 _ rfl l12 ⟨11, .data⟩ (by simp) rfl
            have l1 := hcl 2 _ rfl l2 ⟨1, .data⟩ (by simp) rfl
            have l9 := hcl 11 _ rfl l11 ⟨9, .data⟩ (by simp) rfl
            have l10 := hcl 11 _ rfl l11 ⟨10, .data⟩ (by simp) rfl
            have l8 := hcl 9 _ rfl l9 ⟨8, .data⟩ (by simp) rfl
            obtain rfl | rfl | rfl | rfl | rfl | rfl | rfl | rfl | rfl | rfl | rfl | rfl | rfl | rfl | rfl | rfl | rfl : i = 0 ∨ i = 1 ∨ i = 2 ∨ i = 3 ∨ i = 4 ∨ i = 5 ∨ i = 6 ∨ i = 7 ∨ i = 8 ∨ i = 9 ∨ i = 10 ∨ i = 11 ∨ i = 12 ∨ i = 13 ∨ i = 14 ∨ i = 15 ∨ i = 16 := by omega
            · exact getD_ft l0 hun
            · exact getD_ft l1 hun
            · exact getD_ft l2 hun
            · exact getD_ft l3 hun
            · exact getD_ft l4 hun
            · exact getD_ft l5 hun
            · exact getD_ft l6 hun
            · exact getD_ft l7 hun
            · exact getD_ft l8 hun
            · exact getD_ft l9 hun
            · exact getD_ft l10 hun
            · exact getD_ft l11 hun
            · exact getD_ft l12 hun
            · exact getD_ft l13 hun
            · exact getD_ft l14 hun
            · exact getD_ft l15 hun
            · exact getD_ft l16 hun)
        have ST : Hid (listed.getD 17 false = false → Facts 17 (VP u3 w.heap.size b off p.L.length cap k d rv xs wr.heap.size) DP listed u wq → i < 17 → ∀ (wz : World) (v : Value), Below wq.heap.size wq wz → (VP u3 w.heap.size b off p.L.length cap k d rv xs wr.heap.size) i v wz → Inv2 17 (VP u3 w.heap.size b off p.L.length cap k d rv xs wr.heap.size) DP (fun q => Below wr.heap.size wr q) (fun u => u 3 = u3) (fun listed u q => (∃ y, OwnK q BB (u 42) (S ++ [(d, xs)]) (vs ++ [y]) ∧ Below BB wr q) ∧ (listed.getD 18 false = true → u 3 = u 42)) (listed.setIfInBounds i true) (upd u (DP i) v) wz) := hid (fun h1 h2 hi wz v hbz hv => Inv2.step i v h1 h2 hi ((hI.1 h1).1.trans (hbz.mono (hI.1 h1).1.size)) (by have := (hI.1 h1).2.1; show (if 3 = DP i then v else u 3) = u3; exact (if_neg (by unfold DP; omega)).trans this) (fun j hj hne => by unfold DP; omega) (fun j x hj h => VP.below hbz j hj x h) hv)
        obtain rfl | rfl | rfl | rfl | rfl | rfl | rfl | rfl | rfl | rfl | rfl | rfl | rfl | rfl | rfl | rfl | rfl | rfl | rfl : i = 0 ∨ i = 1 ∨ i = 2 ∨ i = 3 ∨ i = 4 ∨ i = 5 ∨ i = 6 ∨ i = 7 ∨ i = 8 ∨ i = 9 ∨ i = 10 ∨ i = 11 ∨ i = 12 ∨ i = 13 ∨ i = 14 ∨ i = 15 ∨ i = 16 ∨ i = 17 ∨ i = 18 := by omega
        · cases ho
          have hns := HNS.out (by decide)
          obtain ⟨hb, hX, hF⟩ := hI.1 hns
          refine wpOp_step rfl (fun K hK => ?_)
          simp only [hX]
          go_simp
          refine hK _ _ ⟨upd u 25 (u3), ?_, ST.out hns hF (by decide) _ _ (Below.refl _ _) (rfl)⟩
          simp [upd, hX]
        · cases ho
          have hns := HNS.out (by decide)
          obtain ⟨hb, hX, hF⟩ := hI.1 hns
          refine wpOp_step rfl (fun K hK => ?_)
          go_simp
          refine hK _ _ ⟨upd u 26 (.pointer (some ⟨w.heap.size, 7, none⟩)), ?_, ST.out hns hF (by decide) _ _ (Below.refl _ _) (rfl)⟩
          first | (simp [upd]; done) | (simp [upd]; exact hX.symm)
        · cases ho
          have hns := HNS.out (by decide)
          obtain ⟨hb, hX, hF⟩ := hI.1 hns
          have f1 : u 26 = .pointer (some ⟨w.heap.size, 7, none⟩) := hF 1 (by decide) (hall ⟨1, .data⟩ (by simp) rfl)
          obtain ⟨g0, g1, g2, g3⟩ := HK.out _ hb
          refine wpOp_step rfl (fun K hK => ?_)
          simp only [f1]
          go_simp
          refine hK _ _ ⟨upd u 27 (.slice (some ⟨b, off, none⟩) p.L.length cap), ?_, ST.out hns hF (by decide) _ _ (Below.refl _ _) (rfl)⟩
          first | (simp [upd, f1]; done) | (simp [upd, f1]; exact hX.symm)
        · cases ho
          have hns := HNS.out (by decide)
          obtain ⟨hb, hX, hF⟩ := hI.1 hns
          refine wpOp_step rfl (fun K hK => ?_)
          go_simp
          refine hK _ _ ⟨upd u 28 (.int .i64 k), ?_, ST.out hns hF (by decide) _ _ (Below.refl _ _) (rfl)⟩
          first | (simp [upd]; done) | (simp [upd]; exact hX.symm)
        · cases ho
          have hns := HNS.out (by decide)
          obtain ⟨hb, hX, hF⟩ := hI.1 hns
          have f2 : u 27 = .slice (some ⟨b, off, none⟩) p.L.length cap := hF 2 (by decide) (hall ⟨2, .data⟩ (by simp) rfl)
          have f3 : u 28 = .int .i64 k := hF 3 (by decide) (hall ⟨3, .data⟩ (by simp) rfl)
          refine wpOp_step rfl (fun K hK => ?_)
          simp only [f2, f3]
          go_simp
          refine hK _ _ ⟨upd u 29 (.pointer (some ⟨b, off + k * 2, none⟩)), ?_, ST.out hns hF (by decide) _ _ (Below.refl _ _) (rfl)⟩
          first | (simp [upd, f2, f3]; done) | (simp [upd, f2, f3]; exact hX.symm)
        · cases ho
          have hns := HNS.out (by decide)
          obtain ⟨hb, hX, hF⟩ := hI.1 hns
          have f4 : u 29 = .pointer (some ⟨b, off + k * 2, none⟩) := hF 4 (by decide) (hall ⟨4, .data⟩ (by simp) rfl)
          refine wpOp_step rfl (fun K hK => ?_)
          simp only [f4]
          go_simp
          refine hK _ _ ⟨upd u 30 (.pointer (some ⟨b, off + k * 2, none⟩)), ?_, ST.out hns hF (by decide) _ _ (Below.refl _ _) (rfl)⟩
          first | (simp [upd, f4]; done) | (simp [upd, f4]; exact hX.symm)
        · cases ho
          have hns := HNS.out (by decide)
          obtain ⟨hb, hX, hF⟩ := hI.1 hns
          have f5 : u 30 = .pointer (some ⟨b, off + k * 2, none⟩) := hF 5 (by decide) (hall ⟨5, .data⟩ (by simp) rfl)
          obtain ⟨g0, g1, g2, g3⟩ := HK.out _ hb
          refine wpOp_step rfl (fun K hK => ?_)
          simp only [f5]
          go_simp
          refine hK _ _ ⟨upd u 31 (.int .i64 d), ?_, ST.out hns hF (by decide) _ _ (Below.refl _ _) (rfl)⟩
          first | (simp [upd, f5]; done) | (simp [upd, f5]; exact hX.symm)
        · cases ho
          have hns := HNS.out (by decide)
          obtain ⟨hb, hX, hF⟩ := hI.1 hns
          refine wpOp_step rfl (fun K hK => ?_)
          go_simp
          refine hK _ _ ⟨upd u 32 (.slice (some ⟨wq.heap.size, 0, none⟩) 0 0), ?_, ST.out hns hF (by decide) _ _ ((Below.refl _ _).alloc (Nat.le_refl _) (.cells #[] 3)) (⟨_, rfl, Own.emptyI _ _ hb.size⟩)⟩
          first | (simp [upd]; done) | (simp [upd]; exact hX.symm)
        · cases ho
          have hns := HNS.out (by decide)
          obtain ⟨hb, hX, hF⟩ := hI.1 hns
          refine wpOp_step rfl (fun K hK => ?_)
          go_simp
          refine hK _ _ ⟨upd u 33 (.pointer (some ⟨w.heap.size, 7, none⟩)), ?_, ST.out hns hF (by decide) _ _ (Below.refl _ _) (rfl)⟩
          first | (simp [upd]; done) | (simp [upd]; exact hX.symm)
        · cases ho
          have hns := HNS.out (by decide)
          obtain ⟨hb, hX, hF⟩ := hI.1 hns
          have f8 : u 33 = .pointer (some ⟨w.heap.size, 7, none⟩) := hF 8 (by decide) (hall ⟨8, .data⟩ (by simp) rfl)
          obtain ⟨g0, g1, g2, g3⟩ := HK.out _ hb
          refine wpOp_step rfl (fun K hK => ?_)
          simp only [f8]
          go_simp
          refine hK _ _ ⟨upd u 34 (.slice (some ⟨b, off, none⟩) p.L.length cap), ?_, ST.out hns hF (by decide) _ _ (Below.refl _ _) (rfl)⟩
          first | (simp [upd, f8]; done) | (simp [upd, f8]; exact hX.symm)
        · cases ho
          have hns := HNS.out (by decide)
          obtain ⟨hb, hX, hF⟩ := hI.1 hns
          refine wpOp_step rfl (fun K hK => ?_)
          go_simp
          refine hK _ _ ⟨upd u 35 (.int .i64 k), ?_, ST.out hns hF (by decide) _ _ (Below.refl _ _) (rfl)⟩
          first | (simp [upd]; done) | (simp [upd]; exact hX.symm)
        · cases ho
          have hns := HNS.out (by decide)
          obtain ⟨hb, hX, hF⟩ := hI.1 hns
          have f9 : u 34 = .slice (some ⟨b, off, none⟩) p.L.length cap := hF 9 (by decide) (hall ⟨9, .data⟩ (by simp) rfl)
          have f10 : u 35 = .int .i64 k := hF 10 (by decide) (hall ⟨10, .data⟩ (by simp) rfl)
          refine wpOp_step rfl (fun K hK => ?_)
          simp only [f9, f10]
          go_simp
          refine hK _ _ ⟨upd u 36 (.pointer (some ⟨b, off + k * 2, none⟩)), ?_, ST.out hns hF (by decide) _ _ (Below.refl _ _) (rfl)⟩
          first | (simp [upd, f9, f10]; done) | (simp [upd, f9, f10]; exact hX.symm)
        · cases ho
          have hns := HNS.out (by decide)
          obtain ⟨hb, hX, hF⟩ := hI.1 hns
          have f11 : u 36 = .pointer (some ⟨b, off + k * 2, none⟩) := hF 11 (by decide) (hall ⟨11, .data⟩ (by simp) rfl)
          refine wpOp_step rfl (fun K hK => ?_)
          simp only [f11]
          go_simp
          refine hK _ _ ⟨upd u 37 (.pointer (some ⟨b, off + k * 2 + 1, none⟩)), ?_, ST.out hns hF (by decide) _ _ (Below.refl _ _) (rfl)⟩
          first | (simp [upd, f11]; done) | (simp [upd, f11]; exact hX.symm)
        · cases ho
          have hns := HNS.out (by decide)
          obtain ⟨hb, hX, hF⟩ := hI.1 hns
          have f12 : u 37 = .pointer (some ⟨b, off + k * 2 + 1, none⟩) := hF 12 (by decide) (hall ⟨12, .data⟩ (by simp) rfl)
          obtain ⟨g0, g1, g2, g3⟩ := HK.out _ hb
          refine wpOp_step rfl (fun K hK => ?_)
          simp only [f12]
          go_simp
          refine hK _ _ ⟨upd u 38 (rv), ?_, ST.out hns hF (by decide) _ _ (Below.refl _ _) (rfl)⟩
          first | (simp [upd, f12]; done) | (simp [upd, f12]; exact hX.symm)
        · cases ho
          have hns := HNS.out (by decide)
          obtain ⟨hb, hX, hF⟩ := hI.1 hns
          obtain ⟨g7, f7, o7⟩ : ∃ g, u 32 = .slice (some ⟨g, 0, none⟩) 0 0 ∧ Own wq wr.heap.size 3 .i64 (u 32) [] := hF 7 (by decide) (hall ⟨7, .data⟩ (by simp) rfl)
          rw [f7] at o7
          have f13 : u 38 = rv := hF 13 (by decide) (hall ⟨13, .data⟩ (by simp) rfl)
          obtain ⟨g0, g1, g2, g3⟩ := HK.out _ hb
          obtain ⟨y, wz, hrun, oy, hbz⟩ := run_appI wq wr.heap.size g7 o7 rv xs g3 (by have := HXL.out; omega)
          refine wpOp_step rfl (fun K hK => ?_)
          rw [if_pos (by simp [Region.wanted])]
          refine wp_app_run (.tmp 32) (.tmp 38) 22 rfl _ _ f7 f13 y wz hrun ?_
          refine hK _ _ ⟨upd u 39 (y), ?_, ST.out hns hF (by decide) wz _ hbz (oy)⟩
          rfl
        · cases ho
          have hns := HNS.out (by decide)
          obtain ⟨hb, hX, hF⟩ := hI.1 hns
          have f6 : u 31 = .int .i64 d := hF 6 (by decide) (hall ⟨6, .data⟩ (by simp) rfl)
          have o14 : Own wq wr.heap.size 3 .i64 (u 39) xs := hF 14 (by decide) (hall ⟨14, .data⟩ (by simp) rfl)
          obtain ⟨x14, y14, f14⟩ := o14.shape
          rw [f14] at o14
          refine wpOp_step rfl (fun K hK => ?_)
          simp only [f6, f14]
          go_simp
          refine hK _ _ ⟨upd u 40 (.agg #[.int .i64 d, .slice x14 xs.length y14]), ?_, ST.out hns hF (by decide) _ _ (Below.refl _ _) (⟨_, _, rfl, o14⟩)⟩
          first | (simp [upd, f6, f14]; done) | (simp [upd, f6, f14]; exact hX.symm)
        · cases ho
          have hns := HNS.out (by decide)
          obtain ⟨hb, hX, hF⟩ := hI.1 hns
          obtain ⟨x15, y15, f15, o15⟩ : ∃ a c, u 40 = .agg #[.int .i64 d, .slice a xs.length c] ∧ Own wq wr.heap.size 3 .i64 (.slice a xs.length c) xs := hF 15 (by decide) (hall ⟨15, .data⟩ (by simp) rfl)
          have hbz := (Below.refl wq.heap.size wq).alloc (Nat.le_refl _) (.cells #[.int .i64 d, .slice x15 xs.length y15] 65)
          refine wpOp_step rfl (fun K hK => ?_)
          simp only [f15]
          go_simp
          refine hK _ _ ⟨upd u 41 (.slice (some ⟨wq.heap.size, 0, none⟩) 1 1), ?_, ST.out hns hF (by decide) _ _ hbz (⟨_, _, _, rfl, Two.new _ _ _ _, o15.below hbz⟩)⟩
          first | (simp [upd, f15]; done) | (simp [upd, f15]; exact hX.symm)
        · cases ho
          have hns : listed.getD 17 false = false := by
            cases h : listed.getD 17 false with
            | false => rfl
            | true => exact absurd hun (fun h' => getD_ft h h')
          obtain ⟨hb, hX, hF⟩ := hI.1 hns
          have f0 : u 25 = u3 := hF 0 (by decide) (hall ⟨0, .data⟩ (by simp) rfl)
          obtain ⟨g16, x16, y16, f16, t16, o16⟩ : ∃ g a c, u 41 = .slice (some ⟨g, 0, none⟩) 1 1 ∧ Two wq g (.int .i64 d) (.slice a xs.length c) 65 ∧ Own wq wr.heap.size 3 .i64 (.slice a xs.length c) xs := hF 16 (by decide) (hall ⟨16, .data⟩ (by simp) rfl)
          have ok := hown.out.below hb
          obtain ⟨ti, hi, hz0, hz1, hz2⟩ := info_parts Tryz.info65
          obtain ⟨c0', c1', _, _⟩ := t16.cells
          have hsk : S.length < 1000000000 := by have := HKL.out; have := HFN.out; omega
          refine wpOp_step rfl (fun K hK => ?_)
          rw [if_pos (by simp [Region.wanted])]
          refine wp_append_own wq (.tmp 25) (.tmp 41) 34 rfl BB 65 ti (.agg #[.int .i64 0, .slice none 0 0]) 2 32 Tryz.underlying34 hi hz0 hz1 hz2 rfl (by decide) u3 S.length _ f0 ok.2.2.1 ⟨g16, 0, none⟩ 1 1 [.int .i64 d, .slice x16 xs.length y16] f16 rfl ?_ ?_ (by unfold maxLen; omega) (by omega) (Nat.le_trans hown.out.1 hb.size) ?_
          · intro j q hj
            match j, hj with
            | 0, hj => simp at hj; subst hj; simpa [Addr.add] using c0'
            | 1, hj => simp at hj; subst hj; simpa [Addr.add] using c1'
          · intro q hq; simp at hq; rcases hq with rfl | rfl <;> rfl
          · intro v' w' hown' hgrow _
            have ok2 : OwnK w' BB v' (S ++ [(d, xs)]) (vs ++ [.slice x16 xs.length y16]) := OwnK.pushed2 (x := (d, xs)) ok (o16.mono hown.out.1) (fun j hj a a' n n' c c' e1 e2 => Nat.lt_of_lt_of_le (hown.out.lt j hj a n c e1) (o16.2.lt a'.block (by rw [e2]; rfl)).1) hown' hgrow
            have hb2 : Below BB wr w' := (hb.mono hown.out.1).trans ((Below.refl BB wq).grown hgrow (Nat.le_trans hown.out.1 hb.size) (fun g hg => (ok.2.2.1.lt g hg).1))
            refine hK _ _ ⟨upd u 42 v', ?_, fun h => absurd h (by simp [Array.getD, hszl]), fun _ => ⟨⟨_, by simpa [upd] using ok2, hb2⟩, fun h => ?_⟩⟩
            · simp [upd, Act.put]
            · exfalso
              rw [getD_set_ne false (by decide)] at h
              exact getD_ft (hcl 18 _ rfl h ⟨17, .data⟩ (by simp) rfl) hun
        · cases ho
          have h17 : listed.getD 17 false = true := hall ⟨17, .data⟩ (by simp) rfl
          have hFi := hid (hI.2 h17)
          refine wpOp_step rfl (fun K hK => ?_)
          go_simp
          refine hK _ _ ⟨upd u 3 (u 42), ?_, fun h => ?_, fun _ => ⟨by simpa [upd] using hFi.out.1, fun _ => by simp [upd]⟩⟩
          · simp [upd]
          · rw [getD_set_ne false (by decide), h17] at h
            cases h
    · obtain rfl : k = p.L.length := by omega
      have hown' : OwnK wr BB u3 p.L vs := by
        have := hown.out
        rwa [List.take_length] at this
      obtain ⟨lo, lc, rfl⟩ := hown'.shape
      have qz := E7.out.free
      have F7 := hid (F6.out.below hbr.out (show w.heap.size + 1 < BB by omega))
      obtain ⟨s0, s1, s2, s3, s4, s5, s6, s7⟩ := F7.out.cells
      have fz := F7.out.free
      have hlb0 : w.heap.size < BB := by omega
      have hlb1 : w.heap.size + 1 < BB := by omega
      have EZ := hid ((F7.out.other hne (i := 7) (.slice lo p.L.length lc)).set8 (.int .i64 p.W) (.int .i64 p.H) (.slice b0 p.T.cs.length d0) (.slice b1 p.T.ss.length d1) (.slice b2 p.T.ct.length d2) (.slice b3 p.T.st.length d3) (.string p.N) (.slice lo p.L.length lc)).cells
      have BZ := hid (below8 (C7.out.setCell (p := ⟨w.heap.size, 7, none⟩) (Nat.le_refl _) (.slice lo p.L.length lc)) (Nat.le_succ _) (.int .i64 p.W) (.int .i64 p.H) (.slice b0 p.T.cs.length d0) (.slice b1 p.T.ss.length d1) (.slice b2 p.T.ct.length d2) (.slice b3 p.T.st.length d3) (.string p.N) (.slice lo p.L.length lc))
      have ht := (TOwn.set8 (base := wa.heap.size) (TOwn.setCell_below (base := wa.heap.size) (a := ⟨w.heap.size, 7, none⟩) (show TOwn wr wa.heap.size (.agg #[.slice b0 p.T.cs.length d0, .slice b1 p.T.ss.length d1, .slice b2 p.T.ct.length d2, .slice b3 p.T.st.length d3]) p.T.cs p.T.ss p.T.ct p.T.st from ⟨_, _, _, _, _, _, _, _, rfl, R6.out.1.1.keepB hbr.out R6.out.2.1, R6.out.1.2.1.keepB hbr.out R6.out.2.2.1, R6.out.1.2.2.1.keepB hbr.out R6.out.2.2.2.1, R6.out.1.2.2.2.keepB hbr.out R6.out.2.2.2.2⟩) h02 (.slice lo p.L.length lc)) h12 (.int .i64 p.W) (.int .i64 p.H) (.slice b0 p.T.cs.length d0) (.slice b1 p.T.ss.length d1) (.slice b2 p.T.ct.length d2) (.slice b3 p.T.st.length d3) (.string p.N) (.slice lo p.L.length lc)).low (Nat.le_of_lt h02)
      have hk' := ((hown'.setCell_below (a := ⟨w.heap.size, 7, none⟩) hlb0 (.slice lo p.L.length lc)).set8 hlb1 (.int .i64 p.W) (.int .i64 p.H) (.slice b0 p.T.cs.length d0) (.slice b1 p.T.ss.length d1) (.slice b2 p.T.ct.length d2) (.slice b3 p.T.st.length d3) (.string p.N) (.slice lo p.L.length lc)).mono (Nat.le_of_lt hlb0)
      have PZ := hid (show PQ w.heap.size (((((((((wr.setCell ⟨w.heap.size, 7, none⟩ (.slice lo p.L.length lc)).setCell ⟨w.heap.size + 1, 0, none⟩ (.int .i64 p.W)).setCell ⟨w.heap.size + 1, 1, none⟩ (.int .i64 p.H)).setCell ⟨w.heap.size + 1, 2, none⟩ (.slice b0 p.T.cs.length d0)).setCell ⟨w.heap.size + 1, 3, none⟩ (.slice b1 p.T.ss.length d1)).setCell ⟨w.heap.size + 1, 4, none⟩ (.slice b2 p.T.ct.length d2)).setCell ⟨w.heap.size + 1, 5, none⟩ (.slice b3 p.T.st.length d3)).setCell ⟨w.heap.size + 1, 6, none⟩ (.string p.N)).setCell ⟨w.heap.size + 1, 7, none⟩ (.slice lo p.L.length lc)) (.agg #[.int .i64 p.W, .int .i64 p.H, .slice b0 p.T.cs.length d0, .slice b1 p.T.ss.length d1, .slice b2 p.T.ct.length d2, .slice b3 p.T.st.length d3, .string p.N, .slice lo p.L.length lc]) p from ⟨_, _, _, _, _, _, rfl, ht, hk'⟩)
      clear ht hk' hown' hown R6 K6 E6 F6 B6
      go_wp2_with fail
      generalize (((((((((wr.setCell ⟨w.heap.size, 7, none⟩ (.slice lo p.L.length lc)).setCell ⟨w.heap.size + 1, 0, none⟩ (.int .i64 p.W)).setCell ⟨w.heap.size + 1, 1, none⟩ (.int .i64 p.H)).setCell ⟨w.heap.size + 1, 2, none⟩ (.slice b0 p.T.cs.length d0)).setCell ⟨w.heap.size + 1, 3, none⟩ (.slice b1 p.T.ss.length d1)).setCell ⟨w.heap.size + 1, 4, none⟩ (.slice b2 p.T.ct.length d2)).setCell ⟨w.heap.size + 1, 5, none⟩ (.slice b3 p.T.st.length d3)).setCell ⟨w.heap.size + 1, 6, none⟩ (.string p.N)).setCell ⟨w.heap.size + 1, 7, none⟩ (.slice lo p.L.length lc)) = wf at *
      clear s0 s1 s2 s3 s4 s5 s6 s7
      obtain ⟨s0, s1, s2, s3, s4, s5, s6, s7⟩ := EZ.out
      exact bodyPost_ret (v := .agg #[.int .i64 p.W, .int .i64 p.H, .slice b0 p.T.cs.length d0, .slice b1 p.T.ss.length d1, .slice b2 p.T.ct.length d2, .slice b3 p.T.st.length d3, .string p.N, .slice lo p.L.length lc]) (by simp [results, Tryz.results60, go_sem, s0, s1, s2, s3, s4, s5, s6, s7]) rfl ⟨_, rfl, PZ.out, BZ.out⟩
end Go.Proofs.YtnnakmgngkpghaaGreat
