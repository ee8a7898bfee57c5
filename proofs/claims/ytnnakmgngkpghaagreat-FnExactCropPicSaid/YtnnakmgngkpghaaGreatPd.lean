/- Pictures: size, copy, comparison, and the walk of the law FnExactPicOk, in one text. -/
import Derived.Test.YtnnakmgngkpghaaGreatPk
import Derived.Deep.RegionHeld3

/- Contracts of what the exact laws do with a picture: its size, its copy, a comparison. -/
namespace Go.Proofs.YtnnakmgngkpghaaGreat
open Go.RowKit Go.Maps
set_option linter.unusedVariables false

theorem BSTo.setCell_below {w : World} {g : Nat} {L : List (Int × List Int)} {n k : Nat} (h : BSTo w g L n k) {a : Addr} (ha : a.block < g) (u : Value) : BSTo (w.setCell a u) g L n k := by
  obtain ⟨arr, h1, h2, h3⟩ := h
  refine ⟨arr, (heap_setCell_other _ a g _ (fun e => by omega)).trans h1, h2, fun j hj => ?_⟩
  obtain ⟨e1, y, e2, e3⟩ := h3 j hj
  exact ⟨e1, y, e2, e3.setCell_below (by omega) u⟩
theorem TOwn.setCell_below {w : World} {base : Nat} {v : Value} {cs ss ct st : List Int} (h : TOwn w base v cs ss ct st) {a : Addr} (ha : a.block < base) (u : Value) : TOwn (w.setCell a u) base v cs ss ct st := by
  obtain ⟨a0, c0, a1, c1, a2, c2, a3, c3, rfl, h0, h1, h2, h3⟩ := h
  exact ⟨a0, c0, a1, c1, a2, c2, a3, c3, rfl, h0.setCell_below ha u, h1.setCell_below ha u, h2.setCell_below ha u, h3.setCell_below ha u⟩
theorem Eig.set {w : World} {b : Nat} {x0 x1 x2 x3 x4 x5 x6 x7 : Value} {t : TypeId} (h : Eig w b x0 x1 x2 x3 x4 x5 x6 x7 t) (u : Value) :
    Eig (w.setCell ⟨b, 0, none⟩ u) b u x1 x2 x3 x4 x5 x6 x7 t ∧ Eig (w.setCell ⟨b, 1, none⟩ u) b x0 u x2 x3 x4 x5 x6 x7 t ∧ Eig (w.setCell ⟨b, 2, none⟩ u) b x0 x1 u x3 x4 x5 x6 x7 t ∧ Eig (w.setCell ⟨b, 3, none⟩ u) b x0 x1 x2 u x4 x5 x6 x7 t ∧
    Eig (w.setCell ⟨b, 4, none⟩ u) b x0 x1 x2 x3 u x5 x6 x7 t ∧ Eig (w.setCell ⟨b, 5, none⟩ u) b x0 x1 x2 x3 x4 u x6 x7 t ∧ Eig (w.setCell ⟨b, 6, none⟩ u) b x0 x1 x2 x3 x4 x5 u x7 t ∧ Eig (w.setCell ⟨b, 7, none⟩ u) b x0 x1 x2 x3 x4 x5 x6 u t :=
  ⟨heap_setCell_same w b 0 _ t u h, heap_setCell_same w b 1 _ t u h, heap_setCell_same w b 2 _ t u h, heap_setCell_same w b 3 _ t u h, heap_setCell_same w b 4 _ t u h, heap_setCell_same w b 5 _ t u h, heap_setCell_same w b 6 _ t u h, heap_setCell_same w b 7 _ t u h⟩
theorem Eig.other {w : World} {b c i : Nat} {x0 x1 x2 x3 x4 x5 x6 x7 : Value} {t : TypeId} (h : Eig w b x0 x1 x2 x3 x4 x5 x6 x7 t) (hne : b ≠ c) (u : Value) : Eig (w.setCell ⟨c, i, none⟩ u) b x0 x1 x2 x3 x4 x5 x6 x7 t :=
  (heap_setCell_other _ ⟨c, i, none⟩ b _ (fun e => hne e)).trans h

set_option maxHeartbeats 800000 in
/-- The size of a picture, told. -/
theorem szPic_any (p : Pk) (a0 a1 a2 a3 ao : Option Addr) (c0 c1 c2 c3 cap : Nat) (w : World) (h0 : p.T.cs.length ≤ 9223372036854775807) (h1 : p.T.ss.length ≤ 9223372036854775807) (h2 : p.T.ct.length ≤ 9223372036854775807) (h3 : p.T.st.length ≤ 9223372036854775807)
    (hN : p.N.size ≤ 9223372036854775807) (hn : p.L.length ≤ 9223372036854775807) (hs : ∀ j, j < p.L.length → (nth p.L j).2.length ≤ 9223372036854775807) (hv : BRow w ao p.L) :
    Calls Tryz.prog 6 #[.agg #[.int .i64 p.W, .int .i64 p.H, .slice a0 p.T.cs.length c0, .slice a1 p.T.ss.length c1, .slice a2 p.T.ct.length c2, .slice a3 p.T.st.length c3, .string p.N, .slice ao p.L.length cap], .int .i64 1048576] w fun e w' => ∃ r : Int, e = .returned (.int .i64 r) ∧ (r < 0 ∨ p.Fits) ∧ Below w.heap.size w w' := by
  have HB := hid ((Below.refl w.heap.size w).alloc (Nat.le_refl _) (.cells #[.int .i64 p.W, .int .i64 p.H, .slice a0 p.T.cs.length c0, .slice a1 p.T.ss.length c1, .slice a2 p.T.ct.length c2, .slice a3 p.T.st.length c3, .string p.N, .slice ao p.L.length cap] 29))
  have HE := hid (Eig.new w (.int .i64 p.W) (.int .i64 p.H) (.slice a0 p.T.cs.length c0) (.slice a1 p.T.ss.length c1) (.slice a2 p.T.ct.length c2) (.slice a3 p.T.st.length c3) (.string p.N) (.slice ao p.L.length cap) 29)
  have HZ := hid (fun q => szTables a0 a1 a2 a3 _ _ _ _ c0 c1 c2 c3 q h0 h1 h2 h3)
  have HS := hid hs
  have HV := hid hv
  clear hs hv
  go_enter Tryz.func6, Tryz.ntmps6
  go_wp2_with fail
  refine (HZ.out _).mono ?_
  generalize w.alloc (.cells #[.int .i64 p.W, .int .i64 p.H, .slice a0 p.T.cs.length c0, .slice a1 p.T.ss.length c1, .slice a2 p.T.ct.length c2, .slice a3 p.T.st.length c3, .string p.N, .slice ao p.L.length cap] 29) = wa at *
  rintro e w1 ⟨r, rfl, hr, hb1⟩
  have B1 := hid (HB.out.trans (hb1.mono HB.out.size))
  obtain ⟨q0, q1, q2, q3, q4, q5, q6, q7⟩ := (HE.out.below hb1 HE.out.lt).cells
  clear hb1 HZ HB
  rcases hr with ⟨hr0, ⟨k0, k1, k2, k3⟩, hr1⟩ | rfl
  · have hd : ¬ r < 0 := by omega
    by_cases hz : r - (p.N.size : Int) < 0
    · go_wp2_with fail
      go_ret
      exact ⟨-1, rfl, .inl (by decide), B1.out⟩
    · go_wp2_with fail
      refine (szBlockSG (r - (p.N.size : Int)) (by omega) (by omega) ao cap p.L w1 hn HS.out (HV.out.below B1.out)).mono ?_
      rintro e w2 ⟨r2, rfl, hr2, hb2⟩
      have B2 := hid (B1.out.trans (hb2.mono B1.out.size))
      clear hb2
      by_cases hneg : r2 < 0
      · clear hr2
        go_wp2_with fail
        go_ret
        exact ⟨-1, rfl, .inl (by decide), B2.out⟩
      · obtain ⟨hl, hall⟩ := hr2.resolve_left hneg
        have HF : Hid p.Fits := ⟨k0, k1, k2, k3, by omega, hl, hall⟩
        clear hr2 hall
        go_wp2_with fail
        go_ret
        exact ⟨r2, rfl, .inr HF.out, B2.out⟩
  · go_wp2_with fail
    go_ret
    exact ⟨-1, rfl, .inl (by decide), B1.out⟩

set_option maxRecDepth 100000 in
set_option maxHeartbeats 1600000 in
theorem eqPic_same (v v' : Value) (p : Pk) (w : World) (hf : p.Fits) (hv : PV w v p) (hv' : PV w v' p) :
    Calls Tryz.prog 10 #[v, v'] w fun e w' => e = .returned (.bool true) ∧ Below w.heap.size w w' := by
  obtain ⟨a0, c0, a1, c1, a2, c2, a3, c3, ao, cap, rfl, ht, hb⟩ := hv
  obtain ⟨b0, d0, b1, d1, b2, d2, b3, d3, bo, cap', rfl, ht', hb'⟩ := hv'
  have HEQ := hid (fun q (hq : Below w.heap.size w q) => eqTables_same _ _ p.T.cs p.T.ss p.T.ct p.T.st q hf.h0 hf.h1 hf.h2 hf.h3 (ht.below hq) (ht'.below hq))
  have HBE := hid (fun q (hq : Below w.heap.size w q) => eqBlockS_same ao bo cap cap' p.L q hf.hn hf.hs (hb.below hq) (hb'.below hq))
  clear ht hb ht' hb' hf
  have HB := hid (((Below.refl w.heap.size w).alloc (Nat.le_refl _) (.cells #[.int .i64 p.W, .int .i64 p.H, .slice a0 p.T.cs.length c0, .slice a1 p.T.ss.length c1, .slice a2 p.T.ct.length c2, .slice a3 p.T.st.length c3, .string p.N, .slice ao p.L.length cap] 36)).alloc (by simp) (.cells #[.int .i64 p.W, .int .i64 p.H, .slice b0 p.T.cs.length d0, .slice b1 p.T.ss.length d1, .slice b2 p.T.ct.length d2, .slice b3 p.T.st.length d3, .string p.N, .slice bo p.L.length cap'] 36))
  have HE1 := hid ((Eig.new w (.int .i64 p.W) (.int .i64 p.H) (.slice a0 p.T.cs.length c0) (.slice a1 p.T.ss.length c1) (.slice a2 p.T.ct.length c2) (.slice a3 p.T.st.length c3) (.string p.N) (.slice ao p.L.length cap) 36).below ((Below.refl _ _).alloc (Nat.le_refl _) (.cells #[.int .i64 p.W, .int .i64 p.H, .slice b0 p.T.cs.length d0, .slice b1 p.T.ss.length d1, .slice b2 p.T.ct.length d2, .slice b3 p.T.st.length d3, .string p.N, .slice bo p.L.length cap'] 36)) (Eig.new w _ _ _ _ _ _ _ _ 36).lt)
  have HE2 := hid (Eig.new (w.alloc (.cells #[.int .i64 p.W, .int .i64 p.H, .slice a0 p.T.cs.length c0, .slice a1 p.T.ss.length c1, .slice a2 p.T.ct.length c2, .slice a3 p.T.st.length c3, .string p.N, .slice ao p.L.length cap] 36)) (.int .i64 p.W) (.int .i64 p.H) (.slice b0 p.T.cs.length d0) (.slice b1 p.T.ss.length d1) (.slice b2 p.T.ct.length d2) (.slice b3 p.T.st.length d3) (.string p.N) (.slice bo p.L.length cap') 36)
  simp only [World.size_alloc] at HE2
  generalize p.W = W at *
  generalize p.H = H at *
  generalize p.N = N at *
  generalize p.T.cs.length = n0 at *
  generalize p.T.ss.length = n1 at *
  generalize p.T.ct.length = n2 at *
  generalize p.T.st.length = n3 at *
  generalize p.L.length = n at *
  go_enter Tryz.func10, Tryz.ntmps10
  go_wp2_with fail
  refine (HEQ.out _ HB.out).mono ?_
  generalize (w.alloc (.cells #[.int .i64 W, .int .i64 H, .slice a0 n0 c0, .slice a1 n1 c1, .slice a2 n2 c2, .slice a3 n3 c3, .string N, .slice ao n cap] 36)).alloc (.cells #[.int .i64 W, .int .i64 H, .slice b0 n0 d0, .slice b1 n1 d1, .slice b2 n2 d2, .slice b3 n3 d3, .string N, .slice bo n cap'] 36) = wa at *
  rintro e w1 ⟨rfl, hb1⟩
  have B1 := hid (HB.out.trans (hb1.mono HB.out.size))
  obtain ⟨q0, q1, q2, q3, q4, q5, q6, q7⟩ := (HE1.out.below hb1 HE1.out.lt).cells
  obtain ⟨r0, r1, r2, r3, r4, r5, r6, r7⟩ := (HE2.out.below hb1 HE2.out.lt).cells
  clear hb1 HB
  go_wp2_with fail
  refine (HBE.out _ B1.out).mono ?_
  rintro e w2 ⟨rfl, hb2⟩
  have B2 := hid (B1.out.trans (hb2.mono B1.out.size))
  clear hb2
  go_wp2_with fail
  go_ret
  exact ⟨rfl, B2.out⟩
end Go.Proofs.YtnnakmgngkpghaaGreat

/- The contract of toPic: a picture's copy. -/
namespace Go.Proofs.YtnnakmgngkpghaaGreat
open Go.RowKit Go.Maps
set_option linter.unusedVariables false

theorem TOwn.low {w : World} {base base' : Nat} {v : Value} {cs ss ct st : List Int} (h : TOwn w base v cs ss ct st) (hb : base' ≤ base) : TOwn w base' v cs ss ct st := by
  obtain ⟨a0, c0, a1, c1, a2, c2, a3, c3, rfl, h0, h1, h2, h3⟩ := h
  exact ⟨a0, c0, a1, c1, a2, c2, a3, c3, rfl, h0.lower hb, h1.lower hb, h2.lower hb, h3.lower hb⟩
/-- A picture in new memory. -/
def PW (w w' : World) (v : Value) (p : Pk) : Prop :=
  ∃ x0 d0 x1 d1 x2 d2 x3 d3 g, v = .agg #[.int .i64 p.W, .int .i64 p.H, .slice x0 p.T.cs.length d0, .slice x1 p.T.ss.length d1, .slice x2 p.T.ct.length d2, .slice x3 p.T.st.length d3, .string p.N, .slice (some ⟨g, 0, none⟩) p.L.length p.L.length] ∧
    TOwn w' w.heap.size (.agg #[.slice x0 p.T.cs.length d0, .slice x1 p.T.ss.length d1, .slice x2 p.T.ct.length d2, .slice x3 p.T.st.length d3]) p.T.cs p.T.ss p.T.ct p.T.st ∧ BSTo w' g p.L p.L.length p.L.length ∧ w.heap.size ≤ g
theorem PW.pv {w w' : World} {v : Value} {p : Pk} (h : PW w w' v p) : PV w' v p := by
  obtain ⟨x0, d0, x1, d1, x2, d2, x3, d3, g, rfl, h1, h2, _⟩ := h
  exact ⟨x0, d0, x1, d1, x2, d2, x3, d3, _, _, rfl, h1.tv, h2.brow⟩

set_option maxRecDepth 100000 in
set_option maxHeartbeats 3200000 in
theorem toPic_own (v : Value) (p : Pk) (w : World) (hf : p.Fits) (hv : PV w v p) :
    Calls Tryz.prog 8 #[v] w fun e w' => ∃ v', e = .returned v' ∧ PW w w' v' p ∧ Below w.heap.size w w' := by
  obtain ⟨a0, c0, a1, c1, a2, c2, a3, c3, ao, cap, rfl, ht, hb⟩ := hv
  have HTO := hid (fun q (hq : Below w.heap.size w q) => toTables (.agg #[.slice a0 p.T.cs.length c0, .slice a1 p.T.ss.length c1, .slice a2 p.T.ct.length c2, .slice a3 p.T.st.length c3]) p.T.cs p.T.ss p.T.ct p.T.st q hf.h0 hf.h1 hf.h2 hf.h3 (ht.below hq))
  have HTB := hid (fun q (hq : Below w.heap.size w q) => toBlockS ao cap p.L q hf.hn hf.hs (hb.below hq))
  clear ht hb hf
  obtain ⟨QQ, hQ1, HQ⟩ : ∃ QQ : Ending → World → Prop, QQ = (fun e w' => ∃ v', e = .returned v' ∧ PW w w' v' p ∧ Below w.heap.size w w') ∧ Hid (∀ e w', (∃ v', e = .returned v' ∧ PW w w' v' p ∧ Below w.heap.size w w') → QQ e w') := ⟨_, rfl, fun _ _ h => h⟩
  rw [← hQ1]
  clear hQ1
  unfold PW at HQ
  generalize p.W = W at *
  generalize p.H = H at *
  generalize p.N = N at *
  generalize p.T.cs = cs at *
  generalize p.T.ss = ss at *
  generalize p.T.ct = ct at *
  generalize p.T.st = st at *
  generalize p.L = L at *
  have b0 := (Below.refl w.heap.size w).alloc (Nat.le_refl _) (.cells #[.int .i64 W, .int .i64 H, .slice a0 cs.length c0, .slice a1 ss.length c1, .slice a2 ct.length c2, .slice a3 st.length c3, .string N, .slice ao L.length cap] 29)
  have b1 := b0.alloc (by simp) (.cells #[.int .i64 0, .int .i64 0, .slice none 0 0, .slice none 0 0, .slice none 0 0, .slice none 0 0, .string ⟨#[]⟩, .slice none 0 0] 36)
  have b2 := b1.alloc (by simp; omega) (.cells #[.int .i64 W, .int .i64 H, .slice none 0 0, .slice none 0 0, .slice none 0 0, .slice none 0 0, .string ⟨#[]⟩, .slice none 0 0] 36)
  have e0 := Eig.new w (.int .i64 W) (.int .i64 H) (.slice a0 cs.length c0) (.slice a1 ss.length c1) (.slice a2 ct.length c2) (.slice a3 st.length c3) (.string N) (.slice ao L.length cap) 29
  have e1 := Eig.new (w.alloc (.cells #[.int .i64 W, .int .i64 H, .slice a0 cs.length c0, .slice a1 ss.length c1, .slice a2 ct.length c2, .slice a3 st.length c3, .string N, .slice ao L.length cap] 29)) (.int .i64 0) (.int .i64 0) (.slice none 0 0) (.slice none 0 0) (.slice none 0 0) (.slice none 0 0) (.string ⟨#[]⟩) (.slice none 0 0) 36
  have e2 := Eig.new ((w.alloc (.cells #[.int .i64 W, .int .i64 H, .slice a0 cs.length c0, .slice a1 ss.length c1, .slice a2 ct.length c2, .slice a3 st.length c3, .string N, .slice ao L.length cap] 29)).alloc (.cells #[.int .i64 0, .int .i64 0, .slice none 0 0, .slice none 0 0, .slice none 0 0, .slice none 0 0, .string ⟨#[]⟩, .slice none 0 0] 36)) (.int .i64 W) (.int .i64 H) (.slice none 0 0) (.slice none 0 0) (.slice none 0 0) (.slice none 0 0) (.string ⟨#[]⟩) (.slice none 0 0) 36
  have E0 := hid (e0.below ((((Below.refl _ _).alloc (Nat.le_refl _) (.cells #[.int .i64 0, .int .i64 0, .slice none 0 0, .slice none 0 0, .slice none 0 0, .slice none 0 0, .string ⟨#[]⟩, .slice none 0 0] 36)).alloc (by simp) (.cells #[.int .i64 W, .int .i64 H, .slice none 0 0, .slice none 0 0, .slice none 0 0, .slice none 0 0, .string ⟨#[]⟩, .slice none 0 0] 36))) e0.lt)
  have E1 := hid (e1.below ((Below.refl _ _).alloc (Nat.le_refl _) (.cells #[.int .i64 W, .int .i64 H, .slice none 0 0, .slice none 0 0, .slice none 0 0, .slice none 0 0, .string ⟨#[]⟩, .slice none 0 0] 36)) e1.lt)
  have E2 := hid e2
  have B2 := hid b2
  simp only [World.size_alloc] at E1 E2
  clear e0 e1 e2 b0 b1 b2
  go_enter Tryz.func8, Tryz.ntmps8
  go_wp2_with fail
  refine (HTO.out _ B2.out).mono ?_
  generalize ((w.alloc (.cells #[.int .i64 W, .int .i64 H, .slice a0 cs.length c0, .slice a1 ss.length c1, .slice a2 ct.length c2, .slice a3 st.length c3, .string N, .slice ao L.length cap] 29)).alloc (.cells #[.int .i64 0, .int .i64 0, .slice none 0 0, .slice none 0 0, .slice none 0 0, .slice none 0 0, .string ⟨#[]⟩, .slice none 0 0] 36)).alloc (.cells #[.int .i64 W, .int .i64 H, .slice none 0 0, .slice none 0 0, .slice none 0 0, .slice none 0 0, .string ⟨#[]⟩, .slice none 0 0] 36) = wa at *
  rintro e w1 ⟨v1, rfl, ho1, hb1⟩
  have B3 := hid (B2.out.trans (hb1.mono B2.out.size))
  have F0 := hid (E0.out.below hb1 E0.out.lt)
  have F1 := hid (E1.out.below hb1 E1.out.lt)
  have F2 := hid (E2.out.below hb1 E2.out.lt)
  have hlt2 : w.heap.size + 1 + 1 < wa.heap.size := E2.out.lt
  have O1 := hid ho1
  obtain ⟨x0, d0, x1, d1, x2, d2, x3, d3, rfl, _⟩ := ho1
  obtain ⟨q0, q1, q2, q3, q4, q5, q6, q7⟩ := F0.out.cells
  obtain ⟨p0, p1, p2, p3, p4, p5, p6, p7⟩ := F2.out.cells
  have z0 := F2.out.free
  clear hb1 E0 E1 E2 B2
  have G2 := hid (((((F2.out.set (.slice x0 cs.length d0)).2.2.1.set (.slice x1 ss.length d1)).2.2.2.1.set (.slice x2 ct.length d2)).2.2.2.2.1.set (.slice x3 st.length d3)).2.2.2.2.2.1.set (.string N)).2.2.2.2.2.2.1
  have G1 := hid (((((F1.out.other (show w.heap.size + 1 ≠ w.heap.size + 1 + 1 by omega) (i := 2) (.slice x0 cs.length d0)).other (show w.heap.size + 1 ≠ w.heap.size + 1 + 1 by omega) (i := 3) (.slice x1 ss.length d1)).other (show w.heap.size + 1 ≠ w.heap.size + 1 + 1 by omega) (i := 4) (.slice x2 ct.length d2)).other (show w.heap.size + 1 ≠ w.heap.size + 1 + 1 by omega) (i := 5) (.slice x3 st.length d3)).other (show w.heap.size + 1 ≠ w.heap.size + 1 + 1 by omega) (i := 6) (.string N))
  have G0 := hid (((((F0.out.other (show w.heap.size ≠ w.heap.size + 1 + 1 by omega) (i := 2) (.slice x0 cs.length d0)).other (show w.heap.size ≠ w.heap.size + 1 + 1 by omega) (i := 3) (.slice x1 ss.length d1)).other (show w.heap.size ≠ w.heap.size + 1 + 1 by omega) (i := 4) (.slice x2 ct.length d2)).other (show w.heap.size ≠ w.heap.size + 1 + 1 by omega) (i := 5) (.slice x3 st.length d3)).other (show w.heap.size ≠ w.heap.size + 1 + 1 by omega) (i := 6) (.string N))
  have B4 := hid (((((B3.out.setCell (p := ⟨w.heap.size + 1 + 1, 2, none⟩) (show w.heap.size ≤ w.heap.size + 1 + 1 by omega) (.slice x0 cs.length d0)).setCell (p := ⟨w.heap.size + 1 + 1, 3, none⟩) (show w.heap.size ≤ w.heap.size + 1 + 1 by omega) (.slice x1 ss.length d1)).setCell (p := ⟨w.heap.size + 1 + 1, 4, none⟩) (show w.heap.size ≤ w.heap.size + 1 + 1 by omega) (.slice x2 ct.length d2)).setCell (p := ⟨w.heap.size + 1 + 1, 5, none⟩) (show w.heap.size ≤ w.heap.size + 1 + 1 by omega) (.slice x3 st.length d3)).setCell (p := ⟨w.heap.size + 1 + 1, 6, none⟩) (show w.heap.size ≤ w.heap.size + 1 + 1 by omega) (.string N))
  have O2 := hid (((((O1.out.setCell_below (a := ⟨w.heap.size + 1 + 1, 2, none⟩) (show w.heap.size + 1 + 1 < wa.heap.size from hlt2) (.slice x0 cs.length d0)).setCell_below (a := ⟨w.heap.size + 1 + 1, 3, none⟩) (show w.heap.size + 1 + 1 < wa.heap.size from hlt2) (.slice x1 ss.length d1)).setCell_below (a := ⟨w.heap.size + 1 + 1, 4, none⟩) (show w.heap.size + 1 + 1 < wa.heap.size from hlt2) (.slice x2 ct.length d2)).setCell_below (a := ⟨w.heap.size + 1 + 1, 5, none⟩) (show w.heap.size + 1 + 1 < wa.heap.size from hlt2) (.slice x3 st.length d3)).setCell_below (a := ⟨w.heap.size + 1 + 1, 6, none⟩) (show w.heap.size + 1 + 1 < wa.heap.size from hlt2) (.string N))
  go_wp2_with fail
  refine (HTB.out _ B4.out).mono ?_
  generalize (((((w1.setCell ⟨w.heap.size + 1 + 1, 2, none⟩ (.slice x0 cs.length d0)).setCell ⟨w.heap.size + 1 + 1, 3, none⟩ (.slice x1 ss.length d1)).setCell ⟨w.heap.size + 1 + 1, 4, none⟩ (.slice x2 ct.length d2)).setCell ⟨w.heap.size + 1 + 1, 5, none⟩ (.slice x3 st.length d3)).setCell ⟨w.heap.size + 1 + 1, 6, none⟩ (.string N)) = w2 at *
  rintro e w3 ⟨rfl, hbs, hb3⟩
  have B5 := hid (B4.out.trans (hb3.mono B4.out.size))
  have K1 := hid (G1.out.below hb3 G1.out.lt)
  have K2 := hid (G2.out.below hb3 G2.out.lt)
  have O3 := hid (O2.out.below hb3)
  have H3 := hid hbs
  have hx2 : w.heap.size + 1 + 1 < w2.heap.size := G2.out.lt
  clear hb3 hbs O1 O2 G0 G1 G2 F0 F1 F2 q0 q1 q2 q3 q4 q5 q6 q7 p0 p1 p2 p3 p4 p5 p6 p7 z0
  obtain ⟨p0, p1, p2, p3, p4, p5, p6, p7⟩ := K2.out.cells
  obtain ⟨r0, r1, r2, r3, r4, r5, r6, r7⟩ := K1.out.cells
  have z2 := K2.out.free
  have z1 := K1.out.free
  have M1 := hid (((((((((K1.out.other (show w.heap.size + 1 ≠ w.heap.size + 1 + 1 by omega) (i := 7) (.slice (some ⟨w2.heap.size, 0, none⟩) L.length L.length)).set (.int .i64 W)).1.set (.int .i64 H)).2.1.set (.slice x0 cs.length d0)).2.2.1.set (.slice x1 ss.length d1)).2.2.2.1.set (.slice x2 ct.length d2)).2.2.2.2.1.set (.slice x3 st.length d3)).2.2.2.2.2.1.set (.string N)).2.2.2.2.2.2.1.set (.slice (some ⟨w2.heap.size, 0, none⟩) L.length L.length)).2.2.2.2.2.2.2
  obtain ⟨t0, t1, t2, t3, t4, t5, t6, t7⟩ := M1.out.cells
  have B6 := hid (((((((((B5.out.setCell (p := ⟨w.heap.size + 1 + 1, 7, none⟩) (show w.heap.size ≤ w.heap.size + 1 + 1 by omega) (.slice (some ⟨w2.heap.size, 0, none⟩) L.length L.length)).setCell (p := ⟨w.heap.size + 1, 0, none⟩) (show w.heap.size ≤ w.heap.size + 1 by omega) (.int .i64 W)).setCell (p := ⟨w.heap.size + 1, 1, none⟩) (show w.heap.size ≤ w.heap.size + 1 by omega) (.int .i64 H)).setCell (p := ⟨w.heap.size + 1, 2, none⟩) (show w.heap.size ≤ w.heap.size + 1 by omega) (.slice x0 cs.length d0)).setCell (p := ⟨w.heap.size + 1, 3, none⟩) (show w.heap.size ≤ w.heap.size + 1 by omega) (.slice x1 ss.length d1)).setCell (p := ⟨w.heap.size + 1, 4, none⟩) (show w.heap.size ≤ w.heap.size + 1 by omega) (.slice x2 ct.length d2)).setCell (p := ⟨w.heap.size + 1, 5, none⟩) (show w.heap.size ≤ w.heap.size + 1 by omega) (.slice x3 st.length d3)).setCell (p := ⟨w.heap.size + 1, 6, none⟩) (show w.heap.size ≤ w.heap.size + 1 by omega) (.string N)).setCell (p := ⟨w.heap.size + 1, 7, none⟩) (show w.heap.size ≤ w.heap.size + 1 by omega) (.slice (some ⟨w2.heap.size, 0, none⟩) L.length L.length))
  have O6 := hid (((((((((O3.out.setCell_below (a := ⟨w.heap.size + 1 + 1, 7, none⟩) (show w.heap.size + 1 + 1 < wa.heap.size from hlt2) (.slice (some ⟨w2.heap.size, 0, none⟩) L.length L.length)).setCell_below (a := ⟨w.heap.size + 1, 0, none⟩) (show w.heap.size + 1 < wa.heap.size by omega) (.int .i64 W)).setCell_below (a := ⟨w.heap.size + 1, 1, none⟩) (show w.heap.size + 1 < wa.heap.size by omega) (.int .i64 H)).setCell_below (a := ⟨w.heap.size + 1, 2, none⟩) (show w.heap.size + 1 < wa.heap.size by omega) (.slice x0 cs.length d0)).setCell_below (a := ⟨w.heap.size + 1, 3, none⟩) (show w.heap.size + 1 < wa.heap.size by omega) (.slice x1 ss.length d1)).setCell_below (a := ⟨w.heap.size + 1, 4, none⟩) (show w.heap.size + 1 < wa.heap.size by omega) (.slice x2 ct.length d2)).setCell_below (a := ⟨w.heap.size + 1, 5, none⟩) (show w.heap.size + 1 < wa.heap.size by omega) (.slice x3 st.length d3)).setCell_below (a := ⟨w.heap.size + 1, 6, none⟩) (show w.heap.size + 1 < wa.heap.size by omega) (.string N)).setCell_below (a := ⟨w.heap.size + 1, 7, none⟩) (show w.heap.size + 1 < wa.heap.size by omega) (.slice (some ⟨w2.heap.size, 0, none⟩) L.length L.length))
  have H6 := hid (((((((((H3.out.setCell_below (a := ⟨w.heap.size + 1 + 1, 7, none⟩) (show w.heap.size + 1 + 1 < w2.heap.size from hx2) (.slice (some ⟨w2.heap.size, 0, none⟩) L.length L.length)).setCell_below (a := ⟨w.heap.size + 1, 0, none⟩) (show w.heap.size + 1 < w2.heap.size by omega) (.int .i64 W)).setCell_below (a := ⟨w.heap.size + 1, 1, none⟩) (show w.heap.size + 1 < w2.heap.size by omega) (.int .i64 H)).setCell_below (a := ⟨w.heap.size + 1, 2, none⟩) (show w.heap.size + 1 < w2.heap.size by omega) (.slice x0 cs.length d0)).setCell_below (a := ⟨w.heap.size + 1, 3, none⟩) (show w.heap.size + 1 < w2.heap.size by omega) (.slice x1 ss.length d1)).setCell_below (a := ⟨w.heap.size + 1, 4, none⟩) (show w.heap.size + 1 < w2.heap.size by omega) (.slice x2 ct.length d2)).setCell_below (a := ⟨w.heap.size + 1, 5, none⟩) (show w.heap.size + 1 < w2.heap.size by omega) (.slice x3 st.length d3)).setCell_below (a := ⟨w.heap.size + 1, 6, none⟩) (show w.heap.size + 1 < w2.heap.size by omega) (.string N)).setCell_below (a := ⟨w.heap.size + 1, 7, none⟩) (show w.heap.size + 1 < w2.heap.size by omega) (.slice (some ⟨w2.heap.size, 0, none⟩) L.length L.length))
  go_wp2_with fail
  refine bodyPost_ret (v := .agg #[.int .i64 W, .int .i64 H, .slice x0 cs.length d0, .slice x1 ss.length d1, .slice x2 ct.length d2, .slice x3 st.length d3, .string N, .slice (some ⟨w2.heap.size, 0, none⟩) L.length L.length]) (by simp [results, Tryz.results8, go_sem, t0, t1, t2, t3, t4, t5, t6, t7]) rfl ?_
  exact HQ.out _ _ ⟨_, rfl, ⟨x0, d0, x1, d1, x2, d2, x3, d3, w2.heap.size, rfl, O6.out.low (by omega), H6.out, by omega⟩, B6.out⟩
theorem toPic_any (v : Value) (p : Pk) (w : World) (hf : p.Fits) (hv : PV w v p) :
    Calls Tryz.prog 8 #[v] w fun e w' => ∃ v', e = .returned v' ∧ PV w' v' p ∧ Below w.heap.size w w' :=
  (toPic_own v p w hf hv).mono fun e w' ⟨v', h1, h2, h3⟩ => ⟨v', h1, h2.pv, h3⟩

end Go.Proofs.YtnnakmgngkpghaaGreat

/- The walk of the law FnExactPicOk. -/
namespace Go.Proofs.YtnnakmgngkpghaaGreat
open Go.RowKit Go.Maps
set_option linter.unusedVariables false

/-- What a picture's law is given. -/
structure Pk.Big (p : Pk) : Prop where
  h0 : p.T.cs.length ≤ 9223372036854775807
  h1 : p.T.ss.length ≤ 9223372036854775807
  h2 : p.T.ct.length ≤ 9223372036854775807
  h3 : p.T.st.length ≤ 9223372036854775807
  hN : p.N.size ≤ 9223372036854775807
  hn : p.L.length ≤ 9223372036854775807
  hs : ∀ j, j < p.L.length → (nth p.L j).2.length ≤ 9223372036854775807
theorem szPic_of (p : Pk) (v : Value) (w : World) (hB : p.Big) (hv : PV w v p) : Calls Tryz.prog 6 #[v, .int .i64 1048576] w fun e w' => ∃ r : Int, e = .returned (.int .i64 r) ∧ (r < 0 ∨ p.Fits) ∧ Below w.heap.size w w' := by
  obtain ⟨a0, c0, a1, c1, a2, c2, a3, c3, ao, cap, rfl, ht, hb⟩ := hv
  exact szPic_any p a0 a1 a2 a3 ao c0 c1 c2 c3 cap w hB.h0 hB.h1 hB.h2 hB.h3 hB.hN hB.hn hB.hs hb

/-- A picture's cells in a block. -/
def At8 (w : World) (b : Nat) (v : Value) (t : TypeId) : Prop := ∃ x0 x1 x2 x3 x4 x5 x6 x7, v = .agg #[x0, x1, x2, x3, x4, x5, x6, x7] ∧ Eig w b x0 x1 x2 x3 x4 x5 x6 x7 t

end Go.Proofs.YtnnakmgngkpghaaGreat
