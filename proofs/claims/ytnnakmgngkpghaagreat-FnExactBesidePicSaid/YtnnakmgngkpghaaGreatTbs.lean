/- The walk of the law FnExactBesidePic. -/
import Derived.Test.YtnnakmgngkpghaaGreatIbs
import Derived.Test.YtnnakmgngkpghaaGreatSzg
import Derived.Deep.RegionHeld3
import Derived.Deep.CutRange
namespace Go.Proofs.YtnnakmgngkpghaaGreat
open Go.RowKit Go.Maps
set_option linter.unusedVariables false

/-- A copy of a picture that can be handed on. -/
def Cpq (w : World) (u : Value) (p : Pk) : Prop := (∃ vs, PVq w u p vs) ∧ CapV u ∧ PV w u p
theorem Cpq.below {w w' : World} {u : Value} {p : Pk} (h : Cpq w u p) (hb : Below w.heap.size w w') : Cpq w' u p := by
  obtain ⟨⟨vs, h1⟩, h2, h3⟩ := h
  exact ⟨⟨vs, h1.below hb⟩, h2, h3.below hb⟩
theorem PW.cpq {w w' : World} {v : Value} {p : Pk} (h : PW w w' v p) : Cpq w' v p := by
  obtain ⟨vs, h1, _⟩ := h.pvq
  exact ⟨⟨vs, h1⟩, h.capv, h.pv⟩
/-- What the operations of the statement leave. -/
def VR (pv qv : Value) (p q A : Pk) (R : Bool) (M : Nat) : Nat → Value → World → Prop
  | 0, u, _ => u = pv
  | 1, u, w => Cpq w u p
  | 2, u, _ => u = qv
  | 3, u, w => Cpq w u q
  | 4, u, w => ∃ v, u = .tuple #[v, .bool R] ∧ PQ M w v A
  | 5, u, w => ∃ v, u = .tuple #[v, .bool R] ∧ PQ M w v A
  | 6, u, w => PQ M w u A
  | 8, u, w => ∃ Bx, u = .pointer (some ⟨Bx, 0, none⟩) ∧ M ≤ Bx ∧ Eig w Bx (.int .i64 0) (.int .i64 0) (.slice none 0 0) (.slice none 0 0) (.slice none 0 0) (.slice none 0 0) (.string ⟨#[]⟩) (.slice none 0 0) 36
  | _, _, _ => True
theorem VR.below {pv qv : Value} {p q A : Pk} {R : Bool} {M : Nat} {w w' : World} (hb : Below w.heap.size w w') : ∀ j u, VR pv qv p q A R M j u w → VR pv qv p q A R M j u w'
  | 0, _, h => h
  | 1, _, h => Cpq.below h hb
  | 2, _, h => h
  | 3, _, h => Cpq.below h hb
  | 4, _, ⟨v, e, h⟩ => ⟨v, e, PQ.below h hb⟩
  | 5, _, ⟨v, e, h⟩ => ⟨v, e, PQ.below h hb⟩
  | 6, _, h => PQ.below h hb
  | 7, _, _ => trivial
  | 8, _, ⟨Bx, e, h1, h⟩ => ⟨Bx, e, h1, Eig.below h hb h.lt⟩
  | k + 9, _, _ => trivial
def D8 : Nat → Nat := fun j => #[28, 29, 30, 31, 32, 27, 33, 34, 6].getD j 999
theorem D8_ne : ∀ i j : Fin 9, j ≠ i → D8 j ≠ D8 i := by decide
def D31 : Nat → Nat := fun j => #[95, 96, 97, 98, 99, 94, 100, 101, 15].getD j 999
theorem D31_ne : ∀ i j : Fin 9, j ≠ i → D31 j ≠ D31 i := by decide
/-- What is known of the bool, whenever it is told. -/
def Ex (R : Bool) (a b c : Nat) (listed : Array Bool) (u : Nat → Value) : Prop := (listed.getD 7 false = true → u a = .bool R) ∧ (listed.getD 5 false = true → ∃ v, u b = .tuple #[v, .bool R]) ∧ (listed.getD 10 false = true → u c = .bool R)
theorem Ex.keep {R : Bool} {a b c : Nat} {listed : Array Bool} {u : Nat → Value} (h : Ex R a b c listed u) (i d : Nat) (v : Value) (hi : i ≠ 5 ∧ i ≠ 7 ∧ i ≠ 10) (hd : a ≠ d ∧ b ≠ d ∧ c ≠ d) : Ex R a b c (listed.setIfInBounds i true) (upd u d v) := by
  obtain ⟨h1, h2, h3⟩ := h
  refine ⟨fun e => ?_, fun e => ?_, fun e => ?_⟩
  · rw [getD_set_ne false hi.2.1] at e
    have := h1 e
    simpa [upd, hd.1] using this
  · rw [getD_set_ne false hi.1] at e
    have := h2 e
    simpa [upd, hd.2.1] using this
  · rw [getD_set_ne false hi.2.2] at e
    have := h3 e
    simpa [upd, hd.2.2] using this

set_option maxRecDepth 100000 in
set_option maxHeartbeats 12800000 in
theorem law_beside (v1 v2 : Value) (p q : Pk) (w : World) (hB1 : p.Big) (hB2 : q.Big) (hv1 : PV w v1 p) (hv2 : PV w v2 q) :
    Calls Tryz.prog 4 #[v1, v2] w fun e w' => e = .returned (.bool true) ∧ Below w.heap.size w w' := by
  have HSZ1 := hid (fun q' (hq : Below w.heap.size w q') => szPic_at 1048576 (by decide) (by decide) p v1 q' hB1 (hv1.below hq))
  have HSZ2 := hid (fun l hl0 hl1 q' (hq : Below w.heap.size w q') => szPic_at l hl0 hl1 q v2 q' hB2 (hv2.below hq))
  have HTO1 := hid (fun q' (hf : p.Fits) (hq : Below w.heap.size w q') => toPic_own v1 p q' hf (hv1.below hq))
  have HTO2 := hid (fun q' (hf : q.Fits) (hq : Below w.heap.size w q') => toPic_own v2 q q' hf (hv2.below hq))
  obtain ⟨a0, c0, a1, c1, a2, c2, a3, c3, ao, cap, rfl, _, _⟩ := hv1
  obtain ⟨b0, d0, b1, d1, b2, d2, b3, d3, bo, cbp, rfl, _, _⟩ := hv2
  clear hB1 hB2
  have hA1 := (Below.refl w.heap.size w).alloc (Nat.le_refl _) (.cells #[.int .i64 p.W, .int .i64 p.H, .slice a0 p.T.cs.length c0, .slice a1 p.T.ss.length c1, .slice a2 p.T.ct.length c2, .slice a3 p.T.st.length c3, .string p.N, .slice ao p.L.length cap] 29)
  have hA := hA1.alloc (by simp) (.cells #[.int .i64 q.W, .int .i64 q.H, .slice b0 q.T.cs.length d0, .slice b1 q.T.ss.length d1, .slice b2 q.T.ct.length d2, .slice b3 q.T.st.length d3, .string q.N, .slice bo q.L.length cbp] 29)
  have hs1 : (w.alloc (.cells #[.int .i64 p.W, .int .i64 p.H, .slice a0 p.T.cs.length c0, .slice a1 p.T.ss.length c1, .slice a2 p.T.ct.length c2, .slice a3 p.T.st.length c3, .string p.N, .slice ao p.L.length cap] 29)).heap.size = w.heap.size + 1 := by simp
  have k0 := Eig.new w (.int .i64 p.W) (.int .i64 p.H) (.slice a0 p.T.cs.length c0) (.slice a1 p.T.ss.length c1) (.slice a2 p.T.ct.length c2) (.slice a3 p.T.st.length c3) (.string p.N) (.slice ao p.L.length cap) 29
  have k0' := k0.below ((Below.refl _ _).alloc (Nat.le_refl _) (.cells #[.int .i64 q.W, .int .i64 q.H, .slice b0 q.T.cs.length d0, .slice b1 q.T.ss.length d1, .slice b2 q.T.ct.length d2, .slice b3 q.T.st.length d3, .string q.N, .slice bo q.L.length cbp] 29)) k0.lt
  have k1 := Eig.new (w.alloc (.cells #[.int .i64 p.W, .int .i64 p.H, .slice a0 p.T.cs.length c0, .slice a1 p.T.ss.length c1, .slice a2 p.T.ct.length c2, .slice a3 p.T.st.length c3, .string p.N, .slice ao p.L.length cap] 29)) (.int .i64 q.W) (.int .i64 q.H) (.slice b0 q.T.cs.length d0) (.slice b1 q.T.ss.length d1) (.slice b2 q.T.ct.length d2) (.slice b3 q.T.st.length d3) (.string q.N) (.slice bo q.L.length cbp) 29
  rw [hs1] at k1
  have HA := hid hA
  have HEa := hid k0'
  have HEb := hid k1
  clear hA hA1 k0 k0' k1 hs1
  go_enter Tryz.func4, Tryz.ntmps4
  go_wp2_with fail
  refine (HSZ1.out _ HA.out).mono ?_
  generalize (w.alloc _).alloc _ = wa at *
  rintro e w1 ⟨r, rfl, hr, hb1⟩
  have B1 := hid (HA.out.trans (hb1.mono HA.out.size))
  have Ea1 := hid (HEa.out.below hb1 HEa.out.lt)
  have Eb1 := hid (HEb.out.below hb1 HEb.out.lt)
  clear hb1 HSZ1 HA HEa HEb
  by_cases hneg : r < 0
  · clear hr
    go_wp2_with fail
    go_ret
    exact ⟨rfl, B1.out⟩
  · obtain ⟨hf1, hr0, hr1⟩ := hr.resolve_left hneg
    clear hr
    have HF1 := hid hf1
    have HZ2 := hid (HSZ2.out r hr0 hr1 _ B1.out)
    obtain ⟨q0, q1, q2, q3, q4, q5, q6, q7⟩ := Eb1.out.cells
    clear hf1 HSZ2
    go_wp2_with fail
    refine HZ2.out.mono ?_
    rintro e w2 ⟨s, rfl, hs, hb2⟩
    have B2 := hid (B1.out.trans (hb2.mono B1.out.size))
    have Ea2 := hid (Ea1.out.below hb2 Ea1.out.lt)
    have Eb2 := hid (Eb1.out.below hb2 Eb1.out.lt)
    clear hb2 HZ2 B1 Ea1 Eb1 q0 q1 q2 q3 q4 q5 q6 q7
    by_cases hneg2 : s < 0
    · clear hs
      go_wp2_with fail
      go_ret
      exact ⟨rfl, B2.out⟩
    · have hf2 := (hs.resolve_left hneg2).1
      clear hs
      have HF2 := hid hf2
      have HT1 := hid (fun q' hq => HTO1.out q' HF1.out hq)
      have HT2 := hid (fun q' hq => HTO2.out q' HF2.out hq)
      have HSP := hid (fun q' v1 v2 vs1 vs2 (h1 : PVq q' v1 p vs1) (h2 : PVq q' v2 q vs2) h3 h4 h5 h6 => spec_bs v1 v2 p q vs1 vs2 q' HF1.out HF2.out h1 h2 h3 h4 h5 h6)
      have HIM := hid (fun q' v1 v2 vs1 vs2 (h1 : PVq q' v1 p vs1) (h2 : PVq q' v2 q vs2) h3 h4 h5 h6 => impl_bs v1 v2 p q vs1 vs2 q' HF1.out HF2.out h1 h2 h3 h4 h5 h6)
      have HEQ1 := hid (fun q' v v' hv hv' => eqPic_same v v' p q' HF1.out hv hv')
      have HEQ2 := hid (fun q' v v' hv hv' => eqPic_same v v' q q' HF2.out hv hv')
      have hsm := bsA_small p q HF1.out
      generalize bsB p q = R at *
      generalize bsA p q = A at *
      have HSM := hid hsm
      have HEA := hid (fun q' v v' hv hv' => eqPic_same v v' A q' HSM.out.fits hv hv')
      have HNP := hid (numP_pos A hsm.rows)
      have hRR : (R != R) = false := by simp
      obtain ⟨q0, q1, q2, q3, q4, q5, q6, q7⟩ := Eb2.out.cells
      obtain ⟨p0, p1, p2, p3, p4, p5, p6, p7⟩ := Ea2.out.cells
      clear hf2 HTO1 HTO2 hsm
      go_wp2_with fail
      obtain ⟨wM, hwM⟩ : ∃ wM, wM = w2 := ⟨_, rfl⟩
      rw [← hwM] at Ea2 Eb2 B2 ⊢
      clear hwM
      have BM := hid B2.out
      have HCa := hid (fun q' (hq : Below wM.heap.size wM q') => (Ea2.out.below hq Ea2.out.lt).cells)
      have HCb := hid (fun q' (hq : Below wM.heap.size wM q') => (Eb2.out.below hq Eb2.out.lt).cells)
      clear p0 p1 p2 p3 p4 p5 p6 p7 q0 q1 q2 q3 q4 q5 q6 q7
      refine wp_region_any (by kernel_rfl) ?_
      refine wpAny_inv (fun listed ac wq => ∃ u : Nat → Value, ac = { tmps := #[.agg #[.int .i64 p.W, .int .i64 p.H, .slice a0 p.T.cs.length c0, .slice a1 p.T.ss.length c1, .slice a2 p.T.ct.length c2, .slice a3 p.T.st.length c3, .string p.N, .slice ao p.L.length cap], .agg #[.int .i64 q.W, .int .i64 q.H, .slice b0 q.T.cs.length d0, .slice b1 q.T.ss.length d1, .slice b2 q.T.ct.length d2, .slice b3 q.T.st.length d3, .string q.N, .slice bo q.L.length cbp], .pointer (some ⟨w.heap.size, 0, none⟩), .pointer (some ⟨w.heap.size + 1, 0, none⟩), .bool false, .int .i64 s, u 6, u 7, undef, undef, undef, undef, undef, undef, undef, undef, undef, .agg #[.int .i64 p.W, .int .i64 p.H, .slice a0 p.T.cs.length c0, .slice a1 p.T.ss.length c1, .slice a2 p.T.ct.length c2, .slice a3 p.T.st.length c3, .string p.N, .slice ao p.L.length cap], .int .i64 1048576, .int .i64 r, .int .i64 r, .bool (decide (r < 0)), .agg #[.int .i64 q.W, .int .i64 q.H, .slice b0 q.T.cs.length d0, .slice b1 q.T.ss.length d1, .slice b2 q.T.ct.length d2, .slice b3 q.T.st.length d3, .string q.N, .slice bo q.L.length cbp], .int .i64 r, .int .i64 s, .int .i64 s, .bool (decide (s < 0)), u 27, u 28, u 29, u 30, u 31, u 32, u 33, u 34, undef, undef, undef, undef, undef, undef, undef, undef, undef, undef, undef, undef, undef, undef, undef, undef, undef, undef, undef, undef, undef, undef, undef, undef, undef, undef, undef, undef, undef, undef, undef, undef, undef, undef, undef, undef, undef, undef, undef, undef, undef, undef, undef, undef, undef, undef, undef, undef, undef, undef, undef, undef, undef, undef, undef, undef, undef, undef, undef, undef, undef, undef, undef, undef, undef, undef, undef, undef, undef, undef, undef, undef, undef, undef, undef, undef, undef, undef, undef, undef, undef, undef, undef, undef], defers := [] } ∧ Inv2 9 (VR (.agg #[.int .i64 p.W, .int .i64 p.H, .slice a0 p.T.cs.length c0, .slice a1 p.T.ss.length c1, .slice a2 p.T.ct.length c2, .slice a3 p.T.st.length c3, .string p.N, .slice ao p.L.length cap]) (.agg #[.int .i64 q.W, .int .i64 q.H, .slice b0 q.T.cs.length d0, .slice b1 q.T.ss.length d1, .slice b2 q.T.ct.length d2, .slice b3 q.T.st.length d3, .string q.N, .slice bo q.L.length cbp]) p q A R wM.heap.size) D8 (fun q' => Below wM.heap.size wM q') (fun _ => True) (fun listed u q' => ∃ Bx y0 y1 y2 y3 y4 y5 y6 y7, u 6 = .pointer (some ⟨Bx, 0, none⟩) ∧ wM.heap.size ≤ Bx ∧ Eig q' Bx y0 y1 y2 y3 y4 y5 y6 y7 36 ∧ PV q' (.agg #[y0, y1, y2, y3, y4, y5, y6, y7]) A ∧ Below wM.heap.size wM q') listed u wq ∧ Ex R 34 27 7 listed u) ?hpre ?hstep ?hend _ _ _ _ rfl (by decide) (fun j oj _ hl => absurd hl (by simp [Array.getD])) ⟨fun _ => undef, by rfl, ⟨fun _ => ⟨(Below.refl _ _).drew, trivial, fun j _ hl => absurd hl (by simp [Array.getD])⟩, fun h => absurd h (by simp [Array.getD])⟩, fun h => absurd h (by simp [Array.getD]), fun h => absurd h (by simp [Array.getD]), fun h => absurd h (by simp [Array.getD])⟩
      case hpre => exact pre_of (by kernel_rfl)
      case hstep =>
        rintro listed ac wq i oo hszl ⟨u, rfl, hI⟩ ho hall hun hcl
        have hin : i < 11 := (Array.getElem?_eq_some_iff.1 ho).1
        have HNS : Hid (i < 9 → i ≠ 7 → listed.getD 9 false = false) := hid (fun hi h7 => by
          cases hl : listed.getD 9 false with
          | false => rfl
          | true =>
            exfalso
            obtain rfl | rfl | rfl | rfl | rfl | rfl | rfl | rfl : i = 0 ∨ i = 1 ∨ i = 2 ∨ i = 3 ∨ i = 4 ∨ i = 5 ∨ i = 6 ∨ i = 8 := by omega
            · exact getD_ft (hcl 9 _ rfl hl ⟨0, .phase⟩ (by simp) rfl) hun
            · exact getD_ft (hcl 9 _ rfl hl ⟨1, .phase⟩ (by simp) rfl) hun
            · exact getD_ft (hcl 9 _ rfl hl ⟨2, .phase⟩ (by simp) rfl) hun
            · exact getD_ft (hcl 9 _ rfl hl ⟨3, .phase⟩ (by simp) rfl) hun
            · exact getD_ft (hcl 9 _ rfl hl ⟨4, .phase⟩ (by simp) rfl) hun
            · exact getD_ft (hcl 9 _ rfl hl ⟨5, .phase⟩ (by simp) rfl) hun
            · exact getD_ft (hcl 9 _ rfl hl ⟨6, .phase⟩ (by simp) rfl) hun
            · exact getD_ft (hcl 9 _ rfl hl ⟨8, .phase⟩ (by simp) rfl) hun)
        have ST : Hid (listed.getD 9 false = false → Facts 9 (VR (.agg #[.int .i64 p.W, .int .i64 p.H, .slice a0 p.T.cs.length c0, .slice a1 p.T.ss.length c1, .slice a2 p.T.ct.length c2, .slice a3 p.T.st.length c3, .string p.N, .slice ao p.L.length cap]) (.agg #[.int .i64 q.W, .int .i64 q.H, .slice b0 q.T.cs.length d0, .slice b1 q.T.ss.length d1, .slice b2 q.T.ct.length d2, .slice b3 q.T.st.length d3, .string q.N, .slice bo q.L.length cbp]) p q A R wM.heap.size) D8 listed u wq → i < 9 → ∀ (wz : World) (v : Value), Below wq.heap.size wq wz → (VR (.agg #[.int .i64 p.W, .int .i64 p.H, .slice a0 p.T.cs.length c0, .slice a1 p.T.ss.length c1, .slice a2 p.T.ct.length c2, .slice a3 p.T.st.length c3, .string p.N, .slice ao p.L.length cap]) (.agg #[.int .i64 q.W, .int .i64 q.H, .slice b0 q.T.cs.length d0, .slice b1 q.T.ss.length d1, .slice b2 q.T.ct.length d2, .slice b3 q.T.st.length d3, .string q.N, .slice bo q.L.length cbp]) p q A R wM.heap.size) i v wz → Inv2 9 (VR (.agg #[.int .i64 p.W, .int .i64 p.H, .slice a0 p.T.cs.length c0, .slice a1 p.T.ss.length c1, .slice a2 p.T.ct.length c2, .slice a3 p.T.st.length c3, .string p.N, .slice ao p.L.length cap]) (.agg #[.int .i64 q.W, .int .i64 q.H, .slice b0 q.T.cs.length d0, .slice b1 q.T.ss.length d1, .slice b2 q.T.ct.length d2, .slice b3 q.T.st.length d3, .string q.N, .slice bo q.L.length cbp]) p q A R wM.heap.size) D8 (fun q' => Below wM.heap.size wM q') (fun _ => True) (fun listed u q' => ∃ Bx y0 y1 y2 y3 y4 y5 y6 y7, u 6 = .pointer (some ⟨Bx, 0, none⟩) ∧ wM.heap.size ≤ Bx ∧ Eig q' Bx y0 y1 y2 y3 y4 y5 y6 y7 36 ∧ PV q' (.agg #[y0, y1, y2, y3, y4, y5, y6, y7]) A ∧ Below wM.heap.size wM q') (listed.setIfInBounds i true) (upd u (D8 i) v) wz) := hid (fun h1 h2 hi wz v hbz hv => Inv2.step i v h1 h2 hi ((hI.1.1 h1).1.trans (hbz.mono (hI.1.1 h1).1.size)) trivial (fun j hj hne => D8_ne ⟨i, hi⟩ ⟨j, hj⟩ (fun e => hne (by rw [Fin.mk.injEq] at e; exact e))) (fun j x hj h => VR.below hbz j x h) hv)
        obtain rfl | rfl | rfl | rfl | rfl | rfl | rfl | rfl | rfl | rfl | rfl : i = 0 ∨ i = 1 ∨ i = 2 ∨ i = 3 ∨ i = 4 ∨ i = 5 ∨ i = 6 ∨ i = 7 ∨ i = 8 ∨ i = 9 ∨ i = 10 := by omega
        · cases ho
          have hns := HNS.out (by decide) (by decide)
          obtain ⟨hb, hX, hF⟩ := hI.1.1 hns
          obtain ⟨g0, g1, g2, g3, g4, g5, g6, g7⟩ := HCa.out _ hb
          refine wpOp_step rfl (fun K hK => ?_)
          go_simp
          refine hK _ _ ⟨upd u 28 (.agg #[.int .i64 p.W, .int .i64 p.H, .slice a0 p.T.cs.length c0, .slice a1 p.T.ss.length c1, .slice a2 p.T.ct.length c2, .slice a3 p.T.st.length c3, .string p.N, .slice ao p.L.length cap]), ?_, ST.out hns hF (by decide) _ _ (Below.refl _ _) (rfl), hI.2.keep 0 28 _ (by decide) (by decide)⟩
          simp [upd]
        · cases ho
          have hns := HNS.out (by decide) (by decide)
          obtain ⟨hb, hX, hF⟩ := hI.1.1 hns
          have hwq := BM.out.trans (hb.mono BM.out.size)
          have f0 : u 28 = .agg #[.int .i64 p.W, .int .i64 p.H, .slice a0 p.T.cs.length c0, .slice a1 p.T.ss.length c1, .slice a2 p.T.ct.length c2, .slice a3 p.T.st.length c3, .string p.N, .slice ao p.L.length cap] := hF 0 (by decide) (hall ⟨0, .data⟩ (by simp) rfl)
          refine wpOp_step rfl (fun K hK => ?_)
          simp only [f0]
          go_simp
          refine (HT1.out wq hwq).mono ?_
          rintro e w3 ⟨vz, rfl, hz, hb3⟩
          refine hK _ _ ⟨upd u 29 (vz), ?_, ST.out hns hF (by decide) w3 _ hb3 (hz.cpq), hI.2.keep 1 29 _ (by decide) (by decide)⟩
          simp [upd, f0]
        · cases ho
          have hns := HNS.out (by decide) (by decide)
          obtain ⟨hb, hX, hF⟩ := hI.1.1 hns
          obtain ⟨g0, g1, g2, g3, g4, g5, g6, g7⟩ := HCb.out _ hb
          refine wpOp_step rfl (fun K hK => ?_)
          go_simp
          refine hK _ _ ⟨upd u 30 (.agg #[.int .i64 q.W, .int .i64 q.H, .slice b0 q.T.cs.length d0, .slice b1 q.T.ss.length d1, .slice b2 q.T.ct.length d2, .slice b3 q.T.st.length d3, .string q.N, .slice bo q.L.length cbp]), ?_, ST.out hns hF (by decide) _ _ (Below.refl _ _) (rfl), hI.2.keep 2 30 _ (by decide) (by decide)⟩
          simp [upd]
        · cases ho
          have hns := HNS.out (by decide) (by decide)
          obtain ⟨hb, hX, hF⟩ := hI.1.1 hns
          have hwq := BM.out.trans (hb.mono BM.out.size)
          have f2 : u 30 = .agg #[.int .i64 q.W, .int .i64 q.H, .slice b0 q.T.cs.length d0, .slice b1 q.T.ss.length d1, .slice b2 q.T.ct.length d2, .slice b3 q.T.st.length d3, .string q.N, .slice bo q.L.length cbp] := hF 2 (by decide) (hall ⟨2, .data⟩ (by simp) rfl)
          refine wpOp_step rfl (fun K hK => ?_)
          simp only [f2]
          go_simp
          refine (HT2.out wq hwq).mono ?_
          rintro e w3 ⟨vz, rfl, hz, hb3⟩
          refine hK _ _ ⟨upd u 31 (vz), ?_, ST.out hns hF (by decide) w3 _ hb3 (hz.cpq), hI.2.keep 3 31 _ (by decide) (by decide)⟩
          simp [upd, f2]
        · cases ho
          have hns := HNS.out (by decide) (by decide)
          obtain ⟨hb, hX, hF⟩ := hI.1.1 hns
          have hwq := BM.out.trans (hb.mono BM.out.size)
          obtain ⟨⟨vs1, pq1⟩, cv1, pv1⟩ : Cpq wq (u 29) p := hF 1 (by decide) (hall ⟨1, .data⟩ (by simp) rfl)
          obtain ⟨⟨vs3, pq3⟩, cv3, pv3⟩ : Cpq wq (u 31) q := hF 3 (by decide) (hall ⟨3, .data⟩ (by simp) rfl)
          refine wpOp_step rfl (fun K hK => ?_)
          go_simp
          refine (HSP.out wq _ _ _ _ pq1 pq3 cv1 cv3 pv1 pv3).mono ?_
          rintro e w3 ⟨vz, rfl, hz, hb3⟩
          refine hK _ _ ⟨upd u 32 (.tuple #[vz, .bool R]), ?_, ST.out hns hF (by decide) w3 _ hb3 (⟨vz, rfl, hz.low hb.size⟩), hI.2.keep 4 32 _ (by decide) (by decide)⟩
          simp [upd]
        · cases ho
          have hns := HNS.out (by decide) (by decide)
          obtain ⟨hb, hX, hF⟩ := hI.1.1 hns
          obtain ⟨vz, f4, pz⟩ : ∃ v, u 32 = .tuple #[v, .bool R] ∧ PQ wM.heap.size wq v A := hF 4 (by decide) (hall ⟨4, .data⟩ (by simp) rfl)
          refine wpOp_step rfl (fun K hK => ?_)
          simp only [f4]
          go_simp
          refine hK _ _ ⟨upd u 27 (.tuple #[vz, .bool R]), ?_, ST.out hns hF (by decide) _ _ (Below.refl _ _) (⟨vz, rfl, pz⟩), ⟨fun e => by (rw [getD_set_ne false (by decide)] at e; have := hI.2.1 e; simpa [upd] using this), fun _ => ⟨vz, by simp [upd]⟩, fun e => by (rw [getD_set_ne false (by decide)] at e; have := hI.2.2.2 e; simpa [upd] using this)⟩⟩
          simp [upd, f4]
        · cases ho
          have hns := HNS.out (by decide) (by decide)
          obtain ⟨hb, hX, hF⟩ := hI.1.1 hns
          obtain ⟨vz, f5, pz⟩ : ∃ v, u 27 = .tuple #[v, .bool R] ∧ PQ wM.heap.size wq v A := hF 5 (by decide) (hall ⟨5, .data⟩ (by simp) rfl)
          refine wpOp_step rfl (fun K hK => ?_)
          simp only [f5]
          go_simp
          refine hK _ _ ⟨upd u 33 (vz), ?_, ST.out hns hF (by decide) _ _ (Below.refl _ _) (pz), hI.2.keep 6 33 _ (by decide) (by decide)⟩
          simp [upd, f5]
        · cases ho
          obtain ⟨vz, f5⟩ := hI.2.2.1 (hall ⟨5, .data⟩ (by simp) rfl)
          refine wpOp_step rfl (fun K hK => ?_)
          simp only [f5]
          go_simp
          refine hK _ _ ⟨upd u 34 (.bool R), ?_, ⟨fun h => ?_, fun h => ?_⟩, ⟨fun _ => by simp [upd], fun e => ?_, fun e => ?_⟩⟩
          · simp [upd, f5]
          · rw [getD_set_ne false (by decide)] at h
            obtain ⟨hb, hX, hF⟩ := hI.1.1 h
            exact ⟨hb, trivial, hF.step2 7 _ (fun j hj hne => D8_ne ⟨7, by decide⟩ ⟨j, hj⟩ (fun e => hne (by rw [Fin.mk.injEq] at e; exact e))) (fun j x _ h => h) trivial⟩
          · rw [getD_set_ne false (by decide)] at h
            have := hI.1.2 h
            simpa [upd] using this
          · rw [getD_set_ne false (by decide)] at e
            have := hI.2.2.1 e
            simpa [upd] using this
          · rw [getD_set_ne false (by decide)] at e
            have := hI.2.2.2 e
            simpa [upd] using this
        · cases ho
          have hns := HNS.out (by decide) (by decide)
          obtain ⟨hb, hX, hF⟩ := hI.1.1 hns
          refine wpOp_step rfl (fun K hK => ?_)
          go_simp
          refine hK _ _ ⟨upd u 6 (.pointer (some ⟨wq.heap.size, 0, none⟩)), ?_, ST.out hns hF (by decide) _ _ ((Below.refl _ _).alloc (Nat.le_refl _) _) (⟨_, rfl, hb.size, Eig.new wq _ _ _ _ _ _ _ _ 36⟩), hI.2.keep 8 6 _ (by decide) (by decide)⟩
          simp [upd]
        · cases ho
          have hns : listed.getD 9 false = false := by
            cases h : listed.getD 9 false with
            | false => rfl
            | true => exact absurd hun (fun h' => getD_ft h h')
          obtain ⟨hb, hX, hF⟩ := hI.1.1 hns
          have pz : PQ wM.heap.size wq (u 33) A := hF 6 (by decide) (hall ⟨6, .data⟩ (by simp) rfl)
          obtain ⟨Bx, f8, hBx, EQ⟩ : ∃ Bx, u 6 = .pointer (some ⟨Bx, 0, none⟩) ∧ wM.heap.size ≤ Bx ∧ Eig wq Bx _ _ _ _ _ _ _ _ 36 := hF 8 (by decide) (hall ⟨8, .data⟩ (by simp) rfl)
          obtain ⟨m0, n0, m1, n1, m2, n2, m3, n3, m4, n4, hy, _, _⟩ := pz.pv
          have PZ := hid (pz.set8_tag EQ (.int .i64 A.W) (.int .i64 A.H) (.slice m0 A.T.cs.length n0) (.slice m1 A.T.ss.length n1) (.slice m2 A.T.ct.length n2) (.slice m3 A.T.st.length n3) (.string A.N) (.slice m4 A.L.length n4)).pv
          rw [hy] at PZ
          have EZ := hid (EQ.set8 (.int .i64 A.W) (.int .i64 A.H) (.slice m0 A.T.cs.length n0) (.slice m1 A.T.ss.length n1) (.slice m2 A.T.ct.length n2) (.slice m3 A.T.st.length n3) (.string A.N) (.slice m4 A.L.length n4))
          have BZ := hid (below8 hb hBx (.int .i64 A.W) (.int .i64 A.H) (.slice m0 A.T.cs.length n0) (.slice m1 A.T.ss.length n1) (.slice m2 A.T.ct.length n2) (.slice m3 A.T.st.length n3) (.string A.N) (.slice m4 A.L.length n4))
          have hex := hid hI.2
          obtain ⟨s0, s1, s2, s3, s4, s5, s6, s7⟩ := EQ.cells
          have fz := EQ.free
          clear EQ pz
          refine wpOp_step rfl (fun K hK => ?_)
          simp only [hy, f8]
          go_simp
          refine hK _ _ ⟨u, ?_, ⟨fun h => ?_, fun _ => ⟨Bx, _, _, _, _, _, _, _, _, f8, hBx, EZ.out, PZ.out, BZ.out⟩⟩, ⟨fun e => ?_, fun e => ?_, fun e => ?_⟩⟩
          · simp [hy, f8]
          · exfalso
            rw [show (listed.setIfInBounds 9 true).getD 9 false = true by simp [Array.getD, hszl]] at h
            cases h
          · rw [getD_set_ne false (by decide)] at e
            exact hex.out.1 e
          · rw [getD_set_ne false (by decide)] at e
            exact hex.out.2.1 e
          · rw [getD_set_ne false (by decide)] at e
            exact hex.out.2.2 e
        · cases ho
          have h9 : listed.getD 9 false = true := hall ⟨9, .chain⟩ (by simp) rfl
          have f7 := hI.2.1 (hall ⟨7, .data⟩ (by simp) rfl)
          have HF9 := hid (hI.1.2 h9)
          have hex := hid hI.2
          refine wpOp_step rfl (fun K hK => ?_)
          simp only [f7]
          go_simp
          refine hK _ _ ⟨upd u 7 (.bool R), ?_, ⟨fun h => ?_, fun _ => by simpa [upd] using HF9.out⟩, ⟨fun e => ?_, fun e => ?_, fun _ => by simp [upd]⟩⟩
          · simp [upd, f7]
          · rw [getD_set_ne false (by decide), h9] at h
            cases h
          · rw [getD_set_ne false (by decide)] at e
            have := hex.out.1 e
            simpa [upd] using this
          · rw [getD_set_ne false (by decide)] at e
            have := hex.out.2.1 e
            simpa [upd] using this
      case hend =>
        rintro listed ac wq hall ⟨u, rfl, hI⟩
        obtain ⟨Bx, y0, y1, y2, y3, y4, y5, y6, y7, h6, hBx, hE, hP, hbM⟩ := hI.1.2 (hall 9 (by decide))
        have h7 := hI.2.2.2 (hall 10 (by decide))
        clear hI
        simp only [h6, h7]
        generalize wq = wy at *
        have B3 := hid (B2.out.trans (hbM.mono B2.out.size))
        have EaY := hid (Ea2.out.below hbM Ea2.out.lt)
        have EbY := hid (Eb2.out.below hbM Eb2.out.lt)
        have WY := hid hE
        have HY3 := hid hP
        clear hE hP hbM hBx h6 h7 HSP HCa HCb BM Ea2 Eb2 B2 hall
        obtain ⟨p0, p1, p2, p3, p4, p5, p6, p7⟩ := EaY.out.cells
        go_wp2_with fail
        refine (HT1.out _ B3.out).mono ?_
        rintro e w4 ⟨v4, rfl, hv4, hb4⟩
        have B4 := hid (B3.out.trans (hb4.mono B3.out.size))
        have Eb4 := hid (EbY.out.below hb4 EbY.out.lt)
        have Y4 := hid hb4
        have YLT := hid hb4.size
        obtain ⟨⟨vsx, hq4⟩, hc4, hp4⟩ := hv4.cpq
        have CVx := hid hc4
        obtain ⟨x0, dx0, x1, dx1, x2, dx2, x3, dx3, gx, rfl, ho4, hbs4, hg4⟩ := hv4
        obtain ⟨t0, e0', t1, e1', t2, e2', t3, e3', hze, o0, o1, o2, o3⟩ := ho4
        injection hze with hze
        injection hze with hze
        injection hze with hz0 hze
        injection hze with hz1 hze
        injection hze with hz2 hze
        injection hze with hz3 hze
        rw [← hz0] at o0
        rw [← hz1] at o1
        rw [← hz2] at o2
        rw [← hz3] at o3
        clear hze hz0 hz1 hz2 hz3
        have I0 := hid (o0.intB (m := w4.heap.size) (Nat.le_refl _) (fun a n c h => by have := o0; rw [h] at this; exact this.ge.2))
        have I1 := hid (o1.intB (m := w4.heap.size) (Nat.le_refl _) (fun a n c h => by have := o1; rw [h] at this; exact this.ge.2))
        have I2 := hid (o2.intB (m := w4.heap.size) (Nat.le_refl _) (fun a n c h => by have := o2; rw [h] at this; exact this.ge.2))
        have I3 := hid (o3.intB (m := w4.heap.size) (Nat.le_refl _) (fun a n c h => by have := o3; rw [h] at this; exact this.ge.2))
        obtain ⟨ysx, hM4⟩ := hbs4.rowM
        have IM := hid (hM4.wider hg4 (Nat.le_refl _))
        have IG := hid (show gx < w4.heap.size from by obtain ⟨arr, h1, _⟩ := hbs4; exact h1.lt)
        have IB := hid hg4
        clear o0 o1 o2 o3 hbs4 hM4 hg4
        have hA4 := (Below.refl w4.heap.size w4).alloc (Nat.le_refl _) (.cells #[.int .i64 p.W, .int .i64 p.H, .slice x0 p.T.cs.length dx0, .slice x1 p.T.ss.length dx1, .slice x2 p.T.ct.length dx2, .slice x3 p.T.st.length dx3, .string p.N, .slice (some ⟨gx, 0, none⟩) p.L.length p.L.length] 36)
        have X5 := hid (Eig.new w4 (.int .i64 p.W) (.int .i64 p.H) (.slice x0 p.T.cs.length dx0) (.slice x1 p.T.ss.length dx1) (.slice x2 p.T.ct.length dx2) (.slice x3 p.T.st.length dx3) (.string p.N) (.slice (some ⟨gx, 0, none⟩) p.L.length p.L.length) 36)
        have B5 := hid (B4.out.trans (hA4.mono B4.out.size))
        have Eb5 := hid (Eb4.out.below hA4 Eb4.out.lt)
        have Vx5 := hid (hp4.below hA4)
        have Qx5 := hid (hq4.below hA4)
        have Y5 := hid (Y4.out.trans (hA4.mono Y4.out.size))
        have Nx5 := hid hA4
        clear hb4 hA4 hq4 hc4 hp4 Eb4 Y4 B4 p0 p1 p2 p3 p4 p5 p6 p7
        obtain ⟨q0, q1, q2, q3, q4, q5, q6, q7⟩ := Eb5.out.cells
        go_wp2_with fail
        refine (HT2.out _ B5.out).mono ?_
        generalize w4.alloc _ = w5 at *
        rintro e w6 ⟨v6, rfl, hv6, hb6⟩
        have B6 := hid (B5.out.trans (hb6.mono B5.out.size))
        have X6 := hid (X5.out.below hb6 X5.out.lt)
        have Vx6 := hid (Vx5.out.below hb6)
        have Qx6 := hid (Qx5.out.below hb6)
        have Y6 := hid (Y5.out.trans (hb6.mono Y5.out.size))
        have Nx6 := hid (Nx5.out.trans (hb6.mono Nx5.out.size))
        have h45 : w4.heap.size < w5.heap.size := X5.out.lt
        have h56 : w5.heap.size ≤ w6.heap.size := hb6.size
        obtain ⟨⟨vsz, hq4⟩, hc4, hp4⟩ := hv6.cpq
        have CVz := hid hc4
        obtain ⟨z0, dz0, z1, dz1, z2, dz2, z3, dz3, gz, rfl, ho4, hbs4, hg4⟩ := hv6
        obtain ⟨t0, e0', t1, e1', t2, e2', t3, e3', hze, o0, o1, o2, o3⟩ := ho4
        injection hze with hze
        injection hze with hze
        injection hze with hz0 hze
        injection hze with hz1 hze
        injection hze with hz2 hze
        injection hze with hz3 hze
        rw [← hz0] at o0
        rw [← hz1] at o1
        rw [← hz2] at o2
        rw [← hz3] at o3
        clear hze hz0 hz1 hz2 hz3
        have J0 := hid (o0.intB (m := w6.heap.size) (Nat.le_refl _) (fun a n c h => by have := o0; rw [h] at this; exact this.ge.2))
        have J1 := hid (o1.intB (m := w6.heap.size) (Nat.le_refl _) (fun a n c h => by have := o1; rw [h] at this; exact this.ge.2))
        have J2 := hid (o2.intB (m := w6.heap.size) (Nat.le_refl _) (fun a n c h => by have := o2; rw [h] at this; exact this.ge.2))
        have J3 := hid (o3.intB (m := w6.heap.size) (Nat.le_refl _) (fun a n c h => by have := o3; rw [h] at this; exact this.ge.2))
        obtain ⟨ysz, hM4⟩ := hbs4.rowM
        have JM := hid (hM4.wider hg4 (Nat.le_refl _))
        have JG := hid (show gz < w6.heap.size from by obtain ⟨arr, h1, _⟩ := hbs4; exact h1.lt)
        have JB := hid hg4
        clear o0 o1 o2 o3 hbs4 hM4 hg4
        have hA6 := (Below.refl w6.heap.size w6).alloc (Nat.le_refl _) (.cells #[.int .i64 q.W, .int .i64 q.H, .slice z0 q.T.cs.length dz0, .slice z1 q.T.ss.length dz1, .slice z2 q.T.ct.length dz2, .slice z3 q.T.st.length dz3, .string q.N, .slice (some ⟨gz, 0, none⟩) q.L.length q.L.length] 36)
        have Z7 := hid (Eig.new w6 (.int .i64 q.W) (.int .i64 q.H) (.slice z0 q.T.cs.length dz0) (.slice z1 q.T.ss.length dz1) (.slice z2 q.T.ct.length dz2) (.slice z3 q.T.st.length dz3) (.string q.N) (.slice (some ⟨gz, 0, none⟩) q.L.length q.L.length) 36)
        have B7 := hid (B6.out.trans (hA6.mono B6.out.size))
        have X7 := hid (X6.out.below hA6 X6.out.lt)
        have Vx7 := hid (Vx6.out.below hA6)
        have Qx7 := hid (Qx6.out.below hA6)
        have Vz7 := hid (hp4.below hA6)
        have Qz7 := hid (hq4.below hA6)
        have Y7 := hid (Y6.out.trans (hA6.mono Y6.out.size))
        have Nx7 := hid (Nx6.out.trans (hA6.mono Nx6.out.size))
        have Nz7 := hid hA6
        clear hb6 hA6 hq4 hc4 hp4 Eb5 X5 X6 Vx5 Vx6 Qx5 Qx6 Y5 Y6 Nx5 Nx6 B5 B6 q0 q1 q2 q3 q4 q5 q6 q7
        obtain ⟨q0, q1, q2, q3, q4, q5, q6, q7⟩ := X7.out.cells
        go_wp2_with fail
        refine (HIM.out _ _ _ _ _ Qx7.out Qz7.out CVx.out CVz.out Vx7.out Vz7.out).mono ?_
        generalize w6.alloc _ = w7 at *
        rintro e w8 ⟨g0, rfl, hg0, hb8⟩
        have HG8 := hid hg0
        obtain ⟨j0, f0, j1, f1, j2, f2, j3, f3, jo, jc, rfl, _, _⟩ := hg0.pq.pv
        have hA8 := (Below.refl w8.heap.size w8).alloc (Nat.le_refl _) (.cells #[.int .i64 A.W, .int .i64 A.H, .slice j0 A.T.cs.length f0, .slice j1 A.T.ss.length f1, .slice j2 A.T.ct.length f2, .slice j3 A.T.st.length f3, .string A.N, .slice jo A.L.length jc] 36)
        have hb8' := hb8.trans (hA8.mono hb8.size)
        have GB9 := hid (Eig.new w8 (.int .i64 A.W) (.int .i64 A.H) (.slice j0 A.T.cs.length f0) (.slice j1 A.T.ss.length f1) (.slice j2 A.T.ct.length f2) (.slice j3 A.T.st.length f3) (.string A.N) (.slice jo A.L.length jc) 36)
        have HG9 := hid (HG8.out.poh.below hA8)
        have B9 := hid (B7.out.trans (hb8'.mono B7.out.size))
        have X9 := hid (X7.out.below hb8' X7.out.lt)
        have Z9 := hid (Z7.out.below hb8' Z7.out.lt)
        have Vx9 := hid (Vx7.out.below hb8')
        have Vz9 := hid (Vz7.out.below hb8')
        have Y9 := hid (Y7.out.trans (hb8'.mono Y7.out.size))
        have Nx9 := hid (Nx7.out.trans (hb8'.mono Nx7.out.size))
        have Nz9 := hid (Nz7.out.trans (hb8'.mono Nz7.out.size))
        have W9 := hid (WY.out.below Y9.out WY.out.lt)
        have h67 : w6.heap.size < w7.heap.size := Z7.out.lt
        have h78 : w7.heap.size ≤ w8.heap.size := hb8.size
        have h44 : wy.heap.size ≤ w4.heap.size := YLT.out
        clear hb8 hb8' hA8 hg0 HG8 Qx7 Qz7 CVx CVz X7 Z7 Vx7 Vz7 Y7 Nx7 Nz7 B7 q0 q1 q2 q3 q4 q5 q6 q7
        obtain ⟨p0, p1, p2, p3, p4, p5, p6, p7⟩ := GB9.out.cells
        obtain ⟨q0, q1, q2, q3, q4, q5, q6, q7⟩ := W9.out.cells
        go_wp2_with fail
        refine (HEA.out _ _ _ HG9.out.po.pq.pv (HY3.out.below Y9.out)).mono ?_
        generalize w8.alloc _ = w9 at *
        rintro e u9 ⟨rfl, hbu⟩
        have HGu := hid (HG9.out.below hbu)
        have Bu := hid (B9.out.trans (hbu.mono B9.out.size))
        have Xu := hid (X9.out.below hbu X9.out.lt)
        have Zu := hid (Z9.out.below hbu Z9.out.lt)
        have Gu := hid (GB9.out.below hbu GB9.out.lt)
        have Vxu := hid (Vx9.out.below hbu)
        have Vzu := hid (Vz9.out.below hbu)
        have Yu := hid (Y9.out.trans (hbu.mono Y9.out.size))
        have Nxu := hid (Nx9.out.trans (hbu.mono Nx9.out.size))
        have Nzu := hid (Nz9.out.trans (hbu.mono Nz9.out.size))
        have Eau := hid (EaY.out.below Yu.out EaY.out.lt)
        clear hbu HG9 B9 X9 Z9 W9 GB9 Vx9 Vz9 Y9 Nx9 Nz9 p0 p1 p2 p3 p4 p5 p6 p7 q0 q1 q2 q3 q4 q5 q6 q7
        obtain ⟨q0, q1, q2, q3, q4, q5, q6, q7⟩ := Eau.out.cells
        obtain ⟨p0, p1, p2, p3, p4, p5, p6, p7⟩ := Xu.out.cells
        have HEC := hid (fun q' (hq : Below u9.heap.size u9 q') => (Eau.out.below hq Eau.out.lt).cells)
        have HGC := hid (fun q' (hq : Below u9.heap.size u9 q') => (Xu.out.below hq Xu.out.lt).cells)
        go_wp2_with fail
        go_cut [58] from 54 to 58 (fun s wx => s = .bool false ∧ Below u9.heap.size u9 wx)
        case first =>
          go_region_held3 (fun q' => q'.cell? ⟨w.heap.size, 0, none⟩ = some (.int .i64 p.W) ∧ q'.cell? ⟨w.heap.size, 1, none⟩ = some (.int .i64 p.H) ∧ q'.cell? ⟨w.heap.size, 2, none⟩ = some (.slice a0 p.T.cs.length c0) ∧ q'.cell? ⟨w.heap.size, 3, none⟩ = some (.slice a1 p.T.ss.length c1) ∧ q'.cell? ⟨w.heap.size, 4, none⟩ = some (.slice a2 p.T.ct.length c2) ∧ q'.cell? ⟨w.heap.size, 5, none⟩ = some (.slice a3 p.T.st.length c3) ∧ q'.cell? ⟨w.heap.size, 6, none⟩ = some (.string p.N) ∧ q'.cell? ⟨w.heap.size, 7, none⟩ = some (.slice ao p.L.length cap) ∧ q'.cell? ⟨w4.heap.size, 0, none⟩ = some (.int .i64 p.W) ∧ q'.cell? ⟨w4.heap.size, 1, none⟩ = some (.int .i64 p.H) ∧ q'.cell? ⟨w4.heap.size, 2, none⟩ = some (.slice x0 p.T.cs.length dx0) ∧ q'.cell? ⟨w4.heap.size, 3, none⟩ = some (.slice x1 p.T.ss.length dx1) ∧ q'.cell? ⟨w4.heap.size, 4, none⟩ = some (.slice x2 p.T.ct.length dx2) ∧ q'.cell? ⟨w4.heap.size, 5, none⟩ = some (.slice x3 p.T.st.length dx3) ∧ q'.cell? ⟨w4.heap.size, 6, none⟩ = some (.string p.N) ∧ q'.cell? ⟨w4.heap.size, 7, none⟩ = some (.slice (some ⟨gx, 0, none⟩) p.L.length p.L.length)) (go_keep) (first
            | (go_at_call 8; refine (HT1.out _ ?_).mono ?_; · first | exact Bu.out | exact Bu.out.trans ((Below.refl _ _).drew.mono Bu.out.size)
               rintro e x7 ⟨v7, rfl, hv7, hbx7⟩
               have hcA : Below u9.heap.size u9 x7 := by first | exact hbx7 | exact Below.trans (Below.refl _ _).drew hbx7
               have hx7 := hv7.pv
               obtain ⟨t0, e0', t1, e1', t2, e2', t3, e3', tt, tcap, rfl, _, _⟩ := hv7.pv
               obtain ⟨f0', f1', f2', f3', f4', f5', f6', f7'⟩ := HEC.out _ hcA
               obtain ⟨g0', g1', g2', g3', g4', g5', g6', g7'⟩ := HGC.out _ hcA)
            | (go_at_call 10; refine (HEQ1.out _ _ _ ?_ ?_).mono ?_; · first | exact Vxu.out.below hcA | exact (Vxu.out.below hcA).below (Below.refl _ _).drew
               · first | exact hx7 | exact hx7.below (Below.refl _ _).drew
               rintro e x8 ⟨rfl, hbx8⟩
               have hcB : Below u9.heap.size u9 x8 := by first | exact hcA.trans (hbx8.mono hcA.size) | exact hcA.trans ((Below.trans (Below.refl _ _).drew hbx8).mono hcA.size)
               obtain ⟨h0', h1', h2', h3', h4', h5', h6', h7'⟩ := HEC.out _ hcB
               obtain ⟨k0', k1', k2', k3', k4', k5', k6', k7'⟩ := HGC.out _ hcB))
          all_goals
            go_wp2_with fail
            go_meet
            exact ⟨rfl, hcB⟩
        case rest =>
          obtain ⟨rfl, hb9⟩ := hcut
          generalize hwc : wc = v9 at *
          clear hwc
          have HGv := hid (HGu.out.below hb9)
          have Gv := hid (Gu.out.below hb9 Gu.out.lt)
          have Xv := hid (Xu.out.below hb9 Xu.out.lt)
          have Zv := hid (Zu.out.below hb9 Zu.out.lt)
          have Vzv := hid (Vzu.out.below hb9)
          have Yv := hid (Yu.out.trans (hb9.mono Yu.out.size))
          have Nxv := hid (Nxu.out.trans (hb9.mono Nxu.out.size))
          have Nzv := hid (Nzu.out.trans (hb9.mono Nzu.out.size))
          have Bv := hid (Bu.out.trans (hb9.mono Bu.out.size))
          have Ebv := hid (EbY.out.below Yv.out EbY.out.lt)
          clear hb9 HGu Bu Gu Xu Zu Yu Nxu Nzu Vxu Vzu Eau q0 q1 q2 q3 q4 q5 q6 q7 p0 p1 p2 p3 p4 p5 p6 p7 HEC HGC
          obtain ⟨q0, q1, q2, q3, q4, q5, q6, q7⟩ := Ebv.out.cells
          obtain ⟨p0, p1, p2, p3, p4, p5, p6, p7⟩ := Zv.out.cells
          have HEC := hid (fun q' (hq : Below v9.heap.size v9 q') => (Ebv.out.below hq Ebv.out.lt).cells)
          have HGC := hid (fun q' (hq : Below v9.heap.size v9 q') => (Zv.out.below hq Zv.out.lt).cells)
          go_wp2_with fail
          go_cut [63] from 59 to 63 (fun s wx => s = .bool false ∧ Below v9.heap.size v9 wx)
          case first =>
            go_region_held3 (fun q' => q'.cell? ⟨w.heap.size + 1, 0, none⟩ = some (.int .i64 q.W) ∧ q'.cell? ⟨w.heap.size + 1, 1, none⟩ = some (.int .i64 q.H) ∧ q'.cell? ⟨w.heap.size + 1, 2, none⟩ = some (.slice b0 q.T.cs.length d0) ∧ q'.cell? ⟨w.heap.size + 1, 3, none⟩ = some (.slice b1 q.T.ss.length d1) ∧ q'.cell? ⟨w.heap.size + 1, 4, none⟩ = some (.slice b2 q.T.ct.length d2) ∧ q'.cell? ⟨w.heap.size + 1, 5, none⟩ = some (.slice b3 q.T.st.length d3) ∧ q'.cell? ⟨w.heap.size + 1, 6, none⟩ = some (.string q.N) ∧ q'.cell? ⟨w.heap.size + 1, 7, none⟩ = some (.slice bo q.L.length cbp) ∧ q'.cell? ⟨w6.heap.size, 0, none⟩ = some (.int .i64 q.W) ∧ q'.cell? ⟨w6.heap.size, 1, none⟩ = some (.int .i64 q.H) ∧ q'.cell? ⟨w6.heap.size, 2, none⟩ = some (.slice z0 q.T.cs.length dz0) ∧ q'.cell? ⟨w6.heap.size, 3, none⟩ = some (.slice z1 q.T.ss.length dz1) ∧ q'.cell? ⟨w6.heap.size, 4, none⟩ = some (.slice z2 q.T.ct.length dz2) ∧ q'.cell? ⟨w6.heap.size, 5, none⟩ = some (.slice z3 q.T.st.length dz3) ∧ q'.cell? ⟨w6.heap.size, 6, none⟩ = some (.string q.N) ∧ q'.cell? ⟨w6.heap.size, 7, none⟩ = some (.slice (some ⟨gz, 0, none⟩) q.L.length q.L.length)) (go_keep) (first
              | (go_at_call 8; refine (HT2.out _ ?_).mono ?_; · first | exact Bv.out | exact Bv.out.trans ((Below.refl _ _).drew.mono Bv.out.size)
                 rintro e x7 ⟨v7, rfl, hv7, hbx7⟩
                 have hcA : Below v9.heap.size v9 x7 := by first | exact hbx7 | exact Below.trans (Below.refl _ _).drew hbx7
                 have hx7 := hv7.pv
                 obtain ⟨t0, e0', t1, e1', t2, e2', t3, e3', tt, tcap, rfl, _, _⟩ := hv7.pv
                 obtain ⟨f0', f1', f2', f3', f4', f5', f6', f7'⟩ := HEC.out _ hcA
                 obtain ⟨g0', g1', g2', g3', g4', g5', g6', g7'⟩ := HGC.out _ hcA)
              | (go_at_call 10; refine (HEQ2.out _ _ _ ?_ ?_).mono ?_; · first | exact Vzv.out.below hcA | exact (Vzv.out.below hcA).below (Below.refl _ _).drew
                 · first | exact hx7 | exact hx7.below (Below.refl _ _).drew
                 rintro e x8 ⟨rfl, hbx8⟩
                 have hcB : Below v9.heap.size v9 x8 := by first | exact hcA.trans (hbx8.mono hcA.size) | exact hcA.trans ((Below.trans (Below.refl _ _).drew hbx8).mono hcA.size)
                 obtain ⟨h0', h1', h2', h3', h4', h5', h6', h7'⟩ := HEC.out _ hcB
                 obtain ⟨k0', k1', k2', k3', k4', k5', k6', k7'⟩ := HGC.out _ hcB))
            all_goals
              go_wp2_with fail
              go_meet
              exact ⟨rfl, hcB⟩
          case rest =>
            obtain ⟨rfl, hb9⟩ := hcut
            generalize hwc : wc = w10 at *
            clear hwc
            have HGw := hid (HGv.out.below hb9)
            have Gw := hid (Gv.out.below hb9 Gv.out.lt)
            have Xw := hid (Xv.out.below hb9 Xv.out.lt)
            have Zw := hid (Zv.out.below hb9 Zv.out.lt)
            have Yw := hid (Yv.out.trans (hb9.mono Yv.out.size))
            have Nxw := hid (Nxv.out.trans (hb9.mono Nxv.out.size))
            have Nzw := hid (Nzv.out.trans (hb9.mono Nzv.out.size))
            clear hb9 HGv Bv Gv Xv Zv Yv Nxv Nzv Vzv Ebv q0 q1 q2 q3 q4 q5 q6 q7 p0 p1 p2 p3 p4 p5 p6 p7 HEC HGC HEQ1 HEQ2
            obtain ⟨p0, p1, p2, p3, p4, p5, p6, p7⟩ := Xw.out.cells
            have HMK := hid (markPicJ 1 (by decide) (by decide) wy.heap.size w4.heap.size p.W p.H p.N x0 x1 x2 x3 _ _ _ _ dx0 dx1 dx2 dx3 gx p.L.length ysx _ w10 HF1.out.h0 HF1.out.h1 HF1.out.h2 HF1.out.h3 Nxw.out.size (I0.out.below Nxw.out) (I1.out.below Nxw.out) (I2.out.below Nxw.out) (I3.out.below Nxw.out) HF1.out.hn HF1.out.hs IB.out IG.out (IM.out.below Nxw.out))
            clear I0 I1 I2 I3 IM
            go_wp2_with fail
            refine HMK.out.mono ?_
            rintro e w11 ⟨⟨r9, rfl, hr9, hr9'⟩, hsp⟩
            have h36 : wy.heap.size ≤ w10.heap.size := Yw.out.size
            have hNz10 : w6.heap.size ≤ w10.heap.size := Nzw.out.size
            have HG11 := hid (HGw.out.spare hsp (show w4.heap.size ≤ w7.heap.size by omega))
            have G11 := hid (show Eig w11 w8.heap.size _ _ _ _ _ _ _ _ 36 from (hsp.2.2.2.2 _ Gw.out.lt (.inr (by omega))).trans Gw.out)
            have Z11 := hid (show Eig w11 w6.heap.size _ _ _ _ _ _ _ _ 36 from (hsp.2.2.2.2 _ Zw.out.lt (.inr (by omega))).trans Zw.out)
            have Y11 := hid (Yw.out.trans (hsp.below h36))
            have K0 := hid ((J0.out.below Nzw.out).spare hsp (show w4.heap.size ≤ w5.heap.size by omega))
            have K1 := hid ((J1.out.below Nzw.out).spare hsp (show w4.heap.size ≤ w5.heap.size by omega))
            have K2 := hid ((J2.out.below Nzw.out).spare hsp (show w4.heap.size ≤ w5.heap.size by omega))
            have K3 := hid ((J3.out.below Nzw.out).spare hsp (show w4.heap.size ≤ w5.heap.size by omega))
            have KM := hid ((JM.out.below Nzw.out).spare hsp (show w4.heap.size ≤ w5.heap.size by omega) (show w4.heap.size ≤ gz by have := JB.out; omega))
            have hs11 : w10.heap.size ≤ w11.heap.size := hsp.2.2.2.1
            clear hsp HGw Yw Nxw Nzw Gw Xw Zw HMK J0 J1 J2 J3 JM p0 p1 p2 p3 p4 p5 p6 p7
            obtain ⟨p0, p1, p2, p3, p4, p5, p6, p7⟩ := Z11.out.cells
            have HMK := hid (markPicJ r9 hr9 (by omega) w5.heap.size w6.heap.size q.W q.H q.N z0 z1 z2 z3 _ _ _ _ dz0 dz1 dz2 dz3 gz q.L.length ysz _ w11 HF2.out.h0 HF2.out.h1 HF2.out.h2 HF2.out.h3 (by omega) K0.out K1.out K2.out K3.out HF2.out.hn HF2.out.hs JB.out JG.out KM.out)
            clear K0 K1 K2 K3 KM
            go_wp2_with fail
            refine HMK.out.mono ?_
            rintro e w12 ⟨⟨r8, rfl, hr8, hr8'⟩, hsp⟩
            have h37 : w5.heap.size ≤ w11.heap.size := by omega
            have HG12 := hid (HG11.out.spare hsp (show w6.heap.size ≤ w7.heap.size by omega))
            have G12 := hid (show Eig w12 w8.heap.size _ _ _ _ _ _ _ _ 36 from (hsp.2.2.2.2 _ G11.out.lt (.inr (by omega))).trans G11.out)
            have Y12 := hid (Y11.out.trans ((hsp.below h37).mono (show wy.heap.size ≤ w5.heap.size by omega)))
            have W12 := hid (WY.out.below Y12.out WY.out.lt)
            have hd9 : decide (r8 < 0) = false := by simp; omega
            clear hsp HG11 G11 Y11 Z11 HMK p0 p1 p2 p3 p4 p5 p6 p7
            obtain ⟨p0, p1, p2, p3, p4, p5, p6, p7⟩ := G12.out.cells
            obtain ⟨q0, q1, q2, q3, q4, q5, q6, q7⟩ := W12.out.cells
            go_wp2_with fail
            refine (HEA.out _ _ _ HG12.out.po.pq.pv (HY3.out.below Y12.out)).mono ?_
            rintro e w13 ⟨rfl, hb13⟩
            have HG13 := hid (HG12.out.below hb13)
            have G13 := hid (G12.out.below hb13 G12.out.lt)
            have Y13 := hid (Y12.out.trans (hb13.mono Y12.out.size))
            clear hb13 HG12 G12 Y12 W12 p0 p1 p2 p3 p4 p5 p6 p7 q0 q1 q2 q3 q4 q5 q6 q7
            obtain ⟨p0, p1, p2, p3, p4, p5, p6, p7⟩ := G13.out.cells
            have hw81 : w8.heap.size ≤ w13.heap.size := Nat.le_of_lt G13.out.lt
            have HMP := hid (markPO w7.heap.size w8.heap.size _ A w13 hw81 HSM.out.fits.h0 HSM.out.fits.h1 HSM.out.fits.h2 HSM.out.fits.h3 HSM.out.len HSM.out.rows HG13.out)
            go_wp2_with fail
            refine HMP.out.mono ?_
            rintro e w14 ⟨rfl, hg14, hsp⟩
            have HG14 := hid hg14
            have G14 := hid (show Eig w14 w8.heap.size _ _ _ _ _ _ _ _ 36 from (hsp.2.2.2.2 _ G13.out.lt (.inr (Nat.le_refl _))).trans G13.out)
            have Y14 := hid (Y13.out.trans ((hsp.below (show w7.heap.size ≤ w13.heap.size by omega)).mono (show wy.heap.size ≤ w7.heap.size by omega)))
            clear hg14 hsp HG13 G13 Y13 HMP p0 p1 p2 p3 p4 p5 p6 p7
            obtain ⟨p0, p1, p2, p3, p4, p5, p6, p7⟩ := G14.out.cells
            have HHD := hid (fun q' (hq : Below w14.heap.size w14 q') => heldPV _ A q' HSM.out.fits.h0 HSM.out.fits.h1 HSM.out.fits.h2 HSM.out.fits.h3 HSM.out.len HSM.out.rows (HG14.out.below hq).po.pq.pv)
            go_wp2_with fail
            refine (HHD.out _ (Below.refl _ _)).mono ?_
            rintro e w15 ⟨rfl, hb15⟩
            have Z15 := hid hb15
            have Y15 := hid (Y14.out.trans (hb15.mono Y14.out.size))
            have B15 := hid (B3.out.trans (Y15.out.mono B3.out.size))
            have Ea15 := hid (EaY.out.below Y15.out EaY.out.lt)
            have Eb15 := hid (EbY.out.below Y15.out EbY.out.lt)
            have hp : ¬ (numP A < 0) := by have := HNP.out; omega
            generalize numP A = NP at *
            clear hb15 p0 p1 p2 p3 p4 p5 p6 p7
            obtain ⟨q0, q1, q2, q3, q4, q5, q6, q7⟩ := Eb15.out.cells
            obtain ⟨p0, p1, p2, p3, p4, p5, p6, p7⟩ := Ea15.out.cells
            go_wp2_with fail
            have BM := hid B15.out
            have HCa := hid (fun q' (hq : Below w15.heap.size w15 q') => (Ea15.out.below hq Ea15.out.lt).cells)
            have HCb := hid (fun q' (hq : Below w15.heap.size w15 q') => (Eb15.out.below hq Eb15.out.lt).cells)
            clear p0 p1 p2 p3 p4 p5 p6 p7 q0 q1 q2 q3 q4 q5 q6 q7 Ea15 Eb15 B15
            generalize u 27 = U27
            generalize u 28 = U28
            generalize u 29 = U29
            generalize u 30 = U30
            generalize u 31 = U31
            generalize u 32 = U32
            generalize u 33 = U33
            generalize u 34 = U34
            refine wp_region_any (by kernel_rfl) ?_
            refine wpAny_inv (fun listed ac wq => ∃ u : Nat → Value, ac = { tmps := #[Value.agg #[Value.int IntKind.i64 p.W, Value.int IntKind.i64 p.H, Value.slice a0 p.T.cs.length c0, Value.slice a1 p.T.ss.length c1, Value.slice a2 p.T.ct.length c2, Value.slice a3 p.T.st.length c3, Value.string p.N, Value.slice ao p.L.length cap], Value.agg #[Value.int IntKind.i64 q.W, Value.int IntKind.i64 q.H, Value.slice b0 q.T.cs.length d0, Value.slice b1 q.T.ss.length d1, Value.slice b2 q.T.ct.length d2, Value.slice b3 q.T.st.length d3, Value.string q.N, Value.slice bo q.L.length cbp], Value.pointer (some { block := w.heap.size, off := 0 }), Value.pointer (some { block := w.heap.size + 1, off := 0 }), Value.bool false, Value.int IntKind.i64 s, Value.pointer (some { block := Bx, off := 0 }), Value.bool R, Value.pointer (some { block := w4.heap.size, off := 0 }), Value.pointer (some { block := w6.heap.size, off := 0 }), Value.pointer (some { block := w8.heap.size, off := 0 }), Value.bool R, Value.int IntKind.i64 r8, Value.int IntKind.i64 NP, Value.int IntKind.i64 NP, u 15, u 16, Value.agg #[Value.int IntKind.i64 p.W, Value.int IntKind.i64 p.H, Value.slice a0 p.T.cs.length c0, Value.slice a1 p.T.ss.length c1, Value.slice a2 p.T.ct.length c2, Value.slice a3 p.T.st.length c3, Value.string p.N, Value.slice ao p.L.length cap], Value.int IntKind.i64 1048576, Value.int IntKind.i64 r, Value.int IntKind.i64 r, Value.bool (decide (r < 0)), Value.agg #[Value.int IntKind.i64 q.W, Value.int IntKind.i64 q.H, Value.slice b0 q.T.cs.length d0, Value.slice b1 q.T.ss.length d1, Value.slice b2 q.T.ct.length d2, Value.slice b3 q.T.st.length d3, Value.string q.N, Value.slice bo q.L.length cbp], Value.int IntKind.i64 r, Value.int IntKind.i64 s, Value.int IntKind.i64 s, Value.bool (decide (s < 0)), U27, U28, U29, U30, U31, U32, U33, U34, Value.agg #[Value.int IntKind.i64 p.W, Value.int IntKind.i64 p.H, Value.slice a0 p.T.cs.length c0, Value.slice a1 p.T.ss.length c1, Value.slice a2 p.T.ct.length c2, Value.slice a3 p.T.st.length c3, Value.string p.N, Value.slice ao p.L.length cap], Value.agg #[Value.int IntKind.i64 p.W, Value.int IntKind.i64 p.H, Value.slice x0 p.T.cs.length dx0, Value.slice x1 p.T.ss.length dx1, Value.slice x2 p.T.ct.length dx2, Value.slice x3 p.T.st.length dx3, Value.string p.N, Value.slice (some { block := gx, off := 0 }) p.L.length p.L.length], Value.agg #[Value.int IntKind.i64 q.W, Value.int IntKind.i64 q.H, Value.slice b0 q.T.cs.length d0, Value.slice b1 q.T.ss.length d1, Value.slice b2 q.T.ct.length d2, Value.slice b3 q.T.st.length d3, Value.string q.N, Value.slice bo q.L.length cbp], Value.agg #[Value.int IntKind.i64 q.W, Value.int IntKind.i64 q.H, Value.slice z0 q.T.cs.length dz0, Value.slice z1 q.T.ss.length dz1, Value.slice z2 q.T.ct.length dz2, Value.slice z3 q.T.st.length dz3, Value.string q.N, Value.slice (some { block := gz, off := 0 }) q.L.length q.L.length], Value.tuple #[Value.agg #[Value.int IntKind.i64 A.W, Value.int IntKind.i64 A.H, Value.slice j0 A.T.cs.length f0, Value.slice j1 A.T.ss.length f1, Value.slice j2 A.T.ct.length f2, Value.slice j3 A.T.st.length f3, Value.string A.N, Value.slice jo A.L.length jc], Value.bool R], Value.agg #[Value.int IntKind.i64 p.W, Value.int IntKind.i64 p.H, Value.slice x0 p.T.cs.length dx0, Value.slice x1 p.T.ss.length dx1, Value.slice x2 p.T.ct.length dx2, Value.slice x3 p.T.st.length dx3, Value.string p.N, Value.slice (some { block := gx, off := 0 }) p.L.length p.L.length], Value.agg #[Value.int IntKind.i64 q.W, Value.int IntKind.i64 q.H, Value.slice z0 q.T.cs.length dz0, Value.slice z1 q.T.ss.length dz1, Value.slice z2 q.T.ct.length dz2, Value.slice z3 q.T.st.length dz3, Value.string q.N, Value.slice (some { block := gz, off := 0 }) q.L.length q.L.length], Value.tuple #[Value.agg #[Value.int IntKind.i64 A.W, Value.int IntKind.i64 A.H, Value.slice j0 A.T.cs.length f0, Value.slice j1 A.T.ss.length f1, Value.slice j2 A.T.ct.length f2, Value.slice j3 A.T.st.length f3, Value.string A.N, Value.slice jo A.L.length jc], Value.bool R], Value.agg #[Value.int IntKind.i64 A.W, Value.int IntKind.i64 A.H, Value.slice j0 A.T.cs.length f0, Value.slice j1 A.T.ss.length f1, Value.slice j2 A.T.ct.length f2, Value.slice j3 A.T.st.length f3, Value.string A.N, Value.slice jo A.L.length jc], Value.bool R, Value.agg #[Value.int IntKind.i64 A.W, Value.int IntKind.i64 A.H, Value.slice j0 A.T.cs.length f0, Value.slice j1 A.T.ss.length f1, Value.slice j2 A.T.ct.length f2, Value.slice j3 A.T.st.length f3, Value.string A.N, Value.slice jo A.L.length jc], Value.agg #[y0, y1, y2, y3, y4, y5, y6, y7], Value.bool true, Value.bool false, Value.bool false, Value.bool R, Value.bool R, Value.bool false, Value.bool false, u54, u55, u56, u57, Value.bool false, u59, u60, u61, u62, Value.bool false, Value.agg #[Value.int IntKind.i64 p.W, Value.int IntKind.i64 p.H, Value.slice x0 p.T.cs.length dx0, Value.slice x1 p.T.ss.length dx1, Value.slice x2 p.T.ct.length dx2, Value.slice x3 p.T.st.length dx3, Value.string p.N, Value.slice (some { block := gx, off := 0 }) p.L.length p.L.length], Value.int IntKind.i64 1, Value.int IntKind.i64 r9, Value.agg #[Value.int IntKind.i64 q.W, Value.int IntKind.i64 q.H, Value.slice z0 q.T.cs.length dz0, Value.slice z1 q.T.ss.length dz1, Value.slice z2 q.T.ct.length dz2, Value.slice z3 q.T.st.length dz3, Value.string q.N, Value.slice (some { block := gz, off := 0 }) q.L.length q.L.length], Value.int IntKind.i64 r9, Value.int IntKind.i64 r8, Value.int IntKind.i64 r8, Value.bool false, Value.bool false, Value.agg #[Value.int IntKind.i64 A.W, Value.int IntKind.i64 A.H, Value.slice j0 A.T.cs.length f0, Value.slice j1 A.T.ss.length f1, Value.slice j2 A.T.ct.length f2, Value.slice j3 A.T.st.length f3, Value.string A.N, Value.slice jo A.L.length jc], Value.agg #[y0, y1, y2, y3, y4, y5, y6, y7], Value.bool true, Value.bool false, Value.bool false, Value.bool false, Value.bool R, Value.bool R, Value.bool false, Value.bool false, Value.agg #[Value.int IntKind.i64 A.W, Value.int IntKind.i64 A.H, Value.slice j0 A.T.cs.length f0, Value.slice j1 A.T.ss.length f1, Value.slice j2 A.T.ct.length f2, Value.slice j3 A.T.st.length f3, Value.string A.N, Value.slice jo A.L.length jc], Value.int IntKind.i64 1, Value.int IntKind.i64 NP, Value.agg #[Value.int IntKind.i64 A.W, Value.int IntKind.i64 A.H, Value.slice j0 A.T.cs.length f0, Value.slice j1 A.T.ss.length f1, Value.slice j2 A.T.ct.length f2, Value.slice j3 A.T.st.length f3, Value.string A.N, Value.slice jo A.L.length jc], Value.int IntKind.i64 1, Value.int IntKind.i64 NP, Value.int IntKind.i64 NP, Value.bool (decide (NP < 0)), Value.int IntKind.i64 NP, Value.int IntKind.i64 NP, Value.bool false, u 94, u 95, u 96, u 97, u 98, u 99, u 100, u 101, undef, undef, undef, undef, undef, undef, undef, undef, undef, undef, undef, undef, undef, undef, undef, undef, undef], defers := [] } ∧ Inv2 9 (VR (.agg #[.int .i64 p.W, .int .i64 p.H, .slice a0 p.T.cs.length c0, .slice a1 p.T.ss.length c1, .slice a2 p.T.ct.length c2, .slice a3 p.T.st.length c3, .string p.N, .slice ao p.L.length cap]) (.agg #[.int .i64 q.W, .int .i64 q.H, .slice b0 q.T.cs.length d0, .slice b1 q.T.ss.length d1, .slice b2 q.T.ct.length d2, .slice b3 q.T.st.length d3, .string q.N, .slice bo q.L.length cbp]) p q A R w15.heap.size) D31 (fun q' => Below w15.heap.size w15 q') (fun _ => True) (fun listed u q' => ∃ Bx y0 y1 y2 y3 y4 y5 y6 y7, u 15 = .pointer (some ⟨Bx, 0, none⟩) ∧ w15.heap.size ≤ Bx ∧ Eig q' Bx y0 y1 y2 y3 y4 y5 y6 y7 36 ∧ PV q' (.agg #[y0, y1, y2, y3, y4, y5, y6, y7]) A ∧ Below w15.heap.size w15 q') listed u wq ∧ Ex R 101 94 16 listed u) ?hpre ?hstep ?hend _ _ _ _ rfl (by decide) (fun j oj _ hl => absurd hl (by simp [Array.getD])) ⟨fun _ => undef, by rfl, ⟨fun _ => ⟨(Below.refl _ _).drew, trivial, fun j _ hl => absurd hl (by simp [Array.getD])⟩, fun h => absurd h (by simp [Array.getD])⟩, fun h => absurd h (by simp [Array.getD]), fun h => absurd h (by simp [Array.getD]), fun h => absurd h (by simp [Array.getD])⟩
            case hpre => exact pre_of (by kernel_rfl)
            case hstep =>
              rintro listed ac wq i oo hszl ⟨u, rfl, hI⟩ ho hall hun hcl
              have hin : i < 11 := (Array.getElem?_eq_some_iff.1 ho).1
              have HNS : Hid (i < 9 → i ≠ 7 → listed.getD 9 false = false) := hid (fun hi h7 => by
                cases hl : listed.getD 9 false with
                | false => rfl
                | true =>
                  exfalso
                  obtain rfl | rfl | rfl | rfl | rfl | rfl | rfl | rfl : i = 0 ∨ i = 1 ∨ i = 2 ∨ i = 3 ∨ i = 4 ∨ i = 5 ∨ i = 6 ∨ i = 8 := by omega
                  · exact getD_ft (hcl 9 _ rfl hl ⟨0, .phase⟩ (by simp) rfl) hun
                  · exact getD_ft (hcl 9 _ rfl hl ⟨1, .phase⟩ (by simp) rfl) hun
                  · exact getD_ft (hcl 9 _ rfl hl ⟨2, .phase⟩ (by simp) rfl) hun
                  · exact getD_ft (hcl 9 _ rfl hl ⟨3, .phase⟩ (by simp) rfl) hun
                  · exact getD_ft (hcl 9 _ rfl hl ⟨4, .phase⟩ (by simp) rfl) hun
                  · exact getD_ft (hcl 9 _ rfl hl ⟨5, .phase⟩ (by simp) rfl) hun
                  · exact getD_ft (hcl 9 _ rfl hl ⟨6, .phase⟩ (by simp) rfl) hun
                  · exact getD_ft (hcl 9 _ rfl hl ⟨8, .phase⟩ (by simp) rfl) hun)
              have ST : Hid (listed.getD 9 false = false → Facts 9 (VR (.agg #[.int .i64 p.W, .int .i64 p.H, .slice a0 p.T.cs.length c0, .slice a1 p.T.ss.length c1, .slice a2 p.T.ct.length c2, .slice a3 p.T.st.length c3, .string p.N, .slice ao p.L.length cap]) (.agg #[.int .i64 q.W, .int .i64 q.H, .slice b0 q.T.cs.length d0, .slice b1 q.T.ss.length d1, .slice b2 q.T.ct.length d2, .slice b3 q.T.st.length d3, .string q.N, .slice bo q.L.length cbp]) p q A R w15.heap.size) D31 listed u wq → i < 9 → ∀ (wz : World) (v : Value), Below wq.heap.size wq wz → (VR (.agg #[.int .i64 p.W, .int .i64 p.H, .slice a0 p.T.cs.length c0, .slice a1 p.T.ss.length c1, .slice a2 p.T.ct.length c2, .slice a3 p.T.st.length c3, .string p.N, .slice ao p.L.length cap]) (.agg #[.int .i64 q.W, .int .i64 q.H, .slice b0 q.T.cs.length d0, .slice b1 q.T.ss.length d1, .slice b2 q.T.ct.length d2, .slice b3 q.T.st.length d3, .string q.N, .slice bo q.L.length cbp]) p q A R w15.heap.size) i v wz → Inv2 9 (VR (.agg #[.int .i64 p.W, .int .i64 p.H, .slice a0 p.T.cs.length c0, .slice a1 p.T.ss.length c1, .slice a2 p.T.ct.length c2, .slice a3 p.T.st.length c3, .string p.N, .slice ao p.L.length cap]) (.agg #[.int .i64 q.W, .int .i64 q.H, .slice b0 q.T.cs.length d0, .slice b1 q.T.ss.length d1, .slice b2 q.T.ct.length d2, .slice b3 q.T.st.length d3, .string q.N, .slice bo q.L.length cbp]) p q A R w15.heap.size) D31 (fun q' => Below w15.heap.size w15 q') (fun _ => True) (fun listed u q' => ∃ Bx y0 y1 y2 y3 y4 y5 y6 y7, u 15 = .pointer (some ⟨Bx, 0, none⟩) ∧ w15.heap.size ≤ Bx ∧ Eig q' Bx y0 y1 y2 y3 y4 y5 y6 y7 36 ∧ PV q' (.agg #[y0, y1, y2, y3, y4, y5, y6, y7]) A ∧ Below w15.heap.size w15 q') (listed.setIfInBounds i true) (upd u (D31 i) v) wz) := hid (fun h1 h2 hi wz v hbz hv => Inv2.step i v h1 h2 hi ((hI.1.1 h1).1.trans (hbz.mono (hI.1.1 h1).1.size)) trivial (fun j hj hne => D31_ne ⟨i, hi⟩ ⟨j, hj⟩ (fun e => hne (by rw [Fin.mk.injEq] at e; exact e))) (fun j x hj h => VR.below hbz j x h) hv)
              obtain rfl | rfl | rfl | rfl | rfl | rfl | rfl | rfl | rfl | rfl | rfl : i = 0 ∨ i = 1 ∨ i = 2 ∨ i = 3 ∨ i = 4 ∨ i = 5 ∨ i = 6 ∨ i = 7 ∨ i = 8 ∨ i = 9 ∨ i = 10 := by omega
              · cases ho
                have hns := HNS.out (by decide) (by decide)
                obtain ⟨hb, hX, hF⟩ := hI.1.1 hns
                obtain ⟨g0, g1, g2, g3, g4, g5, g6, g7⟩ := HCa.out _ hb
                refine wpOp_step rfl (fun K hK => ?_)
                go_simp
                refine hK _ _ ⟨upd u 95 (.agg #[.int .i64 p.W, .int .i64 p.H, .slice a0 p.T.cs.length c0, .slice a1 p.T.ss.length c1, .slice a2 p.T.ct.length c2, .slice a3 p.T.st.length c3, .string p.N, .slice ao p.L.length cap]), ?_, ST.out hns hF (by decide) _ _ (Below.refl _ _) (rfl), hI.2.keep 0 95 _ (by decide) (by decide)⟩
                simp [upd]
              · cases ho
                have hns := HNS.out (by decide) (by decide)
                obtain ⟨hb, hX, hF⟩ := hI.1.1 hns
                have hwq := BM.out.trans (hb.mono BM.out.size)
                have f0 : u 95 = .agg #[.int .i64 p.W, .int .i64 p.H, .slice a0 p.T.cs.length c0, .slice a1 p.T.ss.length c1, .slice a2 p.T.ct.length c2, .slice a3 p.T.st.length c3, .string p.N, .slice ao p.L.length cap] := hF 0 (by decide) (hall ⟨0, .data⟩ (by simp) rfl)
                refine wpOp_step rfl (fun K hK => ?_)
                simp only [f0]
                go_simp
                refine (HT1.out wq hwq).mono ?_
                rintro e w3 ⟨vz, rfl, hz, hb3⟩
                refine hK _ _ ⟨upd u 96 (vz), ?_, ST.out hns hF (by decide) w3 _ hb3 (hz.cpq), hI.2.keep 1 96 _ (by decide) (by decide)⟩
                simp [upd, f0]
              · cases ho
                have hns := HNS.out (by decide) (by decide)
                obtain ⟨hb, hX, hF⟩ := hI.1.1 hns
                obtain ⟨g0, g1, g2, g3, g4, g5, g6, g7⟩ := HCb.out _ hb
                refine wpOp_step rfl (fun K hK => ?_)
                go_simp
                refine hK _ _ ⟨upd u 97 (.agg #[.int .i64 q.W, .int .i64 q.H, .slice b0 q.T.cs.length d0, .slice b1 q.T.ss.length d1, .slice b2 q.T.ct.length d2, .slice b3 q.T.st.length d3, .string q.N, .slice bo q.L.length cbp]), ?_, ST.out hns hF (by decide) _ _ (Below.refl _ _) (rfl), hI.2.keep 2 97 _ (by decide) (by decide)⟩
                simp [upd]
              · cases ho
                have hns := HNS.out (by decide) (by decide)
                obtain ⟨hb, hX, hF⟩ := hI.1.1 hns
                have hwq := BM.out.trans (hb.mono BM.out.size)
                have f2 : u 97 = .agg #[.int .i64 q.W, .int .i64 q.H, .slice b0 q.T.cs.length d0, .slice b1 q.T.ss.length d1, .slice b2 q.T.ct.length d2, .slice b3 q.T.st.length d3, .string q.N, .slice bo q.L.length cbp] := hF 2 (by decide) (hall ⟨2, .data⟩ (by simp) rfl)
                refine wpOp_step rfl (fun K hK => ?_)
                simp only [f2]
                go_simp
                refine (HT2.out wq hwq).mono ?_
                rintro e w3 ⟨vz, rfl, hz, hb3⟩
                refine hK _ _ ⟨upd u 98 (vz), ?_, ST.out hns hF (by decide) w3 _ hb3 (hz.cpq), hI.2.keep 3 98 _ (by decide) (by decide)⟩
                simp [upd, f2]
              · cases ho
                have hns := HNS.out (by decide) (by decide)
                obtain ⟨hb, hX, hF⟩ := hI.1.1 hns
                have hwq := BM.out.trans (hb.mono BM.out.size)
                obtain ⟨⟨vs1, pq1⟩, cv1, pv1⟩ : Cpq wq (u 96) p := hF 1 (by decide) (hall ⟨1, .data⟩ (by simp) rfl)
                obtain ⟨⟨vs3, pq3⟩, cv3, pv3⟩ : Cpq wq (u 98) q := hF 3 (by decide) (hall ⟨3, .data⟩ (by simp) rfl)
                refine wpOp_step rfl (fun K hK => ?_)
                go_simp
                refine (HIM.out wq _ _ _ _ pq1 pq3 cv1 cv3 pv1 pv3).mono ?_
                rintro e w3 ⟨vz, rfl, hz, hb3⟩
                refine hK _ _ ⟨upd u 99 (.tuple #[vz, .bool R]), ?_, ST.out hns hF (by decide) w3 _ hb3 (⟨vz, rfl, hz.pq.low hb.size⟩), hI.2.keep 4 99 _ (by decide) (by decide)⟩
                simp [upd]
              · cases ho
                have hns := HNS.out (by decide) (by decide)
                obtain ⟨hb, hX, hF⟩ := hI.1.1 hns
                obtain ⟨vz, f4, pz⟩ : ∃ v, u 99 = .tuple #[v, .bool R] ∧ PQ w15.heap.size wq v A := hF 4 (by decide) (hall ⟨4, .data⟩ (by simp) rfl)
                refine wpOp_step rfl (fun K hK => ?_)
                simp only [f4]
                go_simp
                refine hK _ _ ⟨upd u 94 (.tuple #[vz, .bool R]), ?_, ST.out hns hF (by decide) _ _ (Below.refl _ _) (⟨vz, rfl, pz⟩), ⟨fun e => by (rw [getD_set_ne false (by decide)] at e; have := hI.2.1 e; simpa [upd] using this), fun _ => ⟨vz, by simp [upd]⟩, fun e => by (rw [getD_set_ne false (by decide)] at e; have := hI.2.2.2 e; simpa [upd] using this)⟩⟩
                simp [upd, f4]
              · cases ho
                have hns := HNS.out (by decide) (by decide)
                obtain ⟨hb, hX, hF⟩ := hI.1.1 hns
                obtain ⟨vz, f5, pz⟩ : ∃ v, u 94 = .tuple #[v, .bool R] ∧ PQ w15.heap.size wq v A := hF 5 (by decide) (hall ⟨5, .data⟩ (by simp) rfl)
                refine wpOp_step rfl (fun K hK => ?_)
                simp only [f5]
                go_simp
                refine hK _ _ ⟨upd u 100 (vz), ?_, ST.out hns hF (by decide) _ _ (Below.refl _ _) (pz), hI.2.keep 6 100 _ (by decide) (by decide)⟩
                simp [upd, f5]
              · cases ho
                obtain ⟨vz, f5⟩ := hI.2.2.1 (hall ⟨5, .data⟩ (by simp) rfl)
                refine wpOp_step rfl (fun K hK => ?_)
                simp only [f5]
                go_simp
                refine hK _ _ ⟨upd u 101 (.bool R), ?_, ⟨fun h => ?_, fun h => ?_⟩, ⟨fun _ => by simp [upd], fun e => ?_, fun e => ?_⟩⟩
                · simp [upd, f5]
                · rw [getD_set_ne false (by decide)] at h
                  obtain ⟨hb, hX, hF⟩ := hI.1.1 h
                  exact ⟨hb, trivial, hF.step2 7 _ (fun j hj hne => D31_ne ⟨7, by decide⟩ ⟨j, hj⟩ (fun e => hne (by rw [Fin.mk.injEq] at e; exact e))) (fun j x _ h => h) trivial⟩
                · rw [getD_set_ne false (by decide)] at h
                  have := hI.1.2 h
                  simpa [upd] using this
                · rw [getD_set_ne false (by decide)] at e
                  have := hI.2.2.1 e
                  simpa [upd] using this
                · rw [getD_set_ne false (by decide)] at e
                  have := hI.2.2.2 e
                  simpa [upd] using this
              · cases ho
                have hns := HNS.out (by decide) (by decide)
                obtain ⟨hb, hX, hF⟩ := hI.1.1 hns
                refine wpOp_step rfl (fun K hK => ?_)
                go_simp
                refine hK _ _ ⟨upd u 15 (.pointer (some ⟨wq.heap.size, 0, none⟩)), ?_, ST.out hns hF (by decide) _ _ ((Below.refl _ _).alloc (Nat.le_refl _) _) (⟨_, rfl, hb.size, Eig.new wq _ _ _ _ _ _ _ _ 36⟩), hI.2.keep 8 15 _ (by decide) (by decide)⟩
                simp [upd]
              · cases ho
                have hns : listed.getD 9 false = false := by
                  cases h : listed.getD 9 false with
                  | false => rfl
                  | true => exact absurd hun (fun h' => getD_ft h h')
                obtain ⟨hb, hX, hF⟩ := hI.1.1 hns
                have pz : PQ w15.heap.size wq (u 100) A := hF 6 (by decide) (hall ⟨6, .data⟩ (by simp) rfl)
                obtain ⟨Bx, f8, hBx, EQ⟩ : ∃ Bx, u 15 = .pointer (some ⟨Bx, 0, none⟩) ∧ w15.heap.size ≤ Bx ∧ Eig wq Bx _ _ _ _ _ _ _ _ 36 := hF 8 (by decide) (hall ⟨8, .data⟩ (by simp) rfl)
                obtain ⟨m0, n0, m1, n1, m2, n2, m3, n3, m4, n4, hy, _, _⟩ := pz.pv
                have PZ := hid (pz.set8_tag EQ (.int .i64 A.W) (.int .i64 A.H) (.slice m0 A.T.cs.length n0) (.slice m1 A.T.ss.length n1) (.slice m2 A.T.ct.length n2) (.slice m3 A.T.st.length n3) (.string A.N) (.slice m4 A.L.length n4)).pv
                rw [hy] at PZ
                have EZ := hid (EQ.set8 (.int .i64 A.W) (.int .i64 A.H) (.slice m0 A.T.cs.length n0) (.slice m1 A.T.ss.length n1) (.slice m2 A.T.ct.length n2) (.slice m3 A.T.st.length n3) (.string A.N) (.slice m4 A.L.length n4))
                have BZ := hid (below8 hb hBx (.int .i64 A.W) (.int .i64 A.H) (.slice m0 A.T.cs.length n0) (.slice m1 A.T.ss.length n1) (.slice m2 A.T.ct.length n2) (.slice m3 A.T.st.length n3) (.string A.N) (.slice m4 A.L.length n4))
                have hex := hid hI.2
                obtain ⟨s0, s1, s2, s3, s4, s5, s6, s7⟩ := EQ.cells
                have fz := EQ.free
                clear EQ pz
                refine wpOp_step rfl (fun K hK => ?_)
                simp only [hy, f8]
                go_simp
                refine hK _ _ ⟨u, ?_, ⟨fun h => ?_, fun _ => ⟨Bx, _, _, _, _, _, _, _, _, f8, hBx, EZ.out, PZ.out, BZ.out⟩⟩, ⟨fun e => ?_, fun e => ?_, fun e => ?_⟩⟩
                · simp [hy, f8]
                · exfalso
                  rw [show (listed.setIfInBounds 9 true).getD 9 false = true by simp [Array.getD, hszl]] at h
                  cases h
                · rw [getD_set_ne false (by decide)] at e
                  exact hex.out.1 e
                · rw [getD_set_ne false (by decide)] at e
                  exact hex.out.2.1 e
                · rw [getD_set_ne false (by decide)] at e
                  exact hex.out.2.2 e
              · cases ho
                have h9 : listed.getD 9 false = true := hall ⟨9, .chain⟩ (by simp) rfl
                have f7 := hI.2.1 (hall ⟨7, .data⟩ (by simp) rfl)
                have HF9 := hid (hI.1.2 h9)
                have hex := hid hI.2
                refine wpOp_step rfl (fun K hK => ?_)
                simp only [f7]
                go_simp
                refine hK _ _ ⟨upd u 16 (.bool R), ?_, ⟨fun h => ?_, fun _ => by simpa [upd] using HF9.out⟩, ⟨fun e => ?_, fun e => ?_, fun _ => by simp [upd]⟩⟩
                · simp [upd, f7]
                · rw [getD_set_ne false (by decide), h9] at h
                  cases h
                · rw [getD_set_ne false (by decide)] at e
                  have := hex.out.1 e
                  simpa [upd] using this
                · rw [getD_set_ne false (by decide)] at e
                  have := hex.out.2.1 e
                  simpa [upd] using this
            case hend =>
              rintro listed ac wq hall ⟨u, rfl, hI⟩
              obtain ⟨Bx, y0, y1, y2, y3, y4, y5, y6, y7, h6, hBx, hE, hP, hbM⟩ := hI.1.2 (hall 9 (by decide))
              have h7 := hI.2.2.2 (hall 10 (by decide))
              clear hI
              simp only [h6, h7]
              generalize wq = wv at *
              have Y16 := hid (Y15.out.trans (hbM.mono Y15.out.size))
              have Z16 := hid (Z15.out.trans (hbM.mono Z15.out.size))
              have B16 := hid (BM.out.trans (hbM.mono BM.out.size))
              have W16 := hid (WY.out.below Y16.out WY.out.lt)
              have H16 := hid hE
              have HH16 := hid hP
              clear hE hP hbM hBx h6 h7 hall Y15 Z15 BM HCa HCb
              obtain ⟨p0, p1, p2, p3, p4, p5, p6, p7⟩ := H16.out.cells
              obtain ⟨q0, q1, q2, q3, q4, q5, q6, q7⟩ := W16.out.cells
              go_wp2_with fail
              refine (HEA.out _ _ _ HH16.out (HY3.out.below Y16.out)).mono ?_
              rintro e w17 ⟨rfl, hb17⟩
              have Z17 := hid (Z16.out.trans (hb17.mono Z16.out.size))
              have B17 := hid (B16.out.trans (hb17.mono B16.out.size))
              have G17 := hid (G14.out.below Z17.out G14.out.lt)
              clear hb17 HH16 H16 W16 Y16 Z16 B16 p0 p1 p2 p3 p4 p5 p6 p7 q0 q1 q2 q3 q4 q5 q6 q7
              obtain ⟨p0, p1, p2, p3, p4, p5, p6, p7⟩ := G17.out.cells
              go_wp2_with fail
              refine (HHD.out _ Z17.out).mono ?_
              rintro e w18 ⟨rfl, hb18⟩
              have B18 := hid (B17.out.trans (hb18.mono B17.out.size))
              go_wp2_with fail
              go_ret
              exact ⟨rfl, B18.out⟩
end Go.Proofs.YtnnakmgngkpghaaGreat
