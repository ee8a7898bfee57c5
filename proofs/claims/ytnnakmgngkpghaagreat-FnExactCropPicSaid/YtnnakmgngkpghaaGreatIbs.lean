/- BesidePic of the program. -/
import Derived.Test.YtnnakmgngkpghaaGreatLbs
import Derived.Test.YtnnakmgngkpghaaGreatBsd
namespace Go.Proofs.YtnnakmgngkpghaaGreat
open Go.RowKit Go.Maps
set_option linter.unusedVariables false

def pickP (R : Bool) (A : Pk) : Pk := if R = true then A else zPk
/-- What the operations of the statement leave. -/
def VI (pv qv s1 s2 pn : Value) (nn : ByteArray) (WW HH : Int) (Ss : List Sh) (Hn M : Nat) (A : Pk) (R : Bool) : Nat → Value → World → Prop
  | 0, u, _ => u = pv
  | 1, u, _ => u = s1
  | 2, u, _ => u = qv
  | 3, u, _ => u = s2
  | 4, u, w => ∃ G, u = .slice (some ⟨G, 0, none⟩) 2 2 ∧ PIn w G 0 Ss Hn
  | 5, u, w => ∃ v, u = .agg #[.int .i64 WW, .int .i64 HH, v] ∧ OwnZ w M v (allTo Ss Hn)
  | 6, u, _ => u = pn
  | 7, u, _ => u = .string nn
  | 8, u, w => ∃ v, u = .tuple #[v, .bool R] ∧ PO M w v A
  | 9, u, w => PO M w u A
  | 10, u, _ => u = .bool R
  | _, _, _ => True
theorem VI.below {pv qv s1 s2 pn : Value} {nn : ByteArray} {WW HH : Int} {Ss : List Sh} {Hn M : Nat} {A : Pk} {R : Bool} {w w' : World} (hb : Below w.heap.size w w') : ∀ j u, VI pv qv s1 s2 pn nn WW HH Ss Hn M A R j u w → VI pv qv s1 s2 pn nn WW HH Ss Hn M A R j u w'
  | 0, _, h => h
  | 1, _, h => h
  | 2, _, h => h
  | 3, _, h => h
  | 4, _, ⟨G, e, h⟩ => ⟨G, e, PIn.below h hb⟩
  | 5, _, ⟨v, e, h⟩ => ⟨v, e, OwnZ.below h hb⟩
  | 6, _, h => h
  | 7, _, h => h
  | 8, _, ⟨v, e, h⟩ => ⟨v, e, PO.below h hb⟩
  | 9, _, h => PO.below h hb
  | 10, _, h => h
  | k + 11, _, _ => trivial
def DI (j : Nat) : Nat := j + 22
theorem Below.of_alloc6 (w : World) (x0 x1 x2 x3 x4 x5 : Value) (t : TypeId) (b1 f1 n1 c1 b2 f2 n2 c2 : Nat) (S1 S2 : Sh) (Hn : Nat) (h0 : x0 = .int .i64 (S1.w : Int)) (h1 : x1 = .int .i64 (Hn : Int)) (h2 : x2 = .slice (some ⟨S1.b, S1.off, none⟩) S1.Z.length S1.cap) (h3 : x3 = .int .i64 (S2.w : Int)) (h4 : x4 = .int .i64 (Hn : Int)) (h5 : x5 = .slice (some ⟨S2.b, S2.off, none⟩) S2.Z.length S2.cap) :
    PIn (w.alloc (.cells #[x0, x1, x2, x3, x4, x5] t)) w.heap.size 0 [S1, S2] Hn := by
  subst h0 h1 h2 h3 h4 h5
  have h := heap_alloc_new w (.cells #[.int .i64 (S1.w : Int), .int .i64 (Hn : Int), .slice (some ⟨S1.b, S1.off, none⟩) S1.Z.length S1.cap, .int .i64 (S2.w : Int), .int .i64 (Hn : Int), .slice (some ⟨S2.b, S2.off, none⟩) S2.Z.length S2.cap] t)
  intro i hi
  match i, hi with
  | 0, _ => exact ⟨by rw [cell_of_row _ _ _ _ _ _ h]; rfl, by rw [cell_of_row _ _ _ _ _ _ h]; rfl, by rw [cell_of_row _ _ _ _ _ _ h]; rfl⟩
  | 1, _ => exact ⟨by rw [cell_of_row _ _ _ _ _ _ h]; rfl, by rw [cell_of_row _ _ _ _ _ _ h]; rfl, by rw [cell_of_row _ _ _ _ _ _ h]; rfl⟩

set_option maxRecDepth 100000 in
set_option maxHeartbeats 3200000 in
theorem impl_beside (v1 v2 : Value) (p q : Pk) (vs1 vs2 : List Value) (w : World) (hv1 : PVq w v1 p vs1) (hv2 : PVq w v2 q vs2) (hc1 : CapV v1) (hc2 : CapV v2) (hpv1 : PV w v1 p) (hpv2 : PV w v2 q) (R1 R2 R3 : Bool)
    (hs1 : ∀ q' v, PV q' v p → Calls Tryz.prog 24 #[v] q' fun e w' => e = .returned (.bool R1) ∧ Below q'.heap.size q' w')
    (hs2 : ∀ q' v, PV q' v q → Calls Tryz.prog 24 #[v] q' fun e w' => e = .returned (.bool R2) ∧ Below q'.heap.size q' w')
    (hb1 : R1 = true → Bd p) (hb2 : R2 = true → Bd q) (hft : R1 = true → R2 = true → (bsP p q).Fits)
    (hR3 : R3 = true → freqB (bsP p q).L = true) (hs3 : R1 = true → R2 = true → ∀ q' v, PV q' v (plI (bsP p q)) → Calls Tryz.prog 24 #[v] q' fun e w' => e = .returned (.bool R3) ∧ Below q'.heap.size q' w') :
    Calls Tryz.prog 14 #[v1, v2] w fun e w' => ∃ v', e = .returned (.tuple #[v', .bool (R1 && (R2 && (decide (p.H = q.H) && R3)))]) ∧ PO w.heap.size w' v' (pickP (R1 && (R2 && (decide (p.H = q.H) && R3))) (plI (bsP p q))) ∧ Below w.heap.size w w' := by
  have HPV1 := hid hpv1
  have HPV2 := hid hpv2
  obtain ⟨t0, t1, t2, t3, bv, rfl, u0, u1, u2, u3, ub⟩ := hv1
  obtain ⟨a0, c0, rfl, -, -⟩ := u0
  obtain ⟨a1, c1, rfl, -, -⟩ := u1
  obtain ⟨a2, c2, rfl, -, -⟩ := u2
  obtain ⟨a3, c3, rfl, -, -⟩ := u3
  obtain ⟨ao, cap, rfl⟩ : ∃ ao cap, bv = .slice ao p.L.length cap := by
    rcases ub.2.2 with ⟨rfl, h⟩ | ⟨b, off, c, rfl, _⟩
    · exact ⟨none, 0, by rw [h]; rfl⟩
    · exact ⟨_, _, rfl⟩
  obtain ⟨t0, t1, t2, t3, bv, rfl, u0, u1, u2, u3, ub2⟩ := hv2
  obtain ⟨b0, d0, rfl, -, -⟩ := u0
  obtain ⟨b1, d1, rfl, -, -⟩ := u1
  obtain ⟨b2, d2, rfl, -, -⟩ := u2
  obtain ⟨b3, d3, rfl, -, -⟩ := u3
  obtain ⟨bo, cbp, rfl⟩ : ∃ ao cap, bv = .slice ao q.L.length cap := by
    rcases ub2.2.2 with ⟨rfl, h⟩ | ⟨b, off, c, rfl, _⟩
    · exact ⟨none, 0, by rw [h]; rfl⟩
    · exact ⟨_, _, rfl⟩
  have HBL1 := hid ub
  have HBL2 := hid ub2
  have HC1 := hid (hc1 _ _ _ _ _ _ _ _ _ _ rfl)
  have HC2 := hid (hc2 _ _ _ _ _ _ _ _ _ _ rfl)
  have HS1 := hid (fun q' (hq : Below w.heap.size w q') => hs1 q' _ (HPV1.out.below hq))
  have HS2 := hid (fun q' (hq : Below w.heap.size w q') => hs2 q' _ (HPV2.out.below hq))
  have HPO := hid (fun (h1 : R1 = true) (h2 : R2 = true) (ao : Option Addr) (cap : Nat) vs0 q' (hq : BLv q' (.slice ao (bsP p q).L.length cap) (bsP p q).L vs0) => impl_picOf (bsP p q) rfl ao cap vs0 q' (hft h1 h2) hq R3 (hs3 h1 h2) hR3)
  obtain ⟨p1, hp1⟩ : ∃ p1, p1 = plI (bsP p q) := ⟨_, rfl⟩
  rw [← hp1] at HPO
  have HPE := hid hp1
  have HB1 := hid hb1
  have HB2 := hid hb2
  clear hR3 ub ub2 hpv1 hpv2 hc1 hc2 hs1 hs2 hs3 hft hb1 hb2 hp1 HPV1 HPV2
  obtain ⟨W1, H1, T1, N1, L1⟩ := p
  obtain ⟨W2, H2, T2, N2, L2⟩ := q
  simp only at *
  have hA1 := (Below.refl w.heap.size w).alloc (Nat.le_refl _) (.cells #[.int .i64 W1, .int .i64 H1, .slice a0 T1.cs.length c0, .slice a1 T1.ss.length c1, .slice a2 T1.ct.length c2, .slice a3 T1.st.length c3, .string N1, .slice ao L1.length cap] 36)
  have hA2 := hA1.alloc (by simp) (.cells #[.int .i64 W2, .int .i64 H2, .slice b0 T2.cs.length d0, .slice b1 T2.ss.length d1, .slice b2 T2.ct.length d2, .slice b3 T2.st.length d3, .string N2, .slice bo L2.length cbp] 36)
  have hA := hA2.alloc (by simp; omega) (.cells #[.int .i64 0, .int .i64 0, .slice none 0 0, .slice none 0 0, .slice none 0 0, .slice none 0 0, .string ⟨#[]⟩, .slice none 0 0] 36)
  have hs1 : (w.alloc (.cells #[.int .i64 W1, .int .i64 H1, .slice a0 T1.cs.length c0, .slice a1 T1.ss.length c1, .slice a2 T1.ct.length c2, .slice a3 T1.st.length c3, .string N1, .slice ao L1.length cap] 36)).heap.size = w.heap.size + 1 := by simp
  have hs2 : ((w.alloc (.cells #[.int .i64 W1, .int .i64 H1, .slice a0 T1.cs.length c0, .slice a1 T1.ss.length c1, .slice a2 T1.ct.length c2, .slice a3 T1.st.length c3, .string N1, .slice ao L1.length cap] 36)).alloc (.cells #[.int .i64 W2, .int .i64 H2, .slice b0 T2.cs.length d0, .slice b1 T2.ss.length d1, .slice b2 T2.ct.length d2, .slice b3 T2.st.length d3, .string N2, .slice bo L2.length cbp] 36)).heap.size = w.heap.size + 2 := by simp
  have k0 := Eig.new w (.int .i64 W1) (.int .i64 H1) (.slice a0 T1.cs.length c0) (.slice a1 T1.ss.length c1) (.slice a2 T1.ct.length c2) (.slice a3 T1.st.length c3) (.string N1) (.slice ao L1.length cap) 36
  have k0' := (k0.below ((Below.refl _ _).alloc (Nat.le_refl _) (.cells #[.int .i64 W2, .int .i64 H2, .slice b0 T2.cs.length d0, .slice b1 T2.ss.length d1, .slice b2 T2.ct.length d2, .slice b3 T2.st.length d3, .string N2, .slice bo L2.length cbp] 36)) k0.lt)
  have k0'' := (k0'.below ((Below.refl _ _).alloc (Nat.le_refl _) (.cells #[.int .i64 0, .int .i64 0, .slice none 0 0, .slice none 0 0, .slice none 0 0, .slice none 0 0, .string ⟨#[]⟩, .slice none 0 0] 36)) k0'.lt)
  have k1 := Eig.new (w.alloc (.cells #[.int .i64 W1, .int .i64 H1, .slice a0 T1.cs.length c0, .slice a1 T1.ss.length c1, .slice a2 T1.ct.length c2, .slice a3 T1.st.length c3, .string N1, .slice ao L1.length cap] 36)) (.int .i64 W2) (.int .i64 H2) (.slice b0 T2.cs.length d0) (.slice b1 T2.ss.length d1) (.slice b2 T2.ct.length d2) (.slice b3 T2.st.length d3) (.string N2) (.slice bo L2.length cbp) 36
  rw [hs1] at k1
  have k1' := (k1.below ((Below.refl _ _).alloc (Nat.le_refl _) (.cells #[.int .i64 0, .int .i64 0, .slice none 0 0, .slice none 0 0, .slice none 0 0, .slice none 0 0, .string ⟨#[]⟩, .slice none 0 0] 36)) k1.lt)
  have k2 := Eig.new ((w.alloc (.cells #[.int .i64 W1, .int .i64 H1, .slice a0 T1.cs.length c0, .slice a1 T1.ss.length c1, .slice a2 T1.ct.length c2, .slice a3 T1.st.length c3, .string N1, .slice ao L1.length cap] 36)).alloc (.cells #[.int .i64 W2, .int .i64 H2, .slice b0 T2.cs.length d0, .slice b1 T2.ss.length d1, .slice b2 T2.ct.length d2, .slice b3 T2.st.length d3, .string N2, .slice bo L2.length cbp] 36)) (.int .i64 0) (.int .i64 0) (.slice none 0 0) (.slice none 0 0) (.slice none 0 0) (.slice none 0 0) (.string ⟨#[]⟩) (.slice none 0 0) 36
  rw [hs2] at k2
  have E0 := hid k0''
  have E1 := hid k1'
  have E2 := hid k2
  have B2 := hid hA
  clear hA hA1 hA2 k0 k0' k0'' k1 k1' k2 hs1 hs2
  go_enter Tryz.func14, Tryz.ntmps14
  go_wp2_with (first | (go_at_call 24; fail) | fail)
  refine (HS1.out _ B2.out).mono ?_
  generalize ((w.alloc _).alloc _).alloc _ = wa at *
  rintro e w1 ⟨rfl, hb1⟩
  have h12 : w.heap.size + 2 < wa.heap.size := E2.out.lt
  have hlt2 := B2.out.size
  have D0 := hid (E0.out.below hb1 E0.out.lt)
  have D1 := hid (E1.out.below hb1 E1.out.lt)
  have D2 := hid (E2.out.below hb1 E2.out.lt)
  have C1 := hid (B2.out.trans (hb1.mono hlt2))
  have hsz1 : wa.heap.size ≤ w1.heap.size := hb1.size
  clear hb1 E0 E1 E2 B2 HS1
  cases R1 with
  | false =>
    have EZ := hid (D2.out.set8 (.int .i64 0) (.int .i64 0) (.slice none 0 0) (.slice none 0 0) (.slice none 0 0) (.slice none 0 0) (.string ⟨#[]⟩) (.slice none 0 0)).cells
    have BZ := hid (below8 C1.out (show w.heap.size ≤ w.heap.size + 2 by omega) (.int .i64 0) (.int .i64 0) (.slice none 0 0) (.slice none 0 0) (.slice none 0 0) (.slice none 0 0) (.string ⟨#[]⟩) (.slice none 0 0))
    obtain ⟨s0, s1, s2, s3, s4, s5, s6, s7⟩ := D2.out.cells
    have fz := D2.out.free
    go_wp2_with fail
    generalize ((((((((w1.setCell ⟨w.heap.size + 2, 0, none⟩ (.int .i64 0)).setCell ⟨w.heap.size + 2, 1, none⟩ (.int .i64 0)).setCell ⟨w.heap.size + 2, 2, none⟩ (.slice none 0 0)).setCell ⟨w.heap.size + 2, 3, none⟩ (.slice none 0 0)).setCell ⟨w.heap.size + 2, 4, none⟩ (.slice none 0 0)).setCell ⟨w.heap.size + 2, 5, none⟩ (.slice none 0 0)).setCell ⟨w.heap.size + 2, 6, none⟩ (.string ⟨#[]⟩)).setCell ⟨w.heap.size + 2, 7, none⟩ (.slice none 0 0)) = wf at *
    clear s0 s1 s2 s3 s4 s5 s6 s7
    obtain ⟨s0, s1, s2, s3, s4, s5, s6, s7⟩ := EZ.out
    exact bodyPost_ret (v := .tuple #[.agg #[.int .i64 0, .int .i64 0, .slice none 0 0, .slice none 0 0, .slice none 0 0, .slice none 0 0, .string ⟨#[]⟩, .slice none 0 0], .bool false]) (by simp [results, Tryz.results14, go_sem, s0, s1, s2, s3, s4, s5, s6, s7]) rfl ⟨_, rfl, zPO _ _ BZ.out.size, BZ.out⟩
  | true =>
    obtain ⟨q0, q1, q2, q3, q4, q5, q6, q7⟩ := D1.out.cells
    go_wp2_with (first | (go_at_call 24; fail) | fail)
    refine (HS2.out _ C1.out).mono ?_
    clear q0 q1 q2 q3 q4 q5 q6 q7
    rintro e w2 ⟨rfl, hb1⟩
    have D0' := hid (D0.out.below hb1 D0.out.lt)
    have D1' := hid (D1.out.below hb1 D1.out.lt)
    have D2' := hid (D2.out.below hb1 D2.out.lt)
    have C1' := hid (C1.out.trans (hb1.mono C1.out.size))
    have hsz2 : wa.heap.size ≤ w2.heap.size := Nat.le_trans hsz1 hb1.size
    clear hb1 D0 D1 D2 C1 HS2 hsz1
    cases R2 with
    | false =>
      have EZ := hid (D2'.out.set8 (.int .i64 0) (.int .i64 0) (.slice none 0 0) (.slice none 0 0) (.slice none 0 0) (.slice none 0 0) (.string ⟨#[]⟩) (.slice none 0 0)).cells
      have BZ := hid (below8 C1'.out (show w.heap.size ≤ w.heap.size + 2 by omega) (.int .i64 0) (.int .i64 0) (.slice none 0 0) (.slice none 0 0) (.slice none 0 0) (.slice none 0 0) (.string ⟨#[]⟩) (.slice none 0 0))
      obtain ⟨s0, s1, s2, s3, s4, s5, s6, s7⟩ := D2'.out.cells
      have fz := D2'.out.free
      go_wp2_with fail
      generalize ((((((((w2.setCell ⟨w.heap.size + 2, 0, none⟩ (.int .i64 0)).setCell ⟨w.heap.size + 2, 1, none⟩ (.int .i64 0)).setCell ⟨w.heap.size + 2, 2, none⟩ (.slice none 0 0)).setCell ⟨w.heap.size + 2, 3, none⟩ (.slice none 0 0)).setCell ⟨w.heap.size + 2, 4, none⟩ (.slice none 0 0)).setCell ⟨w.heap.size + 2, 5, none⟩ (.slice none 0 0)).setCell ⟨w.heap.size + 2, 6, none⟩ (.string ⟨#[]⟩)).setCell ⟨w.heap.size + 2, 7, none⟩ (.slice none 0 0)) = wf at *
      clear s0 s1 s2 s3 s4 s5 s6 s7
      obtain ⟨s0, s1, s2, s3, s4, s5, s6, s7⟩ := EZ.out
      exact bodyPost_ret (v := .tuple #[.agg #[.int .i64 0, .int .i64 0, .slice none 0 0, .slice none 0 0, .slice none 0 0, .slice none 0 0, .string ⟨#[]⟩, .slice none 0 0], .bool false]) (by simp [results, Tryz.results14, go_sem, s0, s1, s2, s3, s4, s5, s6, s7]) rfl ⟨_, rfl, zPO _ _ BZ.out.size, BZ.out⟩
    | true =>
      obtain ⟨q0, q1, q2, q3, q4, q5, q6, q7⟩ := D1'.out.cells
      obtain ⟨m0, m1, m2, m3, m4, m5, m6, m7⟩ := D0'.out.cells
      by_cases hH : H1 = H2
      · have HDE := hid (decide_eq_true hH)
        subst hH
        have b1 := HB1.out (by first | rfl | trivial)
        have b2 := HB2.out (by first | rfl | trivial)
        unfold Bd at b1 b2
        simp only at b1 b2
        obtain ⟨Wp, rfl⟩ : ∃ n : Nat, W1 = (n : Int) := ⟨W1.toNat, by omega⟩
        obtain ⟨Wq, rfl⟩ : ∃ n : Nat, W2 = (n : Int) := ⟨W2.toNat, by omega⟩
        obtain ⟨Hn, rfl⟩ : ∃ n : Nat, H1 = (n : Int) := ⟨H1.toNat, by omega⟩
        have hl1 : L1.length = Wp * Hn := by
          have : (L1.length : Int) = ((Wp * Hn : Nat) : Int) := by rw [b1.2.2.2]; simp
          omega
        have hl2 : L2.length = Wq * Hn := by
          have : (L2.length : Int) = ((Wq * Hn : Nat) : Int) := by rw [b2.2.2.2]; simp
          omega
        have hw1 : 1 ≤ Wp ∧ Wp ≤ 40 := by omega
        have hw2 : 1 ≤ Wq ∧ Wq ≤ 40 := by omega
        have hh1 : 1 ≤ Hn ∧ Hn ≤ 40 := by omega
        have hm1 : 1 ≤ Wp * Hn := Nat.mul_pos hw1.1 hh1.1
        have hm2 : 1 ≤ Wq * Hn := Nat.mul_pos hw2.1 hh1.1
        obtain ⟨pb, po, rfl⟩ : ∃ pb po, ao = some ⟨pb, po, none⟩ := by
          rcases HBL1.out.2.2 with ⟨_, h⟩ | ⟨b, off, c, e, _⟩
          · rw [h] at hl1
            simp at hl1
            omega
          · injection e with e
            exact ⟨b, off, e⟩
        obtain ⟨qb, qo, rfl⟩ : ∃ pb po, bo = some ⟨pb, po, none⟩ := by
          rcases HBL2.out.2.2 with ⟨_, h⟩ | ⟨b, off, c, e, _⟩
          · rw [h] at hl2
            simp at hl2
            omega
          · injection e with e
            exact ⟨b, off, e⟩
        obtain ⟨S1, hS1⟩ : ∃ S, S = Sh.mk Wp (zipP L1 vs1) pb po cap := ⟨_, rfl⟩
        obtain ⟨S2, hS2⟩ : ∃ S, S = Sh.mk Wq (zipP L2 vs2) qb qo cbp := ⟨_, rfl⟩
        have z1 : S1.Z.length = S1.w * Hn := by rw [hS1]; show (zipP L1 vs1).length = _; rw [zipP_len _ _ HBL1.out.1, hl1]
        have z2 : S2.Z.length = S2.w * Hn := by rw [hS2]; show (zipP L2 vs2).length = _; rw [zipP_len _ _ HBL2.out.1, hl2]
        have HRL1 := hid (fun r (hr : r < Hn) => rowZ_len S1 Hn r z1 hr)
        have HRL2 := hid (fun r (hr : r < Hn) => rowZ_len S2 Hn r z2 hr)
        rw [show S1.w = Wp by rw [hS1]] at HRL1
        rw [show S2.w = Wq by rw [hS2]] at HRL2
        have HIN1 := hid (zipP_in HBL1.out Wp)
        have HIN2 := hid (zipP_in HBL2.out Wq)
        rw [← hS1] at HIN1
        rw [← hS2] at HIN2
        have HRC1 := hid (fun q' (hq : Below w.heap.size w q') r j u hu => rowZ_cells (HIN1.out.below hq) r j u hu)
        have HRC2 := hid (fun q' (hq : Below w.heap.size w q') r j u hu => rowZ_cells (HIN2.out.below hq) r j u hu)
        rw [show S1.b = pb by rw [hS1], show S1.off = po by rw [hS1], show S1.w = Wp by rw [hS1]] at HRC1
        rw [show S2.b = qb by rw [hS2], show S2.off = qo by rw [hS2], show S2.w = Wq by rw [hS2]] at HRC2
        have HV1 := hid (fun z (hz : z ∈ S1.Z) => zipP_vp HBL1.out z (by rw [hS1] at hz; exact hz))
        have HV2 := hid (fun z (hz : z ∈ S2.Z) => zipP_vp HBL2.out z (by rw [hS2] at hz; exact hz))
        have HO1 := hid (fun r => flZ_one (rowZ S1 r) (fun z hz => vp_one (HV1.out z (List.mem_of_mem_drop (List.mem_of_mem_take hz)))))
        have HO2 := hid (fun r => flZ_one (rowZ S2 r) (fun z hz => vp_one (HV2.out z (List.mem_of_mem_drop (List.mem_of_mem_take hz)))))
        have HAS := hid (fun r => show allTo [S1, S2] (r + 1) = (allTo [S1, S2] r ++ rowZ S1 r) ++ rowZ S2 r by rw [List.append_assoc]; rfl)
        have HAL := hid (fun r (hr : r ≤ Hn) => allTo_len [S1, S2] Hn (fun i hi => by
          match i, hi with
          | 0, _ => exact z1
          | 1, _ => exact z2) r hr)
        have hwt : wTo [S1, S2] 2 = Wp + Wq := by rw [hS1, hS2]; simp [wTo, nthSh]
        have HPL := hid (show (allTo [S1, S2] Hn).map (·.1) = allL [(Wp, L1), (Wq, L2)] Hn by
          rw [allTo_plain]
          rw [hS1, hS2]
          simp only [List.map, Sh.plain]
          rw [zipP_fst _ _ HBL1.out.1, zipP_fst _ _ HBL2.out.1])
        have HVA := hid (fun z (hz : z ∈ allTo [S1, S2] Hn) => show Vp w z.2 z.1.2 from by
          obtain ⟨i, hi, hz'⟩ := allTo_mem _ _ z hz
          match i, hi with
          | 0, _ => exact HV1.out z hz'
          | 1, _ => exact HV2.out z hz')
        have HZB := hid (fun r (hr : r ≤ Hn) => show (allTo [S1, S2] r).length ≤ 4000 by
          rw [HAL.out r hr]
          show r * wTo [S1, S2] 2 ≤ 4000
          rw [hwt]
          have : r * (Wp + Wq) ≤ 40 * 80 := Nat.mul_le_mul (by omega) (by omega)
          omega)
        have hcp1 := HC1.out
        have hcp2 := HC2.out
        have HL1 := hid hl1
        have HL2 := hid hl2
        have hz1 : S1.Z.length = L1.length := by rw [hS1]; exact zipP_len _ _ HBL1.out.1
        have hz2 : S2.Z.length = L2.length := by rw [hS2]; exact zipP_len _ _ HBL2.out.1
        have HIS := hid (fun q' (hq : Below w.heap.size w q') => (⟨HIN1.out.below hq, HIN2.out.below hq⟩ : ShIn q' S1 ∧ ShIn q' S2))
        have HONE := hid (fun i (hi : i < 2) => show ∀ z ∈ (nthSh [S1, S2] i).Z, z.2.oneCell' = true from by
          match i, hi with
          | 0, _ => exact fun z hz => vp_one (HV1.out z hz)
          | 1, _ => exact fun z hz => vp_one (HV2.out z hz))
        have HSHS := hid (fun q' (hq : Below w.heap.size w q') => show ∀ i, i < [S1, S2].length → ShIn q' (nthSh [S1, S2] i) ∧ (nthSh [S1, S2] i).Z.length = (nthSh [S1, S2] i).w * Hn ∧ 1 ≤ (nthSh [S1, S2] i).w ∧ (nthSh [S1, S2] i).Z.length ≤ (nthSh [S1, S2] i).cap from by
          intro i hi
          match i, hi with
          | 0, _ => exact ⟨(HIS.out q' hq).1, z1, by show 1 ≤ S1.w; rw [hS1]; exact hw1.1, by show S1.Z.length ≤ S1.cap; rw [hz1, hS1]; exact HC1.out⟩
          | 1, _ => exact ⟨(HIS.out q' hq).2, z2, by show 1 ≤ S2.w; rw [hS2]; exact hw2.1, by show S2.Z.length ≤ S2.cap; rw [hz2, hS2]; exact HC2.out⟩)
        have HALC := hid (fun q' => show PIn (q'.alloc (.cells #[.int .i64 (Wp : Int), .int .i64 (Hn : Int), .slice (some ⟨pb, po, none⟩) L1.length cap, .int .i64 (Wq : Int), .int .i64 (Hn : Int), .slice (some ⟨qb, qo, none⟩) L2.length cbp] 56)) q'.heap.size 0 [S1, S2] Hn from
          Below.of_alloc6 q' _ _ _ _ _ _ 56 0 0 0 0 0 0 0 0 S1 S2 Hn (by rw [hS1]) rfl (by rw [hz1, hS1]) (by rw [hS2]) rfl (by rw [hz2, hS2]))
        obtain ⟨AA, hAA⟩ : ∃ AA, AA = pickP R3 p1 := ⟨_, rfl⟩
        have HCALL := hid (fun q' (hq : Below w.heap.size w q') lo n lc (M : Nat) (hz : OwnZ q' M (.slice lo n lc) (allTo [S1, S2] Hn)) => show Calls Tryz.prog 26 #[.agg #[.int .i64 ((Wp : Int) + (Wq : Int)), .int .i64 (Hn : Int), .slice lo n lc], .string N1] q' fun e w' => ∃ v', e = .returned (.tuple #[v', .bool R3]) ∧ PO q'.heap.size w' v' AA ∧ Below q'.heap.size q' w' from by
          obtain ⟨hn, hbl⟩ := hz.blv (fun z hz' => (HVA.out z hz').below hq)
          rw [HPL.out] at hbl
          have hlen : (allTo [S1, S2] Hn).length = (bsP ⟨(Wp : Int), (Hn : Int), T1, N1, L1⟩ ⟨(Wq : Int), (Hn : Int), T2, N2, L2⟩).L.length := by
            show _ = (allL [((Wp : Int).toNat, L1), ((Wq : Int).toNat, L2)] (Hn : Int).toNat).length
            simp only [Int.toNat_natCast]
            rw [← HPL.out, List.length_map]
          rw [hn, hlen]
          refine (HPO.out (by first | rfl | trivial) (by first | rfl | trivial) lo lc ((allTo [S1, S2] Hn).map (·.2)) q' (by
            show BLv q' (.slice lo (bsP ⟨(Wp : Int), (Hn : Int), T1, N1, L1⟩ ⟨(Wq : Int), (Hn : Int), T2, N2, L2⟩).L.length lc) (allL [((Wp : Int).toNat, L1), ((Wq : Int).toNat, L2)] (Hn : Int).toNat) _
            rw [← hlen]
            simp only [Int.toNat_natCast]
            exact hbl)).mono ?_
          rintro e w' ⟨v', rfl, h1, h2, hb⟩
          refine ⟨v', rfl, ?_, hb⟩
          rw [hAA]
          unfold pickP
          cases R3 with
          | true => exact h1 rfl
          | false =>
            rw [h2 rfl]
            exact zPO _ _ hb.size)
        have HAA := hid hAA
        clear hAA
        have HWT := hid hwt
        clear hS1 hS2 z1 z2 hwt HIN1 HIN2 HV1 HV2 b1 b2 HB1 HB2 HC1 HC2 hl1 hl2
        have C2 := hid C1'.out
        have HC1 := C2
        have HLT := hid (show w.heap.size + 2 < w2.heap.size by omega)
        have HK0 := hid (fun q' (hq : Below w2.heap.size w2 q') => (D0'.out.below hq D0'.out.lt).cells)
        have HK1 := hid (fun q' (hq : Below w2.heap.size w2 q') => (D1'.out.below hq D1'.out.lt).cells)
        have HK2 := hid (fun q' (hq : Below w2.heap.size w2 q') => show Eig q' (w.heap.size + 1 + 1) _ _ _ _ _ _ _ _ 36 from (D2'.out.below hq D2'.out.lt))
        clear D0' D1' D2' C1' C2 HBL1 HBL2 HPO HRL1 HRL2 HRC1 HRC2 HO1 HO2 HAS HAL HPL HVA HZB HL1 HL2 HIS hcp1 hcp2 hm1 hm2 hz1 hz2
        go_wp2_with fail
        refine wp_region_any (by kernel_rfl) ?_
        refine wpAny_inv (fun listed ac wq => ∃ u : Nat → Value, ac = { tmps := #[.agg #[.int .i64 (Wp : Int), .int .i64 (Hn : Int), .slice a0 T1.cs.length c0, .slice a1 T1.ss.length c1, .slice a2 T1.ct.length c2, .slice a3 T1.st.length c3, .string N1, .slice (some ⟨pb, po, none⟩) L1.length cap], .agg #[.int .i64 (Wq : Int), .int .i64 (Hn : Int), .slice b0 T2.cs.length d0, .slice b1 T2.ss.length d1, .slice b2 T2.ct.length d2, .slice b3 T2.st.length d3, .string N2, .slice (some ⟨qb, qo, none⟩) L2.length cbp], .pointer (some ⟨w.heap.size, 0, none⟩), .pointer (some ⟨w.heap.size + 1, 0, none⟩), .pointer (some ⟨w.heap.size + 1 + 1, 0, none⟩), u 5, .agg #[.int .i64 (Wp : Int), .int .i64 (Hn : Int), .slice a0 T1.cs.length c0, .slice a1 T1.ss.length c1, .slice a2 T1.ct.length c2, .slice a3 T1.st.length c3, .string N1, .slice (some ⟨pb, po, none⟩) L1.length cap], .bool true, .bool false, .bool false, .agg #[.int .i64 (Wq : Int), .int .i64 (Hn : Int), .slice b0 T2.cs.length d0, .slice b1 T2.ss.length d1, .slice b2 T2.ct.length d2, .slice b3 T2.st.length d3, .string N2, .slice (some ⟨qb, qo, none⟩) L2.length cbp], .bool true, .bool false, .bool false, .bool false, .pointer (some ⟨w.heap.size, 1, none⟩), .int .i64 (Hn : Int), .pointer (some ⟨w.heap.size + 1, 1, none⟩), .int .i64 (Hn : Int), .bool false, .bool false, undef, u 22, u 23, u 24, u 25, u 26, u 27, u 28, u 29, u 30, u 31, u 32], defers := [] } ∧ Inv2 11 (VI (.agg #[.int .i64 (Wp : Int), .int .i64 (Hn : Int), .slice a0 T1.cs.length c0, .slice a1 T1.ss.length c1, .slice a2 T1.ct.length c2, .slice a3 T1.st.length c3, .string N1, .slice (some ⟨pb, po, none⟩) L1.length cap]) (.agg #[.int .i64 (Wq : Int), .int .i64 (Hn : Int), .slice b0 T2.cs.length d0, .slice b1 T2.ss.length d1, .slice b2 T2.ct.length d2, .slice b3 T2.st.length d3, .string N2, .slice (some ⟨qb, qo, none⟩) L2.length cbp]) (.agg #[.int .i64 (Wp : Int), .int .i64 (Hn : Int), .slice (some ⟨pb, po, none⟩) L1.length cap]) (.agg #[.int .i64 (Wq : Int), .int .i64 (Hn : Int), .slice (some ⟨qb, qo, none⟩) L2.length cbp]) (.pointer (some ⟨w.heap.size, 6, none⟩)) N1 ((Wp : Int) + (Wq : Int)) (Hn : Int) [S1, S2] Hn w2.heap.size AA R3) DI (fun q => Below w2.heap.size w2 q) (fun _ => True) (fun listed u q => (∃ y0 y1 y2 y3 y4 y5 y6 y7, PO w2.heap.size q (.agg #[y0, y1, y2, y3, y4, y5, y6, y7]) AA ∧ Eig q (w.heap.size + 1 + 1) y0 y1 y2 y3 y4 y5 y6 y7 36 ∧ Below w.heap.size w2 q) ∧ u 32 = .bool R3 ∧ (listed.getD 12 false = true → u 5 = .bool R3)) listed u wq) ?hpre ?hstep ?hend _ _ _ _ rfl (by decide) (fun j oj _ hl => absurd hl (by simp [Array.getD])) ⟨upd (fun _ => undef) 5 (.bool false), by simp [upd], fun _ => ⟨(Below.refl _ _).drew, trivial, fun j _ hl => absurd hl (by simp [Array.getD])⟩, fun h => absurd h (by simp [Array.getD])⟩
        case hpre => exact pre_of (by kernel_rfl)
        case hend =>
          rintro listed ac wq hall ⟨u, rfl, hI⟩
          obtain ⟨⟨y0, y1, y2, y3, y4, y5, y6, y7, hpo, he, hb⟩, _, h5⟩ := hI.2 (hall 11 (by decide))
          have h5' := h5 (hall 12 (by decide))
          have HPO' := hid hpo
          have BZ := hid (HC1.out.trans hb)
          obtain ⟨s0, s1, s2, s3, s4, s5, s6, s7⟩ := he.cells
          clear hI h5 hpo he hb
          have PZ := hid (HPO'.out.low HC1.out.size)
          rw [HAA.out, HPE.out] at PZ
          go_wp2_with fail
          exact bodyPost_ret (v := .tuple #[.agg #[y0, y1, y2, y3, y4, y5, y6, y7], .bool R3]) (by simp [results, Tryz.results14, go_sem, s0, s1, s2, s3, s4, s5, s6, s7]) rfl ⟨_, by first | rfl | (rw [HDE.out]; rfl) | simp, by first | exact PZ.out | (rw [HDE.out]; exact PZ.out) | simpa using PZ.out, BZ.out⟩
        case hstep =>
          rintro listed ac wq i oo hszl ⟨u, rfl, hI⟩ ho hall hun hcl
          have hin : i < 13 := (Array.getElem?_eq_some_iff.1 ho).1
          have HNS : Hid (i < 11 → listed.getD 11 false = false) := hid (fun hi => by
            cases hl : listed.getD 11 false with
            | false => rfl
            | true =>
              exfalso
              obtain rfl | rfl | rfl | rfl | rfl | rfl | rfl | rfl | rfl | rfl | rfl : i = 0 ∨ i = 1 ∨ i = 2 ∨ i = 3 ∨ i = 4 ∨ i = 5 ∨ i = 6 ∨ i = 7 ∨ i = 8 ∨ i = 9 ∨ i = 10 := by omega
              · exact getD_ft (hcl 11 _ rfl hl ⟨0, .phase⟩ (by simp) rfl) hun
              · exact getD_ft (hcl 11 _ rfl hl ⟨1, .phase⟩ (by simp) rfl) hun
              · exact getD_ft (hcl 11 _ rfl hl ⟨2, .phase⟩ (by simp) rfl) hun
              · exact getD_ft (hcl 11 _ rfl hl ⟨3, .phase⟩ (by simp) rfl) hun
              · exact getD_ft (hcl 11 _ rfl hl ⟨4, .phase⟩ (by simp) rfl) hun
              · exact getD_ft (hcl 11 _ rfl hl ⟨5, .phase⟩ (by simp) rfl) hun
              · exact getD_ft (hcl 11 _ rfl hl ⟨6, .phase⟩ (by simp) rfl) hun
              · exact getD_ft (hcl 11 _ rfl hl ⟨7, .phase⟩ (by simp) rfl) hun
              · exact getD_ft (hcl 11 _ rfl hl ⟨8, .phase⟩ (by simp) rfl) hun
              · exact getD_ft (hcl 11 _ rfl hl ⟨9, .phase⟩ (by simp) rfl) hun
              · exact getD_ft (hcl 11 _ rfl hl ⟨10, .phase⟩ (by simp) rfl) hun)
          have ST : Hid (listed.getD 11 false = false → Facts 11 (VI (.agg #[.int .i64 (Wp : Int), .int .i64 (Hn : Int), .slice a0 T1.cs.length c0, .slice a1 T1.ss.length c1, .slice a2 T1.ct.length c2, .slice a3 T1.st.length c3, .string N1, .slice (some ⟨pb, po, none⟩) L1.length cap]) (.agg #[.int .i64 (Wq : Int), .int .i64 (Hn : Int), .slice b0 T2.cs.length d0, .slice b1 T2.ss.length d1, .slice b2 T2.ct.length d2, .slice b3 T2.st.length d3, .string N2, .slice (some ⟨qb, qo, none⟩) L2.length cbp]) (.agg #[.int .i64 (Wp : Int), .int .i64 (Hn : Int), .slice (some ⟨pb, po, none⟩) L1.length cap]) (.agg #[.int .i64 (Wq : Int), .int .i64 (Hn : Int), .slice (some ⟨qb, qo, none⟩) L2.length cbp]) (.pointer (some ⟨w.heap.size, 6, none⟩)) N1 ((Wp : Int) + (Wq : Int)) (Hn : Int) [S1, S2] Hn w2.heap.size AA R3) DI listed u wq → i < 11 → ∀ (wz : World) (v : Value), Below wq.heap.size wq wz → (VI (.agg #[.int .i64 (Wp : Int), .int .i64 (Hn : Int), .slice a0 T1.cs.length c0, .slice a1 T1.ss.length c1, .slice a2 T1.ct.length c2, .slice a3 T1.st.length c3, .string N1, .slice (some ⟨pb, po, none⟩) L1.length cap]) (.agg #[.int .i64 (Wq : Int), .int .i64 (Hn : Int), .slice b0 T2.cs.length d0, .slice b1 T2.ss.length d1, .slice b2 T2.ct.length d2, .slice b3 T2.st.length d3, .string N2, .slice (some ⟨qb, qo, none⟩) L2.length cbp]) (.agg #[.int .i64 (Wp : Int), .int .i64 (Hn : Int), .slice (some ⟨pb, po, none⟩) L1.length cap]) (.agg #[.int .i64 (Wq : Int), .int .i64 (Hn : Int), .slice (some ⟨qb, qo, none⟩) L2.length cbp]) (.pointer (some ⟨w.heap.size, 6, none⟩)) N1 ((Wp : Int) + (Wq : Int)) (Hn : Int) [S1, S2] Hn w2.heap.size AA R3) i v wz → Inv2 11 (VI (.agg #[.int .i64 (Wp : Int), .int .i64 (Hn : Int), .slice a0 T1.cs.length c0, .slice a1 T1.ss.length c1, .slice a2 T1.ct.length c2, .slice a3 T1.st.length c3, .string N1, .slice (some ⟨pb, po, none⟩) L1.length cap]) (.agg #[.int .i64 (Wq : Int), .int .i64 (Hn : Int), .slice b0 T2.cs.length d0, .slice b1 T2.ss.length d1, .slice b2 T2.ct.length d2, .slice b3 T2.st.length d3, .string N2, .slice (some ⟨qb, qo, none⟩) L2.length cbp]) (.agg #[.int .i64 (Wp : Int), .int .i64 (Hn : Int), .slice (some ⟨pb, po, none⟩) L1.length cap]) (.agg #[.int .i64 (Wq : Int), .int .i64 (Hn : Int), .slice (some ⟨qb, qo, none⟩) L2.length cbp]) (.pointer (some ⟨w.heap.size, 6, none⟩)) N1 ((Wp : Int) + (Wq : Int)) (Hn : Int) [S1, S2] Hn w2.heap.size AA R3) DI (fun q => Below w2.heap.size w2 q) (fun _ => True) (fun listed u q => (∃ y0 y1 y2 y3 y4 y5 y6 y7, PO w2.heap.size q (.agg #[y0, y1, y2, y3, y4, y5, y6, y7]) AA ∧ Eig q (w.heap.size + 1 + 1) y0 y1 y2 y3 y4 y5 y6 y7 36 ∧ Below w.heap.size w2 q) ∧ u 32 = .bool R3 ∧ (listed.getD 12 false = true → u 5 = .bool R3)) (listed.setIfInBounds i true) (upd u (DI i) v) wz) := hid (fun h1 h2 hi wz v hbz hv => Inv2.step i v h1 h2 hi ((hI.1 h1).1.trans (hbz.mono (hI.1 h1).1.size)) trivial (fun j hj hne => by unfold DI; omega) (fun j x hj h => VI.below hbz j x h) hv)
          obtain rfl | rfl | rfl | rfl | rfl | rfl | rfl | rfl | rfl | rfl | rfl | rfl | rfl : i = 0 ∨ i = 1 ∨ i = 2 ∨ i = 3 ∨ i = 4 ∨ i = 5 ∨ i = 6 ∨ i = 7 ∨ i = 8 ∨ i = 9 ∨ i = 10 ∨ i = 11 ∨ i = 12 := by omega
          · cases ho
            have hns := HNS.out (by decide)
            obtain ⟨hb, hX, hF⟩ := hI.1 hns
            obtain ⟨g0, g1, g2, g3, g4, g5, g6, g7⟩ := HK0.out _ hb
            refine wpOp_step rfl (fun K hK => ?_)
            go_simp
            refine hK _ _ ⟨upd u 22 (.agg #[.int .i64 (Wp : Int), .int .i64 (Hn : Int), .slice a0 T1.cs.length c0, .slice a1 T1.ss.length c1, .slice a2 T1.ct.length c2, .slice a3 T1.st.length c3, .string N1, .slice (some ⟨pb, po, none⟩) L1.length cap]), ?_, ST.out hns hF (by decide) _ _ (Below.refl _ _) (rfl)⟩
            simp [upd]
          · cases ho
            have hns := HNS.out (by decide)
            obtain ⟨hb, hX, hF⟩ := hI.1 hns
            have f0 : u 22 = .agg #[.int .i64 (Wp : Int), .int .i64 (Hn : Int), .slice a0 T1.cs.length c0, .slice a1 T1.ss.length c1, .slice a2 T1.ct.length c2, .slice a3 T1.st.length c3, .string N1, .slice (some ⟨pb, po, none⟩) L1.length cap] := hF 0 (by decide) (hall ⟨0, .data⟩ (by simp) rfl)
            refine wpOp_step rfl (fun K hK => ?_)
            simp only [f0]
            go_simp
            refine (sheetOf_any (Wp : Int) (Hn : Int) _ _ _ _ N1 (some ⟨pb, po, none⟩) L1.length cap wq ⟨_, _, _, rfl⟩ ⟨_, _, _, rfl⟩ ⟨_, _, _, rfl⟩ ⟨_, _, _, rfl⟩).mono ?_
            rintro e w3 ⟨rfl, hb3⟩
            refine hK _ _ ⟨upd u 23 (.agg #[.int .i64 (Wp : Int), .int .i64 (Hn : Int), .slice (some ⟨pb, po, none⟩) L1.length cap]), ?_, ST.out hns hF (by decide) w3 _ hb3 (rfl)⟩
            simp [upd, f0]
          · cases ho
            have hns := HNS.out (by decide)
            obtain ⟨hb, hX, hF⟩ := hI.1 hns
            obtain ⟨g0, g1, g2, g3, g4, g5, g6, g7⟩ := HK1.out _ hb
            refine wpOp_step rfl (fun K hK => ?_)
            go_simp
            refine hK _ _ ⟨upd u 24 (.agg #[.int .i64 (Wq : Int), .int .i64 (Hn : Int), .slice b0 T2.cs.length d0, .slice b1 T2.ss.length d1, .slice b2 T2.ct.length d2, .slice b3 T2.st.length d3, .string N2, .slice (some ⟨qb, qo, none⟩) L2.length cbp]), ?_, ST.out hns hF (by decide) _ _ (Below.refl _ _) (rfl)⟩
            simp [upd]
          · cases ho
            have hns := HNS.out (by decide)
            obtain ⟨hb, hX, hF⟩ := hI.1 hns
            have f2 : u 24 = .agg #[.int .i64 (Wq : Int), .int .i64 (Hn : Int), .slice b0 T2.cs.length d0, .slice b1 T2.ss.length d1, .slice b2 T2.ct.length d2, .slice b3 T2.st.length d3, .string N2, .slice (some ⟨qb, qo, none⟩) L2.length cbp] := hF 2 (by decide) (hall ⟨2, .data⟩ (by simp) rfl)
            refine wpOp_step rfl (fun K hK => ?_)
            simp only [f2]
            go_simp
            refine (sheetOf_any (Wq : Int) (Hn : Int) _ _ _ _ N2 (some ⟨qb, qo, none⟩) L2.length cbp wq ⟨_, _, _, rfl⟩ ⟨_, _, _, rfl⟩ ⟨_, _, _, rfl⟩ ⟨_, _, _, rfl⟩).mono ?_
            rintro e w3 ⟨rfl, hb3⟩
            refine hK _ _ ⟨upd u 25 (.agg #[.int .i64 (Wq : Int), .int .i64 (Hn : Int), .slice (some ⟨qb, qo, none⟩) L2.length cbp]), ?_, ST.out hns hF (by decide) w3 _ hb3 (rfl)⟩
            simp [upd, f2]
          · cases ho
            have hns := HNS.out (by decide)
            obtain ⟨hb, hX, hF⟩ := hI.1 hns
            have f1 : u 23 = .agg #[.int .i64 (Wp : Int), .int .i64 (Hn : Int), .slice (some ⟨pb, po, none⟩) L1.length cap] := hF 1 (by decide) (hall ⟨1, .data⟩ (by simp) rfl)
            have f3 : u 25 = .agg #[.int .i64 (Wq : Int), .int .i64 (Hn : Int), .slice (some ⟨qb, qo, none⟩) L2.length cbp] := hF 3 (by decide) (hall ⟨3, .data⟩ (by simp) rfl)
            refine wpOp_step rfl (fun K hK => ?_)
            simp only [f1, f3]
            go_simp
            refine hK _ _ ⟨upd u 26 (.slice (some ⟨wq.heap.size, 0, none⟩) 2 2), ?_, ST.out hns hF (by decide) _ _ ((Below.refl _ _).alloc (Nat.le_refl _) _) (⟨_, rfl, HALC.out wq⟩)⟩
            simp [upd, f1, f3]
          · cases ho
            have hns := HNS.out (by decide)
            obtain ⟨hb, hX, hF⟩ := hI.1 hns
            obtain ⟨G4, f4, pin4⟩ : ∃ G, u 26 = .slice (some ⟨G, 0, none⟩) 2 2 ∧ PIn wq G 0 [S1, S2] Hn := hF 4 (by decide) (hall ⟨4, .data⟩ (by simp) rfl)
            have hwq : Below w.heap.size w wq := HC1.out.trans (hb.mono HC1.out.size)
            have HBS := beside_any [S1, S2] Hn G4 0 2 wq (by show 1 ≤ 2; decide) (by show 2 ≤ 1000; decide) (by omega) (by show wTo [S1, S2] 2 ≤ 1000; rw [HWT.out]; omega) pin4 (HSHS.out wq hwq) HONE.out
            rw [show wTo [S1, S2] [S1, S2].length = Wp + Wq from HWT.out] at HBS
            have HBS2 := hid HBS
            clear HBS
            refine wpOp_step rfl (fun K hK => ?_)
            simp only [f4]
            go_simp
            refine HBS2.out.mono ?_
            rintro e w3 ⟨vz, rfl, hz, hb3⟩
            refine hK _ _ ⟨upd u 27 (.agg #[.int .i64 ((Wp : Int) + (Wq : Int)), .int .i64 (Hn : Int), vz]), ?_, ST.out hns hF (by decide) w3 _ hb3 (⟨vz, rfl, hz.mono hb.size⟩)⟩
            simp [upd, f4]
          · cases ho
            have hns := HNS.out (by decide)
            obtain ⟨hb, hX, hF⟩ := hI.1 hns
            refine wpOp_step rfl (fun K hK => ?_)
            go_simp
            refine hK _ _ ⟨upd u 28 (.pointer (some ⟨w.heap.size, 6, none⟩)), ?_, ST.out hns hF (by decide) _ _ (Below.refl _ _) (rfl)⟩
            simp [upd]
          · cases ho
            have hns := HNS.out (by decide)
            obtain ⟨hb, hX, hF⟩ := hI.1 hns
            have f6 : u 28 = .pointer (some ⟨w.heap.size, 6, none⟩) := hF 6 (by decide) (hall ⟨6, .data⟩ (by simp) rfl)
            obtain ⟨g0, g1, g2, g3, g4, g5, g6, g7⟩ := HK0.out _ hb
            refine wpOp_step rfl (fun K hK => ?_)
            simp only [f6]
            go_simp
            refine hK _ _ ⟨upd u 29 (.string N1), ?_, ST.out hns hF (by decide) _ _ (Below.refl _ _) (rfl)⟩
            simp [upd, f6]
          · cases ho
            have hns := HNS.out (by decide)
            obtain ⟨hb, hX, hF⟩ := hI.1 hns
            obtain ⟨v5, f5, oz5⟩ : ∃ v, u 27 = .agg #[.int .i64 ((Wp : Int) + (Wq : Int)), .int .i64 (Hn : Int), v] ∧ OwnZ wq w2.heap.size v (allTo [S1, S2] Hn) := hF 5 (by decide) (hall ⟨5, .data⟩ (by simp) rfl)
            obtain ⟨lo, lc, rfl⟩ := oz5.shape
            have f7 : u 29 = .string N1 := hF 7 (by decide) (hall ⟨7, .data⟩ (by simp) rfl)
            have hwq : Below w.heap.size w wq := HC1.out.trans (hb.mono HC1.out.size)
            have HCC := hid (HCALL.out wq hwq lo _ lc w2.heap.size oz5)
            refine wpOp_step rfl (fun K hK => ?_)
            simp only [f5, f7]
            go_simp
            refine HCC.out.mono ?_
            rintro e w3 ⟨vz, rfl, hz, hb3⟩
            refine hK _ _ ⟨upd u 30 (.tuple #[vz, .bool R3]), ?_, ST.out hns hF (by decide) w3 _ hb3 (⟨vz, rfl, hz.low hb.size⟩)⟩
            simp [upd, f5, f7]
          · cases ho
            have hns := HNS.out (by decide)
            obtain ⟨hb, hX, hF⟩ := hI.1 hns
            obtain ⟨vz, f8, po8⟩ : ∃ v, u 30 = .tuple #[v, .bool R3] ∧ PO w2.heap.size wq v AA := hF 8 (by decide) (hall ⟨8, .data⟩ (by simp) rfl)
            refine wpOp_step rfl (fun K hK => ?_)
            simp only [f8]
            go_simp
            refine hK _ _ ⟨upd u 31 (vz), ?_, ST.out hns hF (by decide) _ _ (Below.refl _ _) (po8)⟩
            simp [upd, f8]
          · cases ho
            have hns := HNS.out (by decide)
            obtain ⟨hb, hX, hF⟩ := hI.1 hns
            obtain ⟨vz, f8, po8⟩ : ∃ v, u 30 = .tuple #[v, .bool R3] ∧ PO w2.heap.size wq v AA := hF 8 (by decide) (hall ⟨8, .data⟩ (by simp) rfl)
            refine wpOp_step rfl (fun K hK => ?_)
            simp only [f8]
            go_simp
            refine hK _ _ ⟨upd u 32 (.bool R3), ?_, ST.out hns hF (by decide) _ _ (Below.refl _ _) (rfl)⟩
            simp [upd, f8]
          · cases ho
            have hns : listed.getD 11 false = false := by
              cases h : listed.getD 11 false with
              | false => rfl
              | true => exact absurd hun (fun h' => getD_ft h h')
            obtain ⟨hb, hX, hF⟩ := hI.1 hns
            have po9 : PO w2.heap.size wq (u 31) AA := hF 9 (by decide) (hall ⟨9, .data⟩ (by simp) rfl)
            obtain ⟨x0, d0', x1, d1', x2, d2', x3, d3', x4, d4', hy, _, _⟩ := po9.pq.pv
            have F10 := hid (show u 32 = .bool R3 from hF 10 (by decide) (hall ⟨10, .phase⟩ (by simp) rfl))
            have EQ := HK2.out _ hb
            have PZ := hid (po9.set8 (b := w.heap.size + 1 + 1) (show w.heap.size + 2 < w2.heap.size from HLT.out) (.int .i64 AA.W) (.int .i64 AA.H) (.slice x0 AA.T.cs.length d0') (.slice x1 AA.T.ss.length d1') (.slice x2 AA.T.ct.length d2') (.slice x3 AA.T.st.length d3') (.string AA.N) (.slice x4 AA.L.length d4'))
            rw [hy] at PZ
            have EZ := hid (EQ.set8 (.int .i64 AA.W) (.int .i64 AA.H) (.slice x0 AA.T.cs.length d0') (.slice x1 AA.T.ss.length d1') (.slice x2 AA.T.ct.length d2') (.slice x3 AA.T.st.length d3') (.string AA.N) (.slice x4 AA.L.length d4'))
            have BZ := hid (below8 (b := w.heap.size + 1 + 1) (hb.mono HC1.out.size) (show w.heap.size ≤ w.heap.size + 2 by omega) (.int .i64 AA.W) (.int .i64 AA.H) (.slice x0 AA.T.cs.length d0') (.slice x1 AA.T.ss.length d1') (.slice x2 AA.T.ct.length d2') (.slice x3 AA.T.st.length d3') (.string AA.N) (.slice x4 AA.L.length d4'))
            obtain ⟨s0, s1, s2, s3, s4, s5, s6, s7⟩ := EQ.cells
            have fz := EQ.free
            clear EQ po9
            refine wpOp_step rfl (fun K hK => ?_)
            simp only [hy]
            go_simp
            refine hK _ _ ⟨u, ?_, fun h => ?_, fun _ => ⟨⟨_, _, _, _, _, _, _, _, PZ.out, EZ.out, BZ.out⟩, F10.out, fun h => ?_⟩⟩
            · simp [hy]
            · exfalso
              rw [show (listed.setIfInBounds 11 true).getD 11 false = true by simp [Array.getD, hszl]] at h
              cases h
            · exfalso
              rw [getD_set_ne false (by decide)] at h
              exact getD_ft (hcl 12 _ rfl h ⟨11, .chain⟩ (by simp) rfl) hun
          · cases ho
            have h11 : listed.getD 11 false = true := hall ⟨11, .chain⟩ (by simp) rfl
            obtain ⟨hY, h32, _⟩ := hI.2 h11
            have HY := hid hY
            clear hY
            refine wpOp_step rfl (fun K hK => ?_)
            simp only [h32]
            go_simp
            refine hK _ _ ⟨upd u 5 (.bool R3), ?_, fun h => ?_, fun _ => ⟨HY.out, by simpa [upd] using h32, fun _ => by simp [upd]⟩⟩
            · simp [upd, h32]
            · rw [getD_set_ne false (by decide), h11] at h
              cases h
      · have HDE := hid (decide_eq_false hH)
        have EZ := hid (D2'.out.set8 (.int .i64 0) (.int .i64 0) (.slice none 0 0) (.slice none 0 0) (.slice none 0 0) (.slice none 0 0) (.string ⟨#[]⟩) (.slice none 0 0)).cells
        have BZ := hid (below8 C1'.out (show w.heap.size ≤ w.heap.size + 2 by omega) (.int .i64 0) (.int .i64 0) (.slice none 0 0) (.slice none 0 0) (.slice none 0 0) (.slice none 0 0) (.string ⟨#[]⟩) (.slice none 0 0))
        obtain ⟨s0, s1, s2, s3, s4, s5, s6, s7⟩ := D2'.out.cells
        have fz := D2'.out.free
        go_wp2_with fail
        generalize ((((((((w2.setCell ⟨w.heap.size + 2, 0, none⟩ (.int .i64 0)).setCell ⟨w.heap.size + 2, 1, none⟩ (.int .i64 0)).setCell ⟨w.heap.size + 2, 2, none⟩ (.slice none 0 0)).setCell ⟨w.heap.size + 2, 3, none⟩ (.slice none 0 0)).setCell ⟨w.heap.size + 2, 4, none⟩ (.slice none 0 0)).setCell ⟨w.heap.size + 2, 5, none⟩ (.slice none 0 0)).setCell ⟨w.heap.size + 2, 6, none⟩ (.string ⟨#[]⟩)).setCell ⟨w.heap.size + 2, 7, none⟩ (.slice none 0 0)) = wf at *
        clear s0 s1 s2 s3 s4 s5 s6 s7
        obtain ⟨s0, s1, s2, s3, s4, s5, s6, s7⟩ := EZ.out
        exact bodyPost_ret (v := .tuple #[.agg #[.int .i64 0, .int .i64 0, .slice none 0 0, .slice none 0 0, .slice none 0 0, .slice none 0 0, .string ⟨#[]⟩, .slice none 0 0], .bool false]) (by simp [results, Tryz.results14, go_sem, s0, s1, s2, s3, s4, s5, s6, s7]) rfl ⟨_, by rw [HDE.out]; rfl, by rw [HDE.out]; exact zPO _ _ BZ.out.size, BZ.out⟩

theorem impl_bs (v1 v2 : Value) (p q : Pk) (vs1 vs2 : List Value) (w : World) (hf1 : p.Fits) (hf2 : q.Fits) (hv1 : PVq w v1 p vs1) (hv2 : PVq w v2 q vs2) (hc1 : CapV v1) (hc2 : CapV v2) (hpv1 : PV w v1 p) (hpv2 : PV w v2 q) :
    Calls Tryz.prog 14 #[v1, v2] w fun e w' => ∃ v', e = .returned (.tuple #[v', .bool (bsB p q)]) ∧ PO w.heap.size w' v' (bsA p q) ∧ Below w.heap.size w w' :=
  impl_beside v1 v2 p q vs1 vs2 w hv1 hv2 hc1 hc2 hpv1 hpv2 (okB p) (okB q) (okB (plI (bsP p q))) (fun q' v => impl_okB p hf1 q' v) (fun q' v => impl_okB q hf2 q' v) ok_bounds ok_bounds (bsP_fits p q hf1) (fun h => by have := okB_freq h; rwa [plI_L] at this) (fun h1 h2 q' v => impl_okB _ (plI_fits _ (bsP_fits p q hf1 h1 h2)) q' v)
end Go.Proofs.YtnnakmgngkpghaaGreat
