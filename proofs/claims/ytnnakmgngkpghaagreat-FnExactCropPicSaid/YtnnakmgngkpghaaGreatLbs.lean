/- BesidePic of the specification. -/
import Derived.Test.YtnnakmgngkpghaaGreatTha
import Derived.Test.YtnnakmgngkpghaaGreatBsp
namespace Go.Proofs.YtnnakmgngkpghaaGreat
open Go.RowKit Go.Maps
set_option linter.unusedVariables false

/-- Two pictures side by side, without tables. -/
def bsP (p q : Pk) : Pk := ⟨p.W + q.W, p.H, ⟨[], [], [], []⟩, p.N, allL [(p.W.toNat, p.L), (q.W.toNat, q.L)] p.H.toNat⟩
def bsB (p q : Pk) : Bool := okB p && (okB q && (decide (p.H = q.H) && okB (plI (bsP p q))))
def bsA (p q : Pk) : Pk := if bsB p q = true then plI (bsP p q) else zPk
theorem bs_no {p q : Pk} (h : bsB p q = false) : bsB p q = false ∧ bsA p q = zPk := ⟨h, by unfold bsA; rw [h]; rfl⟩
theorem ok_bounds {p : Pk} (h : okB p = true) : (1 ≤ p.W ∧ p.W ≤ 40) ∧ (1 ≤ p.H ∧ p.H ≤ 40) ∧ (p.N.size : Int) ≤ 500 ∧ (p.L.length : Int) = p.W * p.H := by
  unfold okB at h
  rw [Bool.and_eq_true] at h
  exact of_decide_eq_true h.1
theorem allL_mem (Ls : List (Nat × List (Int × List Int))) : ∀ r, ∀ b ∈ allL Ls r, ∃ S ∈ Ls, b ∈ S.2
  | 0, b, hb => by simp [allL] at hb
  | r + 1, b, hb => by
    rw [allL, List.mem_append] at hb
    rcases hb with hb | hb
    · exact allL_mem Ls r b hb
    · obtain ⟨S, hS, h⟩ := List.mem_flatMap.1 hb
      exact ⟨S, hS, List.mem_of_mem_drop (List.mem_of_mem_take h)⟩
theorem rows_mem {L : List (Int × List Int)} (h : ∀ j, j < L.length → (nth L j).2.length = 63) (s : Int × List Int) (hs : s ∈ L) : s.2.length = 63 := by
  obtain ⟨j, hj, e⟩ := List.getElem_of_mem hs
  have := h j hj
  have hn : nth L j = s := by simp [nth, List.getD, hj, e]
  rw [hn] at this
  exact this
theorem bandL_len (Ls : List (Nat × List (Int × List Int))) (r : Nat) : (bandL Ls r).length ≤ (Ls.map (·.1)).sum := by
  induction Ls with
  | nil => simp [bandL]
  | cons S Ss ih =>
    have h1 : (rowL S r).length ≤ S.1 := by unfold rowL; rw [List.length_take]; omega
    have h2 : bandL (S :: Ss) r = rowL S r ++ bandL Ss r := rfl
    rw [h2, List.length_append, List.map_cons, List.sum_cons]
    omega
theorem allL_len (Ls : List (Nat × List (Int × List Int))) : ∀ r, (allL Ls r).length ≤ r * (Ls.map (·.1)).sum
  | 0 => by simp [allL]
  | r + 1 => by
    have := allL_len Ls r
    have := bandL_len Ls r
    rw [allL, List.length_append, Nat.succ_mul]
    omega
/-- A picture made of a plain list of right rows fits. -/
theorem plain_fits (W H : Int) (N : ByteArray) (L : List (Int × List Int)) (hN : N.size ≤ 1048576) (hl : L.length ≤ 1048576) (h63 : ∀ s ∈ L, s.2.length = 63) : Pk.Fits ⟨W, H, ⟨[], [], [], []⟩, N, L⟩ :=
  ⟨Nat.zero_le _, Nat.zero_le _, Nat.zero_le _, Nat.zero_le _, hN, hl, fun j hj => by
    have hm : nth L j ∈ L := nth_inK L j hj
    rw [h63 _ hm]
    decide⟩
theorem bsP_fits (p q : Pk) (hf : p.Fits) (hp : okB p = true) (hq : okB q = true) : (bsP p q).Fits := by
  have b1 := ok_bounds hp
  have b2 := ok_bounds hq
  refine plain_fits _ _ _ _ hf.hN ?_ ?_
  · have h1 := allL_len [(p.W.toNat, p.L), (q.W.toNat, q.L)] p.H.toNat
    have h2 : ([(p.W.toNat, p.L), (q.W.toNat, q.L)].map (·.1)).sum = p.W.toNat + q.W.toNat := by simp
    rw [h2] at h1
    have h3 : p.H.toNat * (p.W.toNat + q.W.toNat) ≤ 40 * 80 := Nat.mul_le_mul (by omega) (by omega)
    omega
  · intro s hs
    obtain ⟨S, hS, hb⟩ := allL_mem _ _ _ hs
    simp at hS
    rcases hS with rfl | rfl
    · exact rows_mem (okB_rows hp) s hb
    · exact rows_mem (okB_rows hq) s hb

/-- The last slice of a picture has room for its elements. -/
def CapV (v : Value) : Prop := ∀ x0 x1 x2 x3 x4 x5 x6 a n c, v = .agg #[x0, x1, x2, x3, x4, x5, x6, .slice a n c] → n ≤ c
theorem PW.capv {w w' : World} {v : Value} {p : Pk} (h : PW w w' v p) : CapV v := by
  obtain ⟨x0, d0, x1, d1, x2, d2, x3, d3, g, rfl, _⟩ := h
  intro y0 y1 y2 y3 y4 y5 y6 a n c e
  injection e with e
  injection e with e
  injection e with _ e
  injection e with _ e
  injection e with _ e
  injection e with _ e
  injection e with _ e
  injection e with _ e
  injection e with _ e
  injection e with e _
  injection e with _ e1 e2
  omega
def Bd (p : Pk) : Prop := (1 ≤ p.W ∧ p.W ≤ 40) ∧ (1 ≤ p.H ∧ p.H ≤ 40) ∧ (p.N.size : Int) ≤ 500 ∧ (p.L.length : Int) = p.W * p.H

set_option maxRecDepth 100000 in
set_option maxHeartbeats 3200000 in
theorem spec_beside (v1 v2 : Value) (p q : Pk) (vs1 vs2 : List Value) (w : World) (hv1 : PVq w v1 p vs1) (hv2 : PVq w v2 q vs2) (hc1 : CapV v1) (hc2 : CapV v2) (hpv1 : PV w v1 p) (hpv2 : PV w v2 q) (R1 R2 R3 : Bool)
    (hs1 : ∀ q' v, PV q' v p → Calls Tryz.prog 19 #[v] q' fun e w' => e = .returned (.bool R1) ∧ Below q'.heap.size q' w')
    (hs2 : ∀ q' v, PV q' v q → Calls Tryz.prog 19 #[v] q' fun e w' => e = .returned (.bool R2) ∧ Below q'.heap.size q' w')
    (hb1 : R1 = true → Bd p) (hb2 : R2 = true → Bd q) (hft : R1 = true → R2 = true → (bsP p q).Fits)
    (hs3 : R1 = true → R2 = true → ∀ q' v, PV q' v (plS (bsP p q)) → Calls Tryz.prog 19 #[v] q' fun e w' => e = .returned (.bool R3) ∧ Below q'.heap.size q' w') :
    Calls Tryz.prog 13 #[v1, v2] w fun e w' => ∃ v', e = .returned (.tuple #[v', .bool (R1 && (R2 && (decide (p.H = q.H) && R3)))]) ∧ ((R1 && (R2 && (decide (p.H = q.H) && R3))) = true → PQ w.heap.size w' v' (plS (bsP p q))) ∧ ((R1 && (R2 && (decide (p.H = q.H) && R3))) = false → v' = zPic) ∧ Below w.heap.size w w' := by
  have HPV1 := hid hpv1
  have HPV2 := hid hpv2
  obtain ⟨t0, t1, t2, t3, bv, rfl, u0, u1, u2, u3, ub⟩ := hv1
  obtain ⟨a0, c0, rfl, _, _⟩ := u0
  obtain ⟨a1, c1, rfl, _, _⟩ := u1
  obtain ⟨a2, c2, rfl, _, _⟩ := u2
  obtain ⟨a3, c3, rfl, _, _⟩ := u3
  obtain ⟨ao, cap, rfl⟩ : ∃ ao cap, bv = .slice ao p.L.length cap := by
    rcases ub.2.2 with ⟨rfl, h⟩ | ⟨b, off, c, rfl, _⟩
    · exact ⟨none, 0, by rw [h]; rfl⟩
    · exact ⟨_, _, rfl⟩
  obtain ⟨t0, t1, t2, t3, bv, rfl, u0, u1, u2, u3, ub2⟩ := hv2
  obtain ⟨b0, d0, rfl, _, _⟩ := u0
  obtain ⟨b1, d1, rfl, _, _⟩ := u1
  obtain ⟨b2, d2, rfl, _, _⟩ := u2
  obtain ⟨b3, d3, rfl, _, _⟩ := u3
  obtain ⟨bo, cbp, rfl⟩ : ∃ ao cap, bv = .slice ao q.L.length cap := by
    rcases ub2.2.2 with ⟨rfl, h⟩ | ⟨b, off, c, rfl, _⟩
    · exact ⟨none, 0, by rw [h]; rfl⟩
    · exact ⟨_, _, rfl⟩
  have HBL1 := hid ub
  have HBL2 := hid ub2
  have HC1 := hid (hc1 _ _ _ _ _ _ _ _ _ _ rfl)
  have HC2 := hid (hc2 _ _ _ _ _ _ _ _ _ _ rfl)
  have HS1 := hid (fun q' (hq : Below w.heap.size w q') => hs1 q' _ (HPV1.out.below hq))
  have HS2 := hid (fun q' (hq : Below w.heap.size w q') => hs2 q' _ (HPV2.out.below hq))
  have HPO := hid (fun (h1 : R1 = true) (h2 : R2 = true) (ao : Option Addr) (cap : Nat) vs0 q' (hq : BLv q' (.slice ao (bsP p q).L.length cap) (bsP p q).L vs0) => spec_made (bsP p q) rfl ao cap vs0 q' (hft h1 h2) hq R3 (hs3 h1 h2))
  obtain ⟨p1, hp1⟩ : ∃ p1, p1 = plS (bsP p q) := ⟨_, rfl⟩
  rw [← hp1] at HPO
  have HPE := hid hp1
  have HB1 := hid hb1
  have HB2 := hid hb2
  clear ub ub2 hpv1 hpv2 hc1 hc2 hs1 hs2 hs3 hft hb1 hb2 hp1 HPV1 HPV2
  obtain ⟨W1, H1, T1, N1, L1⟩ := p
  obtain ⟨W2, H2, T2, N2, L2⟩ := q
  simp only at *
  have hA1 := (Below.refl w.heap.size w).alloc (Nat.le_refl _) (.cells #[.int .i64 W1, .int .i64 H1, .slice a0 T1.cs.length c0, .slice a1 T1.ss.length c1, .slice a2 T1.ct.length c2, .slice a3 T1.st.length c3, .string N1, .slice ao L1.length cap] 36)
  have hA2 := hA1.alloc (by simp) (.cells #[.int .i64 W2, .int .i64 H2, .slice b0 T2.cs.length d0, .slice b1 T2.ss.length d1, .slice b2 T2.ct.length d2, .slice b3 T2.st.length d3, .string N2, .slice bo L2.length cbp] 36)
  have hA := hA2.alloc (by simp; omega) (.cells #[.int .i64 0, .int .i64 0, .slice none 0 0, .slice none 0 0, .slice none 0 0, .slice none 0 0, .string ⟨#[]⟩, .slice none 0 0] 36)
  have hs1 : (w.alloc (.cells #[.int .i64 W1, .int .i64 H1, .slice a0 T1.cs.length c0, .slice a1 T1.ss.length c1, .slice a2 T1.ct.length c2, .slice a3 T1.st.length c3, .string N1, .slice ao L1.length cap] 36)).heap.size = w.heap.size + 1 := by simp
  have hs2 : ((w.alloc (.cells #[.int .i64 W1, .int .i64 H1, .slice a0 T1.cs.length c0, .slice a1 T1.ss.length c1, .slice a2 T1.ct.length c2, .slice a3 T1.st.length c3, .string N1, .slice ao L1.length cap] 36)).alloc (.cells #[.int .i64 W2, .int .i64 H2, .slice b0 T2.cs.length d0, .slice b1 T2.ss.length d1, .slice b2 T2.ct.length d2, .slice b3 T2.st.length d3, .string N2, .slice bo L2.length cbp] 36)).heap.size = w.heap.size + 2 := by simp
  have k0 := Eig.new w (.int .i64 W1) (.int .i64 H1) (.slice a0 T1.cs.length c0) (.slice a1 T1.ss.length c1) (.slice a2 T1.ct.length c2) (.slice a3 T1.st.length c3) (.string N1) (.slice ao L1.length cap) 36
  have k0' := (k0.below ((Below.refl _ _).alloc (Nat.le_refl _) (.cells #[.int .i64 W2, .int .i64 H2, .slice b0 T2.cs.length d0, .slice b1 T2.ss.length d1, .slice b2 T2.ct.length d2, .slice b3 T2.st.length d3, .string N2, .slice bo L2.length cbp] 36)) k0.lt)
  have k0'' := (k0'.below ((Below.refl _ _).alloc (Nat.le_refl _) (.cells #[.int .i64 0, .int .i64 0, .slice none 0 0, .slice none 0 0, .slice none 0 0, .slice none 0 0, .string ⟨#[]⟩, .slice none 0 0] 36)) k0'.lt)
  have k1 := Eig.new (w.alloc (.cells #[.int .i64 W1, .int .i64 H1, .slice a0 T1.cs.length c0, .slice a1 T1.ss.length c1, .slice a2 T1.ct.length c2, .slice a3 T1.st.length c3, .string N1, .slice ao L1.length cap] 36)) (.int .i64 W2) (.int .i64 H2) (.slice b0 T2.cs.length d0) (.slice b1 T2.ss.length d1) (.slice b2 T2.ct.length d2) (.slice b3 T2.st.length d3) (.string N2) (.slice bo L2.length cbp) 36
  rw [hs1] at k1
  have k1' := (k1.below ((Below.refl _ _).alloc (Nat.le_refl _) (.cells #[.int .i64 0, .int .i64 0, .slice none 0 0, .slice none 0 0, .slice none 0 0, .slice none 0 0, .string ⟨#[]⟩, .slice none 0 0] 36)) k1.lt)
  have k2 := Eig.new ((w.alloc (.cells #[.int .i64 W1, .int .i64 H1, .slice a0 T1.cs.length c0, .slice a1 T1.ss.length c1, .slice a2 T1.ct.length c2, .slice a3 T1.st.length c3, .string N1, .slice ao L1.length cap] 36)).alloc (.cells #[.int .i64 W2, .int .i64 H2, .slice b0 T2.cs.length d0, .slice b1 T2.ss.length d1, .slice b2 T2.ct.length d2, .slice b3 T2.st.length d3, .string N2, .slice bo L2.length cbp] 36)) (.int .i64 0) (.int .i64 0) (.slice none 0 0) (.slice none 0 0) (.slice none 0 0) (.slice none 0 0) (.string ⟨#[]⟩) (.slice none 0 0) 36
  rw [hs2] at k2
  have E0 := hid k0''
  have E1 := hid k1'
  have E2 := hid k2
  have B2 := hid hA
  clear hA hA1 hA2 k0 k0' k0'' k1 k1' k2 hs1 hs2
  go_enter Tryz.func13, Tryz.ntmps13
  go_wp2_with (first | (go_at_call 19; fail) | fail)
  refine (HS1.out _ B2.out).mono ?_
  generalize ((w.alloc _).alloc _).alloc _ = wa at *
  rintro e w1 ⟨rfl, hb1⟩
  have h12 : w.heap.size + 2 < wa.heap.size := E2.out.lt
  have hlt2 := B2.out.size
  have D0 := hid (E0.out.below hb1 E0.out.lt)
  have D1 := hid (E1.out.below hb1 E1.out.lt)
  have D2 := hid (E2.out.below hb1 E2.out.lt)
  have C1 := hid (B2.out.trans (hb1.mono hlt2))
  have hsz1 : wa.heap.size ≤ w1.heap.size := hb1.size
  clear hb1 E0 E1 E2 B2 HS1
  cases R1 with
  | false =>
    have EZ := hid (D2.out.set8 (.int .i64 0) (.int .i64 0) (.slice none 0 0) (.slice none 0 0) (.slice none 0 0) (.slice none 0 0) (.string ⟨#[]⟩) (.slice none 0 0)).cells
    have BZ := hid (below8 C1.out (show w.heap.size ≤ w.heap.size + 2 by omega) (.int .i64 0) (.int .i64 0) (.slice none 0 0) (.slice none 0 0) (.slice none 0 0) (.slice none 0 0) (.string ⟨#[]⟩) (.slice none 0 0))
    obtain ⟨s0, s1, s2, s3, s4, s5, s6, s7⟩ := D2.out.cells
    have fz := D2.out.free
    go_wp2_with fail
    generalize ((((((((w1.setCell ⟨w.heap.size + 2, 0, none⟩ (.int .i64 0)).setCell ⟨w.heap.size + 2, 1, none⟩ (.int .i64 0)).setCell ⟨w.heap.size + 2, 2, none⟩ (.slice none 0 0)).setCell ⟨w.heap.size + 2, 3, none⟩ (.slice none 0 0)).setCell ⟨w.heap.size + 2, 4, none⟩ (.slice none 0 0)).setCell ⟨w.heap.size + 2, 5, none⟩ (.slice none 0 0)).setCell ⟨w.heap.size + 2, 6, none⟩ (.string ⟨#[]⟩)).setCell ⟨w.heap.size + 2, 7, none⟩ (.slice none 0 0)) = wf at *
    clear s0 s1 s2 s3 s4 s5 s6 s7
    obtain ⟨s0, s1, s2, s3, s4, s5, s6, s7⟩ := EZ.out
    exact bodyPost_ret (v := .tuple #[.agg #[.int .i64 0, .int .i64 0, .slice none 0 0, .slice none 0 0, .slice none 0 0, .slice none 0 0, .string ⟨#[]⟩, .slice none 0 0], .bool false]) (by simp [results, Tryz.results13, go_sem, s0, s1, s2, s3, s4, s5, s6, s7]) rfl ⟨_, rfl, fun h => absurd h (by simp), fun _ => rfl, BZ.out⟩
  | true =>
    obtain ⟨q0, q1, q2, q3, q4, q5, q6, q7⟩ := D1.out.cells
    go_wp2_with (first | (go_at_call 19; fail) | fail)
    refine (HS2.out _ C1.out).mono ?_
    clear q0 q1 q2 q3 q4 q5 q6 q7
    rintro e w2 ⟨rfl, hb1⟩
    have D0' := hid (D0.out.below hb1 D0.out.lt)
    have D1' := hid (D1.out.below hb1 D1.out.lt)
    have D2' := hid (D2.out.below hb1 D2.out.lt)
    have C1' := hid (C1.out.trans (hb1.mono C1.out.size))
    have hsz2 : wa.heap.size ≤ w2.heap.size := Nat.le_trans hsz1 hb1.size
    clear hb1 D0 D1 D2 C1 HS2 hsz1
    cases R2 with
    | false =>
      have EZ := hid (D2'.out.set8 (.int .i64 0) (.int .i64 0) (.slice none 0 0) (.slice none 0 0) (.slice none 0 0) (.slice none 0 0) (.string ⟨#[]⟩) (.slice none 0 0)).cells
      have BZ := hid (below8 C1'.out (show w.heap.size ≤ w.heap.size + 2 by omega) (.int .i64 0) (.int .i64 0) (.slice none 0 0) (.slice none 0 0) (.slice none 0 0) (.slice none 0 0) (.string ⟨#[]⟩) (.slice none 0 0))
      obtain ⟨s0, s1, s2, s3, s4, s5, s6, s7⟩ := D2'.out.cells
      have fz := D2'.out.free
      go_wp2_with fail
      generalize ((((((((w2.setCell ⟨w.heap.size + 2, 0, none⟩ (.int .i64 0)).setCell ⟨w.heap.size + 2, 1, none⟩ (.int .i64 0)).setCell ⟨w.heap.size + 2, 2, none⟩ (.slice none 0 0)).setCell ⟨w.heap.size + 2, 3, none⟩ (.slice none 0 0)).setCell ⟨w.heap.size + 2, 4, none⟩ (.slice none 0 0)).setCell ⟨w.heap.size + 2, 5, none⟩ (.slice none 0 0)).setCell ⟨w.heap.size + 2, 6, none⟩ (.string ⟨#[]⟩)).setCell ⟨w.heap.size + 2, 7, none⟩ (.slice none 0 0)) = wf at *
      clear s0 s1 s2 s3 s4 s5 s6 s7
      obtain ⟨s0, s1, s2, s3, s4, s5, s6, s7⟩ := EZ.out
      exact bodyPost_ret (v := .tuple #[.agg #[.int .i64 0, .int .i64 0, .slice none 0 0, .slice none 0 0, .slice none 0 0, .slice none 0 0, .string ⟨#[]⟩, .slice none 0 0], .bool false]) (by simp [results, Tryz.results13, go_sem, s0, s1, s2, s3, s4, s5, s6, s7]) rfl ⟨_, rfl, fun h => absurd h (by simp), fun _ => rfl, BZ.out⟩
    | true =>
      obtain ⟨q0, q1, q2, q3, q4, q5, q6, q7⟩ := D1'.out.cells
      obtain ⟨p0, p1, p2, p3, p4, p5, p6, p7⟩ := D0'.out.cells
      by_cases hH : H1 = H2
      · have HDE := hid (decide_eq_true hH)
        subst hH
        have b1 := HB1.out (by first | rfl | trivial)
        have b2 := HB2.out (by first | rfl | trivial)
        unfold Bd at b1 b2
        simp only at b1 b2
        obtain ⟨Wp, rfl⟩ : ∃ n : Nat, W1 = (n : Int) := ⟨W1.toNat, by omega⟩
        obtain ⟨Wq, rfl⟩ : ∃ n : Nat, W2 = (n : Int) := ⟨W2.toNat, by omega⟩
        obtain ⟨Hn, rfl⟩ : ∃ n : Nat, H1 = (n : Int) := ⟨H1.toNat, by omega⟩
        have hl1 : L1.length = Wp * Hn := by
          have : (L1.length : Int) = ((Wp * Hn : Nat) : Int) := by rw [b1.2.2.2]; simp
          omega
        have hl2 : L2.length = Wq * Hn := by
          have : (L2.length : Int) = ((Wq * Hn : Nat) : Int) := by rw [b2.2.2.2]; simp
          omega
        have hw1 : 1 ≤ Wp ∧ Wp ≤ 40 := by omega
        have hw2 : 1 ≤ Wq ∧ Wq ≤ 40 := by omega
        have hh1 : 1 ≤ Hn ∧ Hn ≤ 40 := by omega
        have hm1 : 1 ≤ Wp * Hn := Nat.mul_pos hw1.1 hh1.1
        have hm2 : 1 ≤ Wq * Hn := Nat.mul_pos hw2.1 hh1.1
        obtain ⟨pb, po, rfl⟩ : ∃ pb po, ao = some ⟨pb, po, none⟩ := by
          rcases HBL1.out.2.2 with ⟨_, h⟩ | ⟨b, off, c, e, _⟩
          · rw [h] at hl1
            simp at hl1
            omega
          · injection e with e
            exact ⟨b, off, e⟩
        obtain ⟨qb, qo, rfl⟩ : ∃ pb po, bo = some ⟨pb, po, none⟩ := by
          rcases HBL2.out.2.2 with ⟨_, h⟩ | ⟨b, off, c, e, _⟩
          · rw [h] at hl2
            simp at hl2
            omega
          · injection e with e
            exact ⟨b, off, e⟩
        obtain ⟨S1, hS1⟩ : ∃ S, S = Sh.mk Wp (zipP L1 vs1) pb po cap := ⟨_, rfl⟩
        obtain ⟨S2, hS2⟩ : ∃ S, S = Sh.mk Wq (zipP L2 vs2) qb qo cbp := ⟨_, rfl⟩
        have z1 : S1.Z.length = S1.w * Hn := by rw [hS1]; show (zipP L1 vs1).length = _; rw [zipP_len _ _ HBL1.out.1, hl1]
        have z2 : S2.Z.length = S2.w * Hn := by rw [hS2]; show (zipP L2 vs2).length = _; rw [zipP_len _ _ HBL2.out.1, hl2]
        have HRL1 := hid (fun r (hr : r < Hn) => rowZ_len S1 Hn r z1 hr)
        have HRL2 := hid (fun r (hr : r < Hn) => rowZ_len S2 Hn r z2 hr)
        rw [show S1.w = Wp by rw [hS1]] at HRL1
        rw [show S2.w = Wq by rw [hS2]] at HRL2
        have HIN1 := hid (zipP_in HBL1.out Wp)
        have HIN2 := hid (zipP_in HBL2.out Wq)
        rw [← hS1] at HIN1
        rw [← hS2] at HIN2
        have HRC1 := hid (fun q' (hq : Below w.heap.size w q') r j u hu => rowZ_cells (HIN1.out.below hq) r j u hu)
        have HRC2 := hid (fun q' (hq : Below w.heap.size w q') r j u hu => rowZ_cells (HIN2.out.below hq) r j u hu)
        rw [show S1.b = pb by rw [hS1], show S1.off = po by rw [hS1], show S1.w = Wp by rw [hS1]] at HRC1
        rw [show S2.b = qb by rw [hS2], show S2.off = qo by rw [hS2], show S2.w = Wq by rw [hS2]] at HRC2
        have HV1 := hid (fun z (hz : z ∈ S1.Z) => zipP_vp HBL1.out z (by rw [hS1] at hz; exact hz))
        have HV2 := hid (fun z (hz : z ∈ S2.Z) => zipP_vp HBL2.out z (by rw [hS2] at hz; exact hz))
        have HO1 := hid (fun r => flZ_one (rowZ S1 r) (fun z hz => vp_one (HV1.out z (List.mem_of_mem_drop (List.mem_of_mem_take hz)))))
        have HO2 := hid (fun r => flZ_one (rowZ S2 r) (fun z hz => vp_one (HV2.out z (List.mem_of_mem_drop (List.mem_of_mem_take hz)))))
        have HAS := hid (fun r => show allTo [S1, S2] (r + 1) = (allTo [S1, S2] r ++ rowZ S1 r) ++ rowZ S2 r by rw [List.append_assoc]; rfl)
        have HAL := hid (fun r (hr : r ≤ Hn) => allTo_len [S1, S2] Hn (fun i hi => by
          match i, hi with
          | 0, _ => exact z1
          | 1, _ => exact z2) r hr)
        have hwt : wTo [S1, S2] 2 = Wp + Wq := by rw [hS1, hS2]; simp [wTo, nthSh]
        have HPL := hid (show (allTo [S1, S2] Hn).map (·.1) = allL [(Wp, L1), (Wq, L2)] Hn by
          rw [allTo_plain]
          rw [hS1, hS2]
          simp only [List.map, Sh.plain]
          rw [zipP_fst _ _ HBL1.out.1, zipP_fst _ _ HBL2.out.1])
        have HVA := hid (fun z (hz : z ∈ allTo [S1, S2] Hn) => show Vp w z.2 z.1.2 from by
          obtain ⟨i, hi, hz'⟩ := allTo_mem _ _ z hz
          match i, hi with
          | 0, _ => exact HV1.out z hz'
          | 1, _ => exact HV2.out z hz')
        have HZB := hid (fun r (hr : r ≤ Hn) => show (allTo [S1, S2] r).length ≤ 4000 by
          rw [HAL.out r hr]
          show r * wTo [S1, S2] 2 ≤ 4000
          rw [hwt]
          have : r * (Wp + Wq) ≤ 40 * 80 := Nat.mul_le_mul (by omega) (by omega)
          omega)
        have hcp1 := HC1.out
        have hcp2 := HC2.out
        rw [hl1] at hcp1 D0'
        rw [hl2] at hcp2 D1'
        have HL1 := hid hl1
        have HL2 := hid hl2
        rw [hl1] at p7
        rw [hl2] at q7
        clear hS1 hS2 z1 z2 hwt HIN1 HIN2 HV1 HV2 b1 b2 HB1 HB2 HC1 HC2 hl1 hl2
        have K1 := hid (OwnZ.empty w2 w2.heap.size (Nat.le_refl _))
        have hA3 := (Below.refl w2.heap.size w2).alloc (Nat.le_refl _) (.cells #[] 65)
        have D3 := hid (D0'.out.below hA3 D0'.out.lt)
        have F3 := hid (D1'.out.below hA3 D1'.out.lt)
        have G3 := hid (D2'.out.below hA3 D2'.out.lt)
        have C3 := hid (C1'.out.trans (hA3.mono C1'.out.size))
        have hl3 : w2.heap.size < (w2.alloc (.cells #[] 65)).heap.size := by simp
        clear hA3 D0' D1' D2' C1'
        go_wp2_with fail
        obtain ⟨BB, hBB⟩ : ∃ BB, BB = w2.heap.size := ⟨_, rfl⟩
        rw [← hBB] at K1 hl3 hsz2 ⊢
        generalize w2.alloc (.cells #[] 65) = wl at *
        clear hBB p0 p1 p2 p3 p4 p5 p6 p7 q0 q1 q2 q3 q4 q5 q6 q7
        go_loopw [6, 7] (fun t6 t7 wr => ∃ i : Nat, i ≤ Hn ∧ t7 = .int .i64 i ∧ Hid (OwnZ wr BB t6 (allTo [S1, S2] i)) ∧ Hid (Below BB wl wr)) (fun _ t _ => Hn - (intOf t).toNat)
        case atStart => exact ⟨0, by omega, rfl, K1, hid (Below.refl _ _)⟩
        case round =>
          obtain ⟨i, hi, rfl, hown, hbr⟩ := hrel
          have E7 := hid (D3.out.below hbr.out (show w.heap.size < BB by omega))
          have F7 := hid (F3.out.below hbr.out (show w.heap.size + 1 < BB by omega))
          have C7 := hid (C3.out.trans (hbr.out.mono (show w.heap.size ≤ BB by omega)))
          obtain ⟨p0, p1, p2, p3, p4, p5, p6, p7⟩ := E7.out.cells
          obtain ⟨q0, q1, q2, q3, q4, q5, q6, q7⟩ := F7.out.cells
          by_cases hlt : i < Hn
          · have hlt' : (i : Int) < (Hn : Int) := by omega
            have hi1 : (i + 1) * Wp ≤ Wp * Hn := by rw [Nat.mul_comm]; exact Nat.mul_le_mul_left _ hlt
            have hi2 : (i + 1) * Wq ≤ Wq * Hn := by rw [Nat.mul_comm]; exact Nat.mul_le_mul_left _ hlt
            rw [Nat.succ_mul] at hi1 hi2
            have hm3 : Wp * Hn ≤ 40 * 40 := Nat.mul_le_mul hw1.2 hh1.2
            have hm4 : Wq * Hn ≤ 40 * 40 := Nat.mul_le_mul hw2.2 hh1.2
            have HRCa := hid (fun j u hu => HRC1.out wr C7.out i j u hu)
            have HRCb := hid (fun q' (hq : Below w.heap.size w q') j u hu => HRC2.out q' hq i j u hu)
            have ra := HRL1.out i hlt
            have rb := HRL2.out i hlt
            have hz1 := HZB.out (i + 1) (by omega)
            rw [HAS.out i, List.length_append, List.length_append, ra, rb] at hz1
            have HAN := hid (HAS.out i)
            obtain ⟨PP, hP⟩ : ∃ PP, PP = i * Wp := ⟨_, rfl⟩
            obtain ⟨QQ, hQ⟩ : ∃ QQ, QQ = i * Wq := ⟨_, rfl⟩
            have e1 : (i : Int) * (Wp : Int) = (PP : Int) := by rw [hP]; simp
            have e2 : (i : Int) * (Wq : Int) = (QQ : Int) := by rw [hQ]; simp
            rw [← hP] at hi1 HRCa
            rw [← hQ] at hi2 HRCb
            clear hP hQ
            generalize Wp * Hn = N1' at *
            generalize Wq * Hn = N2' at *
            have hown1 := hown.out
            have ho1 := HO1.out i
            have ho2 := HO2.out i
            generalize allTo [S1, S2] i = ZI at *
            generalize rowZ S1 i = RA at *
            generalize rowZ S2 i = RB at *
            go_wp2_with (at_builtin; refine wpList_pushZ wr rfl _ _ 34 rfl BB Tryz.underlying34 Tryz.info65 u6 ZI RA (by rfl) hown1 ⟨pb, po + PP * 2, none⟩ (PP + Wp - PP) (cap - PP) (by rfl) (by rw [ra]; omega) (fun j u hu => by rw [Addr.add_lit]; exact HRCa.out j u hu) ho1 (by omega) ?_)
            intro v5 w5 ho5 hb5
            have E8 := hid (E7.out.below hb5 (show w.heap.size < BB by omega))
            have F8 := hid (F7.out.below hb5 (show w.heap.size + 1 < BB by omega))
            have C8 := hid (C7.out.trans (hb5.mono (show w.heap.size ≤ BB by omega)))
            have HB8 := hid (hbr.out.trans hb5)
            have hrc2 := HRCb.out w5 C8.out
            have HRCc := hid hrc2
            have hown2 := ho5
            clear ho5 hb5 E7 F7 C7 hown hown1 hbr hrc2 p0 p1 p2 p3 p4 p5 p6 p7 q0 q1 q2 q3 q4 q5 q6 q7
            obtain ⟨q0, q1, q2, q3, q4, q5, q6, q7⟩ := F8.out.cells
            go_wp2_with (at_builtin; refine wpList_pushZ w5 rfl _ _ 34 rfl BB Tryz.underlying34 Tryz.info65 v5 (ZI ++ RA) RB (by rfl) hown2 ⟨qb, qo + QQ * 2, none⟩ (QQ + Wq - QQ) (cbp - QQ) (by rfl) (by rw [rb]; omega) (fun j u hu => by rw [Addr.add_lit]; exact HRCc.out j u hu) ho2 (by rw [List.length_append]; omega) ?_)
            intro v6 w6 ho6 hb6
            have HO6 := hid ho6
            have HB6 := hid (HB8.out.trans hb6)
            clear ho6 hb6 hown2
            go_wp2
            go_roundw
            case rel => exact ⟨i + 1, by omega, by go_num, hid (by rw [HAN.out, List.append_assoc]; exact HO6.out), HB6⟩
            case measure =>
              simp only [intOf]
              omega
          · obtain rfl : i = Hn := by omega
            obtain ⟨lo, lc, rfl⟩ := hown.out.shape
            have hbl := (hown.out.blv (fun z hz => (HVA.out z hz).below C7.out)).2
            rw [HPL.out] at hbl
            have hlen : (allTo [S1, S2] i).length = (bsP ⟨(Wp : Int), (i : Int), T1, N1, L1⟩ ⟨(Wq : Int), (i : Int), T2, N2, L2⟩).L.length := by
              show _ = (allL [((Wp : Int).toNat, L1), ((Wq : Int).toNat, L2)] (i : Int).toNat).length
              simp only [Int.toNat_natCast]
              rw [← HPL.out, List.length_map]
            have HC0 := hid (HPO.out (by first | rfl | trivial) (by first | rfl | trivial) lo lc ((allTo [S1, S2] i).map (·.2)) wr (by
              show BLv wr (.slice lo (bsP ⟨(Wp : Int), (i : Int), T1, N1, L1⟩ ⟨(Wq : Int), (i : Int), T2, N2, L2⟩).L.length lc) (allL [((Wp : Int).toNat, L1), ((Wq : Int).toNat, L2)] (i : Int).toNat) _
              rw [← hlen]
              simp only [Int.toNat_natCast]
              exact hbl))
            rw [← hlen] at HC0
            have G7 := hid (G3.out.below hbr.out (show w.heap.size + 2 < BB by omega))
            have hwr1 : w.heap.size + 2 < wr.heap.size := G7.out.lt
            clear hown hbl HPO hlen
            generalize (allTo [S1, S2] i).length = NL at *
            go_wp2_with (first | (go_at_call 21; fail) | fail)
            refine HC0.out.mono ?_
            rintro e w6 ⟨v6, rfl, hpo, hz, hb6⟩
            have F6 := hid (G7.out.below hb6 G7.out.lt)
            have C6 := hid (C7.out.trans (hb6.mono C7.out.size))
            clear hb6 G7 C7 HC0 E7 F7 p0 p1 p2 p3 p4 p5 p6 p7 q0 q1 q2 q3 q4 q5 q6 q7
            obtain ⟨s0, s1, s2, s3, s4, s5, s6, s7⟩ := F6.out.cells
            have fz := F6.out.free
            cases R3 with
            | false =>
              obtain rfl : v6 = zPic := hz rfl
              clear hpo hz
              have EZ := hid (F6.out.set8 (.int .i64 0) (.int .i64 0) (.slice none 0 0) (.slice none 0 0) (.slice none 0 0) (.slice none 0 0) (.string ⟨#[]⟩) (.slice none 0 0)).cells
              have BZ := hid (below8 C6.out (show w.heap.size ≤ w.heap.size + 2 by omega) (.int .i64 0) (.int .i64 0) (.slice none 0 0) (.slice none 0 0) (.slice none 0 0) (.slice none 0 0) (.string ⟨#[]⟩) (.slice none 0 0))
              unfold zPic
              go_wp2_with fail
              generalize ((((((((w6.setCell ⟨w.heap.size + 2, 0, none⟩ (.int .i64 0)).setCell ⟨w.heap.size + 2, 1, none⟩ (.int .i64 0)).setCell ⟨w.heap.size + 2, 2, none⟩ (.slice none 0 0)).setCell ⟨w.heap.size + 2, 3, none⟩ (.slice none 0 0)).setCell ⟨w.heap.size + 2, 4, none⟩ (.slice none 0 0)).setCell ⟨w.heap.size + 2, 5, none⟩ (.slice none 0 0)).setCell ⟨w.heap.size + 2, 6, none⟩ (.string ⟨#[]⟩)).setCell ⟨w.heap.size + 2, 7, none⟩ (.slice none 0 0)) = wf at *
              clear s0 s1 s2 s3 s4 s5 s6 s7
              obtain ⟨s0, s1, s2, s3, s4, s5, s6, s7⟩ := EZ.out
              exact bodyPost_ret (v := .tuple #[.agg #[.int .i64 0, .int .i64 0, .slice none 0 0, .slice none 0 0, .slice none 0 0, .slice none 0 0, .string ⟨#[]⟩, .slice none 0 0], .bool false]) (by simp [results, Tryz.results13, go_sem, s0, s1, s2, s3, s4, s5, s6, s7]) rfl ⟨_, rfl, rfl, BZ.out⟩
            | true =>
              have hpo' := hpo rfl
              have HPZ := hid hpo'
              obtain ⟨x0, x1, x2, x3, bv, vs, rfl, ht, hk⟩ := hpo'
              obtain ⟨a4, c4, a5, c5, a6, c6, a7, c7, e, _⟩ := ht
              injection e with e
              injection e with e
              injection e with e0 e
              injection e with e1 e
              injection e with e2 e
              injection e with e3 e
              subst e0 e1 e2 e3
              obtain ⟨bo1, bc1, rfl⟩ := hk.shape
              have PZ := hid ((HPZ.out.set8 hwr1 (.int .i64 p1.W) (.int .i64 p1.H) (.slice a4 p1.T.cs.length c4) (.slice a5 p1.T.ss.length c5) (.slice a6 p1.T.ct.length c6) (.slice a7 p1.T.st.length c7) (.string p1.N) (.slice bo1 p1.L.length bc1)).low (show w.heap.size ≤ wr.heap.size by omega))
              clear hk e hpo hz HPZ
              have EZ := hid (F6.out.set8 (.int .i64 p1.W) (.int .i64 p1.H) (.slice a4 p1.T.cs.length c4) (.slice a5 p1.T.ss.length c5) (.slice a6 p1.T.ct.length c6) (.slice a7 p1.T.st.length c7) (.string p1.N) (.slice bo1 p1.L.length bc1)).cells
              have BZ := hid (below8 C6.out (show w.heap.size ≤ w.heap.size + 2 by omega) (.int .i64 p1.W) (.int .i64 p1.H) (.slice a4 p1.T.cs.length c4) (.slice a5 p1.T.ss.length c5) (.slice a6 p1.T.ct.length c6) (.slice a7 p1.T.st.length c7) (.string p1.N) (.slice bo1 p1.L.length bc1))
              go_wp2_with fail
              generalize ((((((((w6.setCell ⟨w.heap.size + 2, 0, none⟩ (.int .i64 p1.W)).setCell ⟨w.heap.size + 2, 1, none⟩ (.int .i64 p1.H)).setCell ⟨w.heap.size + 2, 2, none⟩ (.slice a4 p1.T.cs.length c4)).setCell ⟨w.heap.size + 2, 3, none⟩ (.slice a5 p1.T.ss.length c5)).setCell ⟨w.heap.size + 2, 4, none⟩ (.slice a6 p1.T.ct.length c6)).setCell ⟨w.heap.size + 2, 5, none⟩ (.slice a7 p1.T.st.length c7)).setCell ⟨w.heap.size + 2, 6, none⟩ (.string p1.N)).setCell ⟨w.heap.size + 2, 7, none⟩ (.slice bo1 p1.L.length bc1)) = wf at *
              clear s0 s1 s2 s3 s4 s5 s6 s7
              obtain ⟨s0, s1, s2, s3, s4, s5, s6, s7⟩ := EZ.out
              exact bodyPost_ret (v := .tuple #[.agg #[.int .i64 p1.W, .int .i64 p1.H, .slice a4 p1.T.cs.length c4, .slice a5 p1.T.ss.length c5, .slice a6 p1.T.ct.length c6, .slice a7 p1.T.st.length c7, .string p1.N, .slice bo1 p1.L.length bc1], .bool true]) (by simp [results, Tryz.results13, go_sem, s0, s1, s2, s3, s4, s5, s6, s7]) rfl ⟨_, rfl, by rw [← HPE.out]; exact PZ.out, BZ.out⟩
      · have HDE := hid (decide_eq_false hH)
        have EZ := hid (D2'.out.set8 (.int .i64 0) (.int .i64 0) (.slice none 0 0) (.slice none 0 0) (.slice none 0 0) (.slice none 0 0) (.string ⟨#[]⟩) (.slice none 0 0)).cells
        have BZ := hid (below8 C1'.out (show w.heap.size ≤ w.heap.size + 2 by omega) (.int .i64 0) (.int .i64 0) (.slice none 0 0) (.slice none 0 0) (.slice none 0 0) (.slice none 0 0) (.string ⟨#[]⟩) (.slice none 0 0))
        obtain ⟨s0, s1, s2, s3, s4, s5, s6, s7⟩ := D2'.out.cells
        have fz := D2'.out.free
        go_wp2_with fail
        generalize ((((((((w2.setCell ⟨w.heap.size + 2, 0, none⟩ (.int .i64 0)).setCell ⟨w.heap.size + 2, 1, none⟩ (.int .i64 0)).setCell ⟨w.heap.size + 2, 2, none⟩ (.slice none 0 0)).setCell ⟨w.heap.size + 2, 3, none⟩ (.slice none 0 0)).setCell ⟨w.heap.size + 2, 4, none⟩ (.slice none 0 0)).setCell ⟨w.heap.size + 2, 5, none⟩ (.slice none 0 0)).setCell ⟨w.heap.size + 2, 6, none⟩ (.string ⟨#[]⟩)).setCell ⟨w.heap.size + 2, 7, none⟩ (.slice none 0 0)) = wf at *
        clear s0 s1 s2 s3 s4 s5 s6 s7
        obtain ⟨s0, s1, s2, s3, s4, s5, s6, s7⟩ := EZ.out
        exact bodyPost_ret (v := .tuple #[.agg #[.int .i64 0, .int .i64 0, .slice none 0 0, .slice none 0 0, .slice none 0 0, .slice none 0 0, .string ⟨#[]⟩, .slice none 0 0], .bool false]) (by simp [results, Tryz.results13, go_sem, s0, s1, s2, s3, s4, s5, s6, s7]) rfl ⟨_, by rw [HDE.out]; rfl, fun h => absurd h (by rw [HDE.out]; simp), fun _ => rfl, BZ.out⟩

theorem spec_bs (v1 v2 : Value) (p q : Pk) (vs1 vs2 : List Value) (w : World) (hf1 : p.Fits) (hf2 : q.Fits) (hv1 : PVq w v1 p vs1) (hv2 : PVq w v2 q vs2) (hc1 : CapV v1) (hc2 : CapV v2) (hpv1 : PV w v1 p) (hpv2 : PV w v2 q) :
    Calls Tryz.prog 13 #[v1, v2] w fun e w' => ∃ v', e = .returned (.tuple #[v', .bool (bsB p q)]) ∧ PQ w.heap.size w' v' (bsA p q) ∧ Below w.heap.size w w' := by
  have hpl := okB_pl (bsP p q) rfl
  refine (spec_beside v1 v2 p q vs1 vs2 w hv1 hv2 hc1 hc2 hpv1 hpv2 (okB p) (okB q) (okB (plI (bsP p q))) (fun q' v => spec_okB p hf1 q' v) (fun q' v => spec_okB q hf2 q' v) ok_bounds ok_bounds (bsP_fits p q hf1) (fun h1 h2 q' v hv => by rw [← hpl.1]; exact spec_okB _ (plS_fits _ (bsP_fits p q hf1 h1 h2)) q' v hv)).mono ?_
  rintro e w' ⟨v', rfl, h1, h2, hb⟩
  refine ⟨v', rfl, ?_, hb⟩
  unfold bsA
  cases h : bsB p q with
  | true =>
    have h3 := h1 h
    unfold bsB at h
    rw [Bool.and_eq_true, Bool.and_eq_true, Bool.and_eq_true] at h
    rw [hpl.2 h.2.2.2] at h3
    exact h3
  | false =>
    rw [h2 h]
    exact (zPO _ _ hb.size).pq
theorem bsA_small (p q : Pk) (hf : p.Fits) : (bsA p q).Small := by
  unfold bsA
  cases h : bsB p q with
  | false => exact zPk_small
  | true =>
    unfold bsB at h
    rw [Bool.and_eq_true, Bool.and_eq_true, Bool.and_eq_true] at h
    exact ok_small (plI_fits _ (bsP_fits p q hf h.1 h.2.1)) h.2.2.2
end Go.Proofs.YtnnakmgngkpghaaGreat
