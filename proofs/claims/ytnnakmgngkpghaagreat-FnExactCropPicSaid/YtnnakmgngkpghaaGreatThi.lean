/- ThinPic of the program. -/
import Derived.Test.YtnnakmgngkpghaaGreatPof
namespace Go.Proofs.YtnnakmgngkpghaaGreat
open Go.RowKit Go.Maps
set_option linter.unusedVariables false

/-- Block b holds three cells. -/
def Tri (w : World) (b : Nat) (x0 x1 x2 : Value) (t : TypeId) : Prop := w.heap[b]? = some (.cells #[x0, x1, x2] t (0, 0))
theorem Tri.cells {w : World} {b : Nat} {x0 x1 x2 : Value} {t : TypeId} (h : Tri w b x0 x1 x2 t) : w.cell? ⟨b, 0, none⟩ = some x0 ∧ w.cell? ⟨b, 1, none⟩ = some x1 ∧ w.cell? ⟨b, 2, none⟩ = some x2 := by
  refine ⟨?_, ?_, ?_⟩
  · rw [cell_of_row w b 0 _ t (0, 0) h]; rfl
  · rw [cell_of_row w b 1 _ t (0, 0) h]; rfl
  · rw [cell_of_row w b 2 _ t (0, 0) h]; rfl
theorem Tri.lt {w : World} {b : Nat} {x0 x1 x2 : Value} {t : TypeId} (h : Tri w b x0 x1 x2 t) : b < w.heap.size := (Array.getElem?_eq_some_iff.1 h).1
theorem Tri.new (w : World) (x0 x1 x2 : Value) (t : TypeId) : Tri (w.alloc (.cells #[x0, x1, x2] t)) w.heap.size x0 x1 x2 t := heap_alloc_new w _
theorem Tri.below {w w' : World} {B b : Nat} {x0 x1 x2 : Value} {t : TypeId} (h : Tri w b x0 x1 x2 t) (hb : Below B w w') (hB : b < B) : Tri w' b x0 x1 x2 t := (hb.block b hB).trans h
theorem Tri.free {w : World} {b : Nat} {x0 x1 x2 : Value} {t : TypeId} (h : Tri w b x0 x1 x2 t) (j : Nat) : w.frozen? ⟨b, j, none⟩ = false := frozen_of_row w b j _ t h
theorem Tri.set2 {w : World} {b : Nat} {x0 x1 x2 : Value} {t : TypeId} (h : Tri w b x0 x1 x2 t) (u : Value) : Tri (w.setCell ⟨b, 2, none⟩ u) b x0 x1 u t := heap_setCell_same w b 2 _ t u h

/-- A picture whose blocks are thinned. -/
def thP (k : Nat) (p : Pk) : Pk := ⟨p.W, p.H, ⟨[], [], [], []⟩, p.N, thL k p.L⟩

set_option maxRecDepth 100000 in
set_option maxHeartbeats 3200000 in
theorem impl_thin (v : Value) (p : Pk) (vs0 : List Value) (x : Int) (w : World) (hf : p.Fits) (hv : PVq w v p vs0) (hcp : Cap p.L vs0) (R1 R2 : Bool)
    (hs1 : ∀ q v, PV q v p → Calls Tryz.prog 24 #[v] q fun e w' => e = .returned (.bool R1) ∧ Below q.heap.size q w') (h63 : R1 = true → ∀ j, j < p.L.length → (nth p.L j).2.length = 63)
    (hpv : PV w v p)
    (hs2 : R1 = true → 0 ≤ x ∧ x ≤ 63 → ∀ q v, PV q v (plI (thP x.toNat p)) → Calls Tryz.prog 24 #[v] q fun e w' => e = .returned (.bool R2) ∧ Below q.heap.size q w') (hR2 : R2 = true → freqB (thP x.toNat p).L = true) :
    Calls Tryz.prog 16 #[v, .int .i64 x] w fun e w' => ∃ v', e = .returned (.tuple #[v', .bool (R1 && (decide (0 ≤ x ∧ x ≤ 63) && R2))]) ∧ ((R1 && (decide (0 ≤ x ∧ x ≤ 63) && R2)) = true → PO w.heap.size w' v' (plI (thP x.toNat p))) ∧ ((R1 && (decide (0 ≤ x ∧ x ≤ 63) && R2)) = false → v' = zPic) ∧ Below w.heap.size w w' := by
  have HPV := hid hpv
  obtain ⟨t0, t1, t2, t3, bv, rfl, u0, u1, u2, u3, ub⟩ := hv
  obtain ⟨a0, c0, rfl, _, _⟩ := u0
  obtain ⟨a1, c1, rfl, _, _⟩ := u1
  obtain ⟨a2, c2, rfl, _, _⟩ := u2
  obtain ⟨a3, c3, rfl, _, _⟩ := u3
  obtain ⟨ao, cap, rfl⟩ : ∃ ao cap, bv = .slice ao p.L.length cap := by
    rcases ub.2.2 with ⟨rfl, h⟩ | ⟨b, off, c, rfl, _⟩
    · exact ⟨none, 0, by rw [h]; rfl⟩
    · exact ⟨_, _, rfl⟩
  have HBL := hid ub
  have HPO := hid (fun (h63' : ∀ j, j < p.L.length → (nth p.L j).2.length = 63) (hx : x.toNat ≤ 63) (hs2' : ∀ q v, PV q v (plI (thP x.toNat p)) → Calls Tryz.prog 24 #[v] q fun e w' => e = .returned (.bool R2) ∧ Below q.heap.size q w') (ao : Option Addr) (cap : Nat) vs0 q (hq : BLv q (.slice ao (thP x.toNat p).L.length cap) (thP x.toNat p).L vs0) => impl_picOf (thP x.toNat p) rfl ao cap vs0 q ⟨Nat.zero_le _, Nat.zero_le _, Nat.zero_le _, Nat.zero_le _, hf.hN, by rw [show (thP x.toNat p).L = thL x.toNat p.L from rfl, thL_len]; exact hf.hn, fun j hj => by
    rw [show (thP x.toNat p).L = thL x.toNat p.L from rfl] at hj ⊢
    rw [thL_len] at hj
    rw [thL_nth _ _ _ hj]
    show (thR x.toNat (nth p.L j).2).length ≤ 1048576
    rw [thR_len _ _ (h63' j hj) hx]
    decide⟩ hq R2 hs2' hR2)
  have HEA := hid (fun (h63' : ∀ j, j < p.L.length → (nth p.L j).2.length = 63) (hx : x.toNat ≤ 63) pa q (hq : BLv q (.slice ao p.L.length cap) p.L vs0) (hp : q.cell? pa = some (.int .i64 (x.toNat : Int))) => eachT_any ao cap x.toNat pa p.L vs0 q hf.hn hx h63' hq hcp hp)
  obtain ⟨p1, hp1⟩ : ∃ p1, p1 = plI (thP x.toNat p) := ⟨_, rfl⟩
  have HS2 := hid hs2
  rw [← hp1] at HPO HS2
  have HPE := hid hp1
  have H63 := hid h63
  have HS := hid (fun q (hq : Below w.heap.size w q) => hs1 q _ (HPV.out.below hq))
  clear hs1 hs2 hR2 hp1 h63 hcp ub hf hpv
  obtain ⟨W, H, T, N, L⟩ := p
  simp only at *
  have hA1 := (Below.refl w.heap.size w).alloc (Nat.le_refl _) (.cells #[.int .i64 W, .int .i64 H, .slice a0 T.cs.length c0, .slice a1 T.ss.length c1, .slice a2 T.ct.length c2, .slice a3 T.st.length c3, .string N, .slice ao L.length cap] 36)
  have hA2 := hA1.alloc (by simp) (.cells #[.int .i64 x] 3)
  have hA := hA2.alloc (by simp; omega) (.cells #[.int .i64 0, .int .i64 0, .slice none 0 0, .slice none 0 0, .slice none 0 0, .slice none 0 0, .string ⟨#[]⟩, .slice none 0 0] 36)
  have hs1 : (w.alloc (.cells #[.int .i64 W, .int .i64 H, .slice a0 T.cs.length c0, .slice a1 T.ss.length c1, .slice a2 T.ct.length c2, .slice a3 T.st.length c3, .string N, .slice ao L.length cap] 36)).heap.size = w.heap.size + 1 := by simp
  have hs2 : ((w.alloc (.cells #[.int .i64 W, .int .i64 H, .slice a0 T.cs.length c0, .slice a1 T.ss.length c1, .slice a2 T.ct.length c2, .slice a3 T.st.length c3, .string N, .slice ao L.length cap] 36)).alloc (.cells #[.int .i64 x] 3)).heap.size = w.heap.size + 1 + 1 := by simp
  have k0 := Eig.new w (.int .i64 W) (.int .i64 H) (.slice a0 T.cs.length c0) (.slice a1 T.ss.length c1) (.slice a2 T.ct.length c2) (.slice a3 T.st.length c3) (.string N) (.slice ao L.length cap) 36
  have k0' := (k0.below ((Below.refl _ _).alloc (Nat.le_refl _) (.cells #[.int .i64 x] 3)) k0.lt)
  have k0'' := (k0'.below ((Below.refl _ _).alloc (Nat.le_refl _) (.cells #[.int .i64 0, .int .i64 0, .slice none 0 0, .slice none 0 0, .slice none 0 0, .slice none 0 0, .string ⟨#[]⟩, .slice none 0 0] 36)) k0'.lt)
  have k2 := Eig.new ((w.alloc (.cells #[.int .i64 W, .int .i64 H, .slice a0 T.cs.length c0, .slice a1 T.ss.length c1, .slice a2 T.ct.length c2, .slice a3 T.st.length c3, .string N, .slice ao L.length cap] 36)).alloc (.cells #[.int .i64 x] 3)) (.int .i64 0) (.int .i64 0) (.slice none 0 0) (.slice none 0 0) (.slice none 0 0) (.slice none 0 0) (.string ⟨#[]⟩) (.slice none 0 0) 36
  rw [hs2] at k2
  have cx0 : ((w.alloc (.cells #[.int .i64 W, .int .i64 H, .slice a0 T.cs.length c0, .slice a1 T.ss.length c1, .slice a2 T.ct.length c2, .slice a3 T.st.length c3, .string N, .slice ao L.length cap] 36)).alloc (.cells #[.int .i64 x] 3)).cell? ⟨w.heap.size + 1, 0, none⟩ = some (.int .i64 x) := by
    have := heap_alloc_new (w.alloc (.cells #[.int .i64 W, .int .i64 H, .slice a0 T.cs.length c0, .slice a1 T.ss.length c1, .slice a2 T.ct.length c2, .slice a3 T.st.length c3, .string N, .slice ao L.length cap] 36)) (.cells #[.int .i64 x] 3)
    rw [hs1] at this
    rw [cell_of_row _ (w.heap.size + 1) 0 _ 3 (0, 0) this]
    rfl
  have cx : (((w.alloc (.cells #[.int .i64 W, .int .i64 H, .slice a0 T.cs.length c0, .slice a1 T.ss.length c1, .slice a2 T.ct.length c2, .slice a3 T.st.length c3, .string N, .slice ao L.length cap] 36)).alloc (.cells #[.int .i64 x] 3)).alloc (.cells #[.int .i64 0, .int .i64 0, .slice none 0 0, .slice none 0 0, .slice none 0 0, .slice none 0 0, .string ⟨#[]⟩, .slice none 0 0] 36)).cell? ⟨w.heap.size + 1, 0, none⟩ = some (.int .i64 x) := (((Below.refl _ _).alloc (Nat.le_refl _) (.cells #[.int .i64 0, .int .i64 0, .slice none 0 0, .slice none 0 0, .slice none 0 0, .slice none 0 0, .string ⟨#[]⟩, .slice none 0 0] 36)).cell (p := ⟨w.heap.size + 1, 0, none⟩) (World.block_lt_of_cell? _ _ cx0)).trans cx0
  have E0 := hid k0''
  have E2 := hid k2
  have B2 := hid hA
  have CX := hid cx
  clear hA hA1 hA2 k0 k0' k0'' k2 hs1 hs2 cx0 cx
  go_enter Tryz.func16, Tryz.ntmps16
  go_wp2_with (first | (go_at_call 24; fail) | fail)
  refine (HS.out _ B2.out).mono ?_
  generalize ((w.alloc _).alloc _).alloc _ = wa at *
  rintro e w1 ⟨rfl, hb1⟩
  have h12 : w.heap.size + 1 + 1 < wa.heap.size := E2.out.lt
  have hne : w.heap.size + 1 + 1 ≠ w.heap.size := by omega
  have hlt2 := B2.out.size
  have D0 := hid (E0.out.below hb1 E0.out.lt)
  have D2 := hid (E2.out.below hb1 E2.out.lt)
  have C1 := hid (B2.out.trans (hb1.mono hlt2))
  have X1 := (hb1.cell (p := ⟨w.heap.size + 1, 0, none⟩) (World.block_lt_of_cell? wa _ CX.out)).trans CX.out
  have Q1 := hid (HBL.out.below C1.out)
  have hsz1 : wa.heap.size ≤ w1.heap.size := hb1.size
  clear hb1 E0 E2 B2 CX HS
  cases R1 with
  | false =>
    have EZ := hid (D2.out.set8 (.int .i64 0) (.int .i64 0) (.slice none 0 0) (.slice none 0 0) (.slice none 0 0) (.slice none 0 0) (.string ⟨#[]⟩) (.slice none 0 0)).cells
    have BZ := hid (below8 C1.out (show w.heap.size ≤ w.heap.size + 1 + 1 by omega) (.int .i64 0) (.int .i64 0) (.slice none 0 0) (.slice none 0 0) (.slice none 0 0) (.slice none 0 0) (.string ⟨#[]⟩) (.slice none 0 0))
    obtain ⟨s0, s1, s2, s3, s4, s5, s6, s7⟩ := D2.out.cells
    have fz := D2.out.free
    go_wp2_with fail
    generalize ((((((((w1.setCell ⟨w.heap.size + 1 + 1, 0, none⟩ (.int .i64 0)).setCell ⟨w.heap.size + 1 + 1, 1, none⟩ (.int .i64 0)).setCell ⟨w.heap.size + 1 + 1, 2, none⟩ (.slice none 0 0)).setCell ⟨w.heap.size + 1 + 1, 3, none⟩ (.slice none 0 0)).setCell ⟨w.heap.size + 1 + 1, 4, none⟩ (.slice none 0 0)).setCell ⟨w.heap.size + 1 + 1, 5, none⟩ (.slice none 0 0)).setCell ⟨w.heap.size + 1 + 1, 6, none⟩ (.string ⟨#[]⟩)).setCell ⟨w.heap.size + 1 + 1, 7, none⟩ (.slice none 0 0)) = wf at *
    clear s0 s1 s2 s3 s4 s5 s6 s7
    obtain ⟨s0, s1, s2, s3, s4, s5, s6, s7⟩ := EZ.out
    exact bodyPost_ret (v := .tuple #[.agg #[.int .i64 0, .int .i64 0, .slice none 0 0, .slice none 0 0, .slice none 0 0, .slice none 0 0, .string ⟨#[]⟩, .slice none 0 0], .bool false]) (by simp [results, Tryz.results16, go_sem, s0, s1, s2, s3, s4, s5, s6, s7]) rfl ⟨_, rfl, fun h => absurd h (by simp), fun _ => rfl, BZ.out⟩
  | true =>
    by_cases hx0 : x < 0
    · have hxx : (decide (0 ≤ x ∧ x ≤ 63)) = false := decide_eq_false (by omega)
      have EZ := hid (D2.out.set8 (.int .i64 0) (.int .i64 0) (.slice none 0 0) (.slice none 0 0) (.slice none 0 0) (.slice none 0 0) (.string ⟨#[]⟩) (.slice none 0 0)).cells
      have BZ := hid (below8 C1.out (show w.heap.size ≤ w.heap.size + 1 + 1 by omega) (.int .i64 0) (.int .i64 0) (.slice none 0 0) (.slice none 0 0) (.slice none 0 0) (.slice none 0 0) (.string ⟨#[]⟩) (.slice none 0 0))
      obtain ⟨s0, s1, s2, s3, s4, s5, s6, s7⟩ := D2.out.cells
      have fz := D2.out.free
      go_wp2_with fail
      generalize ((((((((w1.setCell ⟨w.heap.size + 1 + 1, 0, none⟩ (.int .i64 0)).setCell ⟨w.heap.size + 1 + 1, 1, none⟩ (.int .i64 0)).setCell ⟨w.heap.size + 1 + 1, 2, none⟩ (.slice none 0 0)).setCell ⟨w.heap.size + 1 + 1, 3, none⟩ (.slice none 0 0)).setCell ⟨w.heap.size + 1 + 1, 4, none⟩ (.slice none 0 0)).setCell ⟨w.heap.size + 1 + 1, 5, none⟩ (.slice none 0 0)).setCell ⟨w.heap.size + 1 + 1, 6, none⟩ (.string ⟨#[]⟩)).setCell ⟨w.heap.size + 1 + 1, 7, none⟩ (.slice none 0 0)) = wf at *
      clear s0 s1 s2 s3 s4 s5 s6 s7
      obtain ⟨s0, s1, s2, s3, s4, s5, s6, s7⟩ := EZ.out
      exact bodyPost_ret (v := .tuple #[.agg #[.int .i64 0, .int .i64 0, .slice none 0 0, .slice none 0 0, .slice none 0 0, .slice none 0 0, .string ⟨#[]⟩, .slice none 0 0], .bool false]) (by simp [results, Tryz.results16, go_sem, s0, s1, s2, s3, s4, s5, s6, s7]) rfl ⟨_, by rw [hxx]; rfl, fun h => by (rw [hxx] at h; cases h), fun _ => rfl, BZ.out⟩
    · by_cases hx1 : 63 < x
      · have hxx : (decide (0 ≤ x ∧ x ≤ 63)) = false := decide_eq_false (by omega)
        have EZ := hid (D2.out.set8 (.int .i64 0) (.int .i64 0) (.slice none 0 0) (.slice none 0 0) (.slice none 0 0) (.slice none 0 0) (.string ⟨#[]⟩) (.slice none 0 0)).cells
        have BZ := hid (below8 C1.out (show w.heap.size ≤ w.heap.size + 1 + 1 by omega) (.int .i64 0) (.int .i64 0) (.slice none 0 0) (.slice none 0 0) (.slice none 0 0) (.slice none 0 0) (.string ⟨#[]⟩) (.slice none 0 0))
        obtain ⟨s0, s1, s2, s3, s4, s5, s6, s7⟩ := D2.out.cells
        have fz := D2.out.free
        go_wp2_with fail
        generalize ((((((((w1.setCell ⟨w.heap.size + 1 + 1, 0, none⟩ (.int .i64 0)).setCell ⟨w.heap.size + 1 + 1, 1, none⟩ (.int .i64 0)).setCell ⟨w.heap.size + 1 + 1, 2, none⟩ (.slice none 0 0)).setCell ⟨w.heap.size + 1 + 1, 3, none⟩ (.slice none 0 0)).setCell ⟨w.heap.size + 1 + 1, 4, none⟩ (.slice none 0 0)).setCell ⟨w.heap.size + 1 + 1, 5, none⟩ (.slice none 0 0)).setCell ⟨w.heap.size + 1 + 1, 6, none⟩ (.string ⟨#[]⟩)).setCell ⟨w.heap.size + 1 + 1, 7, none⟩ (.slice none 0 0)) = wf at *
        clear s0 s1 s2 s3 s4 s5 s6 s7
        obtain ⟨s0, s1, s2, s3, s4, s5, s6, s7⟩ := EZ.out
        exact bodyPost_ret (v := .tuple #[.agg #[.int .i64 0, .int .i64 0, .slice none 0 0, .slice none 0 0, .slice none 0 0, .slice none 0 0, .string ⟨#[]⟩, .slice none 0 0], .bool false]) (by simp [results, Tryz.results16, go_sem, s0, s1, s2, s3, s4, s5, s6, s7]) rfl ⟨_, by rw [hxx]; rfl, fun h => by (rw [hxx] at h; cases h), fun _ => rfl, BZ.out⟩
      · have hxx : (decide (0 ≤ x ∧ x ≤ 63)) = true := decide_eq_true (by omega)
        have HXX := hid hxx
        have hxn : x.toNat ≤ 63 := by omega
        have hxe : ((x.toNat : Nat) : Int) = x := by omega
        have HXE := hid hxe
        clear hxx hxe
        have g63 := H63.out rfl
        obtain ⟨q0, q1, q2, q3, q4, q5, q6, q7⟩ := D0.out.cells
        go_wp2_with (first | (go_at_call 27; fail) | fail)
        refine (sheetOf_any W H _ _ _ _ N ao L.length cap w1 ⟨_, _, _, rfl⟩ ⟨_, _, _, rfl⟩ ⟨_, _, _, rfl⟩ ⟨_, _, _, rfl⟩).mono ?_
        rintro e w2 ⟨rfl, hb2⟩
        have hA3 := (Below.refl w2.heap.size w2).alloc (Nat.le_refl _) (.cells #[.int .i64 W, .int .i64 H, .slice ao L.length cap] 56)
        have hb3 := hb2.trans (hA3.mono hb2.size)
        have hx3 := (hb3.cell (p := ⟨w.heap.size + 1, 0, none⟩) (World.block_lt_of_cell? _ _ X1)).trans X1
        rw [← HXE.out] at hx3
        have D3 := hid (D0.out.below hb3 D0.out.lt)
        have F3 := hid (D2.out.below hb3 D2.out.lt)
        have C3 := hid (C1.out.trans (hb3.mono C1.out.size))
        have S3 := hid (Tri.new w2 (.int .i64 W) (.int .i64 H) (.slice ao L.length cap) 56)
        have HE3 := hid (HEA.out g63 hxn ⟨w.heap.size + 1, 0, none⟩ _ (Q1.out.below hb3) hx3)
        have hG : wa.heap.size ≤ w2.heap.size := Nat.le_trans hsz1 hb2.size
        clear hA3 hb3 hb2 hx3 X1 D0 D2 C1 Q1 HEA q0 q1 q2 q3 q4 q5 q6 q7
        obtain ⟨r0, r1, r2⟩ := S3.out.cells
        go_wp2_with (first | (go_at_call 36; fail) | fail)
        refine HE3.out.mono ?_
        obtain ⟨G, hGe⟩ : ∃ G, G = w2.heap.size := ⟨_, rfl⟩
        rw [← hGe] at S3 r0 r1 r2 hG ⊢
        clear HE3
        generalize w2.alloc _ = w3 at *
        clear hGe
        rintro e w4 ⟨rfl, hbs, hb4⟩
        have hG3 : G < w3.heap.size := S3.out.lt
        have S4 := S3.out.below hb4 S3.out.lt
        have S5 := hid (S4.set2 (.slice (some ⟨w3.heap.size, 0, none⟩) L.length L.length))
        have D5 := hid ((D3.out.below hb4 D3.out.lt).other (show w.heap.size ≠ G by omega) (i := 2) (.slice (some ⟨w3.heap.size, 0, none⟩) L.length L.length))
        have F5 := hid ((F3.out.below hb4 F3.out.lt).other (show w.heap.size + 1 + 1 ≠ G by omega) (i := 2) (.slice (some ⟨w3.heap.size, 0, none⟩) L.length L.length))
        have C5 := hid ((C3.out.trans (hb4.mono C3.out.size)).setCell (p := ⟨G, 2, none⟩) (show w.heap.size ≤ G by omega) (.slice (some ⟨w3.heap.size, 0, none⟩) L.length L.length))
        have hbs5 := hbs.setCell_below (a := ⟨G, 2, none⟩) hG3 (.slice (some ⟨w3.heap.size, 0, none⟩) L.length L.length)
        rw [← thL_len x.toNat L] at hbs5
        obtain ⟨vs', hbl, _, _⟩ := hbs5.blv
        have HC0 := hid (HPO.out g63 hxn (HS2.out (by first | rfl | trivial) (of_decide_eq_true HXX.out)) (some ⟨w3.heap.size, 0, none⟩) (thL x.toNat L).length vs' _ hbl)
        have hle : (thP x.toNat ⟨W, H, T, N, L⟩).L.length = L.length := thL_len _ _
        rw [hle, thL_len] at HC0
        have h13 : w.heap.size + 1 + 1 < w3.heap.size := by omega
        have h45 : w3.heap.size ≤ w4.heap.size := hb4.size
        obtain ⟨r0, r1, r2⟩ := S4.cells
        have rz := S4.free
        obtain ⟨q0, q1, q2, q3, q4, q5, q6, q7⟩ := (D3.out.below hb4 D3.out.lt).cells
        clear hbs hbs5 hbl hb4 S4 S3 D3 F3 C3 HPO hle
        go_wp2_with (first | (go_at_call 26; fail) | fail)
        obtain ⟨W5, hw5⟩ : ∃ W5, W5 = w4.setCell ⟨G, 2, none⟩ (.slice (some ⟨w3.heap.size, 0, none⟩) L.length L.length) := ⟨_, rfl⟩
        have hsz5 : W5.heap.size = w4.heap.size := by rw [hw5]; simp [World.setCell]
        rw [← hw5] at S5 D5 F5 C5 HC0 ⊢
        clear hw5 r0 r1 r2 rz q0 q1 q2 q3 q4 q5 q6 q7
        refine HC0.out.mono ?_
        rintro e w6 ⟨v6, rfl, hpo, hz, hb6⟩
        have F6 := hid (F5.out.below hb6 F5.out.lt)
        have C6 := hid (C5.out.trans (hb6.mono C5.out.size))
        have h15 : w.heap.size + 1 + 1 < W5.heap.size := by omega
        clear hb6 F5 C5 D5 S5 HC0
        obtain ⟨s0, s1, s2, s3, s4, s5, s6, s7⟩ := F6.out.cells
        have fz := F6.out.free
        cases R2 with
        | false =>
          obtain rfl : v6 = zPic := hz rfl
          clear hpo hz
          have EZ := hid (F6.out.set8 (.int .i64 0) (.int .i64 0) (.slice none 0 0) (.slice none 0 0) (.slice none 0 0) (.slice none 0 0) (.string ⟨#[]⟩) (.slice none 0 0)).cells
          have BZ := hid (below8 C6.out (show w.heap.size ≤ w.heap.size + 1 + 1 by omega) (.int .i64 0) (.int .i64 0) (.slice none 0 0) (.slice none 0 0) (.slice none 0 0) (.slice none 0 0) (.string ⟨#[]⟩) (.slice none 0 0))
          unfold zPic
          go_wp2_with fail
          generalize ((((((((w6.setCell ⟨w.heap.size + 1 + 1, 0, none⟩ (.int .i64 0)).setCell ⟨w.heap.size + 1 + 1, 1, none⟩ (.int .i64 0)).setCell ⟨w.heap.size + 1 + 1, 2, none⟩ (.slice none 0 0)).setCell ⟨w.heap.size + 1 + 1, 3, none⟩ (.slice none 0 0)).setCell ⟨w.heap.size + 1 + 1, 4, none⟩ (.slice none 0 0)).setCell ⟨w.heap.size + 1 + 1, 5, none⟩ (.slice none 0 0)).setCell ⟨w.heap.size + 1 + 1, 6, none⟩ (.string ⟨#[]⟩)).setCell ⟨w.heap.size + 1 + 1, 7, none⟩ (.slice none 0 0)) = wf at *
          clear s0 s1 s2 s3 s4 s5 s6 s7
          obtain ⟨s0, s1, s2, s3, s4, s5, s6, s7⟩ := EZ.out
          exact bodyPost_ret (v := .tuple #[.agg #[.int .i64 0, .int .i64 0, .slice none 0 0, .slice none 0 0, .slice none 0 0, .slice none 0 0, .string ⟨#[]⟩, .slice none 0 0], .bool false]) (by simp [results, Tryz.results16, go_sem, s0, s1, s2, s3, s4, s5, s6, s7]) rfl ⟨_, by rw [HXX.out]; rfl, fun h => absurd h (by simp), fun _ => rfl, BZ.out⟩
        | true =>
          have hpo' := hpo rfl
          have HPZ := hid hpo'
          obtain ⟨x0, x1, x2, x3, bv, vs, m, rfl, hm, ht, hk, _⟩ := hpo'
          obtain ⟨a4, c4, a5, c5, a6, c6, a7, c7, e, _⟩ := ht.town
          injection e with e
          injection e with e
          injection e with e0 e
          injection e with e1 e
          injection e with e2 e
          injection e with e3 e
          subst e0 e1 e2 e3
          obtain ⟨bo, bc, rfl⟩ := hk.shape
          have PZ := hid ((HPZ.out.set8 h15 (.int .i64 p1.W) (.int .i64 p1.H) (.slice a4 p1.T.cs.length c4) (.slice a5 p1.T.ss.length c5) (.slice a6 p1.T.ct.length c6) (.slice a7 p1.T.st.length c7) (.string p1.N) (.slice bo p1.L.length bc)).low (show w.heap.size ≤ W5.heap.size by omega))
          clear hk e ht hpo hz HPZ
          have EZ := hid (F6.out.set8 (.int .i64 p1.W) (.int .i64 p1.H) (.slice a4 p1.T.cs.length c4) (.slice a5 p1.T.ss.length c5) (.slice a6 p1.T.ct.length c6) (.slice a7 p1.T.st.length c7) (.string p1.N) (.slice bo p1.L.length bc)).cells
          have BZ := hid (below8 C6.out (show w.heap.size ≤ w.heap.size + 1 + 1 by omega) (.int .i64 p1.W) (.int .i64 p1.H) (.slice a4 p1.T.cs.length c4) (.slice a5 p1.T.ss.length c5) (.slice a6 p1.T.ct.length c6) (.slice a7 p1.T.st.length c7) (.string p1.N) (.slice bo p1.L.length bc))
          go_wp2_with fail
          generalize ((((((((w6.setCell ⟨w.heap.size + 1 + 1, 0, none⟩ (.int .i64 p1.W)).setCell ⟨w.heap.size + 1 + 1, 1, none⟩ (.int .i64 p1.H)).setCell ⟨w.heap.size + 1 + 1, 2, none⟩ (.slice a4 p1.T.cs.length c4)).setCell ⟨w.heap.size + 1 + 1, 3, none⟩ (.slice a5 p1.T.ss.length c5)).setCell ⟨w.heap.size + 1 + 1, 4, none⟩ (.slice a6 p1.T.ct.length c6)).setCell ⟨w.heap.size + 1 + 1, 5, none⟩ (.slice a7 p1.T.st.length c7)).setCell ⟨w.heap.size + 1 + 1, 6, none⟩ (.string p1.N)).setCell ⟨w.heap.size + 1 + 1, 7, none⟩ (.slice bo p1.L.length bc)) = wf at *
          clear s0 s1 s2 s3 s4 s5 s6 s7
          obtain ⟨s0, s1, s2, s3, s4, s5, s6, s7⟩ := EZ.out
          exact bodyPost_ret (v := .tuple #[.agg #[.int .i64 p1.W, .int .i64 p1.H, .slice a4 p1.T.cs.length c4, .slice a5 p1.T.ss.length c5, .slice a6 p1.T.ct.length c6, .slice a7 p1.T.st.length c7, .string p1.N, .slice bo p1.L.length bc], .bool true]) (by simp [results, Tryz.results16, go_sem, s0, s1, s2, s3, s4, s5, s6, s7]) rfl ⟨_, by rw [HXX.out]; rfl, fun _ => by rw [← HPE.out]; exact PZ.out, fun h => absurd h (by rw [HXX.out]; simp), BZ.out⟩
end Go.Proofs.YtnnakmgngkpghaaGreat
