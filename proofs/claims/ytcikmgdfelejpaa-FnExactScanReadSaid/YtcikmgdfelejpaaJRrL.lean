/- The walk of the law FnExactScanRead. -/
import Derived.Test.YtcikmgdfelejpaaJRrB
namespace Go.Proofs.Ytcikmgdfelejpaa
open Go.RowKit Go.Maps
set_option linter.unusedVariables false

/-- Both ScanRead come to one answer. -/
theorem both_read (T : Tb) (s : ByteArray) (n : Int) (h0 : T.cs.length ≤ 1048576) (h1 : T.ss.length ≤ 1048576) (h2 : T.ct.length ≤ 1048576) (h3 : T.st.length ≤ 1048576) (hs : s.size ≤ 1048576) : ∃ (R : List (Int × List Int)) (F : Bool), (R.length ≤ 1600 ∧ ∀ s ∈ R, s.2.length ≤ 63) ∧
    (∀ v w, TV w v T.cs T.ss T.ct T.st → Calls Try.prog 32 #[v, .string s, .int .i64 n] w (RrP R F w)) ∧ (∀ v w, TV w v T.cs T.ss T.ct T.st → Calls Try.prog 33 #[v, .string s, .int .i64 n] w (RrP R F w)) := by
  have hbd := sbL_bd T (bl (rbS (unR s).1) (8 * (unR s).1.size)) n
  obtain ⟨u, b, hS, hI⟩ := both_scanText T (sbL T (bl (rbS (unR s).1) (8 * (unR s).1.size)) n) h0 h1 h2 h3 (by omega) (fun j hj => by have := hbd.2 _ (nth_inK _ j hj); omega)
  by_cases hc : (unR s).2 = true ∧ sbB T (bl (rbS (unR s).1) (8 * (unR s).1.size)) n = true ∧ b = true ∧ (u.toList == s.toList) = true
  · exact ⟨_, true, hbd, fun v w ht => spec_read v T s n w h0 h1 h2 h3 hs ht _ _ rfl _ rfl _ _ _ rfl rfl rfl u b hS _ rfl _ true (fun _ _ _ _ => ⟨rfl, rfl⟩) (fun h => absurd hc h), fun v w ht => impl_read v T s n w h0 h1 h2 h3 hs ht _ _ rfl _ rfl _ _ _ rfl rfl rfl u b hI _ rfl _ true (fun _ _ _ _ => ⟨rfl, rfl⟩) (fun h => absurd hc h)⟩
  · exact ⟨[], false, ⟨by simp, fun s hs => by simp at hs⟩, fun v w ht => spec_read v T s n w h0 h1 h2 h3 hs ht _ _ rfl _ rfl _ _ _ rfl rfl rfl u b hS _ rfl [] false (fun a1 a2 a3 a4 => absurd ⟨a1, a2, a3, a4⟩ hc) (fun _ => ⟨rfl, rfl⟩), fun v w ht => impl_read v T s n w h0 h1 h2 h3 hs ht _ _ rfl _ rfl _ _ _ rfl rfl rfl u b hI _ rfl [] false (fun a1 a2 a3 a4 => absurd ⟨a1, a2, a3, a4⟩ hc) (fun _ => ⟨rfl, rfl⟩)⟩

set_option maxRecDepth 100000 in
set_option maxHeartbeats 3200000 in
theorem law_read (a0 a1 a2 a3 : Option Addr) (c0 c1 c2 c3 : Nat) (T : Tb) (s : ByteArray) (n : Int) (w : World) (h0 : T.cs.length ≤ 9223372036854775807) (h1 : T.ss.length ≤ 9223372036854775807) (h2 : T.ct.length ≤ 9223372036854775807) (h3 : T.st.length ≤ 9223372036854775807)
    (hn : s.size ≤ 9223372036854775807) (ht : TV w (.agg #[.slice a0 T.cs.length c0, .slice a1 T.ss.length c1, .slice a2 T.ct.length c2, .slice a3 T.st.length c3]) T.cs T.ss T.ct T.st) :
    Calls Try.prog 8 #[.agg #[.slice a0 T.cs.length c0, .slice a1 T.ss.length c1, .slice a2 T.ct.length c2, .slice a3 T.st.length c3], .string s, .int .i64 n] w fun e w' => e = .returned (.bool true) ∧ Below w.heap.size w w' := by
  have HB := hid ((Below.refl w.heap.size w).alloc (Nat.le_refl _) (.cells #[.slice a0 T.cs.length c0, .slice a1 T.ss.length c1, .slice a2 T.ct.length c2, .slice a3 T.st.length c3] 26))
  have HF := hid (Four.new w (.slice a0 T.cs.length c0) (.slice a1 T.ss.length c1) (.slice a2 T.ct.length c2) (.slice a3 T.st.length c3) 26)
  have HTV := hid ht
  have HZT := hid (fun q => szTables a0 a1 a2 a3 _ _ _ _ c0 c1 c2 c3 q h0 h1 h2 h3)
  clear ht
  by_cases hx : (s.size : Int) ≤ 1048576
  · go_enter Try.func8, Try.ntmps8
    go_wp2_with fail
    refine (HZT.out _).mono ?_
    generalize w.alloc (.cells #[.slice a0 T.cs.length c0, .slice a1 T.ss.length c1, .slice a2 T.ct.length c2, .slice a3 T.st.length c3] 26) = wa at *
    rintro e w1 ⟨r, rfl, hr, hb1⟩
    have B2 := hid (HB.out.trans (hb1.mono HB.out.size))
    have F2 := hid (HF.out.below hb1 HF.out.lt)
    clear hb1 HF HB
    rcases hr with ⟨hr0, ⟨k0, k1, k2, k3⟩, hr1⟩ | rfl
    · have hd : ¬ r < 0 := by omega
      have HTO := hid (fun q (hq : Below w.heap.size w q) => toTables (.agg #[.slice a0 T.cs.length c0, .slice a1 T.ss.length c1, .slice a2 T.ct.length c2, .slice a3 T.st.length c3]) T.cs T.ss T.ct T.st q k0 k1 k2 k3 (HTV.out.below hq))
      obtain ⟨R, F, HBD0, HSP0, HIM0⟩ := both_read T s n k0 k1 k2 k3 (by omega)
      have HBD := hid HBD0
      have HSP := hid HSP0
      have HIM := hid HIM0
      clear HBD0 HSP0 HIM0
      have HEQ := hid (fun v v' q ht ht' => eqTables_same v v' T.cs T.ss T.ct T.st q k0 k1 k2 k3 ht ht')
      have hFF : (F != F) = false := by simp
      obtain ⟨q0, q1, q2, q3⟩ := F2.out.cells
      go_wp2_with fail
      refine (HTO.out _ B2.out).mono ?_
      rintro e w3 ⟨v3, rfl, ho3, hb3⟩
      have B3 := hid (B2.out.trans (hb3.mono B2.out.size))
      have F3 := hid (F2.out.below hb3 F2.out.lt)
      have HT3 := hid ho3.tv
      clear hb3 ho3 F2 q0 q1 q2 q3
      go_wp2_with fail
      refine (HSP.out _ _ HT3.out).mono ?_
      rintro e w5 ⟨y0, us, rfl, hy0, hb5⟩
      have B5 := hid (B3.out.trans (hb5.mono B3.out.size))
      obtain ⟨yo, yc, rfl⟩ := hy0.shape
      have HY5 := hid hy0.brow
      have F5 := hid (F3.out.below hb5 F3.out.lt)
      clear hy0 hb5 HT3 F3
      obtain ⟨q0, q1, q2, q3⟩ := F5.out.cells
      go_wp2_with fail
      refine (HTO.out _ B5.out).mono ?_
      rintro e w6 ⟨v6, rfl, ho6, hb6⟩
      have HT6 := hid ho6.tv
      have B6 := hid (B5.out.trans (hb6.mono B5.out.size))
      have F6 := hid (F5.out.below hb6 F5.out.lt)
      have Y6 := hid hb6
      obtain ⟨x0, d0, x1, d1, x2, d2, x3, d3, rfl, o0, o1, o2, o3⟩ := ho6
      have I0 := hid (o0.intB (m := w6.heap.size) (Nat.le_refl _) (fun a n c h => by have := o0; rw [h] at this; exact this.ge.2))
      have I1 := hid (o1.intB (m := w6.heap.size) (Nat.le_refl _) (fun a n c h => by have := o1; rw [h] at this; exact this.ge.2))
      have I2 := hid (o2.intB (m := w6.heap.size) (Nat.le_refl _) (fun a n c h => by have := o2; rw [h] at this; exact this.ge.2))
      have I3 := hid (o3.intB (m := w6.heap.size) (Nat.le_refl _) (fun a n c h => by have := o3; rw [h] at this; exact this.ge.2))
      clear o0 o1 o2 o3
      have HBA := hid ((Below.refl w6.heap.size w6).alloc (Nat.le_refl _) (.cells #[.slice x0 T.cs.length d0, .slice x1 T.ss.length d1, .slice x2 T.ct.length d2, .slice x3 T.st.length d3] 34))
      have G6 := hid (Four.new w6 (.slice x0 T.cs.length d0) (.slice x1 T.ss.length d1) (.slice x2 T.ct.length d2) (.slice x3 T.st.length d3) 34)
      have B7 := hid (B6.out.trans (HBA.out.mono B6.out.size))
      have F7 := hid (F6.out.below HBA.out F6.out.lt)
      have HT7 := hid (HT6.out.below HBA.out)
      have Y7 := hid (Y6.out.trans (HBA.out.mono Y6.out.size))
      have h67 : w6.heap.size ≤ (w6.alloc (.cells #[.slice x0 T.cs.length d0, .slice x1 T.ss.length d1, .slice x2 T.ct.length d2, .slice x3 T.st.length d3] 34)).heap.size := HBA.out.size
      clear hb6 F6 HT6 q0 q1 q2 q3
      have hg8 : w6.heap.size < (w6.alloc (.cells #[.slice x0 T.cs.length d0, .slice x1 T.ss.length d1, .slice x2 T.ct.length d2, .slice x3 T.st.length d3] 34)).heap.size := by simp
      have HQ8 := HBA
      have G8 := G6
      have B8 := B7
      have F8 := F7
      have HT8 := HT7
      have Y8 := Y7
      clear G6 B7 F7 HT7 Y7 HBA h67
      obtain ⟨q0, q1, q2, q3⟩ := G8.out.cells
      go_wp2_with fail
      refine (HIM.out _ _ HT8.out).mono ?_
      generalize w6.alloc (.cells #[.slice x0 T.cs.length d0, .slice x1 T.ss.length d1, .slice x2 T.ct.length d2, .slice x3 T.st.length d3] 34) = w8 at *
      rintro e w9 ⟨g0, gs, rfl, hg0, hb9⟩
      obtain ⟨gp, gc, rfl⟩ := hg0.shape
      have B9 := hid (B8.out.trans (hb9.mono B8.out.size))
      have HG9 := hid hg0
      have Y9 := hid (Y8.out.trans (hb9.mono Y8.out.size))
      have HQ9 := hid (HQ8.out.trans (hb9.mono HQ8.out.size))
      clear hg0
      have F9 := hid (F8.out.below hb9 F8.out.lt)
      have G9 := hid (G8.out.below hb9 G8.out.lt)
      have HT9 := hid (HT8.out.below hb9)
      clear hb9 F8 G8 HT8 q0 q1 q2 q3
      have HL1 := hid (show R.length ≤ 1048576 by have := HBD.out.1; omega)
      have HL2 := hid (fun j (hj : j < R.length) => (show (nth R j).2.length ≤ 1048576 by have := HBD.out.2 _ (nth_inK R j hj); omega))
      go_wp2_with fail
      refine (eqBlockS_same _ _ _ _ R w9 HL1.out HL2.out HG9.out.brow (HY5.out.below Y9.out)).mono ?_
      rintro e u9 ⟨rfl, hbu⟩
      have HGu := hid (HG9.out.below hbu)
      have Yu := hid (Y9.out.trans (hbu.mono Y9.out.size))
      have HQu := hid (HQ9.out.trans (hbu.mono HQ9.out.size))
      have Bu := hid (B9.out.trans (hbu.mono B9.out.size))
      have Fu := hid (F9.out.below hbu F9.out.lt)
      have Gu := hid (G9.out.below hbu G9.out.lt)
      have HTu := hid (HT9.out.below hbu)
      have h8u : w8.heap.size ≤ u9.heap.size := HGu.out.1
      clear hbu HG9 Y9 HQ9 B9 F9 G9 HT9
      obtain ⟨q0, q1, q2, q3⟩ := Gu.out.cells
      obtain ⟨p0, p1, p2, p3⟩ := Fu.out.cells
      have HFC := hid (fun q (hq : Below u9.heap.size u9 q) => (Fu.out.below hq Fu.out.lt).cells)
      have HGC := hid (fun q (hq : Below u9.heap.size u9 q) => (Gu.out.below hq Gu.out.lt).cells)
      go_wp2_with fail
      go_cut [56] from 52 to 109 (fun s wx => s = .bool false ∧ Below u9.heap.size u9 wx)
      case first =>
        go_region_held3 (fun q => (q.cell? ⟨w.heap.size, 0, none⟩ = some (.slice a0 T.cs.length c0) ∧ q.cell? ⟨w.heap.size, 1, none⟩ = some (.slice a1 T.ss.length c1) ∧ q.cell? ⟨w.heap.size, 2, none⟩ = some (.slice a2 T.ct.length c2) ∧ q.cell? ⟨w.heap.size, 3, none⟩ = some (.slice a3 T.st.length c3)) ∧ q.cell? ⟨w6.heap.size, 0, none⟩ = some (.slice x0 T.cs.length d0) ∧ q.cell? ⟨w6.heap.size, 1, none⟩ = some (.slice x1 T.ss.length d1) ∧ q.cell? ⟨w6.heap.size, 2, none⟩ = some (.slice x2 T.ct.length d2) ∧ q.cell? ⟨w6.heap.size, 3, none⟩ = some (.slice x3 T.st.length d3)) (go_keep) (first
          | (go_at_call 12; refine (HTO.out _ ?_).mono ?_; · first | exact Bu.out | exact Bu.out.trans ((Below.refl _ _).drew.mono Bu.out.size)
             rintro e w10 ⟨v10, rfl, ho10, hb10⟩
             have hcA : Below u9.heap.size u9 w10 := by first | exact hb10 | exact Below.trans (Below.refl _ _).drew hb10
             have hv10 := ho10.tv
             obtain ⟨z0, e0, z1, e1, z2, e2, z3, e3, rfl, _⟩ := ho10
             obtain ⟨g0, g1, g2, g3⟩ := HFC.out _ hcA
             obtain ⟨t0, t1, t2, t3⟩ := HGC.out _ hcA)
          | (go_at_call 16; refine (HEQ.out _ _ _ ?_ ?_).mono ?_; · first | exact HTu.out.below hcA | exact (HTu.out.below hcA).below (Below.refl _ _).drew
             · first | exact hv10 | exact hv10.below (Below.refl _ _).drew
             rintro e w11 ⟨rfl, hb11⟩
             have hcB : Below u9.heap.size u9 w11 := by first | exact hcA.trans (hb11.mono hcA.size) | exact hcA.trans ((Below.trans (Below.refl _ _).drew hb11).mono hcA.size)
             obtain ⟨g0', g1', g2', g3'⟩ := HFC.out _ hcB
             obtain ⟨t0', t1', t2', t3'⟩ := HGC.out _ hcB))
        all_goals
          go_wp2_with fail
          go_meet
          exact ⟨rfl, hcB⟩
      case rest =>
        obtain ⟨rfl, hb10⟩ := hcut
        generalize hwc : wc = w10 at *
        clear hwc
        have B10 := hid (Bu.out.trans (hb10.mono Bu.out.size))
        have HG10 := hid (HGu.out.below hb10)
        have Y10 := hid (Yu.out.trans (hb10.mono Yu.out.size))
        have HQ10 := hid (HQu.out.trans (hb10.mono HQu.out.size))
        have F10 := hid (Fu.out.below hb10 Fu.out.lt)
        have G10 := hid (Gu.out.below hb10 Gu.out.lt)
        clear hb10 HGu Yu HQu Fu Gu q0 q1 q2 q3 p0 p1 p2 p3 HFC HGC
        generalize hw13 : w10 = w13 at *
        clear hw13
        have HG13 := HG10
        have Y13 := Y10
        have HQ13 := HQ10
        have F13 := F10
        have G13 := G10
        clear HG10 Y10 HQ10 F10 G10
        have h813 : w8.heap.size ≤ w13.heap.size := HG13.out.1
        have h56 : w5.heap.size ≤ w6.heap.size := Y6.out.size
        have J0 := hid ((I0.out.below HQ13.out).wider (Nat.le_refl _) (show w6.heap.size ≤ w8.heap.size by omega))
        have J1 := hid ((I1.out.below HQ13.out).wider (Nat.le_refl _) (show w6.heap.size ≤ w8.heap.size by omega))
        have J2 := hid ((I2.out.below HQ13.out).wider (Nat.le_refl _) (show w6.heap.size ≤ w8.heap.size by omega))
        have J3 := hid ((I3.out.below HQ13.out).wider (Nat.le_refl _) (show w6.heap.size ≤ w8.heap.size by omega))
        obtain ⟨q0, q1, q2, q3⟩ := G13.out.cells
        go_wp2_with fail
        refine (markTablesI w5.heap.size w8.heap.size x0 x1 x2 x3 _ _ _ _ d0 d1 d2 d3 w13 k0 k1 k2 k3 h813 J0.out J1.out J2.out J3.out).mono ?_
        rintro e w14 ⟨rfl, hso⟩
        have hsp := hso.1
        have HG14 := hid (HG13.out.spare hsp (Nat.le_refl _))
        have Y14 := hid (Y13.out.trans (hsp.below (by omega)))
        clear hso hsp HG13 Y13 F13 J0 J1 J2 J3 q0 q1 q2 q3
        have hk1 : (1 : Int) + T.cs.length + T.ss.length + T.ct.length + T.st.length ≤ 1000000000 := by omega
        have hk0 : (1 : Int) ≤ 1 + T.cs.length + T.ss.length + T.ct.length + T.st.length := by omega
        generalize (1 : Int) + T.cs.length + T.ss.length + T.ct.length + T.st.length = KK at *
        have hd9 : decide (KK < 0) = false := by simp; omega
        have HG15 := HG14
        have Y15 := Y14
        clear HG14 Y14
        generalize hw15 : w14 = w15 at *
        clear hw15
        go_wp2_with fail
        refine (eqBlockS_same _ _ _ _ R w15 HL1.out HL2.out HG15.out.brow (HY5.out.below Y15.out)).mono ?_
        rintro e w16 ⟨rfl, hb16⟩
        have HG16 := hid (HG15.out.below hb16)
        have Y16 := hid (Y15.out.trans (hb16.mono Y15.out.size))
        clear hb16 HG15 Y15
        go_wp2_with fail
        refine (markK w8.heap.size _ R gs w16 HBD.out.1 HBD.out.2 HG16.out).mono ?_
        rintro e w17 ⟨rfl, hg17, hb17⟩
        have HG17 := hid hg17
        have Y17 := hid (Y16.out.trans (hb17.mono (by omega)))
        clear hg17 hb17 HG16 Y16
        have hst := stK_le R (fun k hk => HBD.out.2 _ (nth_inK R k hk)) R.length (Nat.le_refl _)
        have hp : ¬ (stK R R.length < 0) := by omega
        have HHD := hid (fun q (hq : BRow q gp (mkK R R.length)) => heldK gp gc R q HBD.out.1 HBD.out.2 hq)
        clear hst
        go_wp2_with fail
        refine (HHD.out _ HG17.out.brow).mono ?_
        rintro e w18 ⟨rfl, rfl⟩
        have B17 := hid (B5.out.trans (Y17.out.mono B5.out.size))
        have F17 := hid (F5.out.below Y17.out F5.out.lt)
        obtain ⟨p0, p1, p2, p3⟩ := F17.out.cells
        generalize stK R R.length = SK at *
        have hSS : (SK != SK) = false := by simp
        go_wp2_with fail
        refine (HTO.out _ B17.out).mono ?_
        rintro e w19 ⟨v19, rfl, ho19, hb19⟩
        have HT19 := hid ho19.tv
        have HG19 := hid (HG17.out.below hb19)
        have Y19 := hid (Y17.out.trans (hb19.mono Y17.out.size))
        have B19 := hid (B17.out.trans (hb19.mono B17.out.size))
        clear ho19 hb19 HG17 p0 p1 p2 p3 F17
        go_wp2_with fail
        refine (HIM.out _ _ HT19.out).mono ?_
        rintro e w21 ⟨g4, gt, rfl, hg4, hb21⟩
        obtain ⟨go4, gc4, rfl⟩ := hg4.shape
        have HH21 := hid hg4
        have HG21 := hid (HG19.out.below hb21)
        have Y21 := hid (Y19.out.trans (hb21.mono Y19.out.size))
        clear hg4 hb21 HG19
        go_wp2_with fail
        refine (eqBlockS_same _ _ _ _ R w21 HL1.out HL2.out HH21.out.brow (HY5.out.below Y21.out)).mono ?_
        rintro e w22 ⟨rfl, hb22⟩
        have HG22 := hid (HG21.out.below hb22)
        have Y22 := hid (Y21.out.trans (hb22.mono Y21.out.size))
        clear hb22 HG21 HH21
        go_wp2_with fail
        refine (HHD.out _ HG22.out.brow).mono ?_
        rintro e w23 ⟨rfl, rfl⟩
        have B22 := hid (B5.out.trans (Y22.out.mono B5.out.size))
        go_wp2_with fail
        go_ret
        exact ⟨rfl, B22.out⟩
    · go_wp2_with fail
      go_ret
      exact ⟨rfl, B2.out⟩
  · go_enter Try.func8, Try.ntmps8
    go_wp2_with fail
    go_ret
    exact ⟨rfl, HB.out⟩
end Go.Proofs.Ytcikmgdfelejpaa
