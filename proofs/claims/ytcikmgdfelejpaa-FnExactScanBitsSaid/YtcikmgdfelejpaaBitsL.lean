/- The walk of the law FnExactScanBits. -/
import Derived.Test.YtcikmgdfelejpaaScW
import Derived.Test.YtcikmgdfelejpaaScS
import Derived.Test.YtcikmgdfelejpaaMk
namespace Go.Proofs.Ytcikmgdfelejpaa
open Go.RowKit Go.Maps
set_option linter.unusedVariables false

set_option maxRecDepth 100000 in
set_option maxHeartbeats 3200000 in
theorem law_bits (a0 a1 a2 a3 : Option Addr) (c0 c1 c2 c3 : Nat) (T : Tb) (ao : Option Addr) (cap : Nat) (L : List (Int × List Int)) (w : World) (h0 : T.cs.length ≤ 9223372036854775807) (h1 : T.ss.length ≤ 9223372036854775807) (h2 : T.ct.length ≤ 9223372036854775807) (h3 : T.st.length ≤ 9223372036854775807)
    (hn : L.length ≤ 9223372036854775807) (hs : ∀ j, j < L.length → (nth L j).2.length ≤ 9223372036854775807) (ht : TV w (.agg #[.slice a0 T.cs.length c0, .slice a1 T.ss.length c1, .slice a2 T.ct.length c2, .slice a3 T.st.length c3]) T.cs T.ss T.ct T.st) (hv : BRow w ao L) :
    Calls Try.prog 3 #[.agg #[.slice a0 T.cs.length c0, .slice a1 T.ss.length c1, .slice a2 T.ct.length c2, .slice a3 T.st.length c3], .slice ao L.length cap] w fun e w' => e = .returned (.bool true) ∧ Below w.heap.size w w' := by
  have HB := hid ((Below.refl w.heap.size w).alloc (Nat.le_refl _) (.cells #[.slice a0 T.cs.length c0, .slice a1 T.ss.length c1, .slice a2 T.ct.length c2, .slice a3 T.st.length c3] 26))
  have HF := hid (Four.new w (.slice a0 T.cs.length c0) (.slice a1 T.ss.length c1) (.slice a2 T.ct.length c2) (.slice a3 T.st.length c3) 26)
  have HV := hid hv
  have HTV := hid ht
  have HS := hid hs
  have HZT := hid (fun q => szTables a0 a1 a2 a3 _ _ _ _ c0 c1 c2 c3 q h0 h1 h2 h3)
  clear hv ht hs
  go_enter Try.func3, Try.ntmps3
  go_wp2_with fail
  refine (HZT.out _).mono ?_
  generalize w.alloc (.cells #[.slice a0 T.cs.length c0, .slice a1 T.ss.length c1, .slice a2 T.ct.length c2, .slice a3 T.st.length c3] 26) = wa at *
  rintro e w1 ⟨r, rfl, hr, hb1⟩
  have B1 := hid (HB.out.trans (hb1.mono HB.out.size))
  have F1 := hid (HF.out.below hb1 HF.out.lt)
  clear hb1 HF HB
  rcases hr with ⟨hr0, ⟨k0, k1, k2, k3⟩, hr1⟩ | rfl
  · have hd : ¬ r < 0 := by omega
    go_wp2_with fail
    refine (szBlockSG r hr0 hr1 ao cap L w1 hn HS.out (HV.out.below B1.out)).mono ?_
    rintro e w2 ⟨r2, rfl, hr2, hb2⟩
    have B2 := hid (B1.out.trans (hb2.mono B1.out.size))
    have F2 := hid (F1.out.below hb2 F1.out.lt)
    clear hb2 F1
    by_cases hneg : r2 < 0
    · clear hr2
      go_wp2_with fail
      go_ret
      exact ⟨rfl, B2.out⟩
    · obtain ⟨hl, hall⟩ := hr2.resolve_left hneg
      have HALL := hid hall
      have HTO := hid (fun q (hq : Below w.heap.size w q) => toTables (.agg #[.slice a0 T.cs.length c0, .slice a1 T.ss.length c1, .slice a2 T.ct.length c2, .slice a3 T.st.length c3]) T.cs T.ss T.ct T.st q k0 k1 k2 k3 (HTV.out.below hq))
      have HTB := hid (fun q (hq : Below w.heap.size w q) => toBlockS ao cap L q hl hall (HV.out.below hq))
      have HSP := hid (fun v ao cap q ht hv => spec_scanBits v T ao cap L q k0 k1 k2 k3 hl hall ht hv)
      have HIM := hid (fun v ao cap q ht hv => impl_scanBits v T ao cap L q k0 k1 k2 k3 hl hall ht hv)
      have hRl := scanR_len T L
      have HEQ := hid (fun v v' q ht ht' => eqTables_same v v' T.cs T.ss T.ct T.st q k0 k1 k2 k3 ht ht')
      unfold ScP at HSP HIM
      generalize (scanR T L).getD [] = R at *
      generalize (scanR T L).isSome = F at *
      have hFF : (F != F) = false := by simp
      clear hr2 hall
      obtain ⟨q0, q1, q2, q3⟩ := F2.out.cells
      go_wp2_with fail
      refine (HTO.out _ B2.out).mono ?_
      rintro e w3 ⟨v3, rfl, ho3, hb3⟩
      have B3 := hid (B2.out.trans (hb3.mono B2.out.size))
      have F3 := hid (F2.out.below hb3 F2.out.lt)
      have HT3 := hid ho3.tv
      clear hb3 ho3 F2 q0 q1 q2 q3
      go_wp2_with fail
      refine (HTB.out _ B3.out).mono ?_
      rintro e w4 ⟨rfl, hbs4, hb4⟩
      have B4 := hid (B3.out.trans (hb4.mono B3.out.size))
      have F4 := hid (F3.out.below hb4 F3.out.lt)
      have HT4 := hid (HT3.out.below hb4)
      have HR4 := hid hbs4.brow
      clear hb4 hbs4 HT3 F3
      go_wp2_with fail
      refine (HSP.out _ _ _ _ HT4.out HR4.out).mono ?_
      rintro e w5 ⟨y0, rfl, hy0, hb5⟩
      have B5 := hid (B4.out.trans (hb5.mono B4.out.size))
      have HY5 : Hid (Vw w5 y0 R) := hid hy0.view
      obtain ⟨yo, yc, rfl⟩ := hy0.shape
      clear hy0
      have F5 := hid (F4.out.below hb5 F4.out.lt)
      clear hb5 HT4 HR4 F4
      obtain ⟨q0, q1, q2, q3⟩ := F5.out.cells
      go_wp2_with fail
      refine (HTO.out _ B5.out).mono ?_
      rintro e w6 ⟨v6, rfl, ho6, hb6⟩
      have HT6 := hid ho6.tv
      have B6 := hid (B5.out.trans (hb6.mono B5.out.size))
      have F6 := hid (F5.out.below hb6 F5.out.lt)
      have Y6 := hid hb6
      obtain ⟨x0, d0, x1, d1, x2, d2, x3, d3, rfl, o0, o1, o2, o3⟩ := ho6
      have I0 := hid (o0.intB (m := w6.heap.size) (Nat.le_refl _) (fun a n c h => by have := o0; rw [h] at this; exact this.ge.2))
      have I1 := hid (o1.intB (m := w6.heap.size) (Nat.le_refl _) (fun a n c h => by have := o1; rw [h] at this; exact this.ge.2))
      have I2 := hid (o2.intB (m := w6.heap.size) (Nat.le_refl _) (fun a n c h => by have := o2; rw [h] at this; exact this.ge.2))
      have I3 := hid (o3.intB (m := w6.heap.size) (Nat.le_refl _) (fun a n c h => by have := o3; rw [h] at this; exact this.ge.2))
      clear o0 o1 o2 o3
      have HBA := hid ((Below.refl w6.heap.size w6).alloc (Nat.le_refl _) (.cells #[.slice x0 T.cs.length d0, .slice x1 T.ss.length d1, .slice x2 T.ct.length d2, .slice x3 T.st.length d3] 34))
      have G6 := hid (Four.new w6 (.slice x0 T.cs.length d0) (.slice x1 T.ss.length d1) (.slice x2 T.ct.length d2) (.slice x3 T.st.length d3) 34)
      have B7 := hid (B6.out.trans (HBA.out.mono B6.out.size))
      have F7 := hid (F6.out.below HBA.out F6.out.lt)
      have HT7 := hid (HT6.out.below HBA.out)
      have Y7 := hid (Y6.out.trans (HBA.out.mono Y6.out.size))
      have h67 : w6.heap.size ≤ (w6.alloc (.cells #[.slice x0 T.cs.length d0, .slice x1 T.ss.length d1, .slice x2 T.ct.length d2, .slice x3 T.st.length d3] 34)).heap.size := HBA.out.size
      clear hb6 F6 HT6 q0 q1 q2 q3
      go_wp2_with fail
      refine (HTB.out _ B7.out).mono ?_
      generalize w6.alloc (.cells #[.slice x0 T.cs.length d0, .slice x1 T.ss.length d1, .slice x2 T.ct.length d2, .slice x3 T.st.length d3] 34) = w7 at *
      rintro e w8 ⟨rfl, hbs8, hb8⟩
      have B8 := hid (B7.out.trans (hb8.mono B7.out.size))
      have F8 := hid (F7.out.below hb8 F7.out.lt)
      have G8 := hid (G6.out.below hb8 G6.out.lt)
      have HT8 := hid (HT7.out.below hb8)
      have HR8 := hid hbs8.brow
      have Y8 := hid (Y7.out.trans (hb8.mono Y7.out.size))
      obtain ⟨ys, hM8⟩ := hbs8.rowM
      have HM8 := hid hM8
      have hg8 : w7.heap.size < w8.heap.size := by obtain ⟨arr, h1, _⟩ := hbs8; exact h1.lt
      have HQ8 := hid (Below.trans HBA.out (hb8.mono HBA.out.size))
      clear hM8
      clear hb8 hbs8 F7 G6 HT7 HBA
      obtain ⟨q0, q1, q2, q3⟩ := G8.out.cells
      go_wp2_with fail
      refine (HIM.out _ _ _ _ HT8.out HR8.out).mono ?_
      rintro e w9 ⟨g0, rfl, hg0, hb9⟩
      obtain ⟨gp, gc, rfl⟩ := hg0.shape
      have B9 := hid (B8.out.trans (hb9.mono B8.out.size))
      have HG9 := hid hg0
      have Y9 := hid (Y8.out.trans (hb9.mono Y8.out.size))
      have HM9 := hid (HM8.out.below hb9)
      have HQ9 := hid (HQ8.out.trans (hb9.mono HQ8.out.size))
      clear hg0
      have F9 := hid (F8.out.below hb9 F8.out.lt)
      have G9 := hid (G8.out.below hb9 G8.out.lt)
      have HT9 := hid (HT8.out.below hb9)
      have HR9 := hid (HR8.out.below hb9)
      clear hb9 F8 G8 HT8 HR8 q0 q1 q2 q3
      have h89 : w8.heap.size ≤ w9.heap.size := HG9.out.1
      go_wp2_with fail
      refine (eq_vw w9 _ _ R (by omega) HG9.out.view (HY5.out.below Y9.out)).mono ?_
      rintro e u9 ⟨rfl, hbu⟩
      have HGu := hid (HG9.out.below hbu)
      have Yu := hid (Y9.out.trans (hbu.mono Y9.out.size))
      have HMu := hid (HM9.out.below hbu)
      have HQu := hid (HQ9.out.trans (hbu.mono HQ9.out.size))
      have Bu := hid (B9.out.trans (hbu.mono B9.out.size))
      have Fu := hid (F9.out.below hbu F9.out.lt)
      have Gu := hid (G9.out.below hbu G9.out.lt)
      have HTu := hid (HT9.out.below hbu)
      have HRu := hid (HR9.out.below hbu)
      have h8u : w8.heap.size ≤ u9.heap.size := HGu.out.1
      clear hbu HG9 Y9 HM9 HQ9 B9 F9 G9 HT9 HR9
      obtain ⟨q0, q1, q2, q3⟩ := Gu.out.cells
      obtain ⟨p0, p1, p2, p3⟩ := Fu.out.cells
      have HFC := hid (fun q (hq : Below u9.heap.size u9 q) => (Fu.out.below hq Fu.out.lt).cells)
      have HGC := hid (fun q (hq : Below u9.heap.size u9 q) => (Gu.out.below hq Gu.out.lt).cells)
      go_wp2_with fail
      go_cut [58] from 54 to 118 (fun s wx => s = .bool false ∧ Below u9.heap.size u9 wx)
      case first =>
        go_region_held3 (fun q => (q.cell? ⟨w.heap.size, 0, none⟩ = some (.slice a0 T.cs.length c0) ∧ q.cell? ⟨w.heap.size, 1, none⟩ = some (.slice a1 T.ss.length c1) ∧ q.cell? ⟨w.heap.size, 2, none⟩ = some (.slice a2 T.ct.length c2) ∧ q.cell? ⟨w.heap.size, 3, none⟩ = some (.slice a3 T.st.length c3)) ∧ q.cell? ⟨w6.heap.size, 0, none⟩ = some (.slice x0 T.cs.length d0) ∧ q.cell? ⟨w6.heap.size, 1, none⟩ = some (.slice x1 T.ss.length d1) ∧ q.cell? ⟨w6.heap.size, 2, none⟩ = some (.slice x2 T.ct.length d2) ∧ q.cell? ⟨w6.heap.size, 3, none⟩ = some (.slice x3 T.st.length d3)) (go_keep) (first
          | (go_at_call 12; refine (HTO.out _ ?_).mono ?_; · first | exact Bu.out | exact Bu.out.trans ((Below.refl _ _).drew.mono Bu.out.size)
             rintro e w10 ⟨v10, rfl, ho10, hb10⟩
             have hcA : Below u9.heap.size u9 w10 := by first | exact hb10 | exact Below.trans (Below.refl _ _).drew hb10
             have hv10 := ho10.tv
             obtain ⟨z0, e0, z1, e1, z2, e2, z3, e3, rfl, _⟩ := ho10
             obtain ⟨g0, g1, g2, g3⟩ := HFC.out _ hcA
             obtain ⟨t0, t1, t2, t3⟩ := HGC.out _ hcA)
          | (go_at_call 16; refine (HEQ.out _ _ _ ?_ ?_).mono ?_; · first | exact HTu.out.below hcA | exact (HTu.out.below hcA).below (Below.refl _ _).drew
             · first | exact hv10 | exact hv10.below (Below.refl _ _).drew
             rintro e w11 ⟨rfl, hb11⟩
             have hcB : Below u9.heap.size u9 w11 := by first | exact hcA.trans (hb11.mono hcA.size) | exact hcA.trans ((Below.trans (Below.refl _ _).drew hb11).mono hcA.size)
             obtain ⟨g0', g1', g2', g3'⟩ := HFC.out _ hcB
             obtain ⟨t0', t1', t2', t3'⟩ := HGC.out _ hcB))
        all_goals
          go_wp2_with fail
          go_meet
          exact ⟨rfl, hcB⟩
      case rest =>
        obtain ⟨rfl, hb10⟩ := hcut
        generalize hwc : wc = w10 at *
        clear hwc
        have B10 := hid (Bu.out.trans (hb10.mono Bu.out.size))
        have HR10 := hid (HRu.out.below hb10)
        have HG10 := hid (HGu.out.below hb10)
        have Y10 := hid (Yu.out.trans (hb10.mono Yu.out.size))
        have HM10 := hid (HMu.out.below hb10)
        have HQ10 := hid (HQu.out.trans (hb10.mono HQu.out.size))
        have F10 := hid (Fu.out.below hb10 Fu.out.lt)
        have G10 := hid (Gu.out.below hb10 Gu.out.lt)
        clear hb10 HRu HGu Yu HMu HQu Fu Gu q0 q1 q2 q3 p0 p1 p2 p3 HFC HGC
        go_wp2_with fail
        refine (HTB.out _ B10.out).mono ?_
        rintro e w12 ⟨rfl, hbs12, hb12⟩
        have HX12 := hid hbs12.brow
        have HR12 := hid (HR10.out.below hb12)
        clear hbs12
        go_wp2_with fail
        refine (eqBlockS_same _ _ _ _ L w12 hl HALL.out HR12.out HX12.out).mono ?_
        rintro e w13 ⟨rfl, hb13⟩
        have hb1013 : Below w10.heap.size w10 w13 := hb12.trans (hb13.mono hb12.size)
        have HG13 := hid (HG10.out.below hb1013)
        have Y13 := hid (Y10.out.trans (hb1013.mono Y10.out.size))
        have HM13 := hid (HM10.out.below hb1013)
        have HQ13 := hid (HQ10.out.trans (hb1013.mono HQ10.out.size))
        have F13 := hid (F10.out.below hb1013 F10.out.lt)
        have G13 := hid (G10.out.below hb1013 G10.out.lt)
        have h813 : w8.heap.size ≤ w13.heap.size := HG13.out.1
        have h56 : w5.heap.size ≤ w6.heap.size := Y6.out.size
        have J0 := hid ((I0.out.below HQ13.out).wider (Nat.le_refl _) (show w6.heap.size ≤ w8.heap.size by omega))
        have J1 := hid ((I1.out.below HQ13.out).wider (Nat.le_refl _) (show w6.heap.size ≤ w8.heap.size by omega))
        have J2 := hid ((I2.out.below HQ13.out).wider (Nat.le_refl _) (show w6.heap.size ≤ w8.heap.size by omega))
        have J3 := hid ((I3.out.below HQ13.out).wider (Nat.le_refl _) (show w6.heap.size ≤ w8.heap.size by omega))
        have HMW := hid (HM13.out.wider (show w5.heap.size ≤ w7.heap.size by omega) (Nat.le_refl _))
        clear hb1013 hb12 hb13 HG10 Y10 HM10 HQ10 F10 G10 HR10 HR12 HX12 HM13
        obtain ⟨q0, q1, q2, q3⟩ := G13.out.cells
        go_wp2_with fail
        refine (markTablesI w5.heap.size w8.heap.size x0 x1 x2 x3 _ _ _ _ d0 d1 d2 d3 w13 k0 k1 k2 k3 h813 J0.out J1.out J2.out J3.out).mono ?_
        rintro e w14 ⟨rfl, hso⟩
        have hsp := hso.1
        have HG14 := hid (hsp.own HG13.out (Nat.le_refl _))
        have Y14 := hid (Y13.out.trans (hsp.below (by omega)))
        have HM14 := hid (HMW.out.soft hso)
        have F14 := hid (show Four w14 w.heap.size _ _ _ _ 26 from hso.2.2 _ _ 26 (by decide) F13.out)
        clear hso hsp HG13 HMW Y13 F13 J0 J1 J2 J3 q0 q1 q2 q3
        have hk1 : (1 : Int) + T.cs.length + T.ss.length + T.ct.length + T.st.length ≤ 1000000000 := by omega
        have hk0 : (1 : Int) ≤ 1 + T.cs.length + T.ss.length + T.ct.length + T.st.length := by omega
        generalize (1 : Int) + T.cs.length + T.ss.length + T.ct.length + T.st.length = KK at *
        go_wp2_with fail
        refine (markBlockSG KK hk0 hk1 w5.heap.size w8.heap.size w7.heap.size L.length ys _ w14 hl HALL.out (by omega) hg8 HM14.out).mono ?_
        rintro e w15 ⟨⟨r9, rfl, hr9⟩, hsp⟩
        have HG15 := hid (hsp.own HG14.out (Nat.le_refl _))
        have Y15 := hid (Y14.out.trans (hsp.below (by have := HG14.out.1; omega)))
        have hd9 : decide (r9 < 0) = false := by simp; omega
        clear hsp HG14 HM14 Y14
        go_wp2_with fail
        refine (eq_vw w15 _ _ R (by omega) HG15.out.view (HY5.out.below Y15.out)).mono ?_
        rintro e w16 ⟨rfl, hb16⟩
        have HG16 := hid (HG15.out.below hb16)
        have Y16 := hid (Y15.out.trans (hb16.mono Y15.out.size))
        clear hb16 HG15 Y15
        go_wp2_with fail
        refine (mark_any w8.heap.size _ R w16 (by omega) HG16.out).mono ?_
        rintro e w17 ⟨rfl, hg17, hb17⟩
        have HG17 := hid hg17
        have Y17 := hid (Y16.out.trans (hb17.mono (by omega)))
        clear hg17 hb17 HG16 Y16
        go_wp2_with fail
        refine (held_vw w17 _ R.length (by omega) HG17.out.view).mono ?_
        rintro e w18 ⟨rfl, rfl⟩
        have B17 := hid (B5.out.trans (Y17.out.mono B5.out.size))
        have F17 := hid (F5.out.below Y17.out F5.out.lt)
        have hp : ¬ ((R.length : Int) + 1 < 0) := by omega
        obtain ⟨p0, p1, p2, p3⟩ := F17.out.cells
        go_wp2_with fail
        refine (HTO.out _ B17.out).mono ?_
        rintro e w19 ⟨v19, rfl, ho19, hb19⟩
        have HT19 := hid ho19.tv
        have HG19 := hid (HG17.out.below hb19)
        have Y19 := hid (Y17.out.trans (hb19.mono Y17.out.size))
        have B19 := hid (B17.out.trans (hb19.mono B17.out.size))
        clear ho19 hb19 HG17 p0 p1 p2 p3 F17
        go_wp2_with fail
        refine (HTB.out _ B19.out).mono ?_
        rintro e w20 ⟨rfl, hbs20, hb20⟩
        have HT20 := hid (HT19.out.below hb20)
        have HR20 := hid hbs20.brow
        have HG20 := hid (HG19.out.below hb20)
        have Y20 := hid (Y19.out.trans (hb20.mono Y19.out.size))
        clear hbs20 hb20 HT19 HG19
        go_wp2_with fail
        refine (HIM.out _ _ _ _ HT20.out HR20.out).mono ?_
        rintro e w21 ⟨g4, rfl, hg4, hb21⟩
        obtain ⟨go4, gc4, rfl⟩ := hg4.shape
        have HH21 := hid hg4
        have HG21 := hid (HG20.out.below hb21)
        have Y21 := hid (Y20.out.trans (hb21.mono Y20.out.size))
        clear hg4 hb21 HG20
        go_wp2_with fail
        refine (eq_vw w21 _ _ R (by omega) HH21.out.view (HY5.out.below Y21.out)).mono ?_
        rintro e w22 ⟨rfl, hb22⟩
        have HG22 := hid (HG21.out.below hb22)
        have Y22 := hid (Y21.out.trans (hb22.mono Y21.out.size))
        clear hb22 HG21 HH21
        go_wp2_with fail
        refine (held_vw w22 _ R.length (by omega) HG22.out.view).mono ?_
        rintro e w23 ⟨rfl, rfl⟩
        have B22 := hid (B5.out.trans (Y22.out.mono B5.out.size))
        go_wp2_with fail
        go_ret
        exact ⟨rfl, B22.out⟩
  · go_wp2_with fail
    go_ret
    exact ⟨rfl, B1.out⟩
end Go.Proofs.Ytcikmgdfelejpaa
