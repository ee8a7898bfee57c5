/- CropPic of the specification. -/
import Derived.Test.YtnnakmgngkpghaaGreatLbs
import Derived.Test.YtnnakmgngkpghaaGreatCut
namespace Go.Proofs.YtnnakmgngkpghaaGreat
open Go.RowKit Go.Maps
set_option linter.unusedVariables false

/-- What may be cut out. -/
def inR (x y n h : Int) (p : Pk) : Bool := decide ((0 ≤ x ∧ 1 ≤ n ∧ x + n ≤ p.W) ∧ 0 ≤ y ∧ 1 ≤ h ∧ y + h ≤ p.H)
/-- What is cut out, without tables. -/
def crP (x y n h : Int) (p : Pk) : Pk := ⟨n, h, ⟨[], [], [], []⟩, p.N, crL p.W.toNat p.L x.toNat n.toNat y.toNat h.toNat⟩
def crB (x y n h : Int) (p : Pk) : Bool := okB p && (inR x y n h p && okB (plI (crP x y n h p)))
def crA (x y n h : Int) (p : Pk) : Pk := if crB x y n h p = true then plI (crP x y n h p) else zPk
theorem segZ_cells {q : World} {S : Sh} (h : ShIn q S) (x n r : Nat) (j : Nat) (u : Value) (hu : (flZ (segZ S x n r))[j]? = some u) : q.cell? ⟨S.b, S.off + (r * S.w + x) * 2 + j, none⟩ = some u := by
  unfold segZ at hu
  rw [flZ_take, flZ_drop, List.getElem?_take] at hu
  split at hu
  · rw [List.getElem?_drop] at hu
    have := h _ _ hu
    rw [← Nat.add_assoc] at this
    exact this
  · cases hu
theorem crP_fits (x y n h : Int) (p : Pk) (hf : p.Fits) (hp : okB p = true) (hin : inR x y n h p = true) : (crP x y n h p).Fits := by
  have b1 := ok_bounds hp
  have b2 := of_decide_eq_true hin
  refine plain_fits _ _ _ _ hf.hN ?_ ?_
  · have h1 := crL_len p.W.toNat p.L x.toNat n.toNat y.toNat h.toNat
    have h3 : h.toNat * n.toNat ≤ 40 * 40 := Nat.mul_le_mul (by omega) (by omega)
    omega
  · intro s hs
    exact rows_mem (okB_rows hp) s (crL_mem _ _ _ _ _ _ s hs)
theorem crA_small (x y n h : Int) (p : Pk) (hf : p.Fits) : (crA x y n h p).Small := by
  unfold crA
  cases hh : crB x y n h p with
  | false => exact zPk_small
  | true =>
    unfold crB at hh
    rw [Bool.and_eq_true, Bool.and_eq_true] at hh
    exact ok_small (plI_fits _ (crP_fits x y n h p hf hh.1 hh.2.1)) hh.2.2

set_option maxRecDepth 100000 in
set_option maxHeartbeats 6400000 in
theorem spec_crop (v : Value) (p : Pk) (vs1 : List Value) (x y n h : Int) (w : World) (hv1 : PVq w v p vs1) (hc1 : CapV v) (hpv1 : PV w v p) (R1 R3 : Bool)
    (hs1 : ∀ q' v, PV q' v p → Calls Tryz.prog 19 #[v] q' fun e w' => e = .returned (.bool R1) ∧ Below q'.heap.size q' w')
    (hb1 : R1 = true → Bd p) (hft : R1 = true → inR x y n h p = true → (crP x y n h p).Fits)
    (hs3 : R1 = true → inR x y n h p = true → ∀ q' v, PV q' v (plS (crP x y n h p)) → Calls Tryz.prog 19 #[v] q' fun e w' => e = .returned (.bool R3) ∧ Below q'.heap.size q' w') :
    Calls Tryz.prog 7 #[v, .int .i64 x, .int .i64 y, .int .i64 n, .int .i64 h] w fun e w' => ∃ v', e = .returned (.tuple #[v', .bool (R1 && (inR x y n h p && R3))]) ∧ ((R1 && (inR x y n h p && R3)) = true → PQ w.heap.size w' v' (plS (crP x y n h p))) ∧ ((R1 && (inR x y n h p && R3)) = false → v' = zPic) ∧ Below w.heap.size w w' := by
  have HPV1 := hid hpv1
  obtain ⟨t0, t1, t2, t3, bv, rfl, u0, u1, u2, u3, ub⟩ := hv1
  obtain ⟨a0, c0, rfl, -, -⟩ := u0
  obtain ⟨a1, c1, rfl, -, -⟩ := u1
  obtain ⟨a2, c2, rfl, -, -⟩ := u2
  obtain ⟨a3, c3, rfl, -, -⟩ := u3
  obtain ⟨ao, cap, rfl⟩ : ∃ ao cap, bv = .slice ao p.L.length cap := by
    rcases ub.2.2 with ⟨rfl, h⟩ | ⟨b, off, c, rfl, _⟩
    · exact ⟨none, 0, by rw [h]; rfl⟩
    · exact ⟨_, _, rfl⟩
  have HBL1 := hid ub
  have HC1 := hid (hc1 _ _ _ _ _ _ _ _ _ _ rfl)
  have HS1 := hid (fun q' (hq : Below w.heap.size w q') => hs1 q' _ (HPV1.out.below hq))
  have HPO := hid (fun (h1 : R1 = true) (h2 : inR x y n h p = true) (ao : Option Addr) (cap : Nat) vs0 q' (hq : BLv q' (.slice ao (crP x y n h p).L.length cap) (crP x y n h p).L vs0) => spec_made (crP x y n h p) rfl ao cap vs0 q' (hft h1 h2) hq R3 (hs3 h1 h2))
  obtain ⟨p1, hp1⟩ : ∃ p1, p1 = plS (crP x y n h p) := ⟨_, rfl⟩
  rw [← hp1] at HPO
  have HPE := hid hp1
  have HB1 := hid hb1
  have HIR := hid (show inR x y n h p = decide ((0 ≤ x ∧ 1 ≤ n ∧ x + n ≤ p.W) ∧ 0 ≤ y ∧ 1 ≤ h ∧ y + h ≤ p.H) from rfl)
  obtain ⟨IR, hIR⟩ : ∃ IR, IR = inR x y n h p := ⟨_, rfl⟩
  rw [← hIR] at HIR HPO
  have HIE := hid hIR
  clear ub hpv1 hc1 hs1 hs3 hft hb1 hp1 HPV1 hIR
  obtain ⟨W1, H1, T1, N1, L1⟩ := p
  simp only at *
  have hA1 := (Below.refl w.heap.size w).alloc (Nat.le_refl _) (.cells #[.int .i64 W1, .int .i64 H1, .slice a0 T1.cs.length c0, .slice a1 T1.ss.length c1, .slice a2 T1.ct.length c2, .slice a3 T1.st.length c3, .string N1, .slice ao L1.length cap] 36)
  have hA := hA1.alloc (by simp) (.cells #[.int .i64 0, .int .i64 0, .slice none 0 0, .slice none 0 0, .slice none 0 0, .slice none 0 0, .string ⟨#[]⟩, .slice none 0 0] 36)
  have hs1 : (w.alloc (.cells #[.int .i64 W1, .int .i64 H1, .slice a0 T1.cs.length c0, .slice a1 T1.ss.length c1, .slice a2 T1.ct.length c2, .slice a3 T1.st.length c3, .string N1, .slice ao L1.length cap] 36)).heap.size = w.heap.size + 1 := by simp
  have k0 := Eig.new w (.int .i64 W1) (.int .i64 H1) (.slice a0 T1.cs.length c0) (.slice a1 T1.ss.length c1) (.slice a2 T1.ct.length c2) (.slice a3 T1.st.length c3) (.string N1) (.slice ao L1.length cap) 36
  have k0' := (k0.below ((Below.refl _ _).alloc (Nat.le_refl _) (.cells #[.int .i64 0, .int .i64 0, .slice none 0 0, .slice none 0 0, .slice none 0 0, .slice none 0 0, .string ⟨#[]⟩, .slice none 0 0] 36)) k0.lt)
  have k2 := Eig.new (w.alloc (.cells #[.int .i64 W1, .int .i64 H1, .slice a0 T1.cs.length c0, .slice a1 T1.ss.length c1, .slice a2 T1.ct.length c2, .slice a3 T1.st.length c3, .string N1, .slice ao L1.length cap] 36)) (.int .i64 0) (.int .i64 0) (.slice none 0 0) (.slice none 0 0) (.slice none 0 0) (.slice none 0 0) (.string ⟨#[]⟩) (.slice none 0 0) 36
  rw [hs1] at k2
  have E0 := hid k0'
  have E2 := hid k2
  have B2 := hid hA
  clear hA hA1 k0 k0' k2 hs1
  go_enter Tryz.func7, Tryz.ntmps7
  go_wp2_with (first | (go_at_call 19; fail) | fail)
  refine (HS1.out _ B2.out).mono ?_
  generalize (w.alloc _).alloc _ = wa at *
  rintro e w1 ⟨rfl, hb1⟩
  have h12 : w.heap.size + 1 < wa.heap.size := E2.out.lt
  have hlt2 := B2.out.size
  have D0 := hid (E0.out.below hb1 E0.out.lt)
  have D2 := hid (E2.out.below hb1 E2.out.lt)
  have C1 := hid (B2.out.trans (hb1.mono hlt2))
  have hsz1 : wa.heap.size ≤ w1.heap.size := hb1.size
  clear hb1 E0 E2 B2 HS1
  cases R1 with
  | false =>
    have EZ := hid (D2.out.set8 (.int .i64 0) (.int .i64 0) (.slice none 0 0) (.slice none 0 0) (.slice none 0 0) (.slice none 0 0) (.string ⟨#[]⟩) (.slice none 0 0)).cells
    have BZ := hid (below8 C1.out (show w.heap.size ≤ w.heap.size + 1 by omega) (.int .i64 0) (.int .i64 0) (.slice none 0 0) (.slice none 0 0) (.slice none 0 0) (.slice none 0 0) (.string ⟨#[]⟩) (.slice none 0 0))
    obtain ⟨s0, s1, s2, s3, s4, s5, s6, s7⟩ := D2.out.cells
    have fz := D2.out.free
    go_wp2_with fail
    generalize ((((((((w1.setCell ⟨w.heap.size + 1, 0, none⟩ (.int .i64 0)).setCell ⟨w.heap.size + 1, 1, none⟩ (.int .i64 0)).setCell ⟨w.heap.size + 1, 2, none⟩ (.slice none 0 0)).setCell ⟨w.heap.size + 1, 3, none⟩ (.slice none 0 0)).setCell ⟨w.heap.size + 1, 4, none⟩ (.slice none 0 0)).setCell ⟨w.heap.size + 1, 5, none⟩ (.slice none 0 0)).setCell ⟨w.heap.size + 1, 6, none⟩ (.string ⟨#[]⟩)).setCell ⟨w.heap.size + 1, 7, none⟩ (.slice none 0 0)) = wf at *
    clear s0 s1 s2 s3 s4 s5 s6 s7
    obtain ⟨s0, s1, s2, s3, s4, s5, s6, s7⟩ := EZ.out
    exact bodyPost_ret (v := .tuple #[.agg #[.int .i64 0, .int .i64 0, .slice none 0 0, .slice none 0 0, .slice none 0 0, .slice none 0 0, .string ⟨#[]⟩, .slice none 0 0], .bool false]) (by simp [results, Tryz.results7, go_sem, s0, s1, s2, s3, s4, s5, s6, s7]) rfl ⟨_, rfl, fun h => absurd h (by simp), fun _ => rfl, BZ.out⟩
  | true =>
    have b1 := HB1.out (by first | rfl | trivial)
    unfold Bd at b1
    simp only at b1
    obtain ⟨Wp, rfl⟩ : ∃ n : Nat, W1 = (n : Int) := ⟨W1.toNat, by omega⟩
    obtain ⟨Hn, rfl⟩ : ∃ n : Nat, H1 = (n : Int) := ⟨H1.toNat, by omega⟩
    have hl1 : L1.length = Wp * Hn := by
      have : (L1.length : Int) = ((Wp * Hn : Nat) : Int) := by rw [b1.2.2.2]; simp
      omega
    have hw1 : 1 ≤ Wp ∧ Wp ≤ 40 := by omega
    have hh1 : 1 ≤ Hn ∧ Hn ≤ 40 := by omega
    have hm1 : 1 ≤ Wp * Hn := Nat.mul_pos hw1.1 hh1.1
    obtain ⟨pb, po, rfl⟩ : ∃ pb po, ao = some ⟨pb, po, none⟩ := by
      rcases HBL1.out.2.2 with ⟨_, h⟩ | ⟨b, off, c, e, _⟩
      · rw [h] at hl1
        simp at hl1
        omega
      · injection e with e
        exact ⟨b, off, e⟩
    have HL1 := hid hl1
    clear hl1 b1
    obtain ⟨q0, q1, q2, q3, q4, q5, q6, q7⟩ := D0.out.cells
    go_wp2_with (first | (go_at_call 20; fail) | fail)
    refine (spec_in x 0 ((Wp : Int) - 1) w1).mono ?_
    rintro e w2 ⟨rfl, rfl⟩
    by_cases g1 : 0 ≤ x ∧ x ≤ (Wp : Int) - 1
    · rw [decide_eq_true g1]
      go_wp2_with (first | (go_at_call 20; fail) | fail)
      refine (spec_in y 0 ((Hn : Int) - 1) w1).mono ?_
      rintro e w2 ⟨rfl, rfl⟩
      by_cases g2 : 0 ≤ y ∧ y ≤ (Hn : Int) - 1
      · rw [decide_eq_true g2]
        go_wp2_with (first | (go_at_call 20; fail) | fail)
        refine (spec_in n 1 ((Wp : Int) - x) w1).mono ?_
        rintro e w2 ⟨rfl, rfl⟩
        by_cases g3 : 1 ≤ n ∧ n ≤ (Wp : Int) - x
        · rw [decide_eq_true g3]
          go_wp2_with (first | (go_at_call 20; fail) | fail)
          refine (spec_in h 1 ((Hn : Int) - y) w1).mono ?_
          rintro e w2 ⟨rfl, rfl⟩
          by_cases g4 : 1 ≤ h ∧ h ≤ (Hn : Int) - y
          · rw [decide_eq_true g4]
            have HYES : Hid (IR = true) := hid (by rw [HIR.out]; exact decide_eq_true (by omega))
            obtain ⟨xn, rfl⟩ : ∃ k : Nat, x = (k : Int) := ⟨x.toNat, by omega⟩
            obtain ⟨yn, rfl⟩ : ∃ k : Nat, y = (k : Int) := ⟨y.toNat, by omega⟩
            obtain ⟨nn, rfl⟩ : ∃ k : Nat, n = (k : Int) := ⟨n.toNat, by omega⟩
            obtain ⟨hn, rfl⟩ : ∃ k : Nat, h = (k : Int) := ⟨h.toNat, by omega⟩
            have hx2 : xn + nn ≤ Wp := by omega
            have hy2 : yn + hn ≤ Hn := by omega
            have hn1 : 1 ≤ nn := by omega
            have hh2 : 1 ≤ hn := by omega
            obtain ⟨S1, hS1⟩ : ∃ S, S = Sh.mk Wp (zipP L1 vs1) pb po cap := ⟨_, rfl⟩
            have z1 : S1.Z.length = S1.w * Hn := by rw [hS1]; show (zipP L1 vs1).length = _; rw [zipP_len _ _ HBL1.out.1, HL1.out]
            have hzl : S1.Z.length = L1.length := by rw [hS1]; exact zipP_len _ _ HBL1.out.1
            have HIN1 := hid (zipP_in HBL1.out Wp)
            rw [← hS1] at HIN1
            have HV1 := hid (fun z (hz : z ∈ S1.Z) => zipP_vp HBL1.out z (by rw [hS1] at hz; exact hz))
            have hsw : S1.w = Wp := by rw [hS1]
            have hsb : S1.b = pb := by rw [hS1]
            have hso : S1.off = po := by rw [hS1]
            have hsc : S1.cap = cap := by rw [hS1]
            have HPL := hid (show (crTo S1 xn nn yn hn).map (·.1) = crL Wp L1 xn nn yn hn by
              rw [crTo_plain, hsw, hS1]
              show crL Wp ((zipP L1 vs1).map (·.1)) xn nn yn hn = _
              rw [zipP_fst _ _ HBL1.out.1])
            have HVA := hid (fun z (hz : z ∈ crTo S1 xn nn yn hn) => show Vp w z.2 z.1.2 from HV1.out z (crTo_mem _ _ _ _ _ z hz))
            have HLN := hid (fun k (hk : k ≤ hn) => crTo_len S1 Hn xn nn yn z1 (by rw [hsw]; exact hx2) k (by omega))
            have HRL := hid (fun r (hr : r < Hn) => segZ_len S1 Hn xn nn r z1 (by rw [hsw]; exact hx2) hr)
            have HRC := hid (fun q' (hq : Below w.heap.size w q') r j u hu => segZ_cells (HIN1.out.below hq) xn nn r j u hu)
            rw [hsb, hso, hsw] at HRC
            have HOS := hid (fun r => flZ_one (segZ S1 xn nn r) (fun z hz => vp_one (HV1.out z (List.mem_of_mem_drop (List.mem_of_mem_take hz)))))
            have HAS := hid (fun k => show crTo S1 xn nn yn (k + 1) = crTo S1 xn nn yn k ++ segZ S1 xn nn (yn + k) from rfl)
            have hcp1 := HC1.out
            rw [HL1.out] at hcp1
            have K1 := hid (OwnZ.empty w1 w1.heap.size (Nat.le_refl _))
            have hA3 := (Below.refl w1.heap.size w1).alloc (Nat.le_refl _) (.cells #[] 65)
            have D3 := hid (D0.out.below hA3 D0.out.lt)
            have F3 := hid (D2.out.below hA3 D2.out.lt)
            have C3 := hid (C1.out.trans (hA3.mono C1.out.size))
            have hl3 : w1.heap.size < (w1.alloc (.cells #[] 65)).heap.size := by simp
            clear hA3 D0 D2 C1 hS1 z1 hzl HIN1 HV1 hsw hsb hso hsc HC1 HBL1 g1 g2 g3 g4 HIR HB1
            go_wp2_with fail
            obtain ⟨BB, hBB⟩ : ∃ BB, BB = w1.heap.size := ⟨_, rfl⟩
            rw [← hBB] at K1 hl3 hsz1 ⊢
            generalize w1.alloc (.cells #[] 65) = wl at *
            clear hBB q0 q1 q2 q3 q4 q5 q6 q7
            go_loopw [12, 13] (fun t6 t7 wr => ∃ k : Nat, k ≤ hn ∧ t7 = .int .i64 ((yn : Int) + (k : Int)) ∧ Hid (OwnZ wr BB t6 (crTo S1 xn nn yn k)) ∧ Hid (Below BB wl wr)) (fun _ t _ => yn + hn - (intOf t).toNat)
            case atStart => exact ⟨0, by omega, by simp, K1, hid (Below.refl _ _)⟩
            case round =>
              obtain ⟨k, hk, rfl, hown, hbr⟩ := hrel
              have E7 := hid (D3.out.below hbr.out (show w.heap.size < BB by omega))
              have C7 := hid (C3.out.trans (hbr.out.mono (show w.heap.size ≤ BB by omega)))
              obtain ⟨q0, q1, q2, q3, q4, q5, q6, q7⟩ := E7.out.cells
              rw [HL1.out] at q7
              by_cases hlt : k < hn
              · have hlt' : (yn : Int) + (k : Int) < (yn : Int) + (hn : Int) := by omega
                have hi1 : (yn + k + 1) * Wp ≤ Wp * Hn := by rw [Nat.mul_comm]; exact Nat.mul_le_mul_left _ (by omega)
                rw [Nat.succ_mul] at hi1
                have hm3 : Wp * Hn ≤ 40 * 40 := Nat.mul_le_mul hw1.2 hh1.2
                have HRCa := hid (fun j u hu => HRC.out wr C7.out (yn + k) j u hu)
                have ra := HRL.out (yn + k) (by omega)
                have ho1 := HOS.out (yn + k)
                have hz1 := HLN.out k (by omega)
                have hzb : k * nn ≤ 40 * 40 := Nat.mul_le_mul (by omega) (by omega)
                have HAN := hid (HAS.out k)
                obtain ⟨PP, hP⟩ : ∃ PP, PP = (yn + k) * Wp := ⟨_, rfl⟩
                have e1 : ((yn : Int) + (k : Int)) * (Wp : Int) = (PP : Int) := by rw [hP]; simp
                rw [← hP] at hi1 HRCa
                clear hP
                generalize Wp * Hn = N1' at *
                have hown1 := hown.out
                generalize crTo S1 xn nn yn k = ZI at *
                generalize segZ S1 xn nn (yn + k) = RA at *
                go_wp2_with (at_builtin; refine wpList_pushZ wr rfl _ _ 34 rfl BB Tryz.underlying34 Tryz.info65 u12 ZI RA (by rfl) hown1 ⟨pb, po + (PP + xn) * 2, none⟩ (PP + xn + nn - (PP + xn)) (cap - (PP + xn)) (by rfl) (by rw [ra]; omega) (fun j u hu => by rw [Addr.add_lit]; exact HRCa.out j u hu) ho1 (by omega) ?_)
                intro v6 w6 ho6 hb6
                have HO6 := hid ho6
                have HB6 := hid (hbr.out.trans hb6)
                clear ho6 hb6 hown1
                go_wp2
                go_roundw
                case rel => exact ⟨k + 1, by omega, by go_num, hid (by rw [HAN.out]; exact HO6.out), HB6⟩
                case measure =>
                  simp only [intOf]
                  omega
              · obtain rfl : k = hn := by omega
                obtain ⟨lo, lc, rfl⟩ := hown.out.shape
                have hbl := (hown.out.blv (fun z hz => (HVA.out z hz).below C7.out)).2
                rw [HPL.out] at hbl
                have hlen : (crTo S1 xn nn yn k).length = (crP (xn : Int) (yn : Int) (nn : Int) (k : Int) ⟨(Wp : Int), (Hn : Int), T1, N1, L1⟩).L.length := by
                  show _ = (crL (Wp : Int).toNat L1 (xn : Int).toNat (nn : Int).toNat (yn : Int).toNat (k : Int).toNat).length
                  simp only [Int.toNat_natCast]
                  rw [← HPL.out, List.length_map]
                have HC0 := hid (HPO.out (by first | rfl | trivial) HYES.out lo lc ((crTo S1 xn nn yn k).map (·.2)) wr (by
                  show BLv wr (.slice lo (crP (xn : Int) (yn : Int) (nn : Int) (k : Int) ⟨(Wp : Int), (Hn : Int), T1, N1, L1⟩).L.length lc) (crL (Wp : Int).toNat L1 (xn : Int).toNat (nn : Int).toNat (yn : Int).toNat (k : Int).toNat) _
                  rw [← hlen]
                  simp only [Int.toNat_natCast]
                  exact hbl))
                rw [← hlen] at HC0
                have G7 := hid (F3.out.below hbr.out (show w.heap.size + 1 < BB by omega))
                have hwr1 : w.heap.size + 1 < wr.heap.size := G7.out.lt
                clear hown hbl HPO hlen HLN
                generalize (crTo S1 xn nn yn k).length = NL at *
                go_wp2_with (first | (go_at_call 21; fail) | fail)
                refine HC0.out.mono ?_
                rintro e w6 ⟨v6, rfl, hpo, hz, hb6⟩
                have F6 := hid (G7.out.below hb6 G7.out.lt)
                have C6 := hid (C7.out.trans (hb6.mono C7.out.size))
                clear hb6 G7 C7 HC0 E7 q0 q1 q2 q3 q4 q5 q6 q7
                obtain ⟨s0, s1, s2, s3, s4, s5, s6, s7⟩ := F6.out.cells
                have fz := F6.out.free
                cases R3 with
                | false =>
                  obtain rfl : v6 = zPic := hz rfl
                  clear hpo hz
                  have EZ := hid (F6.out.set8 (.int .i64 0) (.int .i64 0) (.slice none 0 0) (.slice none 0 0) (.slice none 0 0) (.slice none 0 0) (.string ⟨#[]⟩) (.slice none 0 0)).cells
                  have BZ := hid (below8 C6.out (show w.heap.size ≤ w.heap.size + 1 by omega) (.int .i64 0) (.int .i64 0) (.slice none 0 0) (.slice none 0 0) (.slice none 0 0) (.slice none 0 0) (.string ⟨#[]⟩) (.slice none 0 0))
                  unfold zPic
                  go_wp2_with fail
                  generalize ((((((((w6.setCell ⟨w.heap.size + 1, 0, none⟩ (.int .i64 0)).setCell ⟨w.heap.size + 1, 1, none⟩ (.int .i64 0)).setCell ⟨w.heap.size + 1, 2, none⟩ (.slice none 0 0)).setCell ⟨w.heap.size + 1, 3, none⟩ (.slice none 0 0)).setCell ⟨w.heap.size + 1, 4, none⟩ (.slice none 0 0)).setCell ⟨w.heap.size + 1, 5, none⟩ (.slice none 0 0)).setCell ⟨w.heap.size + 1, 6, none⟩ (.string ⟨#[]⟩)).setCell ⟨w.heap.size + 1, 7, none⟩ (.slice none 0 0)) = wf at *
                  clear s0 s1 s2 s3 s4 s5 s6 s7
                  obtain ⟨s0, s1, s2, s3, s4, s5, s6, s7⟩ := EZ.out
                  exact bodyPost_ret (v := .tuple #[.agg #[.int .i64 0, .int .i64 0, .slice none 0 0, .slice none 0 0, .slice none 0 0, .slice none 0 0, .string ⟨#[]⟩, .slice none 0 0], .bool false]) (by simp [results, Tryz.results7, go_sem, s0, s1, s2, s3, s4, s5, s6, s7]) rfl ⟨_, by rw [← HIE.out, HYES.out]; rfl, fun h => absurd h (by rw [← HIE.out, HYES.out]; simp), fun _ => rfl, BZ.out⟩
                | true =>
                  have hpo' := hpo rfl
                  have HPZ := hid hpo'
                  obtain ⟨x0, x1, x2, x3, bv, vs, rfl, ht, hk⟩ := hpo'
                  obtain ⟨a4, c4, a5, c5, a6, c6, a7, c7, e, _⟩ := ht
                  injection e with e
                  injection e with e
                  injection e with e0 e
                  injection e with e1 e
                  injection e with e2 e
                  injection e with e3 e
                  subst e0 e1 e2 e3
                  obtain ⟨bo1, bc1, rfl⟩ := hk.shape
                  have PZ := hid ((HPZ.out.set8 hwr1 (.int .i64 p1.W) (.int .i64 p1.H) (.slice a4 p1.T.cs.length c4) (.slice a5 p1.T.ss.length c5) (.slice a6 p1.T.ct.length c6) (.slice a7 p1.T.st.length c7) (.string p1.N) (.slice bo1 p1.L.length bc1)).low (show w.heap.size ≤ wr.heap.size by omega))
                  clear hk e hpo hz HPZ
                  have EZ := hid (F6.out.set8 (.int .i64 p1.W) (.int .i64 p1.H) (.slice a4 p1.T.cs.length c4) (.slice a5 p1.T.ss.length c5) (.slice a6 p1.T.ct.length c6) (.slice a7 p1.T.st.length c7) (.string p1.N) (.slice bo1 p1.L.length bc1)).cells
                  have BZ := hid (below8 C6.out (show w.heap.size ≤ w.heap.size + 1 by omega) (.int .i64 p1.W) (.int .i64 p1.H) (.slice a4 p1.T.cs.length c4) (.slice a5 p1.T.ss.length c5) (.slice a6 p1.T.ct.length c6) (.slice a7 p1.T.st.length c7) (.string p1.N) (.slice bo1 p1.L.length bc1))
                  go_wp2_with fail
                  generalize ((((((((w6.setCell ⟨w.heap.size + 1, 0, none⟩ (.int .i64 p1.W)).setCell ⟨w.heap.size + 1, 1, none⟩ (.int .i64 p1.H)).setCell ⟨w.heap.size + 1, 2, none⟩ (.slice a4 p1.T.cs.length c4)).setCell ⟨w.heap.size + 1, 3, none⟩ (.slice a5 p1.T.ss.length c5)).setCell ⟨w.heap.size + 1, 4, none⟩ (.slice a6 p1.T.ct.length c6)).setCell ⟨w.heap.size + 1, 5, none⟩ (.slice a7 p1.T.st.length c7)).setCell ⟨w.heap.size + 1, 6, none⟩ (.string p1.N)).setCell ⟨w.heap.size + 1, 7, none⟩ (.slice bo1 p1.L.length bc1)) = wf at *
                  clear s0 s1 s2 s3 s4 s5 s6 s7
                  obtain ⟨s0, s1, s2, s3, s4, s5, s6, s7⟩ := EZ.out
                  exact bodyPost_ret (v := .tuple #[.agg #[.int .i64 p1.W, .int .i64 p1.H, .slice a4 p1.T.cs.length c4, .slice a5 p1.T.ss.length c5, .slice a6 p1.T.ct.length c6, .slice a7 p1.T.st.length c7, .string p1.N, .slice bo1 p1.L.length bc1], .bool true]) (by simp [results, Tryz.results7, go_sem, s0, s1, s2, s3, s4, s5, s6, s7]) rfl ⟨_, by rw [← HIE.out, HYES.out]; rfl, fun _ => by rw [← HPE.out]; exact PZ.out, fun h => absurd h (by rw [← HIE.out, HYES.out]; simp), BZ.out⟩
          · rw [decide_eq_false g4]
            clear q0 q1 q2 q3 q4 q5 q6 q7
            have HNO : Hid (IR = false) := hid (by rw [HIR.out]; exact decide_eq_false (by omega))
            have EZ := hid (D2.out.set8 (.int .i64 0) (.int .i64 0) (.slice none 0 0) (.slice none 0 0) (.slice none 0 0) (.slice none 0 0) (.string ⟨#[]⟩) (.slice none 0 0)).cells
            have BZ := hid (below8 C1.out (show w.heap.size ≤ w.heap.size + 1 by omega) (.int .i64 0) (.int .i64 0) (.slice none 0 0) (.slice none 0 0) (.slice none 0 0) (.slice none 0 0) (.string ⟨#[]⟩) (.slice none 0 0))
            obtain ⟨s0, s1, s2, s3, s4, s5, s6, s7⟩ := D2.out.cells
            have fz := D2.out.free
            go_wp2_with fail
            generalize ((((((((w1.setCell ⟨w.heap.size + 1, 0, none⟩ (.int .i64 0)).setCell ⟨w.heap.size + 1, 1, none⟩ (.int .i64 0)).setCell ⟨w.heap.size + 1, 2, none⟩ (.slice none 0 0)).setCell ⟨w.heap.size + 1, 3, none⟩ (.slice none 0 0)).setCell ⟨w.heap.size + 1, 4, none⟩ (.slice none 0 0)).setCell ⟨w.heap.size + 1, 5, none⟩ (.slice none 0 0)).setCell ⟨w.heap.size + 1, 6, none⟩ (.string ⟨#[]⟩)).setCell ⟨w.heap.size + 1, 7, none⟩ (.slice none 0 0)) = wf at *
            clear s0 s1 s2 s3 s4 s5 s6 s7
            obtain ⟨s0, s1, s2, s3, s4, s5, s6, s7⟩ := EZ.out
            exact bodyPost_ret (v := .tuple #[.agg #[.int .i64 0, .int .i64 0, .slice none 0 0, .slice none 0 0, .slice none 0 0, .slice none 0 0, .string ⟨#[]⟩, .slice none 0 0], .bool false]) (by simp [results, Tryz.results7, go_sem, s0, s1, s2, s3, s4, s5, s6, s7]) rfl ⟨_, by rw [← HIE.out, HNO.out]; rfl, fun h => absurd h (by rw [← HIE.out, HNO.out]; simp), fun _ => rfl, BZ.out⟩
        · rw [decide_eq_false g3]
          clear q0 q1 q2 q3 q4 q5 q6 q7
          have HNO : Hid (IR = false) := hid (by rw [HIR.out]; exact decide_eq_false (by omega))
          have EZ := hid (D2.out.set8 (.int .i64 0) (.int .i64 0) (.slice none 0 0) (.slice none 0 0) (.slice none 0 0) (.slice none 0 0) (.string ⟨#[]⟩) (.slice none 0 0)).cells
          have BZ := hid (below8 C1.out (show w.heap.size ≤ w.heap.size + 1 by omega) (.int .i64 0) (.int .i64 0) (.slice none 0 0) (.slice none 0 0) (.slice none 0 0) (.slice none 0 0) (.string ⟨#[]⟩) (.slice none 0 0))
          obtain ⟨s0, s1, s2, s3, s4, s5, s6, s7⟩ := D2.out.cells
          have fz := D2.out.free
          go_wp2_with fail
          generalize ((((((((w1.setCell ⟨w.heap.size + 1, 0, none⟩ (.int .i64 0)).setCell ⟨w.heap.size + 1, 1, none⟩ (.int .i64 0)).setCell ⟨w.heap.size + 1, 2, none⟩ (.slice none 0 0)).setCell ⟨w.heap.size + 1, 3, none⟩ (.slice none 0 0)).setCell ⟨w.heap.size + 1, 4, none⟩ (.slice none 0 0)).setCell ⟨w.heap.size + 1, 5, none⟩ (.slice none 0 0)).setCell ⟨w.heap.size + 1, 6, none⟩ (.string ⟨#[]⟩)).setCell ⟨w.heap.size + 1, 7, none⟩ (.slice none 0 0)) = wf at *
          clear s0 s1 s2 s3 s4 s5 s6 s7
          obtain ⟨s0, s1, s2, s3, s4, s5, s6, s7⟩ := EZ.out
          exact bodyPost_ret (v := .tuple #[.agg #[.int .i64 0, .int .i64 0, .slice none 0 0, .slice none 0 0, .slice none 0 0, .slice none 0 0, .string ⟨#[]⟩, .slice none 0 0], .bool false]) (by simp [results, Tryz.results7, go_sem, s0, s1, s2, s3, s4, s5, s6, s7]) rfl ⟨_, by rw [← HIE.out, HNO.out]; rfl, fun h => absurd h (by rw [← HIE.out, HNO.out]; simp), fun _ => rfl, BZ.out⟩
      · rw [decide_eq_false g2]
        clear q0 q1 q2 q3 q4 q5 q6 q7
        have HNO : Hid (IR = false) := hid (by rw [HIR.out]; exact decide_eq_false (by omega))
        have EZ := hid (D2.out.set8 (.int .i64 0) (.int .i64 0) (.slice none 0 0) (.slice none 0 0) (.slice none 0 0) (.slice none 0 0) (.string ⟨#[]⟩) (.slice none 0 0)).cells
        have BZ := hid (below8 C1.out (show w.heap.size ≤ w.heap.size + 1 by omega) (.int .i64 0) (.int .i64 0) (.slice none 0 0) (.slice none 0 0) (.slice none 0 0) (.slice none 0 0) (.string ⟨#[]⟩) (.slice none 0 0))
        obtain ⟨s0, s1, s2, s3, s4, s5, s6, s7⟩ := D2.out.cells
        have fz := D2.out.free
        go_wp2_with fail
        generalize ((((((((w1.setCell ⟨w.heap.size + 1, 0, none⟩ (.int .i64 0)).setCell ⟨w.heap.size + 1, 1, none⟩ (.int .i64 0)).setCell ⟨w.heap.size + 1, 2, none⟩ (.slice none 0 0)).setCell ⟨w.heap.size + 1, 3, none⟩ (.slice none 0 0)).setCell ⟨w.heap.size + 1, 4, none⟩ (.slice none 0 0)).setCell ⟨w.heap.size + 1, 5, none⟩ (.slice none 0 0)).setCell ⟨w.heap.size + 1, 6, none⟩ (.string ⟨#[]⟩)).setCell ⟨w.heap.size + 1, 7, none⟩ (.slice none 0 0)) = wf at *
        clear s0 s1 s2 s3 s4 s5 s6 s7
        obtain ⟨s0, s1, s2, s3, s4, s5, s6, s7⟩ := EZ.out
        exact bodyPost_ret (v := .tuple #[.agg #[.int .i64 0, .int .i64 0, .slice none 0 0, .slice none 0 0, .slice none 0 0, .slice none 0 0, .string ⟨#[]⟩, .slice none 0 0], .bool false]) (by simp [results, Tryz.results7, go_sem, s0, s1, s2, s3, s4, s5, s6, s7]) rfl ⟨_, by rw [← HIE.out, HNO.out]; rfl, fun h => absurd h (by rw [← HIE.out, HNO.out]; simp), fun _ => rfl, BZ.out⟩
    · rw [decide_eq_false g1]
      clear q0 q1 q2 q3 q4 q5 q6 q7
      have HNO : Hid (IR = false) := hid (by rw [HIR.out]; exact decide_eq_false (by omega))
      have EZ := hid (D2.out.set8 (.int .i64 0) (.int .i64 0) (.slice none 0 0) (.slice none 0 0) (.slice none 0 0) (.slice none 0 0) (.string ⟨#[]⟩) (.slice none 0 0)).cells
      have BZ := hid (below8 C1.out (show w.heap.size ≤ w.heap.size + 1 by omega) (.int .i64 0) (.int .i64 0) (.slice none 0 0) (.slice none 0 0) (.slice none 0 0) (.slice none 0 0) (.string ⟨#[]⟩) (.slice none 0 0))
      obtain ⟨s0, s1, s2, s3, s4, s5, s6, s7⟩ := D2.out.cells
      have fz := D2.out.free
      go_wp2_with fail
      generalize ((((((((w1.setCell ⟨w.heap.size + 1, 0, none⟩ (.int .i64 0)).setCell ⟨w.heap.size + 1, 1, none⟩ (.int .i64 0)).setCell ⟨w.heap.size + 1, 2, none⟩ (.slice none 0 0)).setCell ⟨w.heap.size + 1, 3, none⟩ (.slice none 0 0)).setCell ⟨w.heap.size + 1, 4, none⟩ (.slice none 0 0)).setCell ⟨w.heap.size + 1, 5, none⟩ (.slice none 0 0)).setCell ⟨w.heap.size + 1, 6, none⟩ (.string ⟨#[]⟩)).setCell ⟨w.heap.size + 1, 7, none⟩ (.slice none 0 0)) = wf at *
      clear s0 s1 s2 s3 s4 s5 s6 s7
      obtain ⟨s0, s1, s2, s3, s4, s5, s6, s7⟩ := EZ.out
      exact bodyPost_ret (v := .tuple #[.agg #[.int .i64 0, .int .i64 0, .slice none 0 0, .slice none 0 0, .slice none 0 0, .slice none 0 0, .string ⟨#[]⟩, .slice none 0 0], .bool false]) (by simp [results, Tryz.results7, go_sem, s0, s1, s2, s3, s4, s5, s6, s7]) rfl ⟨_, by rw [← HIE.out, HNO.out]; rfl, fun h => absurd h (by rw [← HIE.out, HNO.out]; simp), fun _ => rfl, BZ.out⟩

theorem spec_cr (v : Value) (p : Pk) (vs1 : List Value) (x y n h : Int) (w : World) (hf : p.Fits) (hv1 : PVq w v p vs1) (hc1 : CapV v) (hpv1 : PV w v p) :
    Calls Tryz.prog 7 #[v, .int .i64 x, .int .i64 y, .int .i64 n, .int .i64 h] w fun e w' => ∃ v', e = .returned (.tuple #[v', .bool (crB x y n h p)]) ∧ PQ w.heap.size w' v' (crA x y n h p) ∧ Below w.heap.size w w' := by
  have hpl := okB_pl (crP x y n h p) rfl
  refine (spec_crop v p vs1 x y n h w hv1 hc1 hpv1 (okB p) (okB (plI (crP x y n h p))) (fun q' v => spec_okB p hf q' v) ok_bounds (crP_fits x y n h p hf) (fun h1 h2 q' v hv => by rw [← hpl.1]; exact spec_okB _ (plS_fits _ (crP_fits x y n h p hf h1 h2)) q' v hv)).mono ?_
  rintro e w' ⟨v', rfl, h1, h2, hb⟩
  refine ⟨v', rfl, ?_, hb⟩
  unfold crA
  cases hh : crB x y n h p with
  | true =>
    have h3 := h1 hh
    unfold crB at hh
    rw [Bool.and_eq_true, Bool.and_eq_true] at hh
    rw [hpl.2 hh.2.2] at h3
    exact h3
  | false =>
    rw [h2 hh]
    exact (zPO _ _ hb.size).pq
end Go.Proofs.YtnnakmgngkpghaaGreat
