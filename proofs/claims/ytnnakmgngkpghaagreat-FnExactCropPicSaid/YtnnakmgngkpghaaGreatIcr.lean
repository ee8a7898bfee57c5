/- CropPic of the program. -/
import Derived.Test.YtnnakmgngkpghaaGreatLcr
import Derived.Test.YtnnakmgngkpghaaGreatIbs
namespace Go.Proofs.YtnnakmgngkpghaaGreat
open Go.RowKit Go.Maps
set_option linter.unusedVariables false

theorem ShIn.blv {q : World} {n b off cap : Nat} {Z : List ((Int × List Int) × Value)} (h : ShIn q ⟨n, Z, b, off, cap⟩) (hv : ∀ z ∈ Z, Vp q z.2 z.1.2) : BLv q (.slice (some ⟨b, off, none⟩) Z.length cap) (Z.map (·.1)) (Z.map (·.2)) := by
  refine ⟨by simp, fun j hj => ?_, .inr ⟨b, off, cap, by simp, fun j u hu => ?_⟩⟩
  · have hj' : j < Z.length := by simpa using hj
    have := hv Z[j] (List.getElem_mem hj')
    simpa [nth, List.getD, hj'] using this
  · have hall := flZ_flN Z Z.length (Nat.le_refl _)
    rw [List.take_of_length_le (by rw [flZ_len]; exact Nat.le_refl _)] at hall
    rw [List.length_map, hall] at hu
    exact h j u hu
/-- What the operations of the statement leave. -/
def VK (pv sh pn : Value) (nm : ByteArray) (x y n h : Int) (nn len : Nat) (Z : List ((Int × List Int) × Value)) (M : Nat) (A : Pk) (R : Bool) : Nat → Value → World → Prop
  | 0, u, _ => u = pv
  | 1, u, _ => u = sh
  | 2, u, _ => u = .int .i64 x
  | 3, u, _ => u = .int .i64 y
  | 4, u, _ => u = .int .i64 n
  | 5, u, _ => u = .int .i64 h
  | 6, u, w => ∃ b off cap, u = .agg #[.int .i64 n, .int .i64 h, .slice (some ⟨b, off, none⟩) len cap] ∧ ShIn w ⟨nn, Z, b, off, cap⟩
  | 7, u, _ => u = pn
  | 8, u, _ => u = .string nm
  | 9, u, w => ∃ v, u = .tuple #[v, .bool R] ∧ PO M w v A
  | 10, u, w => PO M w u A
  | 11, u, _ => u = .bool R
  | _, _, _ => True
theorem VK.below {pv sh pn : Value} {nm : ByteArray} {x y n h : Int} {nn len : Nat} {Z : List ((Int × List Int) × Value)} {M : Nat} {A : Pk} {R : Bool} {w w' : World} (hb : Below w.heap.size w w') : ∀ j u, VK pv sh pn nm x y n h nn len Z M A R j u w → VK pv sh pn nm x y n h nn len Z M A R j u w'
  | 0, _, e => e
  | 1, _, e => e
  | 2, _, e => e
  | 3, _, e => e
  | 4, _, e => e
  | 5, _, e => e
  | 6, _, ⟨b, off, cap, e, h⟩ => ⟨b, off, cap, e, ShIn.below h hb⟩
  | 7, _, e => e
  | 8, _, e => e
  | 9, _, ⟨v, e, h⟩ => ⟨v, e, PO.below h hb⟩
  | 10, _, h => PO.below h hb
  | 11, _, e => e
  | k + 12, _, _ => trivial
def DK (j : Nat) : Nat := j + 32

set_option maxRecDepth 100000 in
set_option maxHeartbeats 6400000 in
theorem impl_crop (v : Value) (p : Pk) (vs1 : List Value) (x y n h : Int) (w : World) (hv1 : PVq w v p vs1) (hc1 : CapV v) (hpv1 : PV w v p) (R1 R3 : Bool)
    (hs1 : ∀ q' v, PV q' v p → Calls Tryz.prog 24 #[v] q' fun e w' => e = .returned (.bool R1) ∧ Below q'.heap.size q' w')
    (hb1 : R1 = true → Bd p) (hft : R1 = true → inR x y n h p = true → (crP x y n h p).Fits)
    (hR3 : R3 = true → freqB (crP x y n h p).L = true) (hs3 : R1 = true → inR x y n h p = true → ∀ q' v, PV q' v (plI (crP x y n h p)) → Calls Tryz.prog 24 #[v] q' fun e w' => e = .returned (.bool R3) ∧ Below q'.heap.size q' w') :
    Calls Tryz.prog 9 #[v, .int .i64 x, .int .i64 y, .int .i64 n, .int .i64 h] w fun e w' => ∃ v', e = .returned (.tuple #[v', .bool (R1 && (inR x y n h p && R3))]) ∧ PO w.heap.size w' v' (pickP (R1 && (inR x y n h p && R3)) (plI (crP x y n h p))) ∧ Below w.heap.size w w' := by
  have HPV1 := hid hpv1
  obtain ⟨t0, t1, t2, t3, bv, rfl, u0, u1, u2, u3, ub⟩ := hv1
  obtain ⟨a0, c0, rfl, -, -⟩ := u0
  obtain ⟨a1, c1, rfl, -, -⟩ := u1
  obtain ⟨a2, c2, rfl, -, -⟩ := u2
  obtain ⟨a3, c3, rfl, -, -⟩ := u3
  obtain ⟨ao, cap, rfl⟩ : ∃ ao cap, bv = .slice ao p.L.length cap := by
    rcases ub.2.2 with ⟨rfl, h⟩ | ⟨b, off, c, rfl, _⟩
    · exact ⟨none, 0, by rw [h]; rfl⟩
    · exact ⟨_, _, rfl⟩
  have HBL1 := hid ub
  have HC1 := hid (hc1 _ _ _ _ _ _ _ _ _ _ rfl)
  have HS1 := hid (fun q' (hq : Below w.heap.size w q') => hs1 q' _ (HPV1.out.below hq))
  have HPO := hid (fun (h1 : R1 = true) (h2 : inR x y n h p = true) (ao : Option Addr) (cap : Nat) vs0 q' (hq : BLv q' (.slice ao (crP x y n h p).L.length cap) (crP x y n h p).L vs0) => impl_picOf (crP x y n h p) rfl ao cap vs0 q' (hft h1 h2) hq R3 (hs3 h1 h2) hR3)
  obtain ⟨p1, hp1⟩ : ∃ p1, p1 = plI (crP x y n h p) := ⟨_, rfl⟩
  rw [← hp1] at HPO
  have HPE := hid hp1
  have HB1 := hid hb1
  have HIR := hid (show inR x y n h p = decide ((0 ≤ x ∧ 1 ≤ n ∧ x + n ≤ p.W) ∧ 0 ≤ y ∧ 1 ≤ h ∧ y + h ≤ p.H) from rfl)
  obtain ⟨IR, hIR⟩ : ∃ IR, IR = inR x y n h p := ⟨_, rfl⟩
  rw [← hIR] at HIR HPO
  have HIE := hid hIR
  clear ub hpv1 hc1 hs1 hs3 hft hb1 hp1 HPV1 hIR hR3
  obtain ⟨W1, H1, T1, N1, L1⟩ := p
  simp only at *
  have hA1 := (Below.refl w.heap.size w).alloc (Nat.le_refl _) (.cells #[.int .i64 W1, .int .i64 H1, .slice a0 T1.cs.length c0, .slice a1 T1.ss.length c1, .slice a2 T1.ct.length c2, .slice a3 T1.st.length c3, .string N1, .slice ao L1.length cap] 36)
  have hA := hA1.alloc (by simp) (.cells #[.int .i64 0, .int .i64 0, .slice none 0 0, .slice none 0 0, .slice none 0 0, .slice none 0 0, .string ⟨#[]⟩, .slice none 0 0] 36)
  have hs1 : (w.alloc (.cells #[.int .i64 W1, .int .i64 H1, .slice a0 T1.cs.length c0, .slice a1 T1.ss.length c1, .slice a2 T1.ct.length c2, .slice a3 T1.st.length c3, .string N1, .slice ao L1.length cap] 36)).heap.size = w.heap.size + 1 := by simp
  have k0 := Eig.new w (.int .i64 W1) (.int .i64 H1) (.slice a0 T1.cs.length c0) (.slice a1 T1.ss.length c1) (.slice a2 T1.ct.length c2) (.slice a3 T1.st.length c3) (.string N1) (.slice ao L1.length cap) 36
  have k0' := (k0.below ((Below.refl _ _).alloc (Nat.le_refl _) (.cells #[.int .i64 0, .int .i64 0, .slice none 0 0, .slice none 0 0, .slice none 0 0, .slice none 0 0, .string ⟨#[]⟩, .slice none 0 0] 36)) k0.lt)
  have k2 := Eig.new (w.alloc (.cells #[.int .i64 W1, .int .i64 H1, .slice a0 T1.cs.length c0, .slice a1 T1.ss.length c1, .slice a2 T1.ct.length c2, .slice a3 T1.st.length c3, .string N1, .slice ao L1.length cap] 36)) (.int .i64 0) (.int .i64 0) (.slice none 0 0) (.slice none 0 0) (.slice none 0 0) (.slice none 0 0) (.string ⟨#[]⟩) (.slice none 0 0) 36
  rw [hs1] at k2
  have E0 := hid k0'
  have E2 := hid k2
  have B2 := hid hA
  clear hA hA1 k0 k0' k2 hs1
  go_enter Tryz.func9, Tryz.ntmps9
  go_wp2_with (first | (go_at_call 24; fail) | fail)
  refine (HS1.out _ B2.out).mono ?_
  generalize (w.alloc _).alloc _ = wa at *
  rintro e w1 ⟨rfl, hb1⟩
  have h12 : w.heap.size + 1 < wa.heap.size := E2.out.lt
  have hlt2 := B2.out.size
  have D0 := hid (E0.out.below hb1 E0.out.lt)
  have D2 := hid (E2.out.below hb1 E2.out.lt)
  have C1 := hid (B2.out.trans (hb1.mono hlt2))
  have hsz1 : wa.heap.size ≤ w1.heap.size := hb1.size
  clear hb1 E0 E2 B2 HS1
  cases R1 with
  | false =>
    have EZ := hid (D2.out.set8 (.int .i64 0) (.int .i64 0) (.slice none 0 0) (.slice none 0 0) (.slice none 0 0) (.slice none 0 0) (.string ⟨#[]⟩) (.slice none 0 0)).cells
    have BZ := hid (below8 C1.out (show w.heap.size ≤ w.heap.size + 1 by omega) (.int .i64 0) (.int .i64 0) (.slice none 0 0) (.slice none 0 0) (.slice none 0 0) (.slice none 0 0) (.string ⟨#[]⟩) (.slice none 0 0))
    obtain ⟨s0, s1, s2, s3, s4, s5, s6, s7⟩ := D2.out.cells
    have fz := D2.out.free
    go_wp2_with fail
    generalize ((((((((w1.setCell ⟨w.heap.size + 1, 0, none⟩ (.int .i64 0)).setCell ⟨w.heap.size + 1, 1, none⟩ (.int .i64 0)).setCell ⟨w.heap.size + 1, 2, none⟩ (.slice none 0 0)).setCell ⟨w.heap.size + 1, 3, none⟩ (.slice none 0 0)).setCell ⟨w.heap.size + 1, 4, none⟩ (.slice none 0 0)).setCell ⟨w.heap.size + 1, 5, none⟩ (.slice none 0 0)).setCell ⟨w.heap.size + 1, 6, none⟩ (.string ⟨#[]⟩)).setCell ⟨w.heap.size + 1, 7, none⟩ (.slice none 0 0)) = wf at *
    clear s0 s1 s2 s3 s4 s5 s6 s7
    obtain ⟨s0, s1, s2, s3, s4, s5, s6, s7⟩ := EZ.out
    exact bodyPost_ret (v := .tuple #[.agg #[.int .i64 0, .int .i64 0, .slice none 0 0, .slice none 0 0, .slice none 0 0, .slice none 0 0, .string ⟨#[]⟩, .slice none 0 0], .bool false]) (by simp [results, Tryz.results9, go_sem, s0, s1, s2, s3, s4, s5, s6, s7]) rfl ⟨_, rfl, zPO _ _ BZ.out.size, BZ.out⟩
  | true =>
    have b1 := HB1.out (by first | rfl | trivial)
    unfold Bd at b1
    simp only at b1
    obtain ⟨Wp, rfl⟩ : ∃ n : Nat, W1 = (n : Int) := ⟨W1.toNat, by omega⟩
    obtain ⟨Hn, rfl⟩ : ∃ n : Nat, H1 = (n : Int) := ⟨H1.toNat, by omega⟩
    have hl1 : L1.length = Wp * Hn := by
      have : (L1.length : Int) = ((Wp * Hn : Nat) : Int) := by rw [b1.2.2.2]; simp
      omega
    have hw1 : 1 ≤ Wp ∧ Wp ≤ 40 := by omega
    have hh1 : 1 ≤ Hn ∧ Hn ≤ 40 := by omega
    have hm1 : 1 ≤ Wp * Hn := Nat.mul_pos hw1.1 hh1.1
    obtain ⟨pb, po, rfl⟩ : ∃ pb po, ao = some ⟨pb, po, none⟩ := by
      rcases HBL1.out.2.2 with ⟨_, h⟩ | ⟨b, off, c, e, _⟩
      · rw [h] at hl1
        simp at hl1
        omega
      · injection e with e
        exact ⟨b, off, e⟩
    have HL1 := hid hl1
    clear hl1 b1
    obtain ⟨q0, q1, q2, q3, q4, q5, q6, q7⟩ := D0.out.cells
    go_wp2_with (first | (go_at_call 25; fail) | fail)
    refine (within_any x n (Wp : Int) w1 (by omega)).mono ?_
    rintro e w2 ⟨rfl, rfl⟩
    by_cases g1 : 0 ≤ x ∧ 1 ≤ n ∧ x + n ≤ (Wp : Int)
    · rw [decide_eq_true g1]
      go_wp2_with (first | (go_at_call 25; fail) | fail)
      refine (within_any y h (Hn : Int) w1 (by omega)).mono ?_
      rintro e w2 ⟨rfl, rfl⟩
      by_cases g2 : 0 ≤ y ∧ 1 ≤ h ∧ y + h ≤ (Hn : Int)
      · rw [decide_eq_true g2]
        have HYES : Hid (IR = true) := hid (by rw [HIR.out]; exact decide_eq_true (by omega))
        obtain ⟨xn, rfl⟩ : ∃ k : Nat, x = (k : Int) := ⟨x.toNat, by omega⟩
        obtain ⟨yn, rfl⟩ : ∃ k : Nat, y = (k : Int) := ⟨y.toNat, by omega⟩
        obtain ⟨nn, rfl⟩ : ∃ k : Nat, n = (k : Int) := ⟨n.toNat, by omega⟩
        obtain ⟨hn, rfl⟩ : ∃ k : Nat, h = (k : Int) := ⟨h.toNat, by omega⟩
        have hx2 : xn + nn ≤ Wp := by omega
        have hy2 : yn + hn ≤ Hn := by omega
        have hn1 : 1 ≤ nn := by omega
        have hh2 : 1 ≤ hn := by omega
        obtain ⟨S1, hS1⟩ : ∃ S, S = Sh.mk Wp (zipP L1 vs1) pb po cap := ⟨_, rfl⟩
        have z1 : S1.Z.length = S1.w * Hn := by rw [hS1]; show (zipP L1 vs1).length = _; rw [zipP_len _ _ HBL1.out.1, HL1.out]
        have hzl : S1.Z.length = L1.length := by rw [hS1]; exact zipP_len _ _ HBL1.out.1
        have HIN1 := hid (zipP_in HBL1.out Wp)
        rw [← hS1] at HIN1
        have HV1 := hid (fun z (hz : z ∈ S1.Z) => zipP_vp HBL1.out z (by rw [hS1] at hz; exact hz))
        have hsw : S1.w = Wp := by rw [hS1]
        have hsb : S1.b = pb := by rw [hS1]
        have hso : S1.off = po := by rw [hS1]
        have hsc : S1.cap = cap := by rw [hS1]
        have HPL := hid (show (crTo S1 xn nn yn hn).map (·.1) = crL Wp L1 xn nn yn hn by
          rw [crTo_plain, hsw, hS1]
          show crL Wp ((zipP L1 vs1).map (·.1)) xn nn yn hn = _
          rw [zipP_fst _ _ HBL1.out.1])
        have HVA := hid (fun z (hz : z ∈ crTo S1 xn nn yn hn) => show Vp w z.2 z.1.2 from HV1.out z (crTo_mem _ _ _ _ _ z hz))
        have HLN := hid (fun k (hk : k ≤ hn) => crTo_len S1 Hn xn nn yn z1 (by rw [hsw]; exact hx2) k (by omega))
        have HCUT := hid (fun q' (hq : Below w.heap.size w q') => show Calls Tryz.prog 28 #[.agg #[.int .i64 (Wp : Int), .int .i64 (Hn : Int), .slice (some ⟨pb, po, none⟩) L1.length cap], .int .i64 (xn : Int), .int .i64 (yn : Int), .int .i64 (nn : Int), .int .i64 (hn : Int)] q' fun e w' => ∃ b off cap, e = .returned (.agg #[.int .i64 (nn : Int), .int .i64 (hn : Int), .slice (some ⟨b, off, none⟩) (hn * nn) cap]) ∧ ShIn w' ⟨nn, crTo S1 xn nn yn hn, b, off, cap⟩ ∧ Below q'.heap.size q' w' from by
          have := cut_any S1 Hn xn yn nn hn q' (by rw [hsw]; exact hw1) hh1 (HIN1.out.below hq) z1 (by rw [hzl, hsc]; exact HC1.out) (fun z hz => vp_one (HV1.out z hz)) hn1 hh2 (by rw [hsw]; exact hx2) hy2
          rw [hsw, hsb, hso, hsc, hzl] at this
          exact this)
        obtain ⟨AA, hAA⟩ : ∃ AA, AA = pickP R3 p1 := ⟨_, rfl⟩
        have HCALL := hid (fun q' (hq : Below w.heap.size w q') b off cap (hz : ShIn q' ⟨nn, crTo S1 xn nn yn hn, b, off, cap⟩) => show Calls Tryz.prog 26 #[.agg #[.int .i64 (nn : Int), .int .i64 (hn : Int), .slice (some ⟨b, off, none⟩) (hn * nn) cap], .string N1] q' fun e w' => ∃ v', e = .returned (.tuple #[v', .bool R3]) ∧ PO q'.heap.size w' v' AA ∧ Below q'.heap.size q' w' from by
          have hbl := hz.blv (fun z hz' => (HVA.out z hz').below hq)
          rw [HPL.out] at hbl
          have hlen : (crTo S1 xn nn yn hn).length = (crP (xn : Int) (yn : Int) (nn : Int) (hn : Int) ⟨(Wp : Int), (Hn : Int), T1, N1, L1⟩).L.length := by
            show _ = (crL (Wp : Int).toNat L1 (xn : Int).toNat (nn : Int).toNat (yn : Int).toNat (hn : Int).toNat).length
            simp only [Int.toNat_natCast]
            rw [← HPL.out, List.length_map]
          rw [← HLN.out hn (Nat.le_refl _), hlen]
          refine (HPO.out (by first | rfl | trivial) HYES.out (some ⟨b, off, none⟩) cap ((crTo S1 xn nn yn hn).map (·.2)) q' (by
            show BLv q' (.slice (some ⟨b, off, none⟩) (crP (xn : Int) (yn : Int) (nn : Int) (hn : Int) ⟨(Wp : Int), (Hn : Int), T1, N1, L1⟩).L.length cap) (crL (Wp : Int).toNat L1 (xn : Int).toNat (nn : Int).toNat (yn : Int).toNat (hn : Int).toNat) _
            rw [← hlen]
            simp only [Int.toNat_natCast]
            exact hbl)).mono ?_
          rintro e w' ⟨v', rfl, h1, h2, hb⟩
          refine ⟨v', rfl, ?_, hb⟩
          rw [hAA]
          unfold pickP
          cases R3 with
          | true => exact h1 rfl
          | false =>
            rw [h2 rfl]
            exact zPO _ _ hb.size)
        have HAA := hid hAA
        clear hAA
        have HC1' := hid C1.out
        have HLT := hid (show w.heap.size + 1 < w1.heap.size by omega)
        have HK0 := hid (fun q' (hq : Below w1.heap.size w1 q') => (D0.out.below hq D0.out.lt).cells)
        have HK2 := hid (fun q' (hq : Below w1.heap.size w1 q') => (D2.out.below hq D2.out.lt))
        clear D0 D2 C1 hS1 z1 hzl HIN1 HV1 hsw hsb hso hsc HC1 HBL1 g1 g2 HIR HB1 HPO HVA HLN HPL HL1 q0 q1 q2 q3 q4 q5 q6 q7 hx2 hy2 hn1 hh2 hm1
        go_wp2_with fail
        refine wp_region_any (by kernel_rfl) ?_
        refine wpAny_inv (fun listed ac wq => ∃ u : Nat → Value, ac = { tmps := #[Value.agg #[Value.int IntKind.i64 (Wp : Int), Value.int IntKind.i64 (Hn : Int), Value.slice a0 T1.cs.length c0, Value.slice a1 T1.ss.length c1, Value.slice a2 T1.ct.length c2, Value.slice a3 T1.st.length c3, Value.string N1, Value.slice (some { block := pb, off := po }) L1.length cap], Value.int IntKind.i64 (xn : Int), Value.int IntKind.i64 (yn : Int), Value.int IntKind.i64 (nn : Int), Value.int IntKind.i64 (hn : Int), Value.pointer (some { block := w.heap.size, off := 0 }), undef, undef, undef, undef, Value.pointer (some { block := w.heap.size + 1, off := 0 }), u 11, Value.agg #[Value.int IntKind.i64 (Wp : Int), Value.int IntKind.i64 (Hn : Int), Value.slice a0 T1.cs.length c0, Value.slice a1 T1.ss.length c1, Value.slice a2 T1.ct.length c2, Value.slice a3 T1.st.length c3, Value.string N1, Value.slice (some { block := pb, off := po }) L1.length cap], Value.bool true, Value.bool false, Value.bool false, Value.int IntKind.i64 (xn : Int), Value.int IntKind.i64 (nn : Int), Value.pointer (some { block := w.heap.size, off := 0 }), Value.int IntKind.i64 (Wp : Int), Value.bool true, Value.bool false, Value.bool false, Value.bool false, Value.int IntKind.i64 (yn : Int), Value.int IntKind.i64 (hn : Int), Value.pointer (some { block := w.heap.size, off := 1 }), Value.int IntKind.i64 (Hn : Int), Value.bool true, Value.bool false, Value.bool false, undef, u 32, u 33, u 34, u 35, u 36, u 37, u 38, u 39, u 40, u 41, u 42, u 43], defers := [] } ∧ Inv2 12 (VK (.agg #[.int .i64 (Wp : Int), .int .i64 (Hn : Int), .slice a0 T1.cs.length c0, .slice a1 T1.ss.length c1, .slice a2 T1.ct.length c2, .slice a3 T1.st.length c3, .string N1, .slice (some ⟨pb, po, none⟩) L1.length cap]) (.agg #[.int .i64 (Wp : Int), .int .i64 (Hn : Int), .slice (some ⟨pb, po, none⟩) L1.length cap]) (.pointer (some ⟨w.heap.size, 6, none⟩)) N1 (xn : Int) (yn : Int) (nn : Int) (hn : Int) nn (hn * nn) (crTo S1 xn nn yn hn) w1.heap.size AA R3) DK (fun q => Below w1.heap.size w1 q) (fun _ => True) (fun listed u q => (∃ y0 y1 y2 y3 y4 y5 y6 y7, PO w1.heap.size q (.agg #[y0, y1, y2, y3, y4, y5, y6, y7]) AA ∧ Eig q (w.heap.size + 1) y0 y1 y2 y3 y4 y5 y6 y7 36 ∧ Below w.heap.size w1 q) ∧ u 43 = .bool R3 ∧ (listed.getD 13 false = true → u 11 = .bool R3)) listed u wq) ?hpre ?hstep ?hend _ _ _ _ rfl (by decide) (fun j oj _ hl => absurd hl (by simp [Array.getD])) ⟨upd (fun _ => undef) 11 (.bool false), by simp [upd], fun _ => ⟨(Below.refl _ _).drew, trivial, fun j _ hl => absurd hl (by simp [Array.getD])⟩, fun h => absurd h (by simp [Array.getD])⟩
        case hpre => exact pre_of (by kernel_rfl)
        case hend =>
          rintro listed ac wq hall ⟨u, rfl, hI⟩
          obtain ⟨⟨y0, y1, y2, y3, y4, y5, y6, y7, hpo, he, hb⟩, _, h5⟩ := hI.2 (hall 12 (by decide))
          have h5' := h5 (hall 13 (by decide))
          have HPO' := hid hpo
          have BZ := hid (HC1'.out.trans hb)
          obtain ⟨s0, s1, s2, s3, s4, s5, s6, s7⟩ := he.cells
          clear hI h5 hpo he hb
          have PZ := hid (HPO'.out.low HC1'.out.size)
          rw [HAA.out, HPE.out] at PZ
          go_wp2_with fail
          exact bodyPost_ret (v := .tuple #[.agg #[y0, y1, y2, y3, y4, y5, y6, y7], .bool R3]) (by simp [results, Tryz.results9, go_sem, s0, s1, s2, s3, s4, s5, s6, s7, h5']) rfl ⟨_, by rw [← HIE.out, HYES.out]; rfl, by rw [← HIE.out, HYES.out]; exact PZ.out, BZ.out⟩
        case hstep =>
          rintro listed ac wq i oo hszl ⟨u, rfl, hI⟩ ho hall hun hcl
          have hin : i < 14 := (Array.getElem?_eq_some_iff.1 ho).1
          have HNS : Hid (i < 12 → listed.getD 12 false = false) := hid (fun hi => by
            cases hl : listed.getD 12 false with
            | false => rfl
            | true =>
              exfalso
              obtain rfl | rfl | rfl | rfl | rfl | rfl | rfl | rfl | rfl | rfl | rfl | rfl : i = 0 ∨ i = 1 ∨ i = 2 ∨ i = 3 ∨ i = 4 ∨ i = 5 ∨ i = 6 ∨ i = 7 ∨ i = 8 ∨ i = 9 ∨ i = 10 ∨ i = 11 := by omega
              · exact getD_ft (hcl 12 _ rfl hl ⟨0, .phase⟩ (by simp) rfl) hun
              · exact getD_ft (hcl 12 _ rfl hl ⟨1, .phase⟩ (by simp) rfl) hun
              · exact getD_ft (hcl 12 _ rfl hl ⟨2, .phase⟩ (by simp) rfl) hun
              · exact getD_ft (hcl 12 _ rfl hl ⟨3, .phase⟩ (by simp) rfl) hun
              · exact getD_ft (hcl 12 _ rfl hl ⟨4, .phase⟩ (by simp) rfl) hun
              · exact getD_ft (hcl 12 _ rfl hl ⟨5, .phase⟩ (by simp) rfl) hun
              · exact getD_ft (hcl 12 _ rfl hl ⟨6, .phase⟩ (by simp) rfl) hun
              · exact getD_ft (hcl 12 _ rfl hl ⟨7, .phase⟩ (by simp) rfl) hun
              · exact getD_ft (hcl 12 _ rfl hl ⟨8, .phase⟩ (by simp) rfl) hun
              · exact getD_ft (hcl 12 _ rfl hl ⟨9, .phase⟩ (by simp) rfl) hun
              · exact getD_ft (hcl 12 _ rfl hl ⟨10, .phase⟩ (by simp) rfl) hun
              · exact getD_ft (hcl 12 _ rfl hl ⟨11, .phase⟩ (by simp) rfl) hun)
          have ST : Hid (listed.getD 12 false = false → Facts 12 (VK (.agg #[.int .i64 (Wp : Int), .int .i64 (Hn : Int), .slice a0 T1.cs.length c0, .slice a1 T1.ss.length c1, .slice a2 T1.ct.length c2, .slice a3 T1.st.length c3, .string N1, .slice (some ⟨pb, po, none⟩) L1.length cap]) (.agg #[.int .i64 (Wp : Int), .int .i64 (Hn : Int), .slice (some ⟨pb, po, none⟩) L1.length cap]) (.pointer (some ⟨w.heap.size, 6, none⟩)) N1 (xn : Int) (yn : Int) (nn : Int) (hn : Int) nn (hn * nn) (crTo S1 xn nn yn hn) w1.heap.size AA R3) DK listed u wq → i < 12 → ∀ (wz : World) (v : Value), Below wq.heap.size wq wz → (VK (.agg #[.int .i64 (Wp : Int), .int .i64 (Hn : Int), .slice a0 T1.cs.length c0, .slice a1 T1.ss.length c1, .slice a2 T1.ct.length c2, .slice a3 T1.st.length c3, .string N1, .slice (some ⟨pb, po, none⟩) L1.length cap]) (.agg #[.int .i64 (Wp : Int), .int .i64 (Hn : Int), .slice (some ⟨pb, po, none⟩) L1.length cap]) (.pointer (some ⟨w.heap.size, 6, none⟩)) N1 (xn : Int) (yn : Int) (nn : Int) (hn : Int) nn (hn * nn) (crTo S1 xn nn yn hn) w1.heap.size AA R3) i v wz → Inv2 12 (VK (.agg #[.int .i64 (Wp : Int), .int .i64 (Hn : Int), .slice a0 T1.cs.length c0, .slice a1 T1.ss.length c1, .slice a2 T1.ct.length c2, .slice a3 T1.st.length c3, .string N1, .slice (some ⟨pb, po, none⟩) L1.length cap]) (.agg #[.int .i64 (Wp : Int), .int .i64 (Hn : Int), .slice (some ⟨pb, po, none⟩) L1.length cap]) (.pointer (some ⟨w.heap.size, 6, none⟩)) N1 (xn : Int) (yn : Int) (nn : Int) (hn : Int) nn (hn * nn) (crTo S1 xn nn yn hn) w1.heap.size AA R3) DK (fun q => Below w1.heap.size w1 q) (fun _ => True) (fun listed u q => (∃ y0 y1 y2 y3 y4 y5 y6 y7, PO w1.heap.size q (.agg #[y0, y1, y2, y3, y4, y5, y6, y7]) AA ∧ Eig q (w.heap.size + 1) y0 y1 y2 y3 y4 y5 y6 y7 36 ∧ Below w.heap.size w1 q) ∧ u 43 = .bool R3 ∧ (listed.getD 13 false = true → u 11 = .bool R3)) (listed.setIfInBounds i true) (upd u (DK i) v) wz) := hid (fun h1 h2 hi wz v hbz hv => Inv2.step i v h1 h2 hi ((hI.1 h1).1.trans (hbz.mono (hI.1 h1).1.size)) trivial (fun j hj hne => by unfold DK; omega) (fun j x hj h => VK.below hbz j x h) hv)
          obtain rfl | rfl | rfl | rfl | rfl | rfl | rfl | rfl | rfl | rfl | rfl | rfl | rfl | rfl : i = 0 ∨ i = 1 ∨ i = 2 ∨ i = 3 ∨ i = 4 ∨ i = 5 ∨ i = 6 ∨ i = 7 ∨ i = 8 ∨ i = 9 ∨ i = 10 ∨ i = 11 ∨ i = 12 ∨ i = 13 := by omega
          · cases ho
            have hns := HNS.out (by decide)
            obtain ⟨hb, hX, hF⟩ := hI.1 hns
            obtain ⟨g0, g1, g2, g3, g4, g5, g6, g7⟩ := HK0.out _ hb
            refine wpOp_step rfl (fun K hK => ?_)
            go_simp
            refine hK _ _ ⟨upd u 32 (.agg #[.int .i64 (Wp : Int), .int .i64 (Hn : Int), .slice a0 T1.cs.length c0, .slice a1 T1.ss.length c1, .slice a2 T1.ct.length c2, .slice a3 T1.st.length c3, .string N1, .slice (some ⟨pb, po, none⟩) L1.length cap]), ?_, ST.out hns hF (by decide) _ _ (Below.refl _ _) (rfl)⟩
            simp [upd]
          · cases ho
            have hns := HNS.out (by decide)
            obtain ⟨hb, hX, hF⟩ := hI.1 hns
            have f0 : u 32 = .agg #[.int .i64 (Wp : Int), .int .i64 (Hn : Int), .slice a0 T1.cs.length c0, .slice a1 T1.ss.length c1, .slice a2 T1.ct.length c2, .slice a3 T1.st.length c3, .string N1, .slice (some ⟨pb, po, none⟩) L1.length cap] := hF 0 (by decide) (hall ⟨0, .data⟩ (by simp) rfl)
            refine wpOp_step rfl (fun K hK => ?_)
            simp only [f0]
            go_simp
            refine (sheetOf_any (Wp : Int) (Hn : Int) _ _ _ _ N1 (some ⟨pb, po, none⟩) L1.length cap wq ⟨_, _, _, rfl⟩ ⟨_, _, _, rfl⟩ ⟨_, _, _, rfl⟩ ⟨_, _, _, rfl⟩).mono ?_
            rintro e w3 ⟨rfl, hb3⟩
            refine hK _ _ ⟨upd u 33 (.agg #[.int .i64 (Wp : Int), .int .i64 (Hn : Int), .slice (some ⟨pb, po, none⟩) L1.length cap]), ?_, ST.out hns hF (by decide) w3 _ hb3 (rfl)⟩
            simp [upd, f0]
          · cases ho
            have hns := HNS.out (by decide)
            obtain ⟨hb, hX, hF⟩ := hI.1 hns
            refine wpOp_step rfl (fun K hK => ?_)
            go_simp
            refine hK _ _ ⟨upd u 34 (.int .i64 (xn : Int)), ?_, ST.out hns hF (by decide) _ _ (Below.refl _ _) (rfl)⟩
            simp [upd]
          · cases ho
            have hns := HNS.out (by decide)
            obtain ⟨hb, hX, hF⟩ := hI.1 hns
            refine wpOp_step rfl (fun K hK => ?_)
            go_simp
            refine hK _ _ ⟨upd u 35 (.int .i64 (yn : Int)), ?_, ST.out hns hF (by decide) _ _ (Below.refl _ _) (rfl)⟩
            simp [upd]
          · cases ho
            have hns := HNS.out (by decide)
            obtain ⟨hb, hX, hF⟩ := hI.1 hns
            refine wpOp_step rfl (fun K hK => ?_)
            go_simp
            refine hK _ _ ⟨upd u 36 (.int .i64 (nn : Int)), ?_, ST.out hns hF (by decide) _ _ (Below.refl _ _) (rfl)⟩
            simp [upd]
          · cases ho
            have hns := HNS.out (by decide)
            obtain ⟨hb, hX, hF⟩ := hI.1 hns
            refine wpOp_step rfl (fun K hK => ?_)
            go_simp
            refine hK _ _ ⟨upd u 37 (.int .i64 (hn : Int)), ?_, ST.out hns hF (by decide) _ _ (Below.refl _ _) (rfl)⟩
            simp [upd]
          · cases ho
            have hns := HNS.out (by decide)
            obtain ⟨hb, hX, hF⟩ := hI.1 hns
            have f1 : u 33 = .agg #[.int .i64 (Wp : Int), .int .i64 (Hn : Int), .slice (some ⟨pb, po, none⟩) L1.length cap] := hF 1 (by decide) (hall ⟨1, .data⟩ (by simp) rfl)
            have f2 : u 34 = .int .i64 (xn : Int) := hF 2 (by decide) (hall ⟨2, .data⟩ (by simp) rfl)
            have f3 : u 35 = .int .i64 (yn : Int) := hF 3 (by decide) (hall ⟨3, .data⟩ (by simp) rfl)
            have f4 : u 36 = .int .i64 (nn : Int) := hF 4 (by decide) (hall ⟨4, .data⟩ (by simp) rfl)
            have f5 : u 37 = .int .i64 (hn : Int) := hF 5 (by decide) (hall ⟨5, .data⟩ (by simp) rfl)
            have hwq : Below w.heap.size w wq := HC1'.out.trans (hb.mono HC1'.out.size)
            refine wpOp_step rfl (fun K hK => ?_)
            simp only [f1, f2, f3, f4, f5]
            go_simp
            refine (HCUT.out wq hwq).mono ?_
            rintro e w3 ⟨b, off, cp, rfl, hz, hb3⟩
            refine hK _ _ ⟨upd u 38 (.agg #[.int .i64 (nn : Int), .int .i64 (hn : Int), .slice (some ⟨b, off, none⟩) (hn * nn) cp]), ?_, ST.out hns hF (by decide) w3 _ hb3 (⟨b, off, cp, rfl, hz⟩)⟩
            simp [upd, f1, f2, f3, f4, f5]
          · cases ho
            have hns := HNS.out (by decide)
            obtain ⟨hb, hX, hF⟩ := hI.1 hns
            refine wpOp_step rfl (fun K hK => ?_)
            go_simp
            refine hK _ _ ⟨upd u 39 (.pointer (some ⟨w.heap.size, 6, none⟩)), ?_, ST.out hns hF (by decide) _ _ (Below.refl _ _) (rfl)⟩
            simp [upd]
          · cases ho
            have hns := HNS.out (by decide)
            obtain ⟨hb, hX, hF⟩ := hI.1 hns
            have f7 : u 39 = .pointer (some ⟨w.heap.size, 6, none⟩) := hF 7 (by decide) (hall ⟨7, .data⟩ (by simp) rfl)
            obtain ⟨g0, g1, g2, g3, g4, g5, g6, g7⟩ := HK0.out _ hb
            refine wpOp_step rfl (fun K hK => ?_)
            simp only [f7]
            go_simp
            refine hK _ _ ⟨upd u 40 (.string N1), ?_, ST.out hns hF (by decide) _ _ (Below.refl _ _) (rfl)⟩
            simp [upd, f7]
          · cases ho
            have hns := HNS.out (by decide)
            obtain ⟨hb, hX, hF⟩ := hI.1 hns
            obtain ⟨b, off, cp, f6, sh6⟩ : ∃ b off cp, u 38 = .agg #[.int .i64 (nn : Int), .int .i64 (hn : Int), .slice (some ⟨b, off, none⟩) (hn * nn) cp] ∧ ShIn wq ⟨nn, crTo S1 xn nn yn hn, b, off, cp⟩ := hF 6 (by decide) (hall ⟨6, .data⟩ (by simp) rfl)
            have f8 : u 40 = .string N1 := hF 8 (by decide) (hall ⟨8, .data⟩ (by simp) rfl)
            have hwq : Below w.heap.size w wq := HC1'.out.trans (hb.mono HC1'.out.size)
            have HCC := hid (HCALL.out wq hwq b off cp sh6)
            refine wpOp_step rfl (fun K hK => ?_)
            simp only [f6, f8]
            go_simp
            refine HCC.out.mono ?_
            rintro e w3 ⟨vz, rfl, hz, hb3⟩
            refine hK _ _ ⟨upd u 41 (.tuple #[vz, .bool R3]), ?_, ST.out hns hF (by decide) w3 _ hb3 (⟨vz, rfl, hz.low hb.size⟩)⟩
            simp [upd, f6, f8]
          · cases ho
            have hns := HNS.out (by decide)
            obtain ⟨hb, hX, hF⟩ := hI.1 hns
            obtain ⟨vz, f9, po9⟩ : ∃ v, u 41 = .tuple #[v, .bool R3] ∧ PO w1.heap.size wq v AA := hF 9 (by decide) (hall ⟨9, .data⟩ (by simp) rfl)
            refine wpOp_step rfl (fun K hK => ?_)
            simp only [f9]
            go_simp
            refine hK _ _ ⟨upd u 42 (vz), ?_, ST.out hns hF (by decide) _ _ (Below.refl _ _) (po9)⟩
            simp [upd, f9]
          · cases ho
            have hns := HNS.out (by decide)
            obtain ⟨hb, hX, hF⟩ := hI.1 hns
            obtain ⟨vz, f9, po9⟩ : ∃ v, u 41 = .tuple #[v, .bool R3] ∧ PO w1.heap.size wq v AA := hF 9 (by decide) (hall ⟨9, .data⟩ (by simp) rfl)
            refine wpOp_step rfl (fun K hK => ?_)
            simp only [f9]
            go_simp
            refine hK _ _ ⟨upd u 43 (.bool R3), ?_, ST.out hns hF (by decide) _ _ (Below.refl _ _) (rfl)⟩
            simp [upd, f9]
          · cases ho
            have hns : listed.getD 12 false = false := by
              cases h : listed.getD 12 false with
              | false => rfl
              | true => exact absurd hun (fun h' => getD_ft h h')
            obtain ⟨hb, hX, hF⟩ := hI.1 hns
            have po9 : PO w1.heap.size wq (u 42) AA := hF 10 (by decide) (hall ⟨10, .data⟩ (by simp) rfl)
            obtain ⟨x0, d0, x1, d1, x2, d2, x3, d3, x4, d4, hy, _, _⟩ := po9.pq.pv
            have F10 := hid (show u 43 = .bool R3 from hF 11 (by decide) (hall ⟨11, .phase⟩ (by simp) rfl))
            have EQ := HK2.out _ hb
            have PZ := hid (po9.set8 (show w.heap.size + 1 < w1.heap.size from HLT.out) (.int .i64 AA.W) (.int .i64 AA.H) (.slice x0 AA.T.cs.length d0) (.slice x1 AA.T.ss.length d1) (.slice x2 AA.T.ct.length d2) (.slice x3 AA.T.st.length d3) (.string AA.N) (.slice x4 AA.L.length d4))
            rw [hy] at PZ
            have EZ := hid (EQ.set8 (.int .i64 AA.W) (.int .i64 AA.H) (.slice x0 AA.T.cs.length d0) (.slice x1 AA.T.ss.length d1) (.slice x2 AA.T.ct.length d2) (.slice x3 AA.T.st.length d3) (.string AA.N) (.slice x4 AA.L.length d4))
            have BZ := hid (below8 (hb.mono HC1'.out.size) (show w.heap.size ≤ w.heap.size + 1 by omega) (.int .i64 AA.W) (.int .i64 AA.H) (.slice x0 AA.T.cs.length d0) (.slice x1 AA.T.ss.length d1) (.slice x2 AA.T.ct.length d2) (.slice x3 AA.T.st.length d3) (.string AA.N) (.slice x4 AA.L.length d4))
            obtain ⟨s0, s1, s2, s3, s4, s5, s6, s7⟩ := EQ.cells
            have fz := EQ.free
            clear EQ po9
            refine wpOp_step rfl (fun K hK => ?_)
            simp only [hy]
            go_simp
            refine hK _ _ ⟨u, ?_, fun h => ?_, fun _ => ⟨⟨_, _, _, _, _, _, _, _, PZ.out, EZ.out, BZ.out⟩, F10.out, fun h => ?_⟩⟩
            · simp [hy]
            · exfalso
              rw [show (listed.setIfInBounds 12 true).getD 12 false = true by simp [Array.getD, hszl]] at h
              cases h
            · exfalso
              rw [getD_set_ne false (by decide)] at h
              exact getD_ft (hcl 13 _ rfl h ⟨12, .chain⟩ (by simp) rfl) hun
          · cases ho
            have h11 : listed.getD 12 false = true := hall ⟨12, .chain⟩ (by simp) rfl
            obtain ⟨hY, h32, _⟩ := hI.2 h11
            have HY := hid hY
            clear hY
            refine wpOp_step rfl (fun K hK => ?_)
            simp only [h32]
            go_simp
            refine hK _ _ ⟨upd u 11 (.bool R3), ?_, fun h => ?_, fun _ => ⟨HY.out, by simpa [upd] using h32, fun _ => by simp [upd]⟩⟩
            · simp [upd, h32]
            · rw [getD_set_ne false (by decide), h11] at h
              cases h
      · rw [decide_eq_false g2]
        clear q0 q1 q2 q3 q4 q5 q6 q7
        have HNO : Hid (IR = false) := hid (by rw [HIR.out]; exact decide_eq_false (by omega))
        have EZ := hid (D2.out.set8 (.int .i64 0) (.int .i64 0) (.slice none 0 0) (.slice none 0 0) (.slice none 0 0) (.slice none 0 0) (.string ⟨#[]⟩) (.slice none 0 0)).cells
        have BZ := hid (below8 C1.out (show w.heap.size ≤ w.heap.size + 1 by omega) (.int .i64 0) (.int .i64 0) (.slice none 0 0) (.slice none 0 0) (.slice none 0 0) (.slice none 0 0) (.string ⟨#[]⟩) (.slice none 0 0))
        obtain ⟨s0, s1, s2, s3, s4, s5, s6, s7⟩ := D2.out.cells
        have fz := D2.out.free
        go_wp2_with fail
        generalize ((((((((w1.setCell ⟨w.heap.size + 1, 0, none⟩ (.int .i64 0)).setCell ⟨w.heap.size + 1, 1, none⟩ (.int .i64 0)).setCell ⟨w.heap.size + 1, 2, none⟩ (.slice none 0 0)).setCell ⟨w.heap.size + 1, 3, none⟩ (.slice none 0 0)).setCell ⟨w.heap.size + 1, 4, none⟩ (.slice none 0 0)).setCell ⟨w.heap.size + 1, 5, none⟩ (.slice none 0 0)).setCell ⟨w.heap.size + 1, 6, none⟩ (.string ⟨#[]⟩)).setCell ⟨w.heap.size + 1, 7, none⟩ (.slice none 0 0)) = wf at *
        clear s0 s1 s2 s3 s4 s5 s6 s7
        obtain ⟨s0, s1, s2, s3, s4, s5, s6, s7⟩ := EZ.out
        exact bodyPost_ret (v := .tuple #[.agg #[.int .i64 0, .int .i64 0, .slice none 0 0, .slice none 0 0, .slice none 0 0, .slice none 0 0, .string ⟨#[]⟩, .slice none 0 0], .bool false]) (by simp [results, Tryz.results9, go_sem, s0, s1, s2, s3, s4, s5, s6, s7]) rfl ⟨_, by rw [← HIE.out, HNO.out]; rfl, by rw [← HIE.out, HNO.out]; exact zPO _ _ BZ.out.size, BZ.out⟩
    · rw [decide_eq_false g1]
      clear q0 q1 q2 q3 q4 q5 q6 q7
      have HNO : Hid (IR = false) := hid (by rw [HIR.out]; exact decide_eq_false (by omega))
      have EZ := hid (D2.out.set8 (.int .i64 0) (.int .i64 0) (.slice none 0 0) (.slice none 0 0) (.slice none 0 0) (.slice none 0 0) (.string ⟨#[]⟩) (.slice none 0 0)).cells
      have BZ := hid (below8 C1.out (show w.heap.size ≤ w.heap.size + 1 by omega) (.int .i64 0) (.int .i64 0) (.slice none 0 0) (.slice none 0 0) (.slice none 0 0) (.slice none 0 0) (.string ⟨#[]⟩) (.slice none 0 0))
      obtain ⟨s0, s1, s2, s3, s4, s5, s6, s7⟩ := D2.out.cells
      have fz := D2.out.free
      go_wp2_with fail
      generalize ((((((((w1.setCell ⟨w.heap.size + 1, 0, none⟩ (.int .i64 0)).setCell ⟨w.heap.size + 1, 1, none⟩ (.int .i64 0)).setCell ⟨w.heap.size + 1, 2, none⟩ (.slice none 0 0)).setCell ⟨w.heap.size + 1, 3, none⟩ (.slice none 0 0)).setCell ⟨w.heap.size + 1, 4, none⟩ (.slice none 0 0)).setCell ⟨w.heap.size + 1, 5, none⟩ (.slice none 0 0)).setCell ⟨w.heap.size + 1, 6, none⟩ (.string ⟨#[]⟩)).setCell ⟨w.heap.size + 1, 7, none⟩ (.slice none 0 0)) = wf at *
      clear s0 s1 s2 s3 s4 s5 s6 s7
      obtain ⟨s0, s1, s2, s3, s4, s5, s6, s7⟩ := EZ.out
      exact bodyPost_ret (v := .tuple #[.agg #[.int .i64 0, .int .i64 0, .slice none 0 0, .slice none 0 0, .slice none 0 0, .slice none 0 0, .string ⟨#[]⟩, .slice none 0 0], .bool false]) (by simp [results, Tryz.results9, go_sem, s0, s1, s2, s3, s4, s5, s6, s7]) rfl ⟨_, by rw [← HIE.out, HNO.out]; rfl, by rw [← HIE.out, HNO.out]; exact zPO _ _ BZ.out.size, BZ.out⟩

theorem impl_cr (v : Value) (p : Pk) (vs1 : List Value) (x y n h : Int) (w : World) (hf : p.Fits) (hv1 : PVq w v p vs1) (hc1 : CapV v) (hpv1 : PV w v p) :
    Calls Tryz.prog 9 #[v, .int .i64 x, .int .i64 y, .int .i64 n, .int .i64 h] w fun e w' => ∃ v', e = .returned (.tuple #[v', .bool (crB x y n h p)]) ∧ PO w.heap.size w' v' (crA x y n h p) ∧ Below w.heap.size w w' :=
  impl_crop v p vs1 x y n h w hv1 hc1 hpv1 (okB p) (okB (plI (crP x y n h p))) (fun q' v => impl_okB p hf q' v) ok_bounds (crP_fits x y n h p hf) (fun h => by have := okB_freq h; rwa [plI_L] at this) (fun h1 h2 q' v => impl_okB _ (plI_fits _ (crP_fits x y n h p hf h1 h2)) q' v)
end Go.Proofs.YtnnakmgngkpghaaGreat
