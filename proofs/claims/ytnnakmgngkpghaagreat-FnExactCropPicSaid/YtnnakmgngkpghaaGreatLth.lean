/- ThinPic of the specification. -/
import Derived.Test.YtnnakmgngkpghaaGreatLmd
import Derived.Test.YtnnakmgngkpghaaGreatThi
import Derived.Test.YtnnakmgngkpghaaGreatOkp
namespace Go.Proofs.YtnnakmgngkpghaaGreat
open Go.RowKit Go.Maps
set_option linter.unusedVariables false

theorem OwnK.blv {w : World} {base : Nat} {ao : Option Addr} {n cap : Nat} {S : List (Int × List Int)} {vs : List Value} (h : OwnK w base (.slice ao n cap) S vs) : n = S.length ∧ BLv w (.slice ao S.length cap) S vs := by
  obtain ⟨h1, h2, h3, h4, h5⟩ := h
  rcases h3.2 with ⟨e, h0⟩ | ⟨g, c, cur, e, hg, hh, hle, hmx, hsz, htk⟩
  · injection e with e1 e2 e3
    have : S = [] := List.length_eq_zero_iff.1 h0
    subst this e1 e2 e3
    exact ⟨rfl, h2, fun j hj => (h4 j hj).vp, .inl ⟨rfl, rfl⟩⟩
  · injection e with e1 e2 e3
    subst e1 e2 e3
    refine ⟨rfl, h2, fun j hj => (h4 j hj).vp, .inr ⟨g, 0, _, rfl, fun j u hu => ?_⟩⟩
    rw [cell_of_row w g (0 + j) _ 65 (0, 0) hh]
    rw [← htk, List.getElem?_take] at hu
    split at hu
    · simpa using hu
    · cases hu

def lenOfV : Value → Nat
  | .slice _ n _ => n
  | _ => 0
theorem wpList_app_run {P : Program} {ops : Array Oper} {rest : List Oper} {o : Oper} {a : Act} {w : World} {Q : Exit → Act → World → Prop} (hgd : o.guard = none) (s x : Operand) (t : TypeId) (ho : o.op = .call { callee := .builtin .append, args := #[s, x], argTypes := #[t, t] }) (vs vx : Value) (hs : a.eval s = vs) (hx : a.eval x = vx) (v' : Value) (w' : World)
    (hrun : (Builtin.append_ #[t, t] o.type #[vs, vx]).run P w = .ok v' w') (h : wpList P ops Q rest (a.put o.dst v') w') : wpList P ops Q (o :: rest) a w :=
  wpList_plain hgd fun _ hK => wp_app_run s x t ho vs vx hs hx v' w' hrun (hK _ _ h)

set_option maxRecDepth 100000 in
set_option maxHeartbeats 3200000 in
theorem spec_thin (v : Value) (p : Pk) (vs0 : List Value) (x : Int) (w : World) (hf : p.Fits) (hv : PVq w v p vs0) (hcp : Cap p.L vs0) (R1 R2 : Bool)
    (hs1 : ∀ q v, PV q v p → Calls Tryz.prog 19 #[v] q fun e w' => e = .returned (.bool R1) ∧ Below q.heap.size q w') (h63 : R1 = true → ∀ j, j < p.L.length → (nth p.L j).2.length = 63)
    (hpv : PV w v p)
    (hs2 : R1 = true → 0 ≤ x ∧ x ≤ 63 → ∀ q v, PV q v (plS (thP x.toNat p)) → Calls Tryz.prog 19 #[v] q fun e w' => e = .returned (.bool R2) ∧ Below q.heap.size q w') :
    Calls Tryz.prog 15 #[v, .int .i64 x] w fun e w' => ∃ v', e = .returned (.tuple #[v', .bool (R1 && (decide (0 ≤ x ∧ x ≤ 63) && R2))]) ∧ ((R1 && (decide (0 ≤ x ∧ x ≤ 63) && R2)) = true → PQ w.heap.size w' v' (plS (thP x.toNat p))) ∧ ((R1 && (decide (0 ≤ x ∧ x ≤ 63) && R2)) = false → v' = zPic) ∧ Below w.heap.size w w' := by
  have HPV := hid hpv
  obtain ⟨t0, t1, t2, t3, bv, rfl, u0, u1, u2, u3, ub⟩ := hv
  obtain ⟨a0, c0, rfl, _, _⟩ := u0
  obtain ⟨a1, c1, rfl, _, _⟩ := u1
  obtain ⟨a2, c2, rfl, _, _⟩ := u2
  obtain ⟨a3, c3, rfl, _, _⟩ := u3
  obtain ⟨ao, cap, rfl⟩ : ∃ ao cap, bv = .slice ao p.L.length cap := by
    rcases ub.2.2 with ⟨rfl, h⟩ | ⟨b, off, c, rfl, _⟩
    · exact ⟨none, 0, by rw [h]; rfl⟩
    · exact ⟨_, _, rfl⟩
  have HBL := hid ub
  have HPO := hid (fun (h63' : ∀ j, j < p.L.length → (nth p.L j).2.length = 63) (hx : x.toNat ≤ 63) (hs2' : ∀ q v, PV q v (plS (thP x.toNat p)) → Calls Tryz.prog 19 #[v] q fun e w' => e = .returned (.bool R2) ∧ Below q.heap.size q w') (ao : Option Addr) (cap : Nat) vs0 q (hq : BLv q (.slice ao (thP x.toNat p).L.length cap) (thP x.toNat p).L vs0) => spec_made (thP x.toNat p) rfl ao cap vs0 q ⟨Nat.zero_le _, Nat.zero_le _, Nat.zero_le _, Nat.zero_le _, hf.hN, by rw [show (thP x.toNat p).L = thL x.toNat p.L from rfl, thL_len]; exact hf.hn, fun j hj => by
    rw [show (thP x.toNat p).L = thL x.toNat p.L from rfl] at hj ⊢
    rw [thL_len] at hj
    rw [thL_nth _ _ _ hj]
    show (thR x.toNat (nth p.L j).2).length ≤ 1048576
    rw [thR_len _ _ (h63' j hj) hx]
    decide⟩ hq R2 hs2')
  obtain ⟨p1, hp1⟩ : ∃ p1, p1 = plS (thP x.toNat p) := ⟨_, rfl⟩
  have HS2 := hid hs2
  rw [← hp1] at HPO HS2
  have HPE := hid hp1
  have H63 := hid h63
  have HCP := hid hcp
  have HFN := hid hf.hn
  have HS := hid (fun q (hq : Below w.heap.size w q) => hs1 q _ (HPV.out.below hq))
  clear hs1 hs2 hp1 h63 hcp ub hf hpv
  obtain ⟨W, H, T, N, L⟩ := p
  simp only at *
  have hA1 := (Below.refl w.heap.size w).alloc (Nat.le_refl _) (.cells #[.int .i64 W, .int .i64 H, .slice a0 T.cs.length c0, .slice a1 T.ss.length c1, .slice a2 T.ct.length c2, .slice a3 T.st.length c3, .string N, .slice ao L.length cap] 36)
  have hA := hA1.alloc (by simp) (.cells #[.int .i64 0, .int .i64 0, .slice none 0 0, .slice none 0 0, .slice none 0 0, .slice none 0 0, .string ⟨#[]⟩, .slice none 0 0] 36)
  have hs1 : (w.alloc (.cells #[.int .i64 W, .int .i64 H, .slice a0 T.cs.length c0, .slice a1 T.ss.length c1, .slice a2 T.ct.length c2, .slice a3 T.st.length c3, .string N, .slice ao L.length cap] 36)).heap.size = w.heap.size + 1 := by simp
  have k0 := Eig.new w (.int .i64 W) (.int .i64 H) (.slice a0 T.cs.length c0) (.slice a1 T.ss.length c1) (.slice a2 T.ct.length c2) (.slice a3 T.st.length c3) (.string N) (.slice ao L.length cap) 36
  have k0' := (k0.below ((Below.refl _ _).alloc (Nat.le_refl _) (.cells #[.int .i64 0, .int .i64 0, .slice none 0 0, .slice none 0 0, .slice none 0 0, .slice none 0 0, .string ⟨#[]⟩, .slice none 0 0] 36)) k0.lt)
  have k2 := Eig.new (w.alloc (.cells #[.int .i64 W, .int .i64 H, .slice a0 T.cs.length c0, .slice a1 T.ss.length c1, .slice a2 T.ct.length c2, .slice a3 T.st.length c3, .string N, .slice ao L.length cap] 36)) (.int .i64 0) (.int .i64 0) (.slice none 0 0) (.slice none 0 0) (.slice none 0 0) (.slice none 0 0) (.string ⟨#[]⟩) (.slice none 0 0) 36
  rw [hs1] at k2
  have E0 := hid k0'
  have E2 := hid k2
  have B2 := hid hA
  clear hA hA1 k0 k0' k2 hs1
  go_enter Tryz.func15, Tryz.ntmps15
  go_wp2_with (first | (go_at_call 19; fail) | fail)
  refine (HS.out _ B2.out).mono ?_
  generalize (w.alloc _).alloc _ = wa at *
  rintro e w1 ⟨rfl, hb1⟩
  have h12 : w.heap.size + 1 < wa.heap.size := E2.out.lt
  have hne : w.heap.size + 1 ≠ w.heap.size := by omega
  have hlt2 := B2.out.size
  have D0 := hid (E0.out.below hb1 E0.out.lt)
  have D2 := hid (E2.out.below hb1 E2.out.lt)
  have C1 := hid (B2.out.trans (hb1.mono hlt2))
  have Q1 := hid (HBL.out.below C1.out)
  have hsz1 : wa.heap.size ≤ w1.heap.size := hb1.size
  clear hb1 E0 E2 B2 HS
  cases R1 with
  | false =>
    have EZ := hid (D2.out.set8 (.int .i64 0) (.int .i64 0) (.slice none 0 0) (.slice none 0 0) (.slice none 0 0) (.slice none 0 0) (.string ⟨#[]⟩) (.slice none 0 0)).cells
    have BZ := hid (below8 C1.out (show w.heap.size ≤ w.heap.size + 1 by omega) (.int .i64 0) (.int .i64 0) (.slice none 0 0) (.slice none 0 0) (.slice none 0 0) (.slice none 0 0) (.string ⟨#[]⟩) (.slice none 0 0))
    obtain ⟨s0, s1, s2, s3, s4, s5, s6, s7⟩ := D2.out.cells
    have fz := D2.out.free
    go_wp2_with fail
    generalize ((((((((w1.setCell ⟨w.heap.size + 1, 0, none⟩ (.int .i64 0)).setCell ⟨w.heap.size + 1, 1, none⟩ (.int .i64 0)).setCell ⟨w.heap.size + 1, 2, none⟩ (.slice none 0 0)).setCell ⟨w.heap.size + 1, 3, none⟩ (.slice none 0 0)).setCell ⟨w.heap.size + 1, 4, none⟩ (.slice none 0 0)).setCell ⟨w.heap.size + 1, 5, none⟩ (.slice none 0 0)).setCell ⟨w.heap.size + 1, 6, none⟩ (.string ⟨#[]⟩)).setCell ⟨w.heap.size + 1, 7, none⟩ (.slice none 0 0)) = wf at *
    clear s0 s1 s2 s3 s4 s5 s6 s7
    obtain ⟨s0, s1, s2, s3, s4, s5, s6, s7⟩ := EZ.out
    exact bodyPost_ret (v := .tuple #[.agg #[.int .i64 0, .int .i64 0, .slice none 0 0, .slice none 0 0, .slice none 0 0, .slice none 0 0, .string ⟨#[]⟩, .slice none 0 0], .bool false]) (by simp [results, Tryz.results15, go_sem, s0, s1, s2, s3, s4, s5, s6, s7]) rfl ⟨_, rfl, fun h => absurd h (by simp), fun _ => rfl, BZ.out⟩
  | true =>
    have HIN := hid (spec_in x 0 63 w1)
    generalize hxx : (decide (0 ≤ x ∧ x ≤ 63)) = bx at *
    have HXX := hid hxx
    clear hxx
    go_wp2_with (first | (go_at_call 20; fail) | fail)
    refine HIN.out.mono ?_
    rintro e w1' ⟨rfl, rfl⟩
    clear HIN
    cases bx with
    | false =>
      have EZ := hid (D2.out.set8 (.int .i64 0) (.int .i64 0) (.slice none 0 0) (.slice none 0 0) (.slice none 0 0) (.slice none 0 0) (.string ⟨#[]⟩) (.slice none 0 0)).cells
      have BZ := hid (below8 C1.out (show w.heap.size ≤ w.heap.size + 1 by omega) (.int .i64 0) (.int .i64 0) (.slice none 0 0) (.slice none 0 0) (.slice none 0 0) (.slice none 0 0) (.string ⟨#[]⟩) (.slice none 0 0))
      obtain ⟨s0, s1, s2, s3, s4, s5, s6, s7⟩ := D2.out.cells
      have fz := D2.out.free
      go_wp2_with fail
      generalize ((((((((w1.setCell ⟨w.heap.size + 1, 0, none⟩ (.int .i64 0)).setCell ⟨w.heap.size + 1, 1, none⟩ (.int .i64 0)).setCell ⟨w.heap.size + 1, 2, none⟩ (.slice none 0 0)).setCell ⟨w.heap.size + 1, 3, none⟩ (.slice none 0 0)).setCell ⟨w.heap.size + 1, 4, none⟩ (.slice none 0 0)).setCell ⟨w.heap.size + 1, 5, none⟩ (.slice none 0 0)).setCell ⟨w.heap.size + 1, 6, none⟩ (.string ⟨#[]⟩)).setCell ⟨w.heap.size + 1, 7, none⟩ (.slice none 0 0)) = wf at *
      clear s0 s1 s2 s3 s4 s5 s6 s7
      obtain ⟨s0, s1, s2, s3, s4, s5, s6, s7⟩ := EZ.out
      exact bodyPost_ret (v := .tuple #[.agg #[.int .i64 0, .int .i64 0, .slice none 0 0, .slice none 0 0, .slice none 0 0, .slice none 0 0, .string ⟨#[]⟩, .slice none 0 0], .bool false]) (by simp [results, Tryz.results15, go_sem, s0, s1, s2, s3, s4, s5, s6, s7]) rfl ⟨_, by rw [HXX.out]; rfl, fun h => by (rw [HXX.out] at h; cases h), fun _ => rfl, BZ.out⟩
    | true =>
      have hx63 : 0 ≤ x ∧ x ≤ 63 := of_decide_eq_true HXX.out
      obtain ⟨kk, rfl⟩ : ∃ kk : Nat, x = (kk : Int) := ⟨x.toNat, by omega⟩
      have hxn : kk ≤ 63 := by omega
      simp only [Int.toNat_natCast] at *
      have G63 := hid (H63.out (by first | rfl | trivial))
      clear H63
      have K1 := hid (OwnK.empty w1 w1.heap.size (Nat.le_refl _))
      have hA3 := (Below.refl w1.heap.size w1).alloc (Nat.le_refl _) (.cells #[] 65)
      have D3 := hid (D0.out.below hA3 D0.out.lt)
      have F3 := hid (D2.out.below hA3 D2.out.lt)
      have C3 := hid (C1.out.trans (hA3.mono C1.out.size))
      have hl3 : w1.heap.size < (w1.alloc (.cells #[] 65)).heap.size := by simp
      clear hA3 D0 D2 C1 Q1
      go_wp2_with fail
      obtain ⟨BB, hBB⟩ : ∃ BB, BB = w1.heap.size := ⟨_, rfl⟩
      rw [← hBB] at K1 hl3 hsz1 ⊢
      generalize w1.alloc (.cells #[] 65) = wl at *
      clear hBB
      go_loopw [6, 7] (fun t6 t7 wr => ∃ (k : Nat) (vs : List Value), k ≤ L.length ∧ t7 = .int .i64 k ∧ Hid (OwnK wr BB t6 (thL kk (L.take k)) vs) ∧ Hid (Below BB wl wr)) (fun _ i _ => L.length - (intOf i).toNat)
      case atStart => exact ⟨0, [], by omega, rfl, K1, hid (Below.refl _ _)⟩
      case round =>
        obtain ⟨k, vs, hk, rfl, hown, hbr⟩ := hrel
        generalize wr = WR at *
        have E7 := hid (D3.out.below hbr.out (show w.heap.size < BB by omega))
        have C7 := hid (C3.out.trans (hbr.out.mono (show w.heap.size ≤ BB by omega)))
        obtain ⟨q0, q1, q2, q3, q4, q5, q6, q7⟩ := E7.out.cells
        by_cases hlt : k < L.length
        · have hlt' : (k : Int) < (L.length : Int) := by omega
          have hHV := HBL.out.below C7.out
          obtain ⟨_, b, off, rfl, hc1, hc2, hvp⟩ := hHV.at k hlt
          have hg63 := G63.out k hlt
          obtain ⟨ra, rc, hrv, hview, hra⟩ := hvp
          have hcap := HCP.out k hlt ra _ rc hrv
          rw [hrv] at hc2
          rw [hg63] at hc2 hcap hview hra
          obtain ⟨rb, ro, rfl⟩ : ∃ rb ro, ra = some ⟨rb, ro, none⟩ := by
            rcases hra with ⟨_, h, _⟩ | h
            · cases h
            · exact h
          have HTK := hid (show thL kk (L.take (k + 1)) = thL kk (L.take k) ++ [((nth L k).1, thR kk (nth L k).2)] by rw [take_nth L k hlt]; simp [thL])
          have HTL := hid (show (thL kk (L.take k)).length = k by rw [thL_len, List.length_take]; omega)
          have HB8 := hid ((Below.refl WR.heap.size WR).alloc (Nat.le_refl _) (.cells #[] 3))
          have E8 := hid (E7.out.below HB8.out E7.out.lt)
          obtain ⟨z0, z1, z2, z3, z4, z5, z6, z7⟩ := E8.out.cells
          have hd1 := (HB8.out.cell (p := ⟨b, off + k * 2, none⟩) (World.block_lt_of_cell? _ _ hc1)).trans hc1
          have hd2 := (HB8.out.cell (p := ⟨b, off + k * 2 + 1, none⟩) (World.block_lt_of_cell? _ _ hc2)).trans hc2
          have HD1 := hid hd1
          have HBK := hid (World.block_lt_of_cell? _ _ hc1)
          have hv8 := hview.below (Nat.le_refl _) HB8.out
          have hxl : ((nth L k).2.take kk).length = kk := by rw [List.length_take]; omega
          have HVT : Hid (Vp (WR.alloc (.cells #[] 3)) (.slice (some ⟨rb, ro, none⟩) kk rc) ((nth L k).2.take kk)) := hid ⟨_, rc, by rw [hxl], ⟨by rw [hxl], fun j hj => by
            obtain ⟨b', o', e, hc⟩ := hv8.2 j (by omega)
            exact ⟨b', o', e, by rw [hc, take_getD _ _ _ (by omega)]⟩⟩, .inr ⟨_, _, rfl⟩⟩
          obtain ⟨y7, w7, hrun, oy, hb7⟩ := run_appI (WR.alloc (.cells #[] 3)) WR.heap.size WR.heap.size (Own.emptyI WR WR.heap.size (Nat.le_refl _)) _ _ HVT.out (by rw [hxl]; omega)
          have HRUN := hid hrun
          have OY := hid oy
          have HB9 := hid (HB8.out.trans (hb7.mono HB8.out.size))
          have E9 := hid (E7.out.below HB9.out E7.out.lt)
          have HC1 := hid ((HB9.out.cell (p := ⟨b, off + k * 2, none⟩) (World.block_lt_of_cell? _ _ hc1)).trans hc1)
          clear hHV hc1 hd1 hc2 hview hra hrun oy hb7 hv8 q0 q1 q2 q3 q4 q5 q6 hrv
          go_wp2_with (at_builtin; refine wpList_app_run rfl _ _ 22 rfl _ _ (by rfl) (by rfl) y7 w7 HRUN.out ?_)
          clear HRUN HVT HD1 HB8 E8 z0 z1 z2 z3 z4 z5 z6 z7 hd2
          go_loopw [8] (fun t wq => ∃ m : Nat, kk ≤ m ∧ m ≤ 63 ∧ Hid (Own wq WR.heap.size 3 .i64 t ((nth L k).2.take kk ++ List.replicate (m - kk) 0)) ∧ Hid (Below WR.heap.size w7 wq)) (fun t _ => 63 - lenOfV t)
          case atStart => exact ⟨kk, Nat.le_refl _, hxn, hid (by rw [Nat.sub_self]; simpa using OY.out), hid (Below.refl _ _)⟩
          case round =>
            obtain ⟨m, hm1, hm2, ho8, hb8⟩ := hrel
            have hml : ((nth L k).2.take kk ++ List.replicate (m - kk) (0 : Int)).length = m := by rw [List.length_append, hxl, List.length_replicate]; omega
            obtain ⟨yo, yc, hy⟩ := ho8.out.shape
            rw [hml] at hy
            subst hy
            by_cases hlm : m < 63
            · have hlm' : (m : Int) < 63 := by omega
              have hown2 := ho8.out
              have hml2 : ((nth L k).2.take kk ++ List.replicate (m - kk) (0 : Int)).length < 1000000000000 := by omega
              have HT := hid (show (nth L k).2.take kk ++ List.replicate (m + 1 - kk) (0 : Int) = ((nth L k).2.take kk ++ List.replicate (m - kk) 0) ++ [0] by rw [show m + 1 - kk = (m - kk) + 1 by omega, List.replicate_succ', List.append_assoc])
              generalize (nth L k).2.take kk ++ List.replicate (m - kk) (0 : Int) = ZS at *
              go_wp2_with (at_builtin; refine wpList_push _ rfl _ _ 22 rfl _ 3 .i64 0 8 Tryz.underlying22 Tryz.info3 _ _ rfl hown2 0 rfl hml2 (by decide) ?_)
              intro v9 w9 ho9 hb9
              obtain ⟨zo, zc, rfl⟩ := ho9.shape
              have hzl : (ZS ++ [0]).length = m + 1 := by rw [List.length_append, hml]; rfl
              have HO9 := hid ho9
              have HB9' := hid (hb8.out.trans hb9)
              clear ho9 hb9
              go_wp2
              go_roundw
              case rel => exact ⟨m + 1, by omega, by omega, hid (by rw [HT.out]; exact HO9.out), HB9'⟩
              case measure =>
                simp only [lenOfV, hzl]
                omega
            · obtain rfl : m = 63 := by omega
              have hwr : BB ≤ WR.heap.size := hown.out.1
              have hbq := HB9.out.trans hb8.out
              have O8 := hid (hown.out.below hbq)
              have EQ := hid (E7.out.below hbq E7.out.lt)
              have hdc := (hb8.out.cell (p := ⟨b, off + k * 2, none⟩) (show b < WR.heap.size from HBK.out)).trans HC1.out
              have HY : Hid (Own wr BB 3 .i64 (.slice yo 63 yc) (thR kk (nth L k).2)) := hid (ho8.out.mono hwr)
              have HORD := hid (show ∀ j, j < (thL kk (L.take k)).length → ∀ (a a' : Addr) (n n' c c' : Nat), vs.getD j (.bool false) = .slice (some a) n c → Value.slice yo 63 yc = .slice (some a') n' c' → a.block < a'.block from fun j hj a a' n n' c c' e1 e2 => Nat.lt_of_lt_of_le (hown.out.lt j hj a n c e1) (ho8.out.2.lt a'.block (by rw [e2]; rfl)).1)
              have hlen : (thL kk (L.take k)).length < 1000000000 := by have := HTL.out; have := HFN.out; omega
              have HCQ := hid (hbr.out.trans (hbq.mono hwr))
              have hAQ := (Below.refl wr.heap.size wr).alloc (Nat.le_refl _) (.cells #[.int .i64 (nth L k).1, .slice yo 63 yc] 65)
              clear ho8 hb8 hown hml hbq
              generalize (nth L k).1 = d at *
              generalize thR kk (nth L k).2 = TRR at *
              generalize thL kk (L.take k) = S at *
              obtain ⟨q0, q1, q2, q3, q4, q5, q6, q7⟩ := EQ.out.cells
              go_wp2_with (at_builtin; refine wpList_pushK wr wr.heap.size rfl rfl _ _ 34 rfl BB Tryz.underlying34 Tryz.info65 _ S vs (by rfl) O8.out d yo 63 yc _ HY.out HORD.out (by rfl) hlen ?_)
              intro v10 w10 ho10 hb10 hg10
              have HO10 := hid ho10
              have HB10 := hid (HCQ.out.trans hb10)
              clear ho10 hb10 hg10 hAQ
              have hfn := HFN.out
              go_wp2
              go_roundw
              case rel => exact ⟨k + 1, _, by omega, by go_num, hid (by rw [HTK.out]; exact HO10.out), HB10⟩
              case measure =>
                simp only [intOf]
                omega
        · obtain rfl : k = L.length := by omega
          have hown' : OwnK WR BB u6 (thL kk L) vs := by
            have := hown.out
            rwa [List.take_length] at this
          obtain ⟨lo, lc, rfl⟩ := hown'.shape
          have hbl := hown'.blv.2
          have HC0 := hid (HPO.out G63.out hxn (HS2.out (by first | rfl | trivial) hx63) lo lc vs _ hbl)
          have hle : (thP kk ⟨W, H, T, N, L⟩).L.length = L.length := thL_len _ _
          rw [hle] at HC0
          rw [thL_len]
          have F7 := hid (F3.out.below hbr.out (show w.heap.size + 1 < BB by omega))
          have hwr1 : w.heap.size + 1 < WR.heap.size := F7.out.lt
          clear hown' hown hbl HPO hle
          go_wp2_with (first | (go_at_call 21; fail) | fail)
          refine HC0.out.mono ?_
          rintro e w6 ⟨v6, rfl, hpo, hz, hb6⟩
          have F6 := hid (F7.out.below hb6 F7.out.lt)
          have C6 := hid (C7.out.trans (hb6.mono C7.out.size))
          clear hb6 F7 C7 HC0 E7 q0 q1 q2 q3 q4 q5 q6 q7
          obtain ⟨s0, s1, s2, s3, s4, s5, s6, s7⟩ := F6.out.cells
          have fz := F6.out.free
          cases R2 with
          | false =>
            obtain rfl : v6 = zPic := hz rfl
            clear hpo hz
            have EZ := hid (F6.out.set8 (.int .i64 0) (.int .i64 0) (.slice none 0 0) (.slice none 0 0) (.slice none 0 0) (.slice none 0 0) (.string ⟨#[]⟩) (.slice none 0 0)).cells
            have BZ := hid (below8 C6.out (show w.heap.size ≤ w.heap.size + 1 by omega) (.int .i64 0) (.int .i64 0) (.slice none 0 0) (.slice none 0 0) (.slice none 0 0) (.slice none 0 0) (.string ⟨#[]⟩) (.slice none 0 0))
            unfold zPic
            go_wp2_with fail
            generalize ((((((((w6.setCell ⟨w.heap.size + 1, 0, none⟩ (.int .i64 0)).setCell ⟨w.heap.size + 1, 1, none⟩ (.int .i64 0)).setCell ⟨w.heap.size + 1, 2, none⟩ (.slice none 0 0)).setCell ⟨w.heap.size + 1, 3, none⟩ (.slice none 0 0)).setCell ⟨w.heap.size + 1, 4, none⟩ (.slice none 0 0)).setCell ⟨w.heap.size + 1, 5, none⟩ (.slice none 0 0)).setCell ⟨w.heap.size + 1, 6, none⟩ (.string ⟨#[]⟩)).setCell ⟨w.heap.size + 1, 7, none⟩ (.slice none 0 0)) = wf at *
            clear s0 s1 s2 s3 s4 s5 s6 s7
            obtain ⟨s0, s1, s2, s3, s4, s5, s6, s7⟩ := EZ.out
            exact bodyPost_ret (v := .tuple #[.agg #[.int .i64 0, .int .i64 0, .slice none 0 0, .slice none 0 0, .slice none 0 0, .slice none 0 0, .string ⟨#[]⟩, .slice none 0 0], .bool false]) (by simp [results, Tryz.results15, go_sem, s0, s1, s2, s3, s4, s5, s6, s7]) rfl ⟨_, by rw [HXX.out]; rfl, fun h => absurd h (by simp), fun _ => rfl, BZ.out⟩
          | true =>
            have hpo' := hpo rfl
            have HPZ := hid hpo'
            obtain ⟨x0, x1, x2, x3, bv, vs, rfl, ht, hk⟩ := hpo'
            obtain ⟨a4, c4, a5, c5, a6, c6, a7, c7, e, _⟩ := ht
            injection e with e
            injection e with e
            injection e with e0 e
            injection e with e1 e
            injection e with e2 e
            injection e with e3 e
            subst e0 e1 e2 e3
            obtain ⟨bo, bc, rfl⟩ := hk.shape
            have PZ := hid ((HPZ.out.set8 hwr1 (.int .i64 p1.W) (.int .i64 p1.H) (.slice a4 p1.T.cs.length c4) (.slice a5 p1.T.ss.length c5) (.slice a6 p1.T.ct.length c6) (.slice a7 p1.T.st.length c7) (.string p1.N) (.slice bo p1.L.length bc)).low (show w.heap.size ≤ WR.heap.size by omega))
            clear hk e hpo hz HPZ
            have EZ := hid (F6.out.set8 (.int .i64 p1.W) (.int .i64 p1.H) (.slice a4 p1.T.cs.length c4) (.slice a5 p1.T.ss.length c5) (.slice a6 p1.T.ct.length c6) (.slice a7 p1.T.st.length c7) (.string p1.N) (.slice bo p1.L.length bc)).cells
            have BZ := hid (below8 C6.out (show w.heap.size ≤ w.heap.size + 1 by omega) (.int .i64 p1.W) (.int .i64 p1.H) (.slice a4 p1.T.cs.length c4) (.slice a5 p1.T.ss.length c5) (.slice a6 p1.T.ct.length c6) (.slice a7 p1.T.st.length c7) (.string p1.N) (.slice bo p1.L.length bc))
            go_wp2_with fail
            generalize ((((((((w6.setCell ⟨w.heap.size + 1, 0, none⟩ (.int .i64 p1.W)).setCell ⟨w.heap.size + 1, 1, none⟩ (.int .i64 p1.H)).setCell ⟨w.heap.size + 1, 2, none⟩ (.slice a4 p1.T.cs.length c4)).setCell ⟨w.heap.size + 1, 3, none⟩ (.slice a5 p1.T.ss.length c5)).setCell ⟨w.heap.size + 1, 4, none⟩ (.slice a6 p1.T.ct.length c6)).setCell ⟨w.heap.size + 1, 5, none⟩ (.slice a7 p1.T.st.length c7)).setCell ⟨w.heap.size + 1, 6, none⟩ (.string p1.N)).setCell ⟨w.heap.size + 1, 7, none⟩ (.slice bo p1.L.length bc)) = wf at *
            clear s0 s1 s2 s3 s4 s5 s6 s7
            obtain ⟨s0, s1, s2, s3, s4, s5, s6, s7⟩ := EZ.out
            exact bodyPost_ret (v := .tuple #[.agg #[.int .i64 p1.W, .int .i64 p1.H, .slice a4 p1.T.cs.length c4, .slice a5 p1.T.ss.length c5, .slice a6 p1.T.ct.length c6, .slice a7 p1.T.st.length c7, .string p1.N, .slice bo p1.L.length bc], .bool true]) (by simp [results, Tryz.results15, go_sem, s0, s1, s2, s3, s4, s5, s6, s7]) rfl ⟨_, by rw [HXX.out]; rfl, fun _ => by rw [Int.toNat_natCast, ← HPE.out]; exact PZ.out, fun h => absurd h (by rw [HXX.out]; simp), BZ.out⟩
end Go.Proofs.YtnnakmgngkpghaaGreat
