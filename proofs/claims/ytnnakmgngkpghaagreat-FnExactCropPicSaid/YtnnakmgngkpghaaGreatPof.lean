/- picOf of the program. -/
import Derived.Test.YtnnakmgngkpghaaGreatPpi
import Derived.Test.YtnnakmgngkpghaaGreatSht
namespace Go.Proofs.YtnnakmgngkpghaaGreat
open Go.RowKit Go.Maps
set_option linter.unusedVariables false

def zPic : Value := .agg #[.int .i64 0, .int .i64 0, .slice none 0 0, .slice none 0 0, .slice none 0 0, .slice none 0 0, .string ⟨#[]⟩, .slice none 0 0]
theorem vp_nil (w : World) : Vp w (.slice none 0 0) [] := ⟨none, 0, rfl, ⟨rfl, fun j hj => absurd hj (Nat.not_lt_zero j)⟩, .inl ⟨rfl, rfl, rfl⟩⟩

set_option maxRecDepth 100000 in
set_option maxHeartbeats 3200000 in
theorem impl_picOf (p0 : Pk) (hT : p0.T = ⟨[], [], [], []⟩) (ao : Option Addr) (cap : Nat) (vs0 : List Value) (w : World) (hf : p0.Fits) (hb : BLv w (.slice ao p0.L.length cap) p0.L vs0) (R : Bool)
    (hs : ∀ q v, PV q v (plI p0) → Calls Tryz.prog 24 #[v] q fun e w' => e = .returned (.bool R) ∧ Below q.heap.size q w') (hR : R = true → freqB p0.L = true) :
    Calls Tryz.prog 26 #[.agg #[.int .i64 p0.W, .int .i64 p0.H, .slice ao p0.L.length cap], .string p0.N] w fun e w' => ∃ v', e = .returned (.tuple #[v', .bool R]) ∧ (R = true → PO w.heap.size w' v' (plI p0)) ∧ (R = false → v' = zPic) ∧ Below w.heap.size w w' := by
  have HPP := hid (fun q v (hq : PVq q v p0 vs0) => impl_picPlain v p0 vs0 q hf hq)
  obtain ⟨W, H, T, N, L⟩ := p0
  simp only at hT
  subst hT
  have HS := hid hs
  have HRR := hid hR
  have HBL := hid hb
  obtain ⟨p1, hp1⟩ : ∃ p1, p1 = plI ⟨W, H, ⟨[], [], [], []⟩, N, L⟩ := ⟨_, rfl⟩
  rw [← hp1] at HS HPP
  have HPE := hid hp1
  clear hs hR hb hf hp1
  have hA1 := (Below.refl w.heap.size w).alloc (Nat.le_refl _) (.cells #[.int .i64 W, .int .i64 H, .slice ao L.length cap] 56)
  have hA := hA1.alloc (by simp) (.cells #[.int .i64 0, .int .i64 0, .slice none 0 0, .slice none 0 0, .slice none 0 0, .slice none 0 0, .string ⟨#[]⟩, .slice none 0 0] 36)
  have hs1 : (w.alloc (.cells #[.int .i64 W, .int .i64 H, .slice ao L.length cap] 56)).heap.size = w.heap.size + 1 := by simp
  have k2 := Eig.new (w.alloc (.cells #[.int .i64 W, .int .i64 H, .slice ao L.length cap] 56)) (.int .i64 0) (.int .i64 0) (.slice none 0 0) (.slice none 0 0) (.slice none 0 0) (.slice none 0 0) (.string ⟨#[]⟩) (.slice none 0 0) 36
  rw [hs1] at k2
  have E2 := hid k2
  have B2 := hid hA
  have HCALL := hid (HPP.out _ (.agg #[.int .i64 W, .int .i64 H, .slice none 0 0, .slice none 0 0, .slice none 0 0, .slice none 0 0, .string N, .slice ao L.length cap]) ⟨_, _, _, _, _, rfl, vp_nil _, vp_nil _, vp_nil _, vp_nil _, HBL.out.below hA⟩)
  clear hA hA1 k2 hs1
  go_enter Tryz.func26, Tryz.ntmps26
  go_wp2_with (first | (go_at_call 47; fail) | fail)
  refine HCALL.out.mono ?_
  generalize (w.alloc _).alloc _ = wa at *
  rintro e w1 ⟨v1, rfl, hpq, hpo, hb1⟩
  have h12 : w.heap.size + 1 < wa.heap.size := E2.out.lt
  have hlt2 := B2.out.size
  have HPQ := hid hpq
  obtain ⟨x0, x1, x2, x3, bv, vs, rfl, ht, hk⟩ := hpq
  obtain ⟨a4, c4, a5, c5, a6, c6, a7, c7, e, _⟩ := ht
  injection e with e
  injection e with e
  injection e with e0 e
  injection e with e1 e
  injection e with e2 e
  injection e with e3 e
  subst e0 e1 e2 e3
  obtain ⟨bo, bc, rfl⟩ := hk.shape
  clear hk e
  have hA5 := (Below.refl w1.heap.size w1).alloc (Nat.le_refl _) (.cells #[.int .i64 p1.W, .int .i64 p1.H, .slice a4 p1.T.cs.length c4, .slice a5 p1.T.ss.length c5, .slice a6 p1.T.ct.length c6, .slice a7 p1.T.st.length c7, .string p1.N, .slice bo p1.L.length bc] 36)
  have hb4 := hb1.trans (hA5.mono hb1.size)
  have E4 := hid (E2.out.below hb4 E2.out.lt)
  have F4 := hid (Eig.new w1 (.int .i64 p1.W) (.int .i64 p1.H) (.slice a4 p1.T.cs.length c4) (.slice a5 p1.T.ss.length c5) (.slice a6 p1.T.ct.length c6) (.slice a7 p1.T.st.length c7) (.string p1.N) (.slice bo p1.L.length bc) 36)
  have B4 := hid (B2.out.trans (hb4.mono B2.out.size))
  have P4 := hid (fun h => (hpo h).below hA5)
  have HSC := hid (HS.out _ _ (HPQ.out.below hA5).pv)
  clear hA5 hb4 E2 B2 HPP HPQ HCALL HS hpo hb1
  go_wp2_with (first | (go_at_call 24; fail) | fail)
  refine HSC.out.mono ?_
  generalize hw4 : w1.alloc _ = w4 at *
  obtain ⟨G, hG⟩ : ∃ G, G = w1.heap.size := ⟨_, rfl⟩
  rw [← hG] at F4 ⊢
  clear hw4 hG
  rintro e w5 ⟨rfl, hb5⟩
  have E5 := hid (E4.out.below hb5 E4.out.lt)
  have F5 := hid (F4.out.below hb5 F4.out.lt)
  have B5 := hid (B4.out.trans (hb5.mono B4.out.size))
  have P5 := hid (fun h => (P4.out h).below hb5)
  clear hb5 E4 F4 B4 P4 HSC
  obtain ⟨s0, s1, s2, s3, s4, s5, s6, s7⟩ := E5.out.cells
  have fz := E5.out.free
  obtain ⟨q0, q1, q2, q3, q4, q5, q6, q7⟩ := F5.out.cells
  cases R with
  | false =>
    have EZ := hid (E5.out.set8 (.int .i64 0) (.int .i64 0) (.slice none 0 0) (.slice none 0 0) (.slice none 0 0) (.slice none 0 0) (.string ⟨#[]⟩) (.slice none 0 0)).cells
    have BZ := hid (below8 B5.out (Nat.le_succ _) (.int .i64 0) (.int .i64 0) (.slice none 0 0) (.slice none 0 0) (.slice none 0 0) (.slice none 0 0) (.string ⟨#[]⟩) (.slice none 0 0))
    clear E5 F5 B5 P5
    go_wp2_with fail
    generalize ((((((((w5.setCell ⟨w.heap.size + 1, 0, none⟩ (.int .i64 0)).setCell ⟨w.heap.size + 1, 1, none⟩ (.int .i64 0)).setCell ⟨w.heap.size + 1, 2, none⟩ (.slice none 0 0)).setCell ⟨w.heap.size + 1, 3, none⟩ (.slice none 0 0)).setCell ⟨w.heap.size + 1, 4, none⟩ (.slice none 0 0)).setCell ⟨w.heap.size + 1, 5, none⟩ (.slice none 0 0)).setCell ⟨w.heap.size + 1, 6, none⟩ (.string ⟨#[]⟩)).setCell ⟨w.heap.size + 1, 7, none⟩ (.slice none 0 0)) = wf at *
    clear s0 s1 s2 s3 s4 s5 s6 s7
    obtain ⟨s0, s1, s2, s3, s4, s5, s6, s7⟩ := EZ.out
    exact bodyPost_ret (v := .tuple #[.agg #[.int .i64 0, .int .i64 0, .slice none 0 0, .slice none 0 0, .slice none 0 0, .slice none 0 0, .string ⟨#[]⟩, .slice none 0 0], .bool false]) (by simp [results, Tryz.results26, go_sem, s0, s1, s2, s3, s4, s5, s6, s7]) rfl ⟨_, rfl, rfl, BZ.out⟩
  | true =>
    have EZ := hid (E5.out.set8 (.int .i64 p1.W) (.int .i64 p1.H) (.slice a4 p1.T.cs.length c4) (.slice a5 p1.T.ss.length c5) (.slice a6 p1.T.ct.length c6) (.slice a7 p1.T.st.length c7) (.string p1.N) (.slice bo p1.L.length bc)).cells
    have BZ := hid (below8 B5.out (Nat.le_succ _) (.int .i64 p1.W) (.int .i64 p1.H) (.slice a4 p1.T.cs.length c4) (.slice a5 p1.T.ss.length c5) (.slice a6 p1.T.ct.length c6) (.slice a7 p1.T.st.length c7) (.string p1.N) (.slice bo p1.L.length bc))
    have PZ := hid (((P5.out (HRR.out rfl)).set8 h12 (.int .i64 p1.W) (.int .i64 p1.H) (.slice a4 p1.T.cs.length c4) (.slice a5 p1.T.ss.length c5) (.slice a6 p1.T.ct.length c6) (.slice a7 p1.T.st.length c7) (.string p1.N) (.slice bo p1.L.length bc)).low hlt2)
    clear E5 F5 B5 P5
    go_wp2_with fail
    generalize ((((((((w5.setCell ⟨w.heap.size + 1, 0, none⟩ (.int .i64 p1.W)).setCell ⟨w.heap.size + 1, 1, none⟩ (.int .i64 p1.H)).setCell ⟨w.heap.size + 1, 2, none⟩ (.slice a4 p1.T.cs.length c4)).setCell ⟨w.heap.size + 1, 3, none⟩ (.slice a5 p1.T.ss.length c5)).setCell ⟨w.heap.size + 1, 4, none⟩ (.slice a6 p1.T.ct.length c6)).setCell ⟨w.heap.size + 1, 5, none⟩ (.slice a7 p1.T.st.length c7)).setCell ⟨w.heap.size + 1, 6, none⟩ (.string p1.N)).setCell ⟨w.heap.size + 1, 7, none⟩ (.slice bo p1.L.length bc)) = wf at *
    clear s0 s1 s2 s3 s4 s5 s6 s7
    obtain ⟨s0, s1, s2, s3, s4, s5, s6, s7⟩ := EZ.out
    exact bodyPost_ret (v := .tuple #[.agg #[.int .i64 p1.W, .int .i64 p1.H, .slice a4 p1.T.cs.length c4, .slice a5 p1.T.ss.length c5, .slice a6 p1.T.ct.length c6, .slice a7 p1.T.st.length c7, .string p1.N, .slice bo p1.L.length bc], .bool true]) (by simp [results, Tryz.results26, go_sem, s0, s1, s2, s3, s4, s5, s6, s7]) rfl ⟨_, rfl, by rw [← HPE.out]; exact PZ.out, BZ.out⟩
end Go.Proofs.YtnnakmgngkpghaaGreat
