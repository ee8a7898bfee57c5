/- PicPlain of the program. -/
import Derived.Test.YtnnakmgngkpghaaGreatE8
import Derived.Test.YtnnakmgngkpghaaGreatCpy
namespace Go.Proofs.YtnnakmgngkpghaaGreat
open Go.RowKit Go.Maps
set_option linter.unusedVariables false

/-- What PicPlain of the program answers. -/
def plI (p : Pk) : Pk := if freqB p.L = true then { p with T := ⟨sbC 0 p.L, sbS 0 p.L, sbC 1 p.L, sbS 1 p.L⟩ } else p

set_option maxRecDepth 100000 in
set_option maxHeartbeats 3200000 in
theorem impl_picPlain (v : Value) (p : Pk) (vs0 : List Value) (w : World) (hf : p.Fits) (hv : PVq w v p vs0) :
    Calls Tryz.prog 47 #[v] w fun e w' => ∃ v', e = .returned v' ∧ PQ w.heap.size w' v' (plI p) ∧ (freqB p.L = true → PO w.heap.size w' v' (plI p)) ∧ Below w.heap.size w w' := by
  have HCP := hid (fun q (hq : Below w.heap.size w q) => copyPic_any v p vs0 q hf (hv.below hq))
  have HSB := hid (fun (ao : Option Addr) (cap : Nat) q (hq : BRow q ao p.L) => impl_scanBest ao cap p.L q hf.hn hf.hs hq)
  obtain ⟨t0, t1, t2, t3, bv, rfl, u0, u1, u2, u3, ub⟩ := hv
  obtain ⟨a0, c0, rfl, _, _⟩ := u0
  obtain ⟨a1, c1, rfl, _, _⟩ := u1
  obtain ⟨a2, c2, rfl, _, _⟩ := u2
  obtain ⟨a3, c3, rfl, _, _⟩ := u3
  obtain ⟨ao, n, cap, rfl⟩ : ∃ ao n cap, bv = .slice ao n cap := by
    rcases ub.2.2 with ⟨rfl, _⟩ | ⟨b, off, c, rfl, _⟩
    · exact ⟨_, _, _, rfl⟩
    · exact ⟨_, _, _, rfl⟩
  have hA := (Below.refl w.heap.size w).alloc (Nat.le_refl _) (.cells #[.int .i64 p.W, .int .i64 p.H, .slice a0 p.T.cs.length c0, .slice a1 p.T.ss.length c1, .slice a2 p.T.ct.length c2, .slice a3 p.T.st.length c3, .string p.N, .slice ao n cap] 36)
  have hA2 := hA.alloc (by simp) (.cells #[.int .i64 0, .int .i64 0, .slice none 0 0, .slice none 0 0, .slice none 0 0, .slice none 0 0, .string ⟨#[]⟩, .slice none 0 0] 36)
  have k1 := Eig.new w (.int .i64 p.W) (.int .i64 p.H) (.slice a0 p.T.cs.length c0) (.slice a1 p.T.ss.length c1) (.slice a2 p.T.ct.length c2) (.slice a3 p.T.st.length c3) (.string p.N) (.slice ao n cap) 36
  have k1' := k1.below ((Below.refl _ _).alloc (Nat.le_refl _) (.cells #[.int .i64 0, .int .i64 0, .slice none 0 0, .slice none 0 0, .slice none 0 0, .slice none 0 0, .string ⟨#[]⟩, .slice none 0 0] 36)) k1.lt
  have k2 := Eig.new (w.alloc (.cells #[.int .i64 p.W, .int .i64 p.H, .slice a0 p.T.cs.length c0, .slice a1 p.T.ss.length c1, .slice a2 p.T.ct.length c2, .slice a3 p.T.st.length c3, .string p.N, .slice ao n cap] 36)) (.int .i64 0) (.int .i64 0) (.slice none 0 0) (.slice none 0 0) (.slice none 0 0) (.slice none 0 0) (.string ⟨#[]⟩) (.slice none 0 0) 36
  have hs1 : (w.alloc (.cells #[.int .i64 p.W, .int .i64 p.H, .slice a0 p.T.cs.length c0, .slice a1 p.T.ss.length c1, .slice a2 p.T.ct.length c2, .slice a3 p.T.st.length c3, .string p.N, .slice ao n cap] 36)).heap.size = w.heap.size + 1 := by simp
  rw [hs1] at k2
  have E1 := hid k1'
  have E2 := hid k2
  have B2 := hid hA2
  have HPL := hid (show ∀ b, freqB p.L = b → plI p = if b = true then { p with T := ⟨sbC 0 p.L, sbS 0 p.L, sbC 1 p.L, sbS 1 p.L⟩ } else p from fun b hb => by rw [← hb]; rfl)
  clear ub hA hA2 k1 k1' k2 hs1 hf
  go_enter Tryz.func47, Tryz.ntmps47
  go_wp2_with (first | (go_at_call 65; fail) | fail)
  refine (HCP.out _ B2.out).mono ?_
  generalize (w.alloc _).alloc _ = wa at *
  rintro e w1 ⟨x0, x1, x2, x3, bv, vs, rfl, o0, o1, o2, o3, hk, hb1⟩
  obtain ⟨b0, d0, rfl⟩ := o0.shape
  obtain ⟨b1, d1, rfl⟩ := o1.shape
  obtain ⟨b2, d2, rfl⟩ := o2.shape
  obtain ⟨b3, d3, rfl⟩ := o3.shape
  obtain ⟨bo, bc, rfl⟩ := hk.shape
  have h12 : w.heap.size + 1 < wa.heap.size := E2.out.lt
  have hlt2 := B2.out.size
  have hne : w.heap.size + 1 ≠ w.heap.size := by omega
  have hlt3 : w.heap.size < wa.heap.size := by omega
  have e1 := E1.out.below hb1 E1.out.lt
  have e2 := E2.out.below hb1 E2.out.lt
  obtain ⟨q0, q1, q2, q3, q4, q5, q6, q7⟩ := e1.cells
  have qz := e1.free
  have E3 := hid (e1.set8 (.int .i64 p.W) (.int .i64 p.H) (.slice b0 p.T.cs.length d0) (.slice b1 p.T.ss.length d1) (.slice b2 p.T.ct.length d2) (.slice b3 p.T.st.length d3) (.string p.N) (.slice bo p.L.length bc))
  have F3 := hid (e2.other8 hne (.int .i64 p.W) (.int .i64 p.H) (.slice b0 p.T.cs.length d0) (.slice b1 p.T.ss.length d1) (.slice b2 p.T.ct.length d2) (.slice b3 p.T.st.length d3) (.string p.N) (.slice bo p.L.length bc))
  have B3 := hid (below8 (B2.out.trans (hb1.mono hlt2)) (Nat.le_refl _) (.int .i64 p.W) (.int .i64 p.H) (.slice b0 p.T.cs.length d0) (.slice b1 p.T.ss.length d1) (.slice b2 p.T.ct.length d2) (.slice b3 p.T.st.length d3) (.string p.N) (.slice bo p.L.length bc))
  have K3 := hid (hk.set8 hlt3 (.int .i64 p.W) (.int .i64 p.H) (.slice b0 p.T.cs.length d0) (.slice b1 p.T.ss.length d1) (.slice b2 p.T.ct.length d2) (.slice b3 p.T.st.length d3) (.string p.N) (.slice bo p.L.length bc))
  have T3 := hid (TOwn.set8 (base := wa.heap.size) (show TOwn w1 wa.heap.size (.agg #[.slice b0 p.T.cs.length d0, .slice b1 p.T.ss.length d1, .slice b2 p.T.ct.length d2, .slice b3 p.T.st.length d3]) p.T.cs p.T.ss p.T.ct p.T.st from ⟨_, _, _, _, _, _, _, _, rfl, o0, o1, o2, o3⟩) hlt3 (.int .i64 p.W) (.int .i64 p.H) (.slice b0 p.T.cs.length d0) (.slice b1 p.T.ss.length d1) (.slice b2 p.T.ct.length d2) (.slice b3 p.T.st.length d3) (.string p.N) (.slice bo p.L.length bc))
  clear o0 o1 o2 o3 hk e1 e2 hb1 E1 E2 B2 HCP
  go_wp2_with (first | (go_at_call 66; fail) | fail)
  generalize ((((((((w1.setCell ⟨w.heap.size, 0, none⟩ (.int .i64 p.W)).setCell ⟨w.heap.size, 1, none⟩ (.int .i64 p.H)).setCell ⟨w.heap.size, 2, none⟩ (.slice b0 p.T.cs.length d0)).setCell ⟨w.heap.size, 3, none⟩ (.slice b1 p.T.ss.length d1)).setCell ⟨w.heap.size, 4, none⟩ (.slice b2 p.T.ct.length d2)).setCell ⟨w.heap.size, 5, none⟩ (.slice b3 p.T.st.length d3)).setCell ⟨w.heap.size, 6, none⟩ (.string p.N)).setCell ⟨w.heap.size, 7, none⟩ (.slice bo p.L.length bc)) = w2 at *
  clear q0 q1 q2 q3 q4 q5 q6 q7 qz
  refine (HSB.out bo bc w2 K3.out.brow).mono ?_
  rintro e w3 ⟨tv, rfl, htt, hb3⟩
  obtain ⟨a4, c4, a5, c5, a6, c6, a7, c7, rfl, _⟩ := htt.town
  generalize hbb : freqB p.L = bb
  have HBB := hid hbb
  clear hbb
  have hA5 := (Below.refl w3.heap.size w3).alloc (Nat.le_refl _) (.cells #[.slice a4 (sbC 0 p.L).length c4, .slice a5 (sbS 0 p.L).length c5, .slice a6 (sbC 1 p.L).length c6, .slice a7 (sbS 1 p.L).length c7] 33)
  have hb4 := hb3.trans (hA5.mono hb3.size)
  have E4 := hid (E3.out.below hb4 E3.out.lt)
  have F4 := hid (F3.out.below hb4 F3.out.lt)
  have B4 := hid (B3.out.trans (hb4.mono B3.out.size))
  have K4 := hid (K3.out.below hb4)
  have T4 := hid (T3.out.below hb4)
  have H4 := hid (htt.below hA5)
  have FR := hid (Four.new w3 (.slice a4 (sbC 0 p.L).length c4) (.slice a5 (sbS 0 p.L).length c5) (.slice a6 (sbC 1 p.L).length c6) (.slice a7 (sbS 1 p.L).length c7) 33)
  have KM := hid (show (∀ a n c, Value.slice bo p.L.length bc = .slice (some a) n c → a.block < w2.heap.size) ∧ ∀ j, j < p.L.length → ∀ a n c, vs.getD j (.bool false) = .slice (some a) n c → a.block < w2.heap.size from ⟨fun a n c e => (K3.out.2.2.1.lt a.block (by rw [e]; rfl)).2, fun j hj a n c e => K3.out.lt j hj a n c e⟩)
  have hwl : wa.heap.size ≤ w2.heap.size := K3.out.1
  have h02 : w.heap.size < w2.heap.size := by omega
  have h12' : w.heap.size + 1 < w2.heap.size := by omega
  clear htt hb3 hA5 hb4 E3 F3 B3 K3 T3 HSB
  obtain ⟨q0, q1, q2, q3, q4, q5, q6, q7⟩ := E4.out.cells
  have qz := E4.out.free
  obtain ⟨s0, s1, s2, s3, s4, s5, s6, s7⟩ := F4.out.cells
  have fz := F4.out.free
  cases bb with
  | false =>
    have EZ := hid (F4.out.set8 (.int .i64 p.W) (.int .i64 p.H) (.slice b0 p.T.cs.length d0) (.slice b1 p.T.ss.length d1) (.slice b2 p.T.ct.length d2) (.slice b3 p.T.st.length d3) (.string p.N) (.slice bo p.L.length bc)).cells
    have BZ := hid (below8 B4.out (Nat.le_succ _) (.int .i64 p.W) (.int .i64 p.H) (.slice b0 p.T.cs.length d0) (.slice b1 p.T.ss.length d1) (.slice b2 p.T.ct.length d2) (.slice b3 p.T.st.length d3) (.string p.N) (.slice bo p.L.length bc))
    have PZ := hid (show PQ w.heap.size (((((((((w3.alloc (.cells #[.slice a4 (sbC 0 p.L).length c4, .slice a5 (sbS 0 p.L).length c5, .slice a6 (sbC 1 p.L).length c6, .slice a7 (sbS 1 p.L).length c7] 33)).setCell ⟨w.heap.size + 1, 0, none⟩ (.int .i64 p.W)).setCell ⟨w.heap.size + 1, 1, none⟩ (.int .i64 p.H)).setCell ⟨w.heap.size + 1, 2, none⟩ (.slice b0 p.T.cs.length d0)).setCell ⟨w.heap.size + 1, 3, none⟩ (.slice b1 p.T.ss.length d1)).setCell ⟨w.heap.size + 1, 4, none⟩ (.slice b2 p.T.ct.length d2)).setCell ⟨w.heap.size + 1, 5, none⟩ (.slice b3 p.T.st.length d3)).setCell ⟨w.heap.size + 1, 6, none⟩ (.string p.N)).setCell ⟨w.heap.size + 1, 7, none⟩ (.slice bo p.L.length bc)) (.agg #[.int .i64 p.W, .int .i64 p.H, .slice b0 p.T.cs.length d0, .slice b1 p.T.ss.length d1, .slice b2 p.T.ct.length d2, .slice b3 p.T.st.length d3, .string p.N, .slice bo p.L.length bc]) p from ⟨_, _, _, _, _, _, rfl, (T4.out.set8 h12 (.int .i64 p.W) (.int .i64 p.H) (.slice b0 p.T.cs.length d0) (.slice b1 p.T.ss.length d1) (.slice b2 p.T.ct.length d2) (.slice b3 p.T.st.length d3) (.string p.N) (.slice bo p.L.length bc)).low (Nat.le_of_lt hlt3), (K4.out.set8 h12 (.int .i64 p.W) (.int .i64 p.H) (.slice b0 p.T.cs.length d0) (.slice b1 p.T.ss.length d1) (.slice b2 p.T.ct.length d2) (.slice b3 p.T.st.length d3) (.string p.N) (.slice bo p.L.length bc)).mono (Nat.le_of_lt hlt3)⟩)
    have HP := hid (HPL.out false HBB.out)
    clear HPL K4 T4 H4 B4 E4 F4 KM FR
    go_wp2_with fail
    generalize (((((((((w3.alloc (.cells #[.slice a4 (sbC 0 p.L).length c4, .slice a5 (sbS 0 p.L).length c5, .slice a6 (sbC 1 p.L).length c6, .slice a7 (sbS 1 p.L).length c7] 33)).setCell ⟨w.heap.size + 1, 0, none⟩ (.int .i64 p.W)).setCell ⟨w.heap.size + 1, 1, none⟩ (.int .i64 p.H)).setCell ⟨w.heap.size + 1, 2, none⟩ (.slice b0 p.T.cs.length d0)).setCell ⟨w.heap.size + 1, 3, none⟩ (.slice b1 p.T.ss.length d1)).setCell ⟨w.heap.size + 1, 4, none⟩ (.slice b2 p.T.ct.length d2)).setCell ⟨w.heap.size + 1, 5, none⟩ (.slice b3 p.T.st.length d3)).setCell ⟨w.heap.size + 1, 6, none⟩ (.string p.N)).setCell ⟨w.heap.size + 1, 7, none⟩ (.slice bo p.L.length bc)) = wf at *
    clear s0 s1 s2 s3 s4 s5 s6 s7
    obtain ⟨s0, s1, s2, s3, s4, s5, s6, s7⟩ := EZ.out
    exact bodyPost_ret (v := .agg #[.int .i64 p.W, .int .i64 p.H, .slice b0 p.T.cs.length d0, .slice b1 p.T.ss.length d1, .slice b2 p.T.ct.length d2, .slice b3 p.T.st.length d3, .string p.N, .slice bo p.L.length bc]) (by simp [results, Tryz.results47, go_sem, s0, s1, s2, s3, s4, s5, s6, s7]) rfl ⟨_, rfl, by rw [HP.out]; exact PZ.out, fun h => by (rw [HBB.out] at h; cases h), BZ.out⟩
  | true =>
    have E5 := hid ((((E4.out.set (.slice a4 (sbC 0 p.L).length c4)).2.2.1.set (.slice a5 (sbS 0 p.L).length c5)).2.2.2.1.set (.slice a6 (sbC 1 p.L).length c6)).2.2.2.2.1.set (.slice a7 (sbS 1 p.L).length c7)).2.2.2.2.2.1
    have F5 := hid ((((F4.out.other hne (i := 2) (.slice a4 (sbC 0 p.L).length c4)).other hne (i := 3) (.slice a5 (sbS 0 p.L).length c5)).other hne (i := 4) (.slice a6 (sbC 1 p.L).length c6)).other hne (i := 5) (.slice a7 (sbS 1 p.L).length c7))


    have EZ := hid (F5.out.set8 (.int .i64 p.W) (.int .i64 p.H) (.slice a4 (sbC 0 p.L).length c4) (.slice a5 (sbS 0 p.L).length c5) (.slice a6 (sbC 1 p.L).length c6) (.slice a7 (sbS 1 p.L).length c7) (.string p.N) (.slice bo p.L.length bc)).cells
    have BZ := hid (below8 ((((B4.out.setCell (p := ⟨w.heap.size, 2, none⟩) (Nat.le_refl _) (.slice a4 (sbC 0 p.L).length c4)).setCell (p := ⟨w.heap.size, 3, none⟩) (Nat.le_refl _) (.slice a5 (sbS 0 p.L).length c5)).setCell (p := ⟨w.heap.size, 4, none⟩) (Nat.le_refl _) (.slice a6 (sbC 1 p.L).length c6)).setCell (p := ⟨w.heap.size, 5, none⟩) (Nat.le_refl _) (.slice a7 (sbS 1 p.L).length c7)) (Nat.le_succ _) (.int .i64 p.W) (.int .i64 p.H) (.slice a4 (sbC 0 p.L).length c4) (.slice a5 (sbS 0 p.L).length c5) (.slice a6 (sbC 1 p.L).length c6) (.slice a7 (sbS 1 p.L).length c7) (.string p.N) (.slice bo p.L.length bc))
    have KZ := hid (OwnK.set8 ((((K4.out.setCell_below (a := ⟨w.heap.size, 2, none⟩) hlt3 (.slice a4 (sbC 0 p.L).length c4)).setCell_below (a := ⟨w.heap.size, 3, none⟩) hlt3 (.slice a5 (sbS 0 p.L).length c5)).setCell_below (a := ⟨w.heap.size, 4, none⟩) hlt3 (.slice a6 (sbC 1 p.L).length c6)).setCell_below (a := ⟨w.heap.size, 5, none⟩) hlt3 (.slice a7 (sbS 1 p.L).length c7)) h12 (.int .i64 p.W) (.int .i64 p.H) (.slice a4 (sbC 0 p.L).length c4) (.slice a5 (sbS 0 p.L).length c5) (.slice a6 (sbC 1 p.L).length c6) (.slice a7 (sbS 1 p.L).length c7) (.string p.N) (.slice bo p.L.length bc))
    have HZ := hid (TT.set8 ((((H4.out.setCell_below (a := ⟨w.heap.size, 2, none⟩) h02 (.slice a4 (sbC 0 p.L).length c4)).setCell_below (a := ⟨w.heap.size, 3, none⟩) h02 (.slice a5 (sbS 0 p.L).length c5)).setCell_below (a := ⟨w.heap.size, 4, none⟩) h02 (.slice a6 (sbC 1 p.L).length c6)).setCell_below (a := ⟨w.heap.size, 5, none⟩) h02 (.slice a7 (sbS 1 p.L).length c7)) h12' (.int .i64 p.W) (.int .i64 p.H) (.slice a4 (sbC 0 p.L).length c4) (.slice a5 (sbS 0 p.L).length c5) (.slice a6 (sbC 1 p.L).length c6) (.slice a7 (sbS 1 p.L).length c7) (.string p.N) (.slice bo p.L.length bc))
    have PZ := hid (show PO w.heap.size (((((((((((((w3.alloc (.cells #[.slice a4 (sbC 0 p.L).length c4, .slice a5 (sbS 0 p.L).length c5, .slice a6 (sbC 1 p.L).length c6, .slice a7 (sbS 1 p.L).length c7] 33)).setCell ⟨w.heap.size, 2, none⟩ (.slice a4 (sbC 0 p.L).length c4)).setCell ⟨w.heap.size, 3, none⟩ (.slice a5 (sbS 0 p.L).length c5)).setCell ⟨w.heap.size, 4, none⟩ (.slice a6 (sbC 1 p.L).length c6)).setCell ⟨w.heap.size, 5, none⟩ (.slice a7 (sbS 1 p.L).length c7)).setCell ⟨w.heap.size + 1, 0, none⟩ (.int .i64 p.W)).setCell ⟨w.heap.size + 1, 1, none⟩ (.int .i64 p.H)).setCell ⟨w.heap.size + 1, 2, none⟩ (.slice a4 (sbC 0 p.L).length c4)).setCell ⟨w.heap.size + 1, 3, none⟩ (.slice a5 (sbS 0 p.L).length c5)).setCell ⟨w.heap.size + 1, 4, none⟩ (.slice a6 (sbC 1 p.L).length c6)).setCell ⟨w.heap.size + 1, 5, none⟩ (.slice a7 (sbS 1 p.L).length c7)).setCell ⟨w.heap.size + 1, 6, none⟩ (.string p.N)).setCell ⟨w.heap.size + 1, 7, none⟩ (.slice bo p.L.length bc)) (.agg #[.int .i64 p.W, .int .i64 p.H, .slice a4 (sbC 0 p.L).length c4, .slice a5 (sbS 0 p.L).length c5, .slice a6 (sbC 1 p.L).length c6, .slice a7 (sbS 1 p.L).length c7, .string p.N, .slice bo p.L.length bc]) { p with T := ⟨sbC 0 p.L, sbS 0 p.L, sbC 1 p.L, sbS 1 p.L⟩ } from ⟨_, _, _, _, _, _, w2.heap.size, rfl, Nat.le_of_lt h02, HZ.out, KZ.out.mono (Nat.le_of_lt hlt3), KM.out.1, KM.out.2⟩)
    have HP := hid (HPL.out true HBB.out)
    obtain ⟨f0, f1, f2, f3⟩ := FR.out.cells
    clear HPL K4 T4 H4 B4 E4 F4 KM FR E5 F5 KZ HZ
    go_wp2_with fail
    generalize (((((((((((((w3.alloc (.cells #[.slice a4 (sbC 0 p.L).length c4, .slice a5 (sbS 0 p.L).length c5, .slice a6 (sbC 1 p.L).length c6, .slice a7 (sbS 1 p.L).length c7] 33)).setCell ⟨w.heap.size, 2, none⟩ (.slice a4 (sbC 0 p.L).length c4)).setCell ⟨w.heap.size, 3, none⟩ (.slice a5 (sbS 0 p.L).length c5)).setCell ⟨w.heap.size, 4, none⟩ (.slice a6 (sbC 1 p.L).length c6)).setCell ⟨w.heap.size, 5, none⟩ (.slice a7 (sbS 1 p.L).length c7)).setCell ⟨w.heap.size + 1, 0, none⟩ (.int .i64 p.W)).setCell ⟨w.heap.size + 1, 1, none⟩ (.int .i64 p.H)).setCell ⟨w.heap.size + 1, 2, none⟩ (.slice a4 (sbC 0 p.L).length c4)).setCell ⟨w.heap.size + 1, 3, none⟩ (.slice a5 (sbS 0 p.L).length c5)).setCell ⟨w.heap.size + 1, 4, none⟩ (.slice a6 (sbC 1 p.L).length c6)).setCell ⟨w.heap.size + 1, 5, none⟩ (.slice a7 (sbS 1 p.L).length c7)).setCell ⟨w.heap.size + 1, 6, none⟩ (.string p.N)).setCell ⟨w.heap.size + 1, 7, none⟩ (.slice bo p.L.length bc)) = wf at *
    clear s0 s1 s2 s3 s4 s5 s6 s7
    obtain ⟨s0, s1, s2, s3, s4, s5, s6, s7⟩ := EZ.out
    exact bodyPost_ret (v := .agg #[.int .i64 p.W, .int .i64 p.H, .slice a4 (sbC 0 p.L).length c4, .slice a5 (sbS 0 p.L).length c5, .slice a6 (sbC 1 p.L).length c6, .slice a7 (sbS 1 p.L).length c7, .string p.N, .slice bo p.L.length bc]) (by simp [results, Tryz.results47, go_sem, s0, s1, s2, s3, s4, s5, s6, s7]) rfl ⟨_, rfl, by rw [HP.out]; exact PZ.out.pq, fun _ => by rw [HP.out]; exact PZ.out, BZ.out⟩
end Go.Proofs.YtnnakmgngkpghaaGreat
