/- Thumb of the program and of the specification. -/
import Derived.Test.YtnnakmgngkpghaaPk
namespace Go.Proofs.Ytnnakmgngkpghaa
open Go.RowKit Go.Maps
set_option linter.unusedVariables false

/-- The first numbers of blocks. -/
def dcs (L : List (Int × List Int)) : List Int := L.map Prod.fst
theorem dcs_len (L : List (Int × List Int)) : (dcs L).length = L.length := by simp [dcs]
theorem dcs_get (L : List (Int × List Int)) (j : Nat) (h : j < L.length) : (dcs L).getD j 0 = (nth L j).1 := by simp [dcs, nth, List.getD, h]
theorem dcs_take (L : List (Int × List Int)) (j : Nat) (h : j < L.length) : dcs (L.take (j + 1)) = dcs (L.take j) ++ [(nth L j).1] := by
  unfold dcs
  rw [List.take_add_one, List.map_append]
  simp [nth, List.getD, h]

theorem tell_any (d : Int) (a : Option Addr) (n c : Nat) (w : World) : Calls Try.prog 20 #[.agg #[.int .i64 d, .slice a n c]] w fun e w' => e = .returned (.int .i64 d) ∧ Below w.heap.size w w' := by
  go_enter Try.func20, Try.ntmps20
  go_wp2
  go_ret
  exact ⟨rfl, (Below.refl _ _).alloc (Nat.le_refl _) _⟩

set_option maxRecDepth 20000 in
set_option maxHeartbeats 1600000 in
theorem each_any (ao : Option Addr) (cap : Nat) (L : List (Int × List Int)) (w : World) (hn : L.length ≤ 1048576) (hv : BRow w ao L) :
    Calls Try.prog 19 #[.slice ao L.length cap, .func (.func 20) #[] #[]] w fun e w' => ∃ v, e = .returned v ∧ Own w' w.heap.size 3 .i64 v (dcs L) ∧ Below w.heap.size w w' := by
  have HV := hid hv
  have HDL := hid (dcs_len L)
  clear hv
  go_enter Try.func19, Try.ntmps19
  go_wp2_with (at_make; refine wpList_mkn w rfl _ _ 22 rfl w.heap.size 3 .i64 8 Try.underlying22 Try.info3 _ _ L.length rfl rfl (by omega) (by decide) (Nat.le_refl _) ?_)
  intro w0 hown0 hb0
  go_wp2
  go_loopw [13] (fun i wr => ∃ (k : Nat) (ys : List Int), k ≤ L.length ∧ i = .int .i64 k ∧ Own wr w.heap.size 3 .i64 (.slice (some ⟨w.heap.size, 0, none⟩) L.length L.length) ys ∧ Hid (ys.length = L.length ∧ ∀ j, j < k → ys.getD j 0 = (dcs L).getD j 0) ∧ Below w.heap.size w wr) (fun i _ => L.length - (intOf i).toNat)
  case atStart => exact ⟨0, _, by omega, rfl, hown0, ⟨by simp, fun j hj => by omega⟩, hb0⟩
  case round =>
    obtain ⟨k, ys, hk, rfl, hown, hys, hb⟩ := hrel
    clear hown0 hb0
    by_cases hlt : k < L.length
    · obtain ⟨b, off, a, c, rfl, hc1, hc2, hvw⟩ := HV.out.below hb k hlt
      have HX := hid (dcs_get L k hlt)
      have hlt' : (k : Int) < (L.length : Int) := by omega
      generalize (nth L k).1 = D at *
      generalize (nth L k).2.length = N at *
      have hA := (Below.refl wr.heap.size wr).alloc (Nat.le_refl _) (.cells #[.int .i64 D, .slice a N c] 49)
      have HO1 := hid (hown.below hA)
      have HB1 := hid (hb.trans (hA.mono hb.size))
      clear hvw hown hA
      go_wp2_with (first | (go_at_call 20; fail) | fail)
      refine (tell_any D a N c _).mono ?_
      generalize wr.alloc (.cells #[.int .i64 D, .slice a N c] 49) = wb at *
      rintro e w2 ⟨rfl, hb2⟩
      have HO2 := hid (HO1.out.below hb2)
      have HB2 := hid (HB1.out.trans (hb2.mono HB1.out.size))
      have hold := HO2.out.at k (by have := hys.out.1; omega)
      have hfree := HO2.out.free k
      have hnew := hid (HO2.out.store k D)
      generalize ys.getD k 0 = Y at *
      clear hb2 HO1 HB1
      go_wp2
      go_roundw
      case rel =>
        refine ⟨k + 1, _, by omega, by go_num, hnew.out, ⟨by simp; exact hys.out.1, fun j hj => ?_⟩, HB2.out.setCell (p := ⟨w.heap.size, k, none⟩) (Nat.le_refl _) _⟩
        by_cases e : j = k
        · subst e
          rw [HX.out]
          simp [List.getD, hys.out.1, hlt]
        · rw [← hys.out.2 j (by omega)]
          simp [List.getD, show k ≠ j from fun h => e h.symm]
      case measure => simp [intOf]; omega
    · obtain rfl : k = L.length := by omega
      have hxy : ys = dcs L := list_eq_of_getD (by rw [hys.out.1, HDL.out]) (fun i hi => hys.out.2 i (by rw [← hys.out.1]; exact hi))
      subst hxy
      go_wp2
      go_ret
      exact ⟨_, rfl, hown, hb⟩
/-- What Thumb answers. -/
def thR (R : Bool) (p : Pk) : List Int := if R = true then dcs p.L else []

set_option maxRecDepth 20000 in
set_option maxHeartbeats 1600000 in
theorem impl_thumb (v : Value) (p : Pk) (w : World) (hf : p.Fits) (hv : PV w v p) (R : Bool)
    (hs : ∀ q v, PV q v p → Calls Try.prog 18 #[v] q fun e w' => e = .returned (.bool R) ∧ Below q.heap.size q w') :
    Calls Try.prog 7 #[v] w fun e w' => ∃ v', e = .returned (.tuple #[v', .bool R]) ∧ Own w' w.heap.size 3 .i64 v' (thR R p) ∧ Below w.heap.size w w' := by
  have HPV := hid hv
  obtain ⟨a0, c0, a1, c1, a2, c2, a3, c3, ao, cap, rfl, ht, hb⟩ := hv
  have HEA := hid (fun q (h : BRow q ao p.L) => each_any ao cap p.L q hf.hn h)
  have HA := hid ((Below.refl w.heap.size w).alloc (Nat.le_refl _) (.cells #[.int .i64 p.W, .int .i64 p.H, .slice a0 p.T.cs.length c0, .slice a1 p.T.ss.length c1, .slice a2 p.T.ct.length c2, .slice a3 p.T.st.length c3, .string p.N, .slice ao p.L.length cap] 38))
  have HE := hid (Eig.new w (.int .i64 p.W) (.int .i64 p.H) (.slice a0 p.T.cs.length c0) (.slice a1 p.T.ss.length c1) (.slice a2 p.T.ct.length c2) (.slice a3 p.T.st.length c3) (.string p.N) (.slice ao p.L.length cap) 38)
  have HBR := hid (hb.below HA.out)
  have HS := hid (hs _ _ (HPV.out.below HA.out))
  have HR := hid (show thR R p = if R = true then dcs p.L else [] from rfl)
  clear ht hb hs hf
  go_enter Try.func7, Try.ntmps7
  go_wp2_with fail
  refine HS.out.mono ?_
  generalize w.alloc _ = wa at *
  rintro e w1 ⟨rfl, hb1⟩
  have E1 := hid (HE.out.below hb1 HE.out.lt)
  have B1 := hid (HA.out.trans (hb1.mono HA.out.size))
  have R1 := hid (HBR.out.below hb1)
  clear hb1 HE HA HBR HS HPV
  obtain ⟨q0, q1, q2, q3, q4, q5, q6, q7⟩ := E1.out.cells
  have hsz := B1.out.size
  cases R with
  | false =>
    go_wp2_with fail
    go_ret2
    exact ⟨_, rfl, by rw [HR.out]; exact Own.empty _ _ _ _ hsz, B1.out.alloc hsz _⟩
  | true =>
    have HC := hid (HEA.out w1 R1.out)
    go_wp2_with (first | (go_at_call 19; fail) | fail)
    refine HC.out.mono ?_
    rintro e w2 ⟨v2, rfl, ho2, hb2⟩
    obtain ⟨x0, d0, rfl⟩ := ho2.shape
    have O2 := hid (ho2.mono hsz)
    have B2 := hid (B1.out.trans (hb2.mono hsz))
    clear ho2 hb2
    go_wp2_with fail
    go_ret2
    exact ⟨_, rfl, by rw [HR.out]; exact O2.out, B2.out⟩

set_option maxRecDepth 20000 in
set_option maxHeartbeats 1600000 in
theorem spec_thumb (v : Value) (p : Pk) (w : World) (hf : p.Fits) (hv : PV w v p) (R : Bool)
    (hs : ∀ q v, PV q v p → Calls Try.prog 15 #[v] q fun e w' => e = .returned (.bool R) ∧ Below q.heap.size q w') :
    Calls Try.prog 5 #[v] w fun e w' => ∃ v', e = .returned (.tuple #[v', .bool R]) ∧ Own w' w.heap.size 3 .i64 v' (thR R p) ∧ Below w.heap.size w w' := by
  have HPV := hid hv
  obtain ⟨a0, c0, a1, c1, a2, c2, a3, c3, ao, cap, rfl, ht, hb⟩ := hv
  have hn := hf.hn
  have HA := hid ((Below.refl w.heap.size w).alloc (Nat.le_refl _) (.cells #[.int .i64 p.W, .int .i64 p.H, .slice a0 p.T.cs.length c0, .slice a1 p.T.ss.length c1, .slice a2 p.T.ct.length c2, .slice a3 p.T.st.length c3, .string p.N, .slice ao p.L.length cap] 38))
  have HE := hid (Eig.new w (.int .i64 p.W) (.int .i64 p.H) (.slice a0 p.T.cs.length c0) (.slice a1 p.T.ss.length c1) (.slice a2 p.T.ct.length c2) (.slice a3 p.T.st.length c3) (.string p.N) (.slice ao p.L.length cap) 38)
  have HBR := hid (hb.below HA.out)
  have HBW := hid hb
  have HS := hid (fun q (hq : Below w.heap.size w q) => hs q _ (HPV.out.below hq))
  have HR := hid (show thR R p = if R = true then dcs p.L else [] from rfl)
  have hs1 : (w.alloc (.cells #[.int .i64 p.W, .int .i64 p.H, .slice a0 p.T.cs.length c0, .slice a1 p.T.ss.length c1, .slice a2 p.T.ct.length c2, .slice a3 p.T.st.length c3, .string p.N, .slice ao p.L.length cap] 38)).heap.size = w.heap.size + 1 := by simp
  have hoe := Own.empty (w.alloc (.cells #[.int .i64 p.W, .int .i64 p.H, .slice a0 p.T.cs.length c0, .slice a1 p.T.ss.length c1, .slice a2 p.T.ct.length c2, .slice a3 p.T.st.length c3, .string p.N, .slice ao p.L.length cap] 38)) 3 .i64 (w.heap.size + 1) (by rw [hs1]; exact Nat.le_refl _)
  have hba := (Below.refl (w.alloc (.cells #[.int .i64 p.W, .int .i64 p.H, .slice a0 p.T.cs.length c0, .slice a1 p.T.ss.length c1, .slice a2 p.T.ct.length c2, .slice a3 p.T.st.length c3, .string p.N, .slice ao p.L.length cap] 38)).heap.size (w.alloc (.cells #[.int .i64 p.W, .int .i64 p.H, .slice a0 p.T.cs.length c0, .slice a1 p.T.ss.length c1, .slice a2 p.T.ct.length c2, .slice a3 p.T.st.length c3, .string p.N, .slice ao p.L.length cap] 38))).alloc (Nat.le_refl _) (.cells #[] 3)
  have HE2 := hid (HE.out.below hba HE.out.lt)
  have HB2 := hid (HA.out.trans (hba.mono HA.out.size))
  have HR2 := hid (HBR.out.below hba)
  have HP2 := hid (HS.out _ HB2.out)
  rw [hs1] at hoe
  have HOE := hid hoe
  clear ht hb hs hf HPV hba hs1 hoe HS HA HE HBR
  go_enter Try.func5, Try.ntmps5
  go_wp2_with (first | (go_at_call 15; fail) | fail)
  refine HP2.out.mono ?_
  generalize (w.alloc _).alloc _ = wa at *
  rintro e w1 ⟨rfl, hb1⟩
  have E1 := hid (HE2.out.below hb1 HE2.out.lt)
  have B1 := hid (HB2.out.trans (hb1.mono HB2.out.size))
  have R1 := hid (HR2.out.below hb1)
  have O1 := hid (HOE.out.below hb1)
  have hsz : w.heap.size + 1 ≤ w1.heap.size := O1.out.1
  clear hb1 HE2 HB2 HR2 HOE HP2
  cases R with
  | false =>
    go_wp2_with fail
    go_ret2
    exact ⟨_, rfl, by rw [HR.out]; exact O1.out.mono (Nat.le_succ _), B1.out⟩
  | true =>
    go_wp2_with fail
    go_loopw [4, 5] (fun t i wr => ∃ k : Nat, k ≤ p.L.length ∧ i = .int .i64 k ∧ Hid (Own wr (w.heap.size + 1) 3 .i64 t (dcs (p.L.take k))) ∧ Hid (Below (w.heap.size + 1) w1 wr)) (fun _ i _ => p.L.length - (intOf i).toNat)
    case atStart => exact ⟨0, by omega, rfl, O1, hid (Below.refl _ _)⟩
    case round =>
      obtain ⟨k, hk, rfl, hown, hb⟩ := hrel
      have Er := hid (E1.out.below hb.out (Nat.lt_succ_self _))
      obtain ⟨q0, q1, q2, q3, q4, q5, q6, q7⟩ := Er.out.cells
      have hlr : w.heap.size + 1 ≤ wr.heap.size := hown.out.1
      have htl : (dcs (p.L.take k)).length = k := by rw [dcs_len, List.length_take]; omega
      obtain ⟨yo, yc, hy⟩ := hown.out.shape
      rw [htl] at hy
      subst hy
      by_cases hlt : k < p.L.length
      · obtain ⟨b, off, a, c, hao, hc1, hc2, hvw⟩ := HBW.out.below (B1.out.trans (hb.out.mono (Nat.le_succ _))) k hlt
        have hlt' : (k : Int) < (p.L.length : Int) := by omega
        have hown2 := hown.out
        have HT := hid (dcs_take p.L k hlt)
        generalize (nth p.L k).1 = D at *
        have hkl : (dcs (p.L.take k)).length < 1000000000000 := by rw [htl]; omega
        subst hao
        clear hc2 hvw
        go_wp2_with (at_builtin; refine wpList_push _ rfl _ _ 22 rfl _ 3 .i64 0 8 Try.underlying22 Try.info3 _ _ rfl hown2 D rfl hkl (by decide) ?_)
        intro v5 w5 ho5 hb5
        have HO5 := hid ho5
        have HB5 := hid (hb.out.trans hb5)
        clear ho5 hb5
        go_wp2
        go_roundw
        case rel => exact ⟨k + 1, by omega, by go_num, hid (by rw [HT.out]; exact HO5.out), HB5⟩
        case measure => simp [intOf]; omega
      · obtain rfl : k = p.L.length := by omega
        have HO := hid (show Own wr w.heap.size 3 .i64 (.slice yo p.L.length yc) (dcs p.L) from by
          have := hown.out
          rw [List.take_length] at this
          exact this.mono (Nat.le_succ _))
        have HB := hid (B1.out.trans (hb.out.mono (Nat.le_succ _)))
        go_wp2_with fail
        go_ret2
        exact ⟨_, rfl, by rw [HR.out]; exact HO.out, HB.out⟩
end Go.Proofs.Ytnnakmgngkpghaa
