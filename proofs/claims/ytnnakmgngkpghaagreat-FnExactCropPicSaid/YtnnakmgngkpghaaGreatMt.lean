/- Marks of tables and blocks; a view of a row of numbers. -/
import Derived.Test.YtnnakmgngkpghaaGreatPd
namespace Go.Proofs.YtnnakmgngkpghaaGreat
open Go.RowKit Go.Maps
set_option linter.unusedVariables false

set_option maxRecDepth 100000 in
set_option maxHeartbeats 1600000 in
theorem markBlockSG (s0 : Int) (hs0 : 1 ≤ s0) (hs1 : s0 ≤ 1000000000) (B m : Nat) (g n : Nat) (ys : Nat → Value) (ns : Nat → Nat) (w : World) (hn : n ≤ 1048576) (hns : ∀ j, j < n → ns j ≤ 1048576) (hB : B ≤ g) (hm : g < m) (hv : RowM B m w g n ys ns) :
    Calls Tryz.prog 32 #[.slice (some ⟨g, 0, none⟩) n n, .int .i64 s0] w fun e w' => (∃ r : Int, e = .returned (.int .i64 r) ∧ 0 ≤ r) ∧ Spare B m w w' := by
  have HV := hid hv
  have HNS := hid hns
  clear hv hns
  go_enter Tryz.func32, Tryz.ntmps32
  go_wp2
  go_loopw [1, 5] (fun r i wr => ∃ (k : Nat) (q : Int), k ≤ n ∧ i = .int .i64 k ∧ r = .int .i64 q ∧ (1 ≤ q ∧ q ≤ s0 + 1048577 * (k : Int)) ∧ Hid (RowM B m wr g n ys ns) ∧ Hid (Spare B m w wr)) (fun _ i _ => n - (intOf i).toNat)
  case atStart => exact ⟨0, s0, by omega, rfl, rfl, by omega, HV.out, Spare.refl _ _ _⟩
  case round =>
    obtain ⟨k, q, hk, rfl, rfl, ⟨hq0, hq1⟩, hrow, hsp⟩ := hrel
    by_cases hlt : k < n
    · have hlt' : (k : Int) < (n : Int) := by omega
      obtain ⟨arr, har, hcells⟩ := hrow.out
      obtain ⟨⟨d, k1⟩, k2, k3⟩ := hcells k hlt
      have p0 : wr.cell? ⟨g, k * 2, none⟩ = some (.int .i64 d) := (har.cell _).trans k1
      have p2 := har.free (k * 2)
      have HR1 := hid (hrow.out.set hlt q)
      have HS1 := hid (Spare.ofOnly (B := B) (m := m) ((Only.refl g wr).setCell (k * 2) (.int .i64 q)) hB hm)
      have hnk := HNS.out k hlt
      obtain ⟨arr1, har1, hcells1⟩ := HR1.out
      obtain ⟨_, m2, m3⟩ := hcells1 k hlt
      have p1 : (wr.setCell ⟨g, k * 2, none⟩ (.int .i64 q)).cell? ⟨g, k * 2 + 1, none⟩ = some (ys k) := (har1.cell _).trans m2
      have HM := hid (mark_ints B m (ys k) (ns k) (q + 1) _ hnk (by omega) (by omega) m3)
      obtain ⟨yo, yc, hy⟩ := m3.shape
      rw [hy] at p1 HM
      clear har hcells k1 k2 k3 har1 hcells1 m2 m3 hy
      generalize ns k = N at *
      have HW := hid (show Spare B m w (wr.setCell ⟨g, k * 2, none⟩ (.int .i64 q)) from hsp.out.trans HS1.out)
      go_wp2_with fail
      refine HM.out.mono ?_
      rintro e w2 ⟨rfl, hsoft⟩
      have HR2 := hid (HR1.out.soft hsoft)
      have HS2 := hid (HW.out.trans hsoft.1)
      clear hsoft
      go_wp2_with fail
      go_roundw
      case rel => exact ⟨k + 1, q + 1 + N, by omega, by go_num, rfl, by omega, HR2.out, HS2.out⟩
      case measure => simp [intOf]; omega
    · obtain rfl : k = n := by omega
      go_wp2
      go_ret
      exact ⟨⟨_, rfl, by omega⟩, hsp.out⟩

set_option maxHeartbeats 800000 in
theorem markTablesI (B m : Nat) (a0 a1 a2 a3 : Option Addr) (n0 n1 n2 n3 c0 c1 c2 c3 : Nat) (w : World) (h0 : n0 ≤ 1048576) (h1 : n1 ≤ 1048576) (h2 : n2 ≤ 1048576) (h3 : n3 ≤ 1048576) (hm : m ≤ w.heap.size)
    (o0 : IntB B m w (.slice a0 n0 c0) n0) (o1 : IntB B m w (.slice a1 n1 c1) n1) (o2 : IntB B m w (.slice a2 n2 c2) n2) (o3 : IntB B m w (.slice a3 n3 c3) n3) :
    Calls Tryz.prog 31 #[.agg #[.slice a0 n0 c0, .slice a1 n1 c1, .slice a2 n2 c2, .slice a3 n3 c3], .int .i64 1] w fun e w' => e = .returned (.int .i64 (1 + n0 + n1 + n2 + n3)) ∧ Soft B m w w' := by
  have HB := hid ((Below.refl w.heap.size w).alloc (Nat.le_refl _) (.cells #[.slice a0 n0 c0, .slice a1 n1 c1, .slice a2 n2 c2, .slice a3 n3 c3] 33))
  have HF := hid (Four.new w (.slice a0 n0 c0) (.slice a1 n1 c1) (.slice a2 n2 c2) (.slice a3 n3 c3) 33)
  have SB := hid (Soft.ofBelow (B := B) (m := m) HB.out)
  have I0 := hid (o0.soft SB.out)
  have I1 := hid (o1.soft SB.out)
  have I2 := hid (o2.soft SB.out)
  have I3 := hid (o3.soft SB.out)
  have HMS := hid (Nat.le_trans hm HB.out.size)
  clear o0 o1 o2 o3
  go_enter Tryz.func31, Tryz.ntmps31
  go_wp2_with fail
  refine (markCodesI B m a0 a1 n0 n1 c0 c1 1 _ h0 h1 (by decide) (by decide) HMS.out I0.out I1.out).mono ?_
  generalize w.alloc (.cells #[.slice a0 n0 c0, .slice a1 n1 c1, .slice a2 n2 c2, .slice a3 n3 c3] 33) = wa at *
  rintro e w1 ⟨rfl, hsoft⟩
  have S1 := hid (SB.out.trans hsoft)
  have J2 := hid (I2.out.soft hsoft)
  have J3 := hid (I3.out.soft hsoft)
  have hms1 : m ≤ w1.heap.size := Nat.le_trans HMS.out hsoft.1.2.2.2.1
  have F1 := hid (show Four w1 w.heap.size (.slice a0 n0 c0) (.slice a1 n1 c1) (.slice a2 n2 c2) (.slice a3 n3 c3) 33 from hsoft.2.2 _ _ 33 (by decide) HF.out)
  obtain ⟨q0, q1, q2, q3⟩ := F1.out.cells
  clear hsoft
  go_wp2_with fail
  refine (markCodesI B m a2 a3 n2 n3 c2 c3 (1 + n0 + n1) _ h2 h3 (by omega) (by omega) hms1 J2.out J3.out).mono ?_
  rintro e w2 ⟨rfl, hsoft⟩
  have S2 := hid (S1.out.trans hsoft)
  clear hsoft
  go_wp2_with fail
  go_ret
  exact ⟨rfl, S2.out⟩

theorem RowM.below {B m : Nat} {w w' : World} {g n : Nat} {ys : Nat → Value} {ns : Nat → Nat} (h : RowM B m w g n ys ns) (hb : Below w.heap.size w w') : RowM B m w' g n ys ns := by
  obtain ⟨arr, h1, h2⟩ := h
  refine ⟨arr, h1.below hb h1.lt, fun j hj => ?_⟩
  obtain ⟨k1, k2, k3⟩ := h2 j hj
  refine ⟨k1, k2, ?_⟩
  rcases k3 with k3 | ⟨b, cap, cur, q1, q2, q3, q4, q5⟩
  · exact .inl k3
  · exact .inr ⟨b, cap, cur, q1, q2, q3, q4.below hb q4.lt, q5⟩
theorem IntB.below {B m : Nat} {w w' : World} {y : Value} {n : Nat} (h : IntB B m w y n) (hb : Below w.heap.size w w') : IntB B m w' y n := by
  rcases h with k3 | ⟨b, cap, cur, q1, q2, q3, q4, q5⟩
  · exact .inl k3
  · exact .inr ⟨b, cap, cur, q1, q2, q3, q4.below hb q4.lt, q5⟩
theorem IntB.wider {B B' m m' : Nat} {w : World} {y : Value} {n : Nat} (h : IntB B m w y n) (hB : B' ≤ B) (hm : m ≤ m') : IntB B' m' w y n := by
  rcases h with k3 | ⟨b, cap, cur, q1, q2, q3, q4, q5⟩
  · exact .inl k3
  · exact .inr ⟨b, cap, cur, q1, by omega, by omega, q4, q5⟩
theorem RowM.wider {B B' m m' : Nat} {w : World} {g n : Nat} {ys : Nat → Value} {ns : Nat → Nat} (h : RowM B m w g n ys ns) (hB : B' ≤ B) (hm : m ≤ m') : RowM B' m' w g n ys ns := by
  obtain ⟨arr, h1, h2⟩ := h
  refine ⟨arr, h1, fun j hj => ?_⟩
  obtain ⟨k1, k2, k3⟩ := h2 j hj
  exact ⟨k1, k2, k3.wider hB hm⟩
theorem BSTo.rowM {w : World} {g : Nat} {L : List (Int × List Int)} {n : Nat} (h : BSTo w g L n n) : ∃ ys, RowM g w.heap.size w g n ys (fun j => (nth L j).2.length) := by
  obtain ⟨arr, h1, h2, h3⟩ := h
  refine ⟨fun j => (arr[j * 2 + 1]?).getD (.bool false), arr, h1, fun j hj => ?_⟩
  obtain ⟨e1, y, e2, e3⟩ := h3 j hj
  refine ⟨⟨_, e1⟩, by simp [e2], ?_⟩
  have : (arr[j * 2 + 1]?).getD (.bool false) = y := by simp [e2]
  show IntB g w.heap.size w ((arr[j * 2 + 1]?).getD (.bool false)) (nth L j).2.length
  rw [this]
  exact e3.intB (by omega) (fun a k c h => by subst h; exact e3.ge.2)

/-- A slice that reads as xs. -/
def Vw (w : World) (v : Value) (xs : List Int) : Prop := ∃ ao cap, v = .slice ao xs.length cap ∧ View .i64 w ao xs.length xs
theorem Vw.below {w w' : World} {v : Value} {xs : List Int} (h : Vw w v xs) (hb : Below w.heap.size w w') : Vw w' v xs := by
  obtain ⟨ao, c, hv, hw⟩ := h
  exact ⟨ao, c, hv, hw.below (Nat.le_refl _) hb⟩
theorem eq_vw (w : World) (v v' : Value) (xs : List Int) (hl : xs.length ≤ 4194304) (h : Vw w v xs) (h' : Vw w v' xs) :
    Calls Tryz.prog 67 #[v, v'] w fun e w' => e = .returned (.bool true) ∧ Below w.heap.size w w' := by
  obtain ⟨ao, c, rfl, hv⟩ := h
  obtain ⟨bo, d, rfl, hv'⟩ := h'
  exact eqInts_same ao bo xs.length c d xs w hl hv hv'
theorem held_vw (w : World) (v : Value) (n : Nat) (hn : n ≤ 1000000000) (h : Vw w v (marks n)) :
    Calls Tryz.prog 54 #[v, .int .i64 1] w fun e w' => e = .returned (.int .i64 ((n : Int) + 1)) ∧ w = w' := by
  obtain ⟨ao, c, rfl, hv⟩ := h
  rw [marks_length] at hv ⊢
  exact held_any ao n c w hn hv

set_option maxRecDepth 20000 in
set_option maxHeartbeats 1600000 in
/-- A picture in new memory is marked. -/
theorem markPicI (B m : Nat) (W H : Int) (N : ByteArray) (a0 a1 a2 a3 : Option Addr) (n0 n1 n2 n3 c0 c1 c2 c3 g n : Nat) (ys : Nat → Value) (ns : Nat → Nat) (w : World) (h0 : n0 ≤ 1048576) (h1 : n1 ≤ 1048576) (h2 : n2 ≤ 1048576) (h3 : n3 ≤ 1048576) (hm : m ≤ w.heap.size)
    (o0 : IntB B m w (.slice a0 n0 c0) n0) (o1 : IntB B m w (.slice a1 n1 c1) n1) (o2 : IntB B m w (.slice a2 n2 c2) n2) (o3 : IntB B m w (.slice a3 n3 c3) n3)
    (hn : n ≤ 1048576) (hns : ∀ j, j < n → ns j ≤ 1048576) (hB : B ≤ g) (hgm : g < m) (hv : RowM B m w g n ys ns) :
    Calls Tryz.prog 11 #[.agg #[.int .i64 W, .int .i64 H, .slice a0 n0 c0, .slice a1 n1 c1, .slice a2 n2 c2, .slice a3 n3 c3, .string N, .slice (some ⟨g, 0, none⟩) n n], .int .i64 1] w fun e w' => (∃ r : Int, e = .returned (.int .i64 r) ∧ 0 ≤ r) ∧ Spare B m w w' := by
  have HA := hid ((Below.refl w.heap.size w).alloc (Nat.le_refl _) (.cells #[.int .i64 W, .int .i64 H, .slice a0 n0 c0, .slice a1 n1 c1, .slice a2 n2 c2, .slice a3 n3 c3, .string N, .slice (some ⟨g, 0, none⟩) n n] 36))
  have HE := hid (Eig.new w (.int .i64 W) (.int .i64 H) (.slice a0 n0 c0) (.slice a1 n1 c1) (.slice a2 n2 c2) (.slice a3 n3 c3) (.string N) (.slice (some ⟨g, 0, none⟩) n n) 36)
  have SB := hid (Soft.ofBelow (B := B) (m := m) HA.out)
  have HM := hid (Nat.le_trans hm HA.out.size)
  have HMT := hid (markTablesI B m a0 a1 a2 a3 n0 n1 n2 n3 c0 c1 c2 c3 _ h0 h1 h2 h3 HM.out (o0.soft SB.out) (o1.soft SB.out) (o2.soft SB.out) (o3.soft SB.out))
  have HRM := hid (hv.soft SB.out)
  have HNS := hid hns
  clear o0 o1 o2 o3 hv hns
  go_enter Tryz.func11, Tryz.ntmps11
  go_wp2_with fail
  refine HMT.out.mono ?_
  generalize w.alloc _ = wa at *
  rintro e w1 ⟨rfl, hso⟩
  have S1 := hid (SB.out.trans hso)
  have R1 := hid (HRM.out.soft hso)
  have E1 := hid (show Eig w1 w.heap.size _ _ _ _ _ _ _ _ 36 from hso.2.2 _ _ 36 (by decide) HE.out)
  have hk1 : (1 : Int) + n0 + n1 + n2 + n3 ≤ 1000000000 := by omega
  have hk0 : (1 : Int) ≤ 1 + n0 + n1 + n2 + n3 := by omega
  generalize (1 : Int) + n0 + n1 + n2 + n3 = KK at *
  clear hso HMT HRM SB HE
  obtain ⟨q0, q1, q2, q3, q4, q5, q6, q7⟩ := E1.out.cells
  have HMB := hid (markBlockSG KK hk0 hk1 B m g n ys ns w1 hn HNS.out hB hgm R1.out)
  go_wp2_with fail
  refine HMB.out.mono ?_
  rintro e w2 ⟨⟨r, rfl, hr⟩, hsp⟩
  have S2 := hid (S1.out.1.trans hsp)
  clear hsp
  go_wp2_with fail
  go_ret
  exact ⟨⟨r, rfl, hr⟩, S2.out⟩
end Go.Proofs.YtnnakmgngkpghaaGreat
