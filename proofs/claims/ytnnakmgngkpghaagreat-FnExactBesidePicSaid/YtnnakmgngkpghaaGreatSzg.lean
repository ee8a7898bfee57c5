/- Sizes and marks of two pictures one behind the other: from any start. -/
import Derived.Test.YtnnakmgngkpghaaGreatMt
import Derived.Test.YtnnakmgngkpghaaGreatE8
namespace Go.Proofs.YtnnakmgngkpghaaGreat
open Go.RowKit Go.Maps
set_option linter.unusedVariables false

set_option maxRecDepth 100000 in
set_option maxRecDepth 100000 in
set_option maxHeartbeats 1600000 in
theorem szBlockSH (l0 : Int) (hl0 : 0 ≤ l0) (hl1 : l0 ≤ 1048576) (ao : Option Addr) (cap : Nat) (L : List (Int × List Int)) (w : World) (hn : L.length ≤ 9223372036854775807) (hs : ∀ j, j < L.length → (nth L j).2.length ≤ 9223372036854775807) (hv : BRow w ao L) :
    Calls Tryz.prog 18 #[.slice ao L.length cap, .int .i64 l0] w fun e w' => ∃ r : Int, e = .returned (.int .i64 r) ∧ (r < 0 ∨ (L.length ≤ 1048576 ∧ ∀ j, j < L.length → (nth L j).2.length ≤ 1048576) ∧ 0 ≤ r ∧ r ≤ 1048576) ∧ Below w.heap.size w w' := by
  have HV := hid hv
  have HS := hid hs
  clear hv hs
  by_cases hl : l0 - L.length < 0
  · go_enter Tryz.func18, Tryz.ntmps18
    go_wp2_with fail
    go_ret
    exact ⟨_, rfl, .inl (by decide), Below.refl _ _⟩
  · have hl2 : L.length ≤ 1048576 := by omega
    go_enter Tryz.func18, Tryz.ntmps18
    go_wp2_with fail
    go_loopw [1, 5] (fun l i wr => ∃ (k : Nat) (q : Int), k ≤ L.length ∧ i = .int .i64 k ∧ l = .int .i64 q ∧ (0 ≤ q ∧ q ≤ 1048576) ∧ Hid (∀ j, j < k → (nth L j).2.length ≤ 1048576) ∧ Hid (Below w.heap.size w wr)) (fun _ i _ => L.length - (intOf i).toNat)
    case atStart => exact ⟨0, l0 - L.length, by omega, rfl, rfl, by omega, fun j hj => by omega, Below.refl _ _⟩
    case round =>
      obtain ⟨k, q, hk, rfl, rfl, ⟨hq0, hq1⟩, hall, hb⟩ := hrel
      by_cases hlt : k < L.length
      · obtain ⟨b, off, a, c, rfl, hc1, hc2, hvw⟩ := HV.out.below hb.out k hlt
        have hlt' : (k : Int) < (L.length : Int) := by omega
        have HSZ := hid (szBlock (nth L k).1 a (nth L k).2.length c q wr (HS.out k hlt) hq0 hq1)
        have HNX := hid (fun (h : (nth L k).2.length ≤ 1048576) j (hj : j < k + 1) => (show (nth L j).2.length ≤ 1048576 by
          by_cases e : j = k
          · rw [e]; exact h
          · exact hall.out j (by omega)))
        generalize (nth L k).1 = D at *
        generalize (nth L k).2.length = N at *
        by_cases hneg : q - (N : Int) < 0
        · have e0 : lft q N = -1 := by unfold lft; rw [if_pos hneg]
          rw [e0] at HSZ
          go_wp2_with fail
          refine HSZ.out.mono ?_
          rintro e w2 ⟨rfl, hb2⟩
          have B2 := hid (hb.out.trans (hb2.mono hb.out.size))
          go_wp2_with fail
          go_ret
          exact ⟨_, rfl, .inl (by decide), B2.out⟩
        · have e0 : lft q N = q - N := by unfold lft; rw [if_neg hneg]
          rw [e0] at HSZ
          have HNY := hid (HNX.out (by omega))
          go_wp2_with fail
          refine HSZ.out.mono ?_
          rintro e w2 ⟨rfl, hb2⟩
          have B2 := hid (hb.out.trans (hb2.mono hb.out.size))
          go_wp2_with fail
          go_roundw
          case rel => exact ⟨k + 1, q - N, by omega, by go_num, rfl, by omega, HNY.out, B2.out⟩
          case measure => simp [intOf]; omega
      · obtain rfl : k = L.length := by omega
        go_wp2_with fail
        go_ret
        exact ⟨_, rfl, .inr ⟨⟨hl2, hall.out⟩, hq0, hq1⟩, hb.out⟩

set_option maxHeartbeats 800000 in
theorem szTablesG (l : Int) (hl0 : 0 ≤ l) (hl1 : l ≤ 1048576) (a0 a1 a2 a3 : Option Addr) (n0 n1 n2 n3 c0 c1 c2 c3 : Nat) (w : World) (h0 : n0 ≤ 9223372036854775807) (h1 : n1 ≤ 9223372036854775807) (h2 : n2 ≤ 9223372036854775807) (h3 : n3 ≤ 9223372036854775807) :
    Calls Tryz.prog 17 #[.agg #[.slice a0 n0 c0, .slice a1 n1 c1, .slice a2 n2 c2, .slice a3 n3 c3], .int .i64 l] w fun e w' => ∃ r : Int, e = .returned (.int .i64 r) ∧ (0 ≤ r ∧ (n0 ≤ 1048576 ∧ n1 ≤ 1048576 ∧ n2 ≤ 1048576 ∧ n3 ≤ 1048576) ∧ r ≤ 1048576 ∨ r = -1) ∧ Below w.heap.size w w' := by
  have HB := hid ((Below.refl w.heap.size w).alloc (Nat.le_refl _) (.cells #[.slice a0 n0 c0, .slice a1 n1 c1, .slice a2 n2 c2, .slice a3 n3 c3] 26))
  have HF := hid (Four.new w (.slice a0 n0 c0) (.slice a1 n1 c1) (.slice a2 n2 c2) (.slice a3 n3 c3) 26)
  go_enter Tryz.func17, Tryz.ntmps17
  go_wp2_with fail
  refine (szCodesG l hl0 hl1 a0 a1 n0 n1 c0 c1 _ h0 h1).mono ?_
  generalize w.alloc (.cells #[.slice a0 n0 c0, .slice a1 n1 c1, .slice a2 n2 c2, .slice a3 n3 c3] 26) = wa at *
  rintro e w1 ⟨r, rfl, hr, hb1⟩
  have B1 := hid (HB.out.trans (hb1.mono HB.out.size))
  have F1 := hid (HF.out.below hb1 HF.out.lt)
  obtain ⟨q0, q1, q2, q3⟩ := F1.out.cells
  clear hb1
  rcases hr with ⟨hr0, ⟨hn0, hn1⟩, hr1⟩ | rfl
  · have hd : ¬ r < 0 := by omega
    go_wp2_with fail
    refine (szCodesG r hr0 hr1 a2 a3 n2 n3 c2 c3 _ h2 h3).mono ?_
    rintro e w2 ⟨r2, rfl, hr2, hb2⟩
    have B2 := hid (B1.out.trans (hb2.mono B1.out.size))
    clear hb2
    rcases hr2 with ⟨hs0, ⟨hn2, hn3⟩, hs1⟩ | rfl
    · have hd2 : ¬ r2 < 0 := by omega
      go_wp2_with fail
      go_ret
      exact ⟨_, rfl, .inl ⟨hs0, ⟨hn0, hn1, hn2, hn3⟩, hs1⟩, B2.out⟩
    · go_wp2_with fail
      go_ret
      exact ⟨_, rfl, .inr rfl, B2.out⟩
  · go_wp2_with fail
    go_ret
    exact ⟨_, rfl, .inr rfl, B1.out⟩

set_option maxHeartbeats 800000 in
theorem szPicG (l : Int) (hl0 : 0 ≤ l) (hl1 : l ≤ 1048576) (p : Pk) (a0 a1 a2 a3 ao : Option Addr) (c0 c1 c2 c3 cap : Nat) (w : World) (h0 : p.T.cs.length ≤ 9223372036854775807) (h1 : p.T.ss.length ≤ 9223372036854775807) (h2 : p.T.ct.length ≤ 9223372036854775807) (h3 : p.T.st.length ≤ 9223372036854775807)
    (hN : p.N.size ≤ 9223372036854775807) (hn : p.L.length ≤ 9223372036854775807) (hs : ∀ j, j < p.L.length → (nth p.L j).2.length ≤ 9223372036854775807) (hv : BRow w ao p.L) :
    Calls Tryz.prog 6 #[.agg #[.int .i64 p.W, .int .i64 p.H, .slice a0 p.T.cs.length c0, .slice a1 p.T.ss.length c1, .slice a2 p.T.ct.length c2, .slice a3 p.T.st.length c3, .string p.N, .slice ao p.L.length cap], .int .i64 l] w fun e w' => ∃ r : Int, e = .returned (.int .i64 r) ∧ (r < 0 ∨ p.Fits ∧ 0 ≤ r ∧ r ≤ 1048576) ∧ Below w.heap.size w w' := by
  have HB := hid ((Below.refl w.heap.size w).alloc (Nat.le_refl _) (.cells #[.int .i64 p.W, .int .i64 p.H, .slice a0 p.T.cs.length c0, .slice a1 p.T.ss.length c1, .slice a2 p.T.ct.length c2, .slice a3 p.T.st.length c3, .string p.N, .slice ao p.L.length cap] 29))
  have HE := hid (Eig.new w (.int .i64 p.W) (.int .i64 p.H) (.slice a0 p.T.cs.length c0) (.slice a1 p.T.ss.length c1) (.slice a2 p.T.ct.length c2) (.slice a3 p.T.st.length c3) (.string p.N) (.slice ao p.L.length cap) 29)
  have HZ := hid (fun q => szTablesG l hl0 hl1 a0 a1 a2 a3 _ _ _ _ c0 c1 c2 c3 q h0 h1 h2 h3)
  have HS := hid hs
  have HV := hid hv
  clear hs hv
  go_enter Tryz.func6, Tryz.ntmps6
  go_wp2_with fail
  refine (HZ.out _).mono ?_
  generalize w.alloc (.cells #[.int .i64 p.W, .int .i64 p.H, .slice a0 p.T.cs.length c0, .slice a1 p.T.ss.length c1, .slice a2 p.T.ct.length c2, .slice a3 p.T.st.length c3, .string p.N, .slice ao p.L.length cap] 29) = wa at *
  rintro e w1 ⟨r, rfl, hr, hb1⟩
  have B1 := hid (HB.out.trans (hb1.mono HB.out.size))
  obtain ⟨q0, q1, q2, q3, q4, q5, q6, q7⟩ := (HE.out.below hb1 HE.out.lt).cells
  clear hb1 HZ HB
  rcases hr with ⟨hr0, ⟨k0, k1, k2, k3⟩, hr1⟩ | rfl
  · have hd : ¬ r < 0 := by omega
    by_cases hz : r - (p.N.size : Int) < 0
    · go_wp2_with fail
      go_ret
      exact ⟨-1, rfl, .inl (by decide), B1.out⟩
    · go_wp2_with fail
      refine (szBlockSH (r - (p.N.size : Int)) (by omega) (by omega) ao cap p.L w1 hn HS.out (HV.out.below B1.out)).mono ?_
      rintro e w2 ⟨r2, rfl, hr2, hb2⟩
      have B2 := hid (B1.out.trans (hb2.mono B1.out.size))
      clear hb2
      by_cases hneg : r2 < 0
      · clear hr2
        go_wp2_with fail
        go_ret
        exact ⟨-1, rfl, .inl (by decide), B2.out⟩
      · obtain ⟨⟨hl, hall⟩, hr3, hr4⟩ := hr2.resolve_left hneg
        have HF : Hid p.Fits := ⟨k0, k1, k2, k3, by omega, hl, hall⟩
        clear hr2 hall
        go_wp2_with fail
        go_ret
        exact ⟨r2, rfl, .inr ⟨HF.out, hr3, hr4⟩, B2.out⟩
  · go_wp2_with fail
    go_ret
    exact ⟨-1, rfl, .inl (by decide), B1.out⟩

set_option maxRecDepth 100000 in
set_option maxHeartbeats 1600000 in
theorem markBlockSH (s0 : Int) (hs0 : 1 ≤ s0) (hs1 : s0 ≤ 4000000000000) (B m : Nat) (g n : Nat) (ys : Nat → Value) (ns : Nat → Nat) (w : World) (hn : n ≤ 1048576) (hns : ∀ j, j < n → ns j ≤ 1048576) (hB : B ≤ g) (hm : g < m) (hv : RowM B m w g n ys ns) :
    Calls Tryz.prog 32 #[.slice (some ⟨g, 0, none⟩) n n, .int .i64 s0] w fun e w' => (∃ r : Int, e = .returned (.int .i64 r) ∧ 1 ≤ r ∧ r ≤ s0 + 1048577 * 1048576) ∧ Spare B m w w' := by
  have HV := hid hv
  have HNS := hid hns
  clear hv hns
  go_enter Tryz.func32, Tryz.ntmps32
  go_wp2
  go_loopw [1, 5] (fun r i wr => ∃ (k : Nat) (q : Int), k ≤ n ∧ i = .int .i64 k ∧ r = .int .i64 q ∧ (1 ≤ q ∧ q ≤ s0 + 1048577 * (k : Int)) ∧ Hid (RowM B m wr g n ys ns) ∧ Hid (Spare B m w wr)) (fun _ i _ => n - (intOf i).toNat)
  case atStart => exact ⟨0, s0, by omega, rfl, rfl, by omega, HV.out, Spare.refl _ _ _⟩
  case round =>
    obtain ⟨k, q, hk, rfl, rfl, ⟨hq0, hq1⟩, hrow, hsp⟩ := hrel
    by_cases hlt : k < n
    · have hlt' : (k : Int) < (n : Int) := by omega
      obtain ⟨arr, har, hcells⟩ := hrow.out
      obtain ⟨⟨d, k1⟩, k2, k3⟩ := hcells k hlt
      have p0 : wr.cell? ⟨g, k * 2, none⟩ = some (.int .i64 d) := (har.cell _).trans k1
      have p2 := har.free (k * 2)
      have HR1 := hid (hrow.out.set hlt q)
      have HS1 := hid (Spare.ofOnly (B := B) (m := m) ((Only.refl g wr).setCell (k * 2) (.int .i64 q)) hB hm)
      have hnk := HNS.out k hlt
      obtain ⟨arr1, har1, hcells1⟩ := HR1.out
      obtain ⟨_, m2, m3⟩ := hcells1 k hlt
      have p1 : (wr.setCell ⟨g, k * 2, none⟩ (.int .i64 q)).cell? ⟨g, k * 2 + 1, none⟩ = some (ys k) := (har1.cell _).trans m2
      have HM := hid (mark_ints B m (ys k) (ns k) (q + 1) _ hnk (by omega) (by omega) m3)
      obtain ⟨yo, yc, hy⟩ := m3.shape
      rw [hy] at p1 HM
      clear har hcells k1 k2 k3 har1 hcells1 m2 m3 hy
      generalize ns k = N at *
      have HW := hid (show Spare B m w (wr.setCell ⟨g, k * 2, none⟩ (.int .i64 q)) from hsp.out.trans HS1.out)
      go_wp2_with fail
      refine HM.out.mono ?_
      rintro e w2 ⟨rfl, hsoft⟩
      have HR2 := hid (HR1.out.soft hsoft)
      have HS2 := hid (HW.out.trans hsoft.1)
      clear hsoft
      go_wp2_with fail
      go_roundw
      case rel => exact ⟨k + 1, q + 1 + N, by omega, by go_num, rfl, by omega, HR2.out, HS2.out⟩
      case measure => simp [intOf]; omega
    · obtain rfl : k = n := by omega
      go_wp2
      go_ret
      exact ⟨⟨_, rfl, by omega, by omega⟩, hsp.out⟩

set_option maxHeartbeats 800000 in
theorem markCodesJ (B m : Nat) (a0 a1 : Option Addr) (n0 n1 c0 c1 : Nat) (s : Int) (w : World) (h0 : n0 ≤ 1048576) (h1 : n1 ≤ 1048576) (hs0 : 0 ≤ s) (hs1 : s ≤ 4000000000000) (hm : m ≤ w.heap.size) (o0 : IntB B m w (.slice a0 n0 c0) n0) (o1 : IntB B m w (.slice a1 n1 c1) n1) :
    Calls Tryz.prog 51 #[.agg #[.slice a0 n0 c0, .slice a1 n1 c1], .int .i64 s] w fun e w' => e = .returned (.int .i64 (s + n0 + n1)) ∧ Soft B m w w' := by
  have HB := hid ((Below.refl w.heap.size w).alloc (Nat.le_refl _) (.cells #[.slice a0 n0 c0, .slice a1 n1 c1] 31))
  have HT := hid (Two.new w (.slice a0 n0 c0) (.slice a1 n1 c1) 31)
  have SB := hid (Soft.ofBelow (B := B) (m := m) HB.out)
  have I0 := hid (o0.soft SB.out)
  have I1 := hid (o1.soft SB.out)
  clear o0 o1
  go_enter Tryz.func51, Tryz.ntmps51
  go_wp2_with fail
  refine (mark_ints B m _ n0 s _ h0 hs0 (by omega) I0.out).mono ?_
  generalize w.alloc (.cells #[.slice a0 n0 c0, .slice a1 n1 c1] 31) = wa at *
  rintro e w1 ⟨rfl, hsoft⟩
  have S1 := hid (SB.out.trans hsoft)
  have J1 := hid (I1.out.soft hsoft)
  have T1 := hid (show Two w1 w.heap.size (.slice a0 n0 c0) (.slice a1 n1 c1) 31 from hsoft.2.2 _ _ 31 (by decide) HT.out)
  obtain ⟨q0, q1, q2, q3⟩ := T1.out.cells
  clear hsoft
  go_wp2_with fail
  refine (mark_ints B m _ n1 (s + n0) _ h1 (by omega) (by omega) J1.out).mono ?_
  rintro e w2 ⟨rfl, hsoft⟩
  have S2 := hid (S1.out.trans hsoft)
  clear hsoft
  go_wp2_with fail
  go_ret
  exact ⟨rfl, S2.out⟩

set_option maxHeartbeats 800000 in
theorem markTablesJ (s : Int) (hs0 : 1 ≤ s) (hs1 : s ≤ 3000000000000) (B m : Nat) (a0 a1 a2 a3 : Option Addr) (n0 n1 n2 n3 c0 c1 c2 c3 : Nat) (w : World) (h0 : n0 ≤ 1048576) (h1 : n1 ≤ 1048576) (h2 : n2 ≤ 1048576) (h3 : n3 ≤ 1048576) (hm : m ≤ w.heap.size)
    (o0 : IntB B m w (.slice a0 n0 c0) n0) (o1 : IntB B m w (.slice a1 n1 c1) n1) (o2 : IntB B m w (.slice a2 n2 c2) n2) (o3 : IntB B m w (.slice a3 n3 c3) n3) :
    Calls Tryz.prog 31 #[.agg #[.slice a0 n0 c0, .slice a1 n1 c1, .slice a2 n2 c2, .slice a3 n3 c3], .int .i64 s] w fun e w' => e = .returned (.int .i64 (s + n0 + n1 + n2 + n3)) ∧ Soft B m w w' := by
  have HB := hid ((Below.refl w.heap.size w).alloc (Nat.le_refl _) (.cells #[.slice a0 n0 c0, .slice a1 n1 c1, .slice a2 n2 c2, .slice a3 n3 c3] 33))
  have HF := hid (Four.new w (.slice a0 n0 c0) (.slice a1 n1 c1) (.slice a2 n2 c2) (.slice a3 n3 c3) 33)
  have SB := hid (Soft.ofBelow (B := B) (m := m) HB.out)
  have I0 := hid (o0.soft SB.out)
  have I1 := hid (o1.soft SB.out)
  have I2 := hid (o2.soft SB.out)
  have I3 := hid (o3.soft SB.out)
  have HMS := hid (Nat.le_trans hm HB.out.size)
  clear o0 o1 o2 o3
  go_enter Tryz.func31, Tryz.ntmps31
  go_wp2_with fail
  refine (markCodesJ B m a0 a1 n0 n1 c0 c1 s _ h0 h1 (by omega) (by omega) HMS.out I0.out I1.out).mono ?_
  generalize w.alloc (.cells #[.slice a0 n0 c0, .slice a1 n1 c1, .slice a2 n2 c2, .slice a3 n3 c3] 33) = wa at *
  rintro e w1 ⟨rfl, hsoft⟩
  have S1 := hid (SB.out.trans hsoft)
  have J2 := hid (I2.out.soft hsoft)
  have J3 := hid (I3.out.soft hsoft)
  have hms1 : m ≤ w1.heap.size := Nat.le_trans HMS.out hsoft.1.2.2.2.1
  have F1 := hid (show Four w1 w.heap.size (.slice a0 n0 c0) (.slice a1 n1 c1) (.slice a2 n2 c2) (.slice a3 n3 c3) 33 from hsoft.2.2 _ _ 33 (by decide) HF.out)
  obtain ⟨q0, q1, q2, q3⟩ := F1.out.cells
  clear hsoft
  go_wp2_with fail
  refine (markCodesJ B m a2 a3 n2 n3 c2 c3 (s + n0 + n1) _ h2 h3 (by omega) (by omega) hms1 J2.out J3.out).mono ?_
  rintro e w2 ⟨rfl, hsoft⟩
  have S2 := hid (S1.out.trans hsoft)
  clear hsoft
  go_wp2_with fail
  go_ret
  exact ⟨rfl, S2.out⟩

set_option maxRecDepth 20000 in
set_option maxHeartbeats 1600000 in
/-- A picture in new memory is marked. -/
theorem markPicJ (s : Int) (hs0 : 1 ≤ s) (hs1 : s ≤ 2000000000000) (B m : Nat) (W H : Int) (N : ByteArray) (a0 a1 a2 a3 : Option Addr) (n0 n1 n2 n3 c0 c1 c2 c3 g n : Nat) (ys : Nat → Value) (ns : Nat → Nat) (w : World) (h0 : n0 ≤ 1048576) (h1 : n1 ≤ 1048576) (h2 : n2 ≤ 1048576) (h3 : n3 ≤ 1048576) (hm : m ≤ w.heap.size)
    (o0 : IntB B m w (.slice a0 n0 c0) n0) (o1 : IntB B m w (.slice a1 n1 c1) n1) (o2 : IntB B m w (.slice a2 n2 c2) n2) (o3 : IntB B m w (.slice a3 n3 c3) n3)
    (hn : n ≤ 1048576) (hns : ∀ j, j < n → ns j ≤ 1048576) (hB : B ≤ g) (hgm : g < m) (hv : RowM B m w g n ys ns) :
    Calls Tryz.prog 11 #[.agg #[.int .i64 W, .int .i64 H, .slice a0 n0 c0, .slice a1 n1 c1, .slice a2 n2 c2, .slice a3 n3 c3, .string N, .slice (some ⟨g, 0, none⟩) n n], .int .i64 s] w fun e w' => (∃ r : Int, e = .returned (.int .i64 r) ∧ 1 ≤ r ∧ r ≤ s + 1200000000000) ∧ Spare B m w w' := by
  have HA := hid ((Below.refl w.heap.size w).alloc (Nat.le_refl _) (.cells #[.int .i64 W, .int .i64 H, .slice a0 n0 c0, .slice a1 n1 c1, .slice a2 n2 c2, .slice a3 n3 c3, .string N, .slice (some ⟨g, 0, none⟩) n n] 36))
  have HE := hid (Eig.new w (.int .i64 W) (.int .i64 H) (.slice a0 n0 c0) (.slice a1 n1 c1) (.slice a2 n2 c2) (.slice a3 n3 c3) (.string N) (.slice (some ⟨g, 0, none⟩) n n) 36)
  have SB := hid (Soft.ofBelow (B := B) (m := m) HA.out)
  have HM := hid (Nat.le_trans hm HA.out.size)
  have HMT := hid (markTablesJ s hs0 (by omega) B m a0 a1 a2 a3 n0 n1 n2 n3 c0 c1 c2 c3 _ h0 h1 h2 h3 HM.out (o0.soft SB.out) (o1.soft SB.out) (o2.soft SB.out) (o3.soft SB.out))
  have HRM := hid (hv.soft SB.out)
  have HNS := hid hns
  clear o0 o1 o2 o3 hv hns
  go_enter Tryz.func11, Tryz.ntmps11
  go_wp2_with fail
  refine HMT.out.mono ?_
  generalize w.alloc _ = wa at *
  rintro e w1 ⟨rfl, hso⟩
  have S1 := hid (SB.out.trans hso)
  have R1 := hid (HRM.out.soft hso)
  have E1 := hid (show Eig w1 w.heap.size _ _ _ _ _ _ _ _ 36 from hso.2.2 _ _ 36 (by decide) HE.out)
  have hk1 : s + n0 + n1 + n2 + n3 ≤ 4000000000000 := by omega
  have hk0 : (1 : Int) ≤ s + n0 + n1 + n2 + n3 := by omega
  have hk2 : s + n0 + n1 + n2 + n3 ≤ s + 4194304 := by omega
  generalize s + (n0 : Int) + n1 + n2 + n3 = KK at *
  clear hso HMT HRM SB HE
  obtain ⟨q0, q1, q2, q3, q4, q5, q6, q7⟩ := E1.out.cells
  have HMB := hid (markBlockSH KK hk0 hk1 B m g n ys ns w1 hn HNS.out hB hgm R1.out)
  go_wp2_with fail
  refine HMB.out.mono ?_
  rintro e w2 ⟨⟨r, rfl, hr, hr2⟩, hsp⟩
  have S2 := hid (S1.out.1.trans hsp)
  clear hsp
  go_wp2_with fail
  go_ret
  exact ⟨⟨r, rfl, hr, by omega⟩, S2.out⟩
theorem IntB.spare {B m B' m' : Nat} {w w' : World} {y : Value} {n : Nat} (h : IntB B m w y n) (hs : Spare B' m' w w') (hm : m' ≤ B) : IntB B m w' y n := by
  rcases h with h0 | ⟨b, cap, cur, e, h1, h2, ha, h3⟩
  · exact .inl h0
  · exact .inr ⟨b, cap, cur, e, h1, h2, (hs.2.2.2.2 b ha.lt (.inr (by omega))).trans ha, h3⟩
theorem RowM.spare {B m B' m' : Nat} {w w' : World} {g n : Nat} {ys : Nat → Value} {ns : Nat → Nat} (h : RowM B m w g n ys ns) (hs : Spare B' m' w w') (hm : m' ≤ B) (hg : m' ≤ g) : RowM B m w' g n ys ns := by
  obtain ⟨arr, ha, h1⟩ := h
  refine ⟨arr, (hs.2.2.2.2 g ha.lt (.inr hg)).trans ha, fun j hj => ?_⟩
  obtain ⟨h2, h3, h4⟩ := h1 j hj
  exact ⟨h2, h3, h4.spare hs hm⟩

theorem szPic_at (l : Int) (hl0 : 0 ≤ l) (hl1 : l ≤ 1048576) (p : Pk) (v : Value) (w : World) (hB : p.Big) (hv : PV w v p) : Calls Tryz.prog 6 #[v, .int .i64 l] w fun e w' => ∃ r : Int, e = .returned (.int .i64 r) ∧ (r < 0 ∨ p.Fits ∧ 0 ≤ r ∧ r ≤ 1048576) ∧ Below w.heap.size w w' := by
  obtain ⟨a0, c0, a1, c1, a2, c2, a3, c3, ao, cap, rfl, ht, hb⟩ := hv
  exact szPicG l hl0 hl1 p a0 a1 a2 a3 ao c0 c1 c2 c3 cap w hB.h0 hB.h1 hB.h2 hB.h3 hB.hN hB.hn hB.hs hb
theorem heap8_other (w : World) (b : Nat) (y0 y1 y2 y3 y4 y5 y6 y7 : Value) (g : Nat) (hg : g ≠ b) : ((((((((w.setCell ⟨b, 0, none⟩ y0).setCell ⟨b, 1, none⟩ y1).setCell ⟨b, 2, none⟩ y2).setCell ⟨b, 3, none⟩ y3).setCell ⟨b, 4, none⟩ y4).setCell ⟨b, 5, none⟩ y5).setCell ⟨b, 6, none⟩ y6).setCell ⟨b, 7, none⟩ y7).heap[g]? = w.heap[g]? := by
  rw [heap_setCell_other _ ⟨b, 7, none⟩ g _ hg, heap_setCell_other _ ⟨b, 6, none⟩ g _ hg, heap_setCell_other _ ⟨b, 5, none⟩ g _ hg, heap_setCell_other _ ⟨b, 4, none⟩ g _ hg, heap_setCell_other _ ⟨b, 3, none⟩ g _ hg, heap_setCell_other _ ⟨b, 2, none⟩ g _ hg, heap_setCell_other _ ⟨b, 1, none⟩ g _ hg, heap_setCell_other _ ⟨b, 0, none⟩ g _ hg]
theorem Own.set8_tag {w : World} {base b : Nat} {v : Value} {xs : List Int} {x0 x1 x2 x3 x4 x5 x6 x7 : Value} (h : Own w base 3 .i64 v xs) (he : Eig w b x0 x1 x2 x3 x4 x5 x6 x7 36) (y0 y1 y2 y3 y4 y5 y6 y7 : Value) : Own ((((((((w.setCell ⟨b, 0, none⟩ y0).setCell ⟨b, 1, none⟩ y1).setCell ⟨b, 2, none⟩ y2).setCell ⟨b, 3, none⟩ y3).setCell ⟨b, 4, none⟩ y4).setCell ⟨b, 5, none⟩ y5).setCell ⟨b, 6, none⟩ y6).setCell ⟨b, 7, none⟩ y7) base 3 .i64 v xs := by
  refine ⟨by rw [size8]; exact h.1, h.2.1, ?_⟩
  rcases h.2.2 with h0 | ⟨g, cap, cur, hv, hg, hh, r⟩
  · exact .inl h0
  · refine .inr ⟨g, cap, cur, hv, hg, ?_, r⟩
    rw [heap8_other w b y0 y1 y2 y3 y4 y5 y6 y7 g (fun e => by
      rw [e] at hh
      have := hh.symm.trans he
      simp at this)]
    exact hh
theorem OwnK.set8_tag {w : World} {base b : Nat} {v : Value} {L : List (Int × List Int)} {vs : List Value} {x0 x1 x2 x3 x4 x5 x6 x7 : Value} (h : OwnK w base v L vs) (he : Eig w b x0 x1 x2 x3 x4 x5 x6 x7 36) (y0 y1 y2 y3 y4 y5 y6 y7 : Value) : OwnK ((((((((w.setCell ⟨b, 0, none⟩ y0).setCell ⟨b, 1, none⟩ y1).setCell ⟨b, 2, none⟩ y2).setCell ⟨b, 3, none⟩ y3).setCell ⟨b, 4, none⟩ y4).setCell ⟨b, 5, none⟩ y5).setCell ⟨b, 6, none⟩ y6).setCell ⟨b, 7, none⟩ y7) base v L vs := by
  obtain ⟨h1, h2, h3, h4, h5⟩ := h
  refine ⟨by rw [size8]; exact h1, h2, ⟨h3.1, ?_⟩, fun j hj => (h4 j hj).set8_tag he y0 y1 y2 y3 y4 y5 y6 y7, h5⟩
  rcases h3.2 with h0 | ⟨g, cap, cur, hv, hg, hh, r⟩
  · exact .inl h0
  · refine .inr ⟨g, cap, cur, hv, hg, ?_, r⟩
    rw [heap8_other w b y0 y1 y2 y3 y4 y5 y6 y7 g (fun e => by
      rw [e] at hh
      have := hh.symm.trans he
      simp at this)]
    exact hh
theorem PQ.set8_tag {w : World} {base b : Nat} {v : Value} {p : Pk} {x0 x1 x2 x3 x4 x5 x6 x7 : Value} (h : PQ base w v p) (he : Eig w b x0 x1 x2 x3 x4 x5 x6 x7 36) (y0 y1 y2 y3 y4 y5 y6 y7 : Value) : PQ base ((((((((w.setCell ⟨b, 0, none⟩ y0).setCell ⟨b, 1, none⟩ y1).setCell ⟨b, 2, none⟩ y2).setCell ⟨b, 3, none⟩ y3).setCell ⟨b, 4, none⟩ y4).setCell ⟨b, 5, none⟩ y5).setCell ⟨b, 6, none⟩ y6).setCell ⟨b, 7, none⟩ y7) v p := by
  obtain ⟨z0, z1, z2, z3, bv, vs, e, ht, hk⟩ := h
  obtain ⟨a0, c0, a1, c1, a2, c2, a3, c3, e2, o0, o1, o2, o3⟩ := ht
  exact ⟨z0, z1, z2, z3, bv, vs, e, ⟨a0, c0, a1, c1, a2, c2, a3, c3, e2, o0.set8_tag he _ _ _ _ _ _ _ _, o1.set8_tag he _ _ _ _ _ _ _ _, o2.set8_tag he _ _ _ _ _ _ _ _, o3.set8_tag he _ _ _ _ _ _ _ _⟩, hk.set8_tag he _ _ _ _ _ _ _ _⟩
end Go.Proofs.YtnnakmgngkpghaaGreat
