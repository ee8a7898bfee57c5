/- Contracts of what the exact laws do with tables and rows of blocks. -/
import Derived.Test.YtcikmgdfelejpaaJGg
import Derived.Test.YtcikmgdfelejpaaJGc
namespace Go.Proofs.Ytcikmgdfelejpaa
open Go.RowKit Go.Maps
set_option linter.unusedVariables false

theorem szCodesG (l : Int) (hl0 : 0 ≤ l) (hl1 : l ≤ 1048576) (a0 a1 : Option Addr) (n0 n1 c0 c1 : Nat) (w : World) (hn0 : n0 ≤ 9223372036854775807) (hn1 : n1 ≤ 9223372036854775807) :
    Calls Try.prog 34 #[.agg #[.slice a0 n0 c0, .slice a1 n1 c1], .int .i64 l] w fun e w' => ∃ r : Int, e = .returned (.int .i64 r) ∧ (0 ≤ r ∧ (n0 ≤ 1048576 ∧ n1 ≤ 1048576) ∧ r ≤ 1048576 ∨ r = -1) ∧ Below w.heap.size w w' := by
  by_cases h : (n0 : Int) ≤ l
  · have e0 : lft l n0 = l - n0 := by unfold lft; rw [if_neg (by omega)]
    by_cases h2 : (n0 : Int) + n1 ≤ l
    · have e1 : lft (l - n0) n1 = l - n0 - n1 := by unfold lft; rw [if_neg (by omega)]
      go_enter Try.func34, Try.ntmps34
      go_wp2_with fail
      refine (szInts a0 n0 c0 l _ hn0 hl0 hl1).mono ?_
      rw [e0]
      rintro e w1 ⟨rfl, rfl⟩
      go_wp2_with fail
      refine (szInts a1 n1 c1 (l - n0) _ hn1 (by omega) (by omega)).mono ?_
      rw [e1]
      rintro e w1 ⟨rfl, rfl⟩
      go_wp2
      go_ret
      exact ⟨_, rfl, .inl ⟨by omega, ⟨by omega, by omega⟩, by omega⟩, (Below.refl _ _).alloc (Nat.le_refl _) _⟩
    · have e1 : lft (l - n0) n1 = -1 := by unfold lft; rw [if_pos (by omega)]
      go_enter Try.func34, Try.ntmps34
      go_wp2_with fail
      refine (szInts a0 n0 c0 l _ hn0 hl0 hl1).mono ?_
      rw [e0]
      rintro e w1 ⟨rfl, rfl⟩
      go_wp2_with fail
      refine (szInts a1 n1 c1 (l - n0) _ hn1 (by omega) (by omega)).mono ?_
      rw [e1]
      rintro e w1 ⟨rfl, rfl⟩
      go_wp2
      go_ret
      exact ⟨_, rfl, .inr rfl, (Below.refl _ _).alloc (Nat.le_refl _) _⟩
  · have e0 : lft l n0 = -1 := by unfold lft; rw [if_pos (by omega)]
    go_enter Try.func34, Try.ntmps34
    go_wp2_with fail
    refine (szInts a0 n0 c0 l _ hn0 hl0 hl1).mono ?_
    rw [e0]
    rintro e w1 ⟨rfl, rfl⟩
    go_wp2
    go_ret
    exact ⟨_, rfl, .inr rfl, (Below.refl _ _).alloc (Nat.le_refl _) _⟩

set_option maxRecDepth 100000 in
set_option maxRecDepth 100000 in
set_option maxHeartbeats 1600000 in
theorem szBlockSG (l0 : Int) (hl0 : 0 ≤ l0) (hl1 : l0 ≤ 1048576) (ao : Option Addr) (cap : Nat) (L : List (Int × List Int)) (w : World) (hn : L.length ≤ 9223372036854775807) (hs : ∀ j, j < L.length → (nth L j).2.length ≤ 9223372036854775807) (hv : BRow w ao L) :
    Calls Try.prog 10 #[.slice ao L.length cap, .int .i64 l0] w fun e w' => ∃ r : Int, e = .returned (.int .i64 r) ∧ (r < 0 ∨ L.length ≤ 1048576 ∧ ∀ j, j < L.length → (nth L j).2.length ≤ 1048576) ∧ Below w.heap.size w w' := by
  have HV := hid hv
  have HS := hid hs
  clear hv hs
  by_cases hl : l0 - L.length < 0
  · go_enter Try.func10, Try.ntmps10
    go_wp2_with fail
    go_ret
    exact ⟨_, rfl, .inl (by decide), Below.refl _ _⟩
  · have hl2 : L.length ≤ 1048576 := by omega
    go_enter Try.func10, Try.ntmps10
    go_wp2_with fail
    go_loopw [1, 5] (fun l i wr => ∃ (k : Nat) (q : Int), k ≤ L.length ∧ i = .int .i64 k ∧ l = .int .i64 q ∧ (0 ≤ q ∧ q ≤ 1048576) ∧ Hid (∀ j, j < k → (nth L j).2.length ≤ 1048576) ∧ Hid (Below w.heap.size w wr)) (fun _ i _ => L.length - (intOf i).toNat)
    case atStart => exact ⟨0, l0 - L.length, by omega, rfl, rfl, by omega, fun j hj => by omega, Below.refl _ _⟩
    case round =>
      obtain ⟨k, q, hk, rfl, rfl, ⟨hq0, hq1⟩, hall, hb⟩ := hrel
      by_cases hlt : k < L.length
      · obtain ⟨b, off, a, c, rfl, hc1, hc2, hvw⟩ := HV.out.below hb.out k hlt
        have hlt' : (k : Int) < (L.length : Int) := by omega
        have HSZ := hid (szBlock (nth L k).1 a (nth L k).2.length c q wr (HS.out k hlt) hq0 hq1)
        have HNX := hid (fun (h : (nth L k).2.length ≤ 1048576) j (hj : j < k + 1) => (show (nth L j).2.length ≤ 1048576 by
          by_cases e : j = k
          · rw [e]; exact h
          · exact hall.out j (by omega)))
        generalize (nth L k).1 = D at *
        generalize (nth L k).2.length = N at *
        by_cases hneg : q - (N : Int) < 0
        · have e0 : lft q N = -1 := by unfold lft; rw [if_pos hneg]
          rw [e0] at HSZ
          go_wp2_with fail
          refine HSZ.out.mono ?_
          rintro e w2 ⟨rfl, hb2⟩
          have B2 := hid (hb.out.trans (hb2.mono hb.out.size))
          go_wp2_with fail
          go_ret
          exact ⟨_, rfl, .inl (by decide), B2.out⟩
        · have e0 : lft q N = q - N := by unfold lft; rw [if_neg hneg]
          rw [e0] at HSZ
          have HNY := hid (HNX.out (by omega))
          go_wp2_with fail
          refine HSZ.out.mono ?_
          rintro e w2 ⟨rfl, hb2⟩
          have B2 := hid (hb.out.trans (hb2.mono hb.out.size))
          go_wp2_with fail
          go_roundw
          case rel => exact ⟨k + 1, q - N, by omega, by go_num, rfl, by omega, HNY.out, B2.out⟩
          case measure => simp [intOf]; omega
      · obtain rfl : k = L.length := by omega
        go_wp2_with fail
        go_ret
        exact ⟨_, rfl, .inr ⟨hl2, hall.out⟩, hb.out⟩

set_option maxRecDepth 100000 in
set_option maxHeartbeats 1600000 in
theorem markBlockSG (s0 : Int) (hs0 : 1 ≤ s0) (hs1 : s0 ≤ 1000000000) (B m : Nat) (g n : Nat) (ys : Nat → Value) (ns : Nat → Nat) (w : World) (hn : n ≤ 1048576) (hns : ∀ j, j < n → ns j ≤ 1048576) (hB : B ≤ g) (hm : g < m) (hv : RowM B m w g n ys ns) :
    Calls Try.prog 19 #[.slice (some ⟨g, 0, none⟩) n n, .int .i64 s0] w fun e w' => (∃ r : Int, e = .returned (.int .i64 r) ∧ 0 ≤ r) ∧ Spare B m w w' := by
  have HV := hid hv
  have HNS := hid hns
  clear hv hns
  go_enter Try.func19, Try.ntmps19
  go_wp2
  go_loopw [1, 5] (fun r i wr => ∃ (k : Nat) (q : Int), k ≤ n ∧ i = .int .i64 k ∧ r = .int .i64 q ∧ (1 ≤ q ∧ q ≤ s0 + 1048577 * (k : Int)) ∧ Hid (RowM B m wr g n ys ns) ∧ Hid (Spare B m w wr)) (fun _ i _ => n - (intOf i).toNat)
  case atStart => exact ⟨0, s0, by omega, rfl, rfl, by omega, HV.out, Spare.refl _ _ _⟩
  case round =>
    obtain ⟨k, q, hk, rfl, rfl, ⟨hq0, hq1⟩, hrow, hsp⟩ := hrel
    by_cases hlt : k < n
    · have hlt' : (k : Int) < (n : Int) := by omega
      obtain ⟨arr, har, hcells⟩ := hrow.out
      obtain ⟨⟨d, k1⟩, k2, k3⟩ := hcells k hlt
      have p0 : wr.cell? ⟨g, k * 2, none⟩ = some (.int .i64 d) := (har.cell _).trans k1
      have p2 := har.free (k * 2)
      have HR1 := hid (hrow.out.set hlt q)
      have HS1 := hid (Spare.ofOnly (B := B) (m := m) ((Only.refl g wr).setCell (k * 2) (.int .i64 q)) hB hm)
      have hnk := HNS.out k hlt
      obtain ⟨arr1, har1, hcells1⟩ := HR1.out
      obtain ⟨_, m2, m3⟩ := hcells1 k hlt
      have p1 : (wr.setCell ⟨g, k * 2, none⟩ (.int .i64 q)).cell? ⟨g, k * 2 + 1, none⟩ = some (ys k) := (har1.cell _).trans m2
      have HM := hid (mark_ints B m (ys k) (ns k) (q + 1) _ hnk (by omega) (by omega) m3)
      obtain ⟨yo, yc, hy⟩ := m3.shape
      rw [hy] at p1 HM
      clear har hcells k1 k2 k3 har1 hcells1 m2 m3 hy
      generalize ns k = N at *
      have HW := hid (show Spare B m w (wr.setCell ⟨g, k * 2, none⟩ (.int .i64 q)) from hsp.out.trans HS1.out)
      go_wp2_with fail
      refine HM.out.mono ?_
      rintro e w2 ⟨rfl, hsoft⟩
      have HR2 := hid (HR1.out.soft hsoft)
      have HS2 := hid (HW.out.trans hsoft.1)
      clear hsoft
      go_wp2_with fail
      go_roundw
      case rel => exact ⟨k + 1, q + 1 + N, by omega, by go_num, rfl, by omega, HR2.out, HS2.out⟩
      case measure => simp [intOf]; omega
    · obtain rfl : k = n := by omega
      go_wp2
      go_ret
      exact ⟨⟨_, rfl, by omega⟩, hsp.out⟩

theorem Four.set0 {w : World} {b : Nat} {x y z u : Value} {t : TypeId} (h : Four w b x y z u t) (v : Value) : Four (w.setCell ⟨b, 0, none⟩ v) b v y z u t := heap_setCell_same w b 0 _ t v h
theorem Four.set1 {w : World} {b : Nat} {x y z u : Value} {t : TypeId} (h : Four w b x y z u t) (v : Value) : Four (w.setCell ⟨b, 1, none⟩ v) b x v z u t := heap_setCell_same w b 1 _ t v h
theorem Four.set2 {w : World} {b : Nat} {x y z u : Value} {t : TypeId} (h : Four w b x y z u t) (v : Value) : Four (w.setCell ⟨b, 2, none⟩ v) b x y v u t := heap_setCell_same w b 2 _ t v h
theorem Four.set3 {w : World} {b : Nat} {x y z u : Value} {t : TypeId} (h : Four w b x y z u t) (v : Value) : Four (w.setCell ⟨b, 3, none⟩ v) b x y z v t := heap_setCell_same w b 3 _ t v h
theorem Four.free {w : World} {b : Nat} {x y z u : Value} {t : TypeId} (h : Four w b x y z u t) (j : Nat) : w.frozen? ⟨b, j, none⟩ = false := frozen_of_row w b j _ t h
theorem Four.other {w : World} {b c i : Nat} {x y z u : Value} {t : TypeId} (h : Four w b x y z u t) (hne : b ≠ c) (v : Value) : Four (w.setCell ⟨c, i, none⟩ v) b x y z u t := (Below.heap_setCell _ _ _ _ (fun e => hne (by rw [e]))).trans h

set_option maxHeartbeats 800000 in
theorem szTables (a0 a1 a2 a3 : Option Addr) (n0 n1 n2 n3 c0 c1 c2 c3 : Nat) (w : World) (h0 : n0 ≤ 9223372036854775807) (h1 : n1 ≤ 9223372036854775807) (h2 : n2 ≤ 9223372036854775807) (h3 : n3 ≤ 9223372036854775807) :
    Calls Try.prog 9 #[.agg #[.slice a0 n0 c0, .slice a1 n1 c1, .slice a2 n2 c2, .slice a3 n3 c3], .int .i64 1048576] w fun e w' => ∃ r : Int, e = .returned (.int .i64 r) ∧ (0 ≤ r ∧ (n0 ≤ 1048576 ∧ n1 ≤ 1048576 ∧ n2 ≤ 1048576 ∧ n3 ≤ 1048576) ∧ r ≤ 1048576 ∨ r = -1) ∧ Below w.heap.size w w' := by
  have HB := hid ((Below.refl w.heap.size w).alloc (Nat.le_refl _) (.cells #[.slice a0 n0 c0, .slice a1 n1 c1, .slice a2 n2 c2, .slice a3 n3 c3] 26))
  have HF := hid (Four.new w (.slice a0 n0 c0) (.slice a1 n1 c1) (.slice a2 n2 c2) (.slice a3 n3 c3) 26)
  go_enter Try.func9, Try.ntmps9
  go_wp2_with fail
  refine (szCodesG 1048576 (by decide) (by decide) a0 a1 n0 n1 c0 c1 _ h0 h1).mono ?_
  generalize w.alloc (.cells #[.slice a0 n0 c0, .slice a1 n1 c1, .slice a2 n2 c2, .slice a3 n3 c3] 26) = wa at *
  rintro e w1 ⟨r, rfl, hr, hb1⟩
  have B1 := hid (HB.out.trans (hb1.mono HB.out.size))
  have F1 := hid (HF.out.below hb1 HF.out.lt)
  obtain ⟨q0, q1, q2, q3⟩ := F1.out.cells
  clear hb1
  rcases hr with ⟨hr0, ⟨hn0, hn1⟩, hr1⟩ | rfl
  · have hd : ¬ r < 0 := by omega
    go_wp2_with fail
    refine (szCodesG r hr0 hr1 a2 a3 n2 n3 c2 c3 _ h2 h3).mono ?_
    rintro e w2 ⟨r2, rfl, hr2, hb2⟩
    have B2 := hid (B1.out.trans (hb2.mono B1.out.size))
    clear hb2
    rcases hr2 with ⟨hs0, ⟨hn2, hn3⟩, hs1⟩ | rfl
    · have hd2 : ¬ r2 < 0 := by omega
      go_wp2_with fail
      go_ret
      exact ⟨_, rfl, .inl ⟨hs0, ⟨hn0, hn1, hn2, hn3⟩, hs1⟩, B2.out⟩
    · go_wp2_with fail
      go_ret
      exact ⟨_, rfl, .inr rfl, B2.out⟩
  · go_wp2_with fail
    go_ret
    exact ⟨_, rfl, .inr rfl, B1.out⟩

/-- Tables that are the call's own. -/
def TOwn (w : World) (base : Nat) (v : Value) (cs ss ct st : List Int) : Prop :=
  ∃ a0 c0 a1 c1 a2 c2 a3 c3, v = .agg #[.slice a0 cs.length c0, .slice a1 ss.length c1, .slice a2 ct.length c2, .slice a3 st.length c3] ∧ Own w base 3 .i64 (.slice a0 cs.length c0) cs ∧ Own w base 3 .i64 (.slice a1 ss.length c1) ss ∧ Own w base 3 .i64 (.slice a2 ct.length c2) ct ∧ Own w base 3 .i64 (.slice a3 st.length c3) st
theorem TOwn.below {w w' : World} {base : Nat} {v : Value} {cs ss ct st : List Int} (h : TOwn w base v cs ss ct st) (hb : Below w.heap.size w w') : TOwn w' base v cs ss ct st := by
  obtain ⟨a0, c0, a1, c1, a2, c2, a3, c3, rfl, h0, h1, h2, h3⟩ := h
  exact ⟨a0, c0, a1, c1, a2, c2, a3, c3, rfl, h0.below hb, h1.below hb, h2.below hb, h3.below hb⟩
theorem TOwn.tv {w : World} {base : Nat} {v : Value} {cs ss ct st : List Int} (h : TOwn w base v cs ss ct st) : TV w v cs ss ct st := by
  obtain ⟨a0, c0, a1, c1, a2, c2, a3, c3, rfl, h0, h1, h2, h3⟩ := h
  have vw : ∀ (a : Option Addr) (c : Nat) (xs : List Int), Own w base 3 .i64 (.slice a xs.length c) xs → View .i64 w a xs.length xs := fun a c xs h => by
    obtain ⟨a', c', e, hv⟩ := h.view
    cases e
    exact hv
  exact ⟨a0, c0, a1, c1, a2, c2, a3, c3, rfl, ⟨a0, c0, a1, c1, rfl, vw _ _ _ h0, vw _ _ _ h1⟩, ⟨a2, c2, a3, c3, rfl, vw _ _ _ h2, vw _ _ _ h3⟩⟩
theorem COwn.two {w : World} {base : Nat} {v : Value} {cs ss : List Int} (h : COwn w base v cs ss) : ∃ a0 c0 a1 c1, v = .agg #[.slice a0 cs.length c0, .slice a1 ss.length c1] ∧ Own w base 3 .i64 (.slice a0 cs.length c0) cs ∧ Own w base 3 .i64 (.slice a1 ss.length c1) ss := by
  obtain ⟨va, vb, m, rfl, hm, h0, h1, _⟩ := h
  obtain ⟨a0, c0, rfl⟩ := h0.shape
  obtain ⟨a1, c1, rfl⟩ := h1.shape
  exact ⟨a0, c0, a1, c1, rfl, h0, h1.mono hm⟩

set_option maxRecDepth 100000 in
set_option maxHeartbeats 800000 in
theorem eqTables_same (v v' : Value) (cs ss ct st : List Int) (w : World) (h0 : cs.length ≤ 1048576) (h1 : ss.length ≤ 1048576) (h2 : ct.length ≤ 1048576) (h3 : st.length ≤ 1048576) (hv : TV w v cs ss ct st) (hv' : TV w v' cs ss ct st) :
    Calls Try.prog 16 #[v, v'] w fun e w' => e = .returned (.bool true) ∧ Below w.heap.size w w' := by
  obtain ⟨a0, c0, a1, c1, a2, c2, a3, c3, rfl, u0, u1⟩ := hv
  obtain ⟨b0, d0, b1, d1, b2, d2, b3, d3, rfl, x0, x1⟩ := hv'
  have hA := (Below.refl w.heap.size w).alloc (Nat.le_refl _) (.cells #[.slice a0 cs.length c0, .slice a1 ss.length c1, .slice a2 ct.length c2, .slice a3 st.length c3] 34)
  have HB := hid (hA.alloc hA.size (.cells #[.slice b0 cs.length d0, .slice b1 ss.length d1, .slice b2 ct.length d2, .slice b3 st.length d3] 34))
  have HF := hid ((Four.new w (.slice a0 cs.length c0) (.slice a1 ss.length c1) (.slice a2 ct.length c2) (.slice a3 st.length c3) 34).below ((Below.refl _ _).alloc (Nat.le_refl _) (.cells #[.slice b0 cs.length d0, .slice b1 ss.length d1, .slice b2 ct.length d2, .slice b3 st.length d3] 34)) (Four.new w _ _ _ _ 34).lt)
  have HG := hid (Four.new (w.alloc (.cells #[.slice a0 cs.length c0, .slice a1 ss.length c1, .slice a2 ct.length c2, .slice a3 st.length c3] 34)) (.slice b0 cs.length d0) (.slice b1 ss.length d1) (.slice b2 ct.length d2) (.slice b3 st.length d3) 34)
  have hsz : (w.alloc (.cells #[.slice a0 cs.length c0, .slice a1 ss.length c1, .slice a2 ct.length c2, .slice a3 st.length c3] 34)).heap.size = w.heap.size + 1 := by simp
  rw [hsz] at HG
  have HE1 := hid (fun q (hq : Below w.heap.size w q) => eqCodes_same _ _ cs ss q h0 h1 (u0.below hq) (x0.below hq))
  have HE2 := hid (fun q (hq : Below w.heap.size w q) => eqCodes_same _ _ ct st q h2 h3 (u1.below hq) (x1.below hq))
  clear u0 u1 x0 x1 hA hsz
  go_enter Try.func16, Try.ntmps16
  go_wp2_with fail
  refine (HE1.out _ HB.out).mono ?_
  generalize (w.alloc (.cells #[.slice a0 cs.length c0, .slice a1 ss.length c1, .slice a2 ct.length c2, .slice a3 st.length c3] 34)).alloc (.cells #[.slice b0 cs.length d0, .slice b1 ss.length d1, .slice b2 ct.length d2, .slice b3 st.length d3] 34) = wa at *
  rintro e w1 ⟨rfl, hb1⟩
  have B1 := hid (HB.out.trans (hb1.mono HB.out.size))
  have F1 := hid (HF.out.below hb1 HF.out.lt)
  have G1 := hid (HG.out.below hb1 HG.out.lt)
  obtain ⟨q0, q1, q2, q3⟩ := F1.out.cells
  obtain ⟨r0, r1, r2, r3⟩ := G1.out.cells
  clear hb1
  go_wp2_with fail
  refine (HE2.out _ B1.out).mono ?_
  rintro e w2 ⟨rfl, hb2⟩
  have B2 := hid (B1.out.trans (hb2.mono B1.out.size))
  clear hb2
  go_wp2_with fail
  go_ret
  exact ⟨rfl, B2.out⟩
end Go.Proofs.Ytcikmgdfelejpaa
