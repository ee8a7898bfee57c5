/- Tables, PutBits, Stuff and ScanText of both sides, in one text. -/
import Derived.Test.YtnnakmgngkpghaaGreatSca
import Derived.Test.YtnnakmgngkpghaaGreatGc
import Derived.Test.YtnnakmgngkpghaaGreatGd
import Derived.Test.YtnnakmgngkpghaaGreatGb
import Derived.Test.YtnnakmgngkpghaaGreatRows

/- Contracts of what the exact laws do with tables and rows of blocks. -/
namespace Go.Proofs.YtnnakmgngkpghaaGreat
open Go.RowKit Go.Maps
set_option linter.unusedVariables false

theorem szCodesG (l : Int) (hl0 : 0 ≤ l) (hl1 : l ≤ 1048576) (a0 a1 : Option Addr) (n0 n1 c0 c1 : Nat) (w : World) (hn0 : n0 ≤ 9223372036854775807) (hn1 : n1 ≤ 9223372036854775807) :
    Calls Tryz.prog 39 #[.agg #[.slice a0 n0 c0, .slice a1 n1 c1], .int .i64 l] w fun e w' => ∃ r : Int, e = .returned (.int .i64 r) ∧ (0 ≤ r ∧ (n0 ≤ 1048576 ∧ n1 ≤ 1048576) ∧ r ≤ 1048576 ∨ r = -1) ∧ Below w.heap.size w w' := by
  by_cases h : (n0 : Int) ≤ l
  · have e0 : lft l n0 = l - n0 := by unfold lft; rw [if_neg (by omega)]
    by_cases h2 : (n0 : Int) + n1 ≤ l
    · have e1 : lft (l - n0) n1 = l - n0 - n1 := by unfold lft; rw [if_neg (by omega)]
      go_enter Tryz.func39, Tryz.ntmps39
      go_wp2_with fail
      refine (szInts a0 n0 c0 l _ hn0 hl0 hl1).mono ?_
      rw [e0]
      rintro e w1 ⟨rfl, rfl⟩
      go_wp2_with fail
      refine (szInts a1 n1 c1 (l - n0) _ hn1 (by omega) (by omega)).mono ?_
      rw [e1]
      rintro e w1 ⟨rfl, rfl⟩
      go_wp2
      go_ret
      exact ⟨_, rfl, .inl ⟨by omega, ⟨by omega, by omega⟩, by omega⟩, (Below.refl _ _).alloc (Nat.le_refl _) _⟩
    · have e1 : lft (l - n0) n1 = -1 := by unfold lft; rw [if_pos (by omega)]
      go_enter Tryz.func39, Tryz.ntmps39
      go_wp2_with fail
      refine (szInts a0 n0 c0 l _ hn0 hl0 hl1).mono ?_
      rw [e0]
      rintro e w1 ⟨rfl, rfl⟩
      go_wp2_with fail
      refine (szInts a1 n1 c1 (l - n0) _ hn1 (by omega) (by omega)).mono ?_
      rw [e1]
      rintro e w1 ⟨rfl, rfl⟩
      go_wp2
      go_ret
      exact ⟨_, rfl, .inr rfl, (Below.refl _ _).alloc (Nat.le_refl _) _⟩
  · have e0 : lft l n0 = -1 := by unfold lft; rw [if_pos (by omega)]
    go_enter Tryz.func39, Tryz.ntmps39
    go_wp2_with fail
    refine (szInts a0 n0 c0 l _ hn0 hl0 hl1).mono ?_
    rw [e0]
    rintro e w1 ⟨rfl, rfl⟩
    go_wp2
    go_ret
    exact ⟨_, rfl, .inr rfl, (Below.refl _ _).alloc (Nat.le_refl _) _⟩

set_option maxRecDepth 100000 in
set_option maxRecDepth 100000 in
set_option maxHeartbeats 1600000 in
theorem szBlockSG (l0 : Int) (hl0 : 0 ≤ l0) (hl1 : l0 ≤ 1048576) (ao : Option Addr) (cap : Nat) (L : List (Int × List Int)) (w : World) (hn : L.length ≤ 9223372036854775807) (hs : ∀ j, j < L.length → (nth L j).2.length ≤ 9223372036854775807) (hv : BRow w ao L) :
    Calls Tryz.prog 18 #[.slice ao L.length cap, .int .i64 l0] w fun e w' => ∃ r : Int, e = .returned (.int .i64 r) ∧ (r < 0 ∨ L.length ≤ 1048576 ∧ ∀ j, j < L.length → (nth L j).2.length ≤ 1048576) ∧ Below w.heap.size w w' := by
  have HV := hid hv
  have HS := hid hs
  clear hv hs
  by_cases hl : l0 - L.length < 0
  · go_enter Tryz.func18, Tryz.ntmps18
    go_wp2_with fail
    go_ret
    exact ⟨_, rfl, .inl (by decide), Below.refl _ _⟩
  · have hl2 : L.length ≤ 1048576 := by omega
    go_enter Tryz.func18, Tryz.ntmps18
    go_wp2_with fail
    go_loopw [1, 5] (fun l i wr => ∃ (k : Nat) (q : Int), k ≤ L.length ∧ i = .int .i64 k ∧ l = .int .i64 q ∧ (0 ≤ q ∧ q ≤ 1048576) ∧ Hid (∀ j, j < k → (nth L j).2.length ≤ 1048576) ∧ Hid (Below w.heap.size w wr)) (fun _ i _ => L.length - (intOf i).toNat)
    case atStart => exact ⟨0, l0 - L.length, by omega, rfl, rfl, by omega, fun j hj => by omega, Below.refl _ _⟩
    case round =>
      obtain ⟨k, q, hk, rfl, rfl, ⟨hq0, hq1⟩, hall, hb⟩ := hrel
      by_cases hlt : k < L.length
      · obtain ⟨b, off, a, c, rfl, hc1, hc2, hvw⟩ := HV.out.below hb.out k hlt
        have hlt' : (k : Int) < (L.length : Int) := by omega
        have HSZ := hid (szBlock (nth L k).1 a (nth L k).2.length c q wr (HS.out k hlt) hq0 hq1)
        have HNX := hid (fun (h : (nth L k).2.length ≤ 1048576) j (hj : j < k + 1) => (show (nth L j).2.length ≤ 1048576 by
          by_cases e : j = k
          · rw [e]; exact h
          · exact hall.out j (by omega)))
        generalize (nth L k).1 = D at *
        generalize (nth L k).2.length = N at *
        by_cases hneg : q - (N : Int) < 0
        · have e0 : lft q N = -1 := by unfold lft; rw [if_pos hneg]
          rw [e0] at HSZ
          go_wp2_with fail
          refine HSZ.out.mono ?_
          rintro e w2 ⟨rfl, hb2⟩
          have B2 := hid (hb.out.trans (hb2.mono hb.out.size))
          go_wp2_with fail
          go_ret
          exact ⟨_, rfl, .inl (by decide), B2.out⟩
        · have e0 : lft q N = q - N := by unfold lft; rw [if_neg hneg]
          rw [e0] at HSZ
          have HNY := hid (HNX.out (by omega))
          go_wp2_with fail
          refine HSZ.out.mono ?_
          rintro e w2 ⟨rfl, hb2⟩
          have B2 := hid (hb.out.trans (hb2.mono hb.out.size))
          go_wp2_with fail
          go_roundw
          case rel => exact ⟨k + 1, q - N, by omega, by go_num, rfl, by omega, HNY.out, B2.out⟩
          case measure => simp [intOf]; omega
      · obtain rfl : k = L.length := by omega
        go_wp2_with fail
        go_ret
        exact ⟨_, rfl, .inr ⟨hl2, hall.out⟩, hb.out⟩

theorem Four.set0 {w : World} {b : Nat} {x y z u : Value} {t : TypeId} (h : Four w b x y z u t) (v : Value) : Four (w.setCell ⟨b, 0, none⟩ v) b v y z u t := heap_setCell_same w b 0 _ t v h
theorem Four.set1 {w : World} {b : Nat} {x y z u : Value} {t : TypeId} (h : Four w b x y z u t) (v : Value) : Four (w.setCell ⟨b, 1, none⟩ v) b x v z u t := heap_setCell_same w b 1 _ t v h
theorem Four.set2 {w : World} {b : Nat} {x y z u : Value} {t : TypeId} (h : Four w b x y z u t) (v : Value) : Four (w.setCell ⟨b, 2, none⟩ v) b x y v u t := heap_setCell_same w b 2 _ t v h
theorem Four.set3 {w : World} {b : Nat} {x y z u : Value} {t : TypeId} (h : Four w b x y z u t) (v : Value) : Four (w.setCell ⟨b, 3, none⟩ v) b x y z v t := heap_setCell_same w b 3 _ t v h
theorem Four.free {w : World} {b : Nat} {x y z u : Value} {t : TypeId} (h : Four w b x y z u t) (j : Nat) : w.frozen? ⟨b, j, none⟩ = false := frozen_of_row w b j _ t h
theorem Four.other {w : World} {b c i : Nat} {x y z u : Value} {t : TypeId} (h : Four w b x y z u t) (hne : b ≠ c) (v : Value) : Four (w.setCell ⟨c, i, none⟩ v) b x y z u t := (Below.heap_setCell _ _ _ _ (fun e => hne (by rw [e]))).trans h

set_option maxHeartbeats 800000 in
theorem szTables (a0 a1 a2 a3 : Option Addr) (n0 n1 n2 n3 c0 c1 c2 c3 : Nat) (w : World) (h0 : n0 ≤ 9223372036854775807) (h1 : n1 ≤ 9223372036854775807) (h2 : n2 ≤ 9223372036854775807) (h3 : n3 ≤ 9223372036854775807) :
    Calls Tryz.prog 17 #[.agg #[.slice a0 n0 c0, .slice a1 n1 c1, .slice a2 n2 c2, .slice a3 n3 c3], .int .i64 1048576] w fun e w' => ∃ r : Int, e = .returned (.int .i64 r) ∧ (0 ≤ r ∧ (n0 ≤ 1048576 ∧ n1 ≤ 1048576 ∧ n2 ≤ 1048576 ∧ n3 ≤ 1048576) ∧ r ≤ 1048576 ∨ r = -1) ∧ Below w.heap.size w w' := by
  have HB := hid ((Below.refl w.heap.size w).alloc (Nat.le_refl _) (.cells #[.slice a0 n0 c0, .slice a1 n1 c1, .slice a2 n2 c2, .slice a3 n3 c3] 26))
  have HF := hid (Four.new w (.slice a0 n0 c0) (.slice a1 n1 c1) (.slice a2 n2 c2) (.slice a3 n3 c3) 26)
  go_enter Tryz.func17, Tryz.ntmps17
  go_wp2_with fail
  refine (szCodesG 1048576 (by decide) (by decide) a0 a1 n0 n1 c0 c1 _ h0 h1).mono ?_
  generalize w.alloc (.cells #[.slice a0 n0 c0, .slice a1 n1 c1, .slice a2 n2 c2, .slice a3 n3 c3] 26) = wa at *
  rintro e w1 ⟨r, rfl, hr, hb1⟩
  have B1 := hid (HB.out.trans (hb1.mono HB.out.size))
  have F1 := hid (HF.out.below hb1 HF.out.lt)
  obtain ⟨q0, q1, q2, q3⟩ := F1.out.cells
  clear hb1
  rcases hr with ⟨hr0, ⟨hn0, hn1⟩, hr1⟩ | rfl
  · have hd : ¬ r < 0 := by omega
    go_wp2_with fail
    refine (szCodesG r hr0 hr1 a2 a3 n2 n3 c2 c3 _ h2 h3).mono ?_
    rintro e w2 ⟨r2, rfl, hr2, hb2⟩
    have B2 := hid (B1.out.trans (hb2.mono B1.out.size))
    clear hb2
    rcases hr2 with ⟨hs0, ⟨hn2, hn3⟩, hs1⟩ | rfl
    · have hd2 : ¬ r2 < 0 := by omega
      go_wp2_with fail
      go_ret
      exact ⟨_, rfl, .inl ⟨hs0, ⟨hn0, hn1, hn2, hn3⟩, hs1⟩, B2.out⟩
    · go_wp2_with fail
      go_ret
      exact ⟨_, rfl, .inr rfl, B2.out⟩
  · go_wp2_with fail
    go_ret
    exact ⟨_, rfl, .inr rfl, B1.out⟩

/-- Tables that are the call's own. -/
def TOwn (w : World) (base : Nat) (v : Value) (cs ss ct st : List Int) : Prop :=
  ∃ a0 c0 a1 c1 a2 c2 a3 c3, v = .agg #[.slice a0 cs.length c0, .slice a1 ss.length c1, .slice a2 ct.length c2, .slice a3 st.length c3] ∧ Own w base 3 .i64 (.slice a0 cs.length c0) cs ∧ Own w base 3 .i64 (.slice a1 ss.length c1) ss ∧ Own w base 3 .i64 (.slice a2 ct.length c2) ct ∧ Own w base 3 .i64 (.slice a3 st.length c3) st
theorem TOwn.below {w w' : World} {base : Nat} {v : Value} {cs ss ct st : List Int} (h : TOwn w base v cs ss ct st) (hb : Below w.heap.size w w') : TOwn w' base v cs ss ct st := by
  obtain ⟨a0, c0, a1, c1, a2, c2, a3, c3, rfl, h0, h1, h2, h3⟩ := h
  exact ⟨a0, c0, a1, c1, a2, c2, a3, c3, rfl, h0.below hb, h1.below hb, h2.below hb, h3.below hb⟩
theorem TOwn.tv {w : World} {base : Nat} {v : Value} {cs ss ct st : List Int} (h : TOwn w base v cs ss ct st) : TV w v cs ss ct st := by
  obtain ⟨a0, c0, a1, c1, a2, c2, a3, c3, rfl, h0, h1, h2, h3⟩ := h
  have vw : ∀ (a : Option Addr) (c : Nat) (xs : List Int), Own w base 3 .i64 (.slice a xs.length c) xs → View .i64 w a xs.length xs := fun a c xs h => by
    obtain ⟨a', c', e, hv⟩ := h.view
    cases e
    exact hv
  exact ⟨a0, c0, a1, c1, a2, c2, a3, c3, rfl, ⟨a0, c0, a1, c1, rfl, vw _ _ _ h0, vw _ _ _ h1⟩, ⟨a2, c2, a3, c3, rfl, vw _ _ _ h2, vw _ _ _ h3⟩⟩
theorem COwn.two {w : World} {base : Nat} {v : Value} {cs ss : List Int} (h : COwn w base v cs ss) : ∃ a0 c0 a1 c1, v = .agg #[.slice a0 cs.length c0, .slice a1 ss.length c1] ∧ Own w base 3 .i64 (.slice a0 cs.length c0) cs ∧ Own w base 3 .i64 (.slice a1 ss.length c1) ss := by
  obtain ⟨va, vb, m, rfl, hm, h0, h1, _⟩ := h
  obtain ⟨a0, c0, rfl⟩ := h0.shape
  obtain ⟨a1, c1, rfl⟩ := h1.shape
  exact ⟨a0, c0, a1, c1, rfl, h0, h1.mono hm⟩

set_option maxRecDepth 100000 in
set_option maxHeartbeats 800000 in
theorem eqTables_same (v v' : Value) (cs ss ct st : List Int) (w : World) (h0 : cs.length ≤ 1048576) (h1 : ss.length ≤ 1048576) (h2 : ct.length ≤ 1048576) (h3 : st.length ≤ 1048576) (hv : TV w v cs ss ct st) (hv' : TV w v' cs ss ct st) :
    Calls Tryz.prog 29 #[v, v'] w fun e w' => e = .returned (.bool true) ∧ Below w.heap.size w w' := by
  obtain ⟨a0, c0, a1, c1, a2, c2, a3, c3, rfl, u0, u1⟩ := hv
  obtain ⟨b0, d0, b1, d1, b2, d2, b3, d3, rfl, x0, x1⟩ := hv'
  have hA := (Below.refl w.heap.size w).alloc (Nat.le_refl _) (.cells #[.slice a0 cs.length c0, .slice a1 ss.length c1, .slice a2 ct.length c2, .slice a3 st.length c3] 33)
  have HB := hid (hA.alloc hA.size (.cells #[.slice b0 cs.length d0, .slice b1 ss.length d1, .slice b2 ct.length d2, .slice b3 st.length d3] 33))
  have HF := hid ((Four.new w (.slice a0 cs.length c0) (.slice a1 ss.length c1) (.slice a2 ct.length c2) (.slice a3 st.length c3) 33).below ((Below.refl _ _).alloc (Nat.le_refl _) (.cells #[.slice b0 cs.length d0, .slice b1 ss.length d1, .slice b2 ct.length d2, .slice b3 st.length d3] 33)) (Four.new w _ _ _ _ 33).lt)
  have HG := hid (Four.new (w.alloc (.cells #[.slice a0 cs.length c0, .slice a1 ss.length c1, .slice a2 ct.length c2, .slice a3 st.length c3] 33)) (.slice b0 cs.length d0) (.slice b1 ss.length d1) (.slice b2 ct.length d2) (.slice b3 st.length d3) 33)
  have hsz : (w.alloc (.cells #[.slice a0 cs.length c0, .slice a1 ss.length c1, .slice a2 ct.length c2, .slice a3 st.length c3] 33)).heap.size = w.heap.size + 1 := by simp
  rw [hsz] at HG
  have HE1 := hid (fun q (hq : Below w.heap.size w q) => eqCodes_same _ _ cs ss q h0 h1 (u0.below hq) (x0.below hq))
  have HE2 := hid (fun q (hq : Below w.heap.size w q) => eqCodes_same _ _ ct st q h2 h3 (u1.below hq) (x1.below hq))
  clear u0 u1 x0 x1 hA hsz
  go_enter Tryz.func29, Tryz.ntmps29
  go_wp2_with fail
  refine (HE1.out _ HB.out).mono ?_
  generalize (w.alloc (.cells #[.slice a0 cs.length c0, .slice a1 ss.length c1, .slice a2 ct.length c2, .slice a3 st.length c3] 33)).alloc (.cells #[.slice b0 cs.length d0, .slice b1 ss.length d1, .slice b2 ct.length d2, .slice b3 st.length d3] 33) = wa at *
  rintro e w1 ⟨rfl, hb1⟩
  have B1 := hid (HB.out.trans (hb1.mono HB.out.size))
  have F1 := hid (HF.out.below hb1 HF.out.lt)
  have G1 := hid (HG.out.below hb1 HG.out.lt)
  obtain ⟨q0, q1, q2, q3⟩ := F1.out.cells
  obtain ⟨r0, r1, r2, r3⟩ := G1.out.cells
  clear hb1
  go_wp2_with fail
  refine (HE2.out _ B1.out).mono ?_
  rintro e w2 ⟨rfl, hb2⟩
  have B2 := hid (B1.out.trans (hb2.mono B1.out.size))
  clear hb2
  go_wp2_with fail
  go_ret
  exact ⟨rfl, B2.out⟩
end Go.Proofs.YtnnakmgngkpghaaGreat

/- Copies and marks of tables. -/
namespace Go.Proofs.YtnnakmgngkpghaaGreat
open Go.RowKit Go.Maps
set_option linter.unusedVariables false

set_option maxRecDepth 100000 in
set_option maxHeartbeats 1600000 in
theorem toTables (v : Value) (cs ss ct st : List Int) (w : World) (h0 : cs.length ≤ 1048576) (h1 : ss.length ≤ 1048576) (h2 : ct.length ≤ 1048576) (h3 : st.length ≤ 1048576) (hv : TV w v cs ss ct st) :
    Calls Tryz.prog 22 #[v] w fun e w' => ∃ v', e = .returned v' ∧ TOwn w' w.heap.size v' cs ss ct st ∧ Below w.heap.size w w' := by
  obtain ⟨a0, c0, a1, c1, a2, c2, a3, c3, rfl, u0, u1⟩ := hv
  have f0 := Four.new w (.slice a0 cs.length c0) (.slice a1 ss.length c1) (.slice a2 ct.length c2) (.slice a3 st.length c3) 26
  have f1 := Four.new (w.alloc (.cells #[.slice a0 cs.length c0, .slice a1 ss.length c1, .slice a2 ct.length c2, .slice a3 st.length c3] 26)) (.slice none 0 0) (.slice none 0 0) (.slice none 0 0) (.slice none 0 0) 33
  have f2 := Four.new ((w.alloc (.cells #[.slice a0 cs.length c0, .slice a1 ss.length c1, .slice a2 ct.length c2, .slice a3 st.length c3] 26)).alloc (.cells #[.slice none 0 0, .slice none 0 0, .slice none 0 0, .slice none 0 0] 33)) (.slice none 0 0) (.slice none 0 0) (.slice none 0 0) (.slice none 0 0) 33
  have al : ∀ (q : World) (o : Obj), Below q.heap.size q (q.alloc o) := fun q o => (Below.refl _ _).alloc (Nat.le_refl _) o
  have HF0 := hid ((f0.below (al _ (.cells #[.slice none 0 0, .slice none 0 0, .slice none 0 0, .slice none 0 0] 33)) f0.lt).below (al _ (.cells #[.slice none 0 0, .slice none 0 0, .slice none 0 0, .slice none 0 0] 33)) (f0.below (al _ (.cells #[.slice none 0 0, .slice none 0 0, .slice none 0 0, .slice none 0 0] 33)) f0.lt).lt)
  have HF1 := hid (f1.below (al _ (.cells #[.slice none 0 0, .slice none 0 0, .slice none 0 0, .slice none 0 0] 33)) f1.lt)
  have HF2 := hid f2
  have hb0 := al w (.cells #[.slice a0 cs.length c0, .slice a1 ss.length c1, .slice a2 ct.length c2, .slice a3 st.length c3] 26)
  have hb1 := hb0.trans ((al (w.alloc (.cells #[.slice a0 cs.length c0, .slice a1 ss.length c1, .slice a2 ct.length c2, .slice a3 st.length c3] 26)) (.cells #[.slice none 0 0, .slice none 0 0, .slice none 0 0, .slice none 0 0] 33)).mono hb0.size)
  have HB0 := hid (hb1.trans ((al _ (.cells #[.slice none 0 0, .slice none 0 0, .slice none 0 0, .slice none 0 0] 33)).mono hb1.size))
  simp only [World.size_alloc] at HF1 HF2
  have HT1 := hid (fun q (hq : Below w.heap.size w q) => toCodes _ cs ss q h0 h1 (u0.below hq))
  have HT2 := hid (fun q (hq : Below w.heap.size w q) => toCodes _ ct st q h2 h3 (u1.below hq))
  clear u0 u1 f0 f1 f2 hb0 hb1 al
  go_enter Tryz.func22, Tryz.ntmps22
  go_wp2_with fail
  refine (HT1.out _ HB0.out).mono ?_
  generalize ((w.alloc _).alloc _).alloc _ = wa at *
  rintro e w1 ⟨v1, rfl, ho1, hb1⟩
  obtain ⟨x0, d0, x1, d1, rfl, o0, o1⟩ := ho1.two
  have E0 := hid (HF0.out.below hb1 HF0.out.lt)
  have E1 := hid (HF1.out.below hb1 HF1.out.lt)
  have E2 := hid (HF2.out.below hb1 HF2.out.lt)
  have hlt2 : w.heap.size + 1 + 1 < wa.heap.size := HF2.out.lt
  have P2 := hid ((E2.out.set0 (.slice x0 cs.length d0)).set1 (.slice x1 ss.length d1))
  have P1 := hid ((E1.out.other (i := 0) (show w.heap.size + 1 ≠ w.heap.size + 1 + 1 by omega) (.slice x0 cs.length d0)).other (i := 1) (show w.heap.size + 1 ≠ w.heap.size + 1 + 1 by omega) (.slice x1 ss.length d1))
  have P0 := hid ((E0.out.other (i := 0) (show w.heap.size ≠ w.heap.size + 1 + 1 by omega) (.slice x0 cs.length d0)).other (i := 1) (show w.heap.size ≠ w.heap.size + 1 + 1 by omega) (.slice x1 ss.length d1))
  have hB1 := HB0.out.trans (hb1.mono HB0.out.size)
  have BB1 := hid ((hB1.setCell (p := ⟨w.heap.size + 1 + 1, 0, none⟩) (by show w.heap.size ≤ w.heap.size + 1 + 1; omega) (.slice x0 cs.length d0)).setCell (p := ⟨w.heap.size + 1 + 1, 1, none⟩) (by show w.heap.size ≤ w.heap.size + 1 + 1; omega) (.slice x1 ss.length d1))
  have O0 := hid ((o0.setCell_below (a := ⟨w.heap.size + 1 + 1, 0, none⟩) hlt2 (.slice x0 cs.length d0)).setCell_below (a := ⟨w.heap.size + 1 + 1, 1, none⟩) hlt2 (.slice x1 ss.length d1))
  have O1 := hid ((o1.setCell_below (a := ⟨w.heap.size + 1 + 1, 0, none⟩) hlt2 (.slice x0 cs.length d0)).setCell_below (a := ⟨w.heap.size + 1 + 1, 1, none⟩) hlt2 (.slice x1 ss.length d1))
  obtain ⟨q0, q1, q2, q3⟩ := E2.out.cells
  have z0 := E2.out.free 0
  have z1 := E2.out.free 1
  obtain ⟨r0, r1, r2, r3⟩ := E0.out.cells
  clear ho1 hb1 o0 o1 hB1
  go_wp2_with fail
  clear q0 q1 q2 q3 z0 z1 r0 r1 r2 r3
  refine (HT2.out _ BB1.out).mono ?_
  generalize (w1.setCell ⟨w.heap.size + 1 + 1, 0, none⟩ (.slice x0 cs.length d0)).setCell ⟨w.heap.size + 1 + 1, 1, none⟩ (.slice x1 ss.length d1) = wb at *
  rintro e w2 ⟨v2, rfl, ho2, hb2⟩
  obtain ⟨x2, d2, x3, d3, rfl, o2, o3⟩ := ho2.two
  have G1 := hid (P1.out.below hb2 P1.out.lt)
  have G2 := hid (P2.out.below hb2 P2.out.lt)
  have hB2 := hid (BB1.out.trans (hb2.mono BB1.out.size))
  have S0 := hid (O0.out.below hb2)
  have S1 := hid (O1.out.below hb2)
  have S2 := hid o2
  have S3 := hid o3
  have hlb : w.heap.size + 1 + 1 < wb.heap.size := P2.out.lt
  have H2 := hid ((G2.out.set2 (.slice x2 ct.length d2)).set3 (.slice x3 st.length d3))
  have H1 := hid ((G1.out.other (i := 2) (show w.heap.size + 1 ≠ w.heap.size + 1 + 1 by omega) (.slice x2 ct.length d2)).other (i := 3) (show w.heap.size + 1 ≠ w.heap.size + 1 + 1 by omega) (.slice x3 st.length d3))
  obtain ⟨q0, q1, q2, q3⟩ := G2.out.cells
  have z2 := G2.out.free 2
  have z3 := G2.out.free 3
  obtain ⟨r0, r1, r2, r3⟩ := H1.out.cells
  have y0 := H1.out.free 0
  have y1 := H1.out.free 1
  have y2 := H1.out.free 2
  have y3 := H1.out.free 3
  obtain ⟨p0, p1, p2, p3⟩ := H2.out.cells
  clear ho2 hb2 o2 o3
  go_wp2_with fail
  have FIN : ∀ (q : World) (base : Nat) (a : Option Addr) (c : Nat) (xs : List Int), w.heap.size + 1 + 1 < base → Own q base 3 .i64 (.slice a xs.length c) xs →
      Own ((((((q.setCell ⟨w.heap.size + 1 + 1, 2, none⟩ (.slice x2 ct.length d2)).setCell ⟨w.heap.size + 1 + 1, 3, none⟩ (.slice x3 st.length d3)).setCell ⟨w.heap.size + 1, 0, none⟩ (.slice x0 cs.length d0)).setCell ⟨w.heap.size + 1, 1, none⟩ (.slice x1 ss.length d1)).setCell ⟨w.heap.size + 1, 2, none⟩ (.slice x2 ct.length d2)).setCell ⟨w.heap.size + 1, 3, none⟩ (.slice x3 st.length d3)) w.heap.size 3 .i64 (.slice a xs.length c) xs := fun q base a c xs hbs h =>
    ((((((h.setCell_below (a := ⟨w.heap.size + 1 + 1, 2, none⟩) hbs _).setCell_below (a := ⟨w.heap.size + 1 + 1, 3, none⟩) hbs _).setCell_below (a := ⟨w.heap.size + 1, 0, none⟩) (by show w.heap.size + 1 < base; omega) _).setCell_below (a := ⟨w.heap.size + 1, 1, none⟩) (by show w.heap.size + 1 < base; omega) _).setCell_below (a := ⟨w.heap.size + 1, 2, none⟩) (by show w.heap.size + 1 < base; omega) _).setCell_below (a := ⟨w.heap.size + 1, 3, none⟩) (by show w.heap.size + 1 < base; omega) _).mono (by omega)
  refine bodyPost_ret (v := .agg #[.slice x0 cs.length d0, .slice x1 ss.length d1, .slice x2 ct.length d2, .slice x3 st.length d3]) (by simp [results, Tryz.results22, go_sem, r0, r1, r2, r3]) rfl ⟨_, rfl, ⟨x0, d0, x1, d1, x2, d2, x3, d3, rfl, FIN _ _ _ _ _ hlt2 S0.out, FIN _ _ _ _ _ hlt2 S1.out, FIN _ _ _ _ _ hlb S2.out, FIN _ _ _ _ _ hlb S3.out⟩, ?_⟩
  have s1 : w.heap.size ≤ w.heap.size + 1 := by omega
  have s2 : w.heap.size ≤ w.heap.size + 1 + 1 := by omega
  exact (((((hB2.out.setCell (p := ⟨w.heap.size + 1 + 1, 2, none⟩) s2 _).setCell (p := ⟨w.heap.size + 1 + 1, 3, none⟩) s2 _).setCell (p := ⟨w.heap.size + 1, 0, none⟩) s1 _).setCell (p := ⟨w.heap.size + 1, 1, none⟩) s1 _).setCell (p := ⟨w.heap.size + 1, 2, none⟩) s1 _).setCell (p := ⟨w.heap.size + 1, 3, none⟩) s1 _

theorem Soft.ofBelow {B m : Nat} {w w' : World} (h : Below w.heap.size w w') : Soft B m w w' :=
  ⟨Spare.ofBelow h, fun b cur hg => ⟨cur, hg.below h hg.lt, fun j x hx => ⟨x, hx⟩⟩, fun b cur t _ hg => hg.below h hg.lt⟩
/-- Marks in codes and in tables, whatever they hold. -/
theorem markCodesI (B m : Nat) (a0 a1 : Option Addr) (n0 n1 c0 c1 : Nat) (s : Int) (w : World) (h0 : n0 ≤ 1048576) (h1 : n1 ≤ 1048576) (hs0 : 0 ≤ s) (hs1 : s ≤ 1000000000) (hm : m ≤ w.heap.size) (o0 : IntB B m w (.slice a0 n0 c0) n0) (o1 : IntB B m w (.slice a1 n1 c1) n1) :
    Calls Tryz.prog 51 #[.agg #[.slice a0 n0 c0, .slice a1 n1 c1], .int .i64 s] w fun e w' => e = .returned (.int .i64 (s + n0 + n1)) ∧ Soft B m w w' := by
  have HB := hid ((Below.refl w.heap.size w).alloc (Nat.le_refl _) (.cells #[.slice a0 n0 c0, .slice a1 n1 c1] 31))
  have HT := hid (Two.new w (.slice a0 n0 c0) (.slice a1 n1 c1) 31)
  have SB := hid (Soft.ofBelow (B := B) (m := m) HB.out)
  have I0 := hid (o0.soft SB.out)
  have I1 := hid (o1.soft SB.out)
  clear o0 o1
  go_enter Tryz.func51, Tryz.ntmps51
  go_wp2_with fail
  refine (mark_ints B m _ n0 s _ h0 hs0 (by omega) I0.out).mono ?_
  generalize w.alloc (.cells #[.slice a0 n0 c0, .slice a1 n1 c1] 31) = wa at *
  rintro e w1 ⟨rfl, hsoft⟩
  have S1 := hid (SB.out.trans hsoft)
  have J1 := hid (I1.out.soft hsoft)
  have T1 := hid (show Two w1 w.heap.size (.slice a0 n0 c0) (.slice a1 n1 c1) 31 from hsoft.2.2 _ _ 31 (by decide) HT.out)
  obtain ⟨q0, q1, q2, q3⟩ := T1.out.cells
  clear hsoft
  go_wp2_with fail
  refine (mark_ints B m _ n1 (s + n0) _ h1 (by omega) (by omega) J1.out).mono ?_
  rintro e w2 ⟨rfl, hsoft⟩
  have S2 := hid (S1.out.trans hsoft)
  clear hsoft
  go_wp2_with fail
  go_ret
  exact ⟨rfl, S2.out⟩

end Go.Proofs.YtnnakmgngkpghaaGreat

/- The walk of the law FnExactCodesOk. -/
namespace Go.Proofs.YtnnakmgngkpghaaGreat
open Go.RowKit
set_option linter.unusedVariables false

theorem IsRow.cv {w : World} {a0 a1 : Option Addr} {n0 n1 c0 c1 : Nat} {z0 z1 : List Int} (h0 : IsRow .i64 w a0 n0 c0 z0) (h1 : IsRow .i64 w a1 n1 c1 z1) : CV w (.agg #[.slice a0 n0 c0, .slice a1 n1 c1]) (z0.take n0) (z1.take n1) := by
  have v0 := h0.view
  have v1 := h1.view
  have e0 := v0.1
  have e1 := v1.1
  exact ⟨a0, c0, a1, c1, by rw [e0, e1], by rw [e0]; exact v0, by rw [e1]; exact v1⟩

end Go.Proofs.YtnnakmgngkpghaaGreat

/- ScanCost of both sides, and the walk of the law FnExactScanCost. -/
namespace Go.Proofs.YtnnakmgngkpghaaGreat
open Go.RowKit Go.Maps
set_option linter.unusedVariables false

/-- What ScanCost answers. -/
def costOf (R : Option (List Int)) : Int := match R with | some r => (r.length : Int) | none => -1

/-- Four rows of ints as tables. -/
theorem rows_tv {w : World} {a0 a1 a2 a3 : Option Addr} {n0 n1 n2 n3 c0 c1 c2 c3 : Nat} {z0 z1 z2 z3 : List Int} (h0 : IsRow .i64 w a0 n0 c0 z0) (h1 : IsRow .i64 w a1 n1 c1 z1) (h2 : IsRow .i64 w a2 n2 c2 z2) (h3 : IsRow .i64 w a3 n3 c3 z3) :
    ∃ T : Tb, (T.cs.length = n0 ∧ T.ss.length = n1 ∧ T.ct.length = n2 ∧ T.st.length = n3) ∧ TV w (.agg #[.slice a0 n0 c0, .slice a1 n1 c1, .slice a2 n2 c2, .slice a3 n3 c3]) T.cs T.ss T.ct T.st := by
  have e0 := h0.view.1
  have e1 := h1.view.1
  have e2 := h2.view.1
  have e3 := h3.view.1
  have v0 := h0.view
  have v1 := h1.view
  have v2 := h2.view
  have v3 := h3.view
  generalize z0.take n0 = cs at *
  generalize z1.take n1 = ss at *
  generalize z2.take n2 = ct at *
  generalize z3.take n3 = st at *
  subst e0
  subst e1
  subst e2
  subst e3
  exact ⟨⟨cs, ss, ct, st⟩, ⟨rfl, rfl, rfl, rfl⟩, a0, c0, a1, c1, a2, c2, a3, c3, rfl, ⟨a0, c0, a1, c1, rfl, v0, v1⟩, ⟨a2, c2, a3, c3, rfl, v2, v3⟩⟩

end Go.Proofs.YtnnakmgngkpghaaGreat

/- Contracts of the writer's text, of PutBits and BitsNum of the program, and of PutBits of the specification. -/
namespace Go.Proofs.YtnnakmgngkpghaaGreat
open Go.RowKit
set_option linter.unusedVariables false

set_option maxHeartbeats 1600000 in
theorem text_any (b : Nat → Int) (hbit : ∀ j, Bit (b j)) (B n : Nat) (w : World) (hn : n ≤ 1048576) (hone : ∀ j, n ≤ j → b j = 1) (hi : Inv b w B n) :
    Calls Tryz.prog 99 #[.pointer (some ⟨B, 0, none⟩)] w fun e w' => e = .returned (.string (strOfNums (packTo b ((n + 7) / 8)))) ∧ Below B w w' := by
  have HB := hid hbit
  have H1 := hid hone
  have HI := hid hi
  clear hbit hone hi
  go_enter Tryz.func99, Tryz.ntmps99
  go_wp2
  go_loopw [3] (fun _ wr => ∃ (J h : Nat) (v : Value), n ≤ 8 * J + h ∧ 8 * J + h ≤ 8 * ((n + 7) / 8) ∧ h ≤ 32 ∧ Hid (Wr wr B (num b (8 * J) h) h v) ∧ Own wr (B + 1) 5 .u8 v (packTo b J) ∧ Below B w wr) (fun _ wr => (8 - (intOf ((wr.cell? ⟨B, 1, none⟩).getD (.int .i64 0))).toNat % 8) % 8)
  case atStart =>
    obtain ⟨J, h, v, hm, h32, hJ, hw, ho⟩ := HI.out
    exact ⟨J, h, v, by omega, by omega, h32, hw, ho, Below.refl _ _⟩
  case round =>
    obtain ⟨J, h, v, hnm, hmn, h32, hw, ho, hb⟩ := hrel
    obtain ⟨c0, c1, c2, f0, f1, f2⟩ := hw.out.cells
    by_cases h8 : h % 8 = 0
    · have ht : ((h : Int) % 8 != 0) = false := by simp; omega
      obtain ⟨c, hc⟩ : ∃ c, h = 8 * c := ⟨h / 8, by omega⟩
      have HF := hid (flush_any b HB.out B J c (num b (8 * J) h) v wr (by omega) (by omega) (by rw [hc]) (by have := hw.out; rw [hc] at this ⊢; simpa using this) ho)
      have HE : Hid (J + c = (n + 7) / 8) := by show _ = _; omega
      clear hc
      go_wp2_with fail
      refine HF.out.mono ?_
      rintro e w1 ⟨rfl, ⟨v', hw1, ho1⟩, hb1⟩
      obtain ⟨d0, d1, d2, g0, g1, g2⟩ := hw1.cells
      have hcv := Own.conv Tryz.underlying105 Tryz.underlying5 Tryz.underlying9 ho1
      obtain ⟨ao1, cap1, rfl⟩ := ho1.shape
      clear c0 c1 c2 f0 f1 f2
      go_wp2
      go_ret
      exact ⟨ret_str (by rw [HE.out]), hb.trans hb1⟩
    · have ht : ((h : Int) % 8 != 0) = true := by simp; omega
      have hx := hid (H1.out (8 * J + h) hnm)
      have HP := hid (put_held b HB.out B J h v 1 wr hx.out.symm (by omega) hw.out ho)
      have HC1 := hid c1
      go_wp2_with fail
      refine HP.out.mono ?_
      rintro e w1 ⟨rfl, hw1, ho1, hb1⟩
      have HW1 := hid hw1
      have HB1 := hid hb1
      have HC2 := hid hw1.cells.2.1
      clear c0 c1 c2 f0 f1 f2 hw1 hb1
      go_wp2
      go_roundw
      case rel => exact ⟨J, h + 1, v, by omega, by omega, by omega, HW1.out, ho1, hb.trans HB1.out⟩
      case measure =>
        rw [HC2.out, HC1.out]
        simp [intOf]
        omega

set_option maxHeartbeats 800000 in
theorem impl_putBits (ao : Option Addr) (n cap : Nat) (xs : List Int) (w : World) (hn : n ≤ 480000) (hv : View .i64 w ao n xs) (hall : ∀ j, j < n → Bit (xs.getD j 0)) :
    Calls Tryz.prog 81 #[.slice ao n cap] w fun e w' => e = .returned (.string (strOfNums (packTo (pad xs) ((n + 7) / 8)))) ∧ Below w.heap.size w w' := by
  have HC := hid (areBits_yes ao n cap xs w (by omega) hv hall)
  have hl : decide ((480000 : Int) < (n : Int)) = false := by simp; omega
  have hlen := hid hv.1
  have HP := hid (putAll_any ao n cap xs w.heap.size w _ (by omega) hv hall (Nat.le_refl _) ((Below.refl _ _).alloc (Nat.le_refl _) _) (Inv.start (pad xs) w))
  have HB := hid (pad_bit xs (by rw [hv.1]; exact hall))
  clear hv hall
  go_enter Tryz.func81, Tryz.ntmps81
  go_wp2_with (go_at_call 97; refine HC.out.mono ?_; rintro e w' ⟨rfl, rfl⟩)
  refine HP.out.mono ?_
  rintro e w1 ⟨rfl, hi1, hb1⟩
  have HI := hid hi1
  clear hi1
  go_wp2_with fail
  refine (text_any (pad xs) HB.out w.heap.size n _ (by omega) (fun j hj => pad_out xs j (by rw [hlen.out]; omega)) HI.out).mono ?_
  rintro e w2 ⟨rfl, hb2⟩
  go_wp2
  go_ret
  exact ⟨rfl, ((Below.refl _ _).alloc (Nat.le_refl _) _).trans (hb1.trans hb2)⟩

set_option maxHeartbeats 800000 in
theorem impl_putBits_no (ao : Option Addr) (n cap : Nat) (xs : List Int) (w : World) (hn : n ≤ 1048576) (hv : View .i64 w ao n xs) (hbad : 480000 < n ∨ ¬ ∀ j, j < n → Bit (xs.getD j 0)) :
    Calls Tryz.prog 81 #[.slice ao n cap] w fun e w' => e = .returned (.string ⟨#[]⟩) ∧ Below w.heap.size w w' := by
  by_cases h : (480000 : Int) < (n : Int)
  · clear hbad
    go_enter Tryz.func81, Tryz.ntmps81
    go_wp2
    go_ret
    exact ⟨rfl, Below.refl _ _⟩
  · have HC := hid (areBits_no ao n cap xs w hn hv (by rcases hbad with h2 | h2; omega; exact h2))
    have hl : decide ((480000 : Int) < (n : Int)) = false := by simp; omega
    clear hbad hv
    go_enter Tryz.func81, Tryz.ntmps81
    go_wp2_with (go_at_call 97; refine HC.out.mono ?_; rintro e w' ⟨rfl, rfl⟩)
    go_ret
    exact ⟨rfl, Below.refl _ _⟩

end Go.Proofs.YtnnakmgngkpghaaGreat

/- Contracts of the specification's PutBits, and the walks of the laws FnExactPutBits and FnExactBitsNum. -/
namespace Go.Proofs.YtnnakmgngkpghaaGreat
open Go.RowKit
set_option linter.unusedVariables false

set_option maxHeartbeats 1600000 in
theorem spec_putBits (ao : Option Addr) (n cap : Nat) (xs : List Int) (w : World) (hn : n ≤ 480000) (hv : View .i64 w ao n xs) (hall : ∀ j, j < n → Bit (xs.getD j 0)) :
    Calls Tryz.prog 59 #[.slice ao n cap] w fun e w' => e = .returned (.string (strOfNums (packTo (pad xs) ((n + 7) / 8)))) ∧ Below w.heap.size w w' := by
  have HC := hid (specBits_yes ao n cap xs w (by omega) hv hall)
  have hl : decide ((480000 : Int) < (n : Int)) = false := by simp; omega
  have HB := hid (pad_bit xs (by rw [hv.1]; exact hall))
  have HV := hid hv
  clear hv hall
  go_enter Tryz.func59, Tryz.ntmps59
  go_wp2_with (go_at_call 75; refine HC.out.mono ?_; rintro e w' ⟨rfl, rfl⟩)
  go_loopw [3, 4] (fun v i wr => ∃ J p : Nat, p < n + 8 ∧ i = .int .i64 p ∧ Hid (p = 8 * J) ∧ Own wr w.heap.size 5 .u8 v (packTo (pad xs) J) ∧ Below w.heap.size w wr) (fun _ i _ => n + 8 - (intOf i).toNat)
  case atStart => exact ⟨0, 0, by omega, rfl, rfl, Own.empty _ _ _ _ (Nat.le_refl _), (Below.refl _ _).alloc (Nat.le_refl _) _⟩
  case round =>
    obtain ⟨J, p, hp, rfl, hpJ, hown, hb⟩ := hrel
    by_cases hlt : p < n
    · have hlt' : (p : Int) < (n : Int) := by omega
      go_wp2
      go_loop [5, 6, 7] (fun x k _ => ∃ t q : Nat, t ≤ 8 ∧ x = .int .i64 (num (pad xs) p t) ∧ k = .int .i64 q ∧ Hid (q = p + t)) (fun _ k _ => p + 8 - (intOf k).toNat)
      case atStart => exact ⟨0, p, by omega, rfl, rfl, rfl⟩
      case round =>
        obtain ⟨t, q, ht, rfl, rfl, hq⟩ := hrel
        have x0 := (num_bd (pad xs) HB.out p t).1
        have x1 := num_le (pad xs) HB.out p t 8 ht
        have hq1 : q ≤ p + 8 := by have := hq.out; omega
        by_cases ht8 : t < 8
        · have hqlt : q < p + 8 := by have := hq.out; omega
          have hqlt' : (q : Int) < (p : Int) + 8 := by omega
          have hst : Hid (num (pad xs) p (t + 1) = 2 * num (pad xs) p t + pad xs q) := by
            show _ = _
            rw [num, hq.out]
          have hbit := HB.out q
          have hx0 : 0 ≤ pad xs q := by rcases hbit with h | h <;> omega
          have hx1 : pad xs q ≤ 1 := by rcases hbit with h | h <;> omega
          clear hbit
          by_cases hqn : q < n
          · obtain ⟨b, off, rfl, hc⟩ := HV.out.2 q hqn
            have hcr : wr.cell? ⟨b, off + q, none⟩ = some (.int .i64 (pad xs q)) := by
              rw [pad_in xs q (by rw [HV.out.1]; exact hqn)]
              exact (hb.cell (p := ⟨b, off + q, none⟩) (World.block_lt_of_cell? w _ hc)).trans hc
            have hqn' : (q : Int) < (n : Int) := by omega
            generalize pad xs q = Y at *
            generalize num (pad xs) p t = X at *
            clear hc
            go_wp2
            go_round
            case rel => exact ⟨t + 1, q + 1, by omega, val_int hst.out.symm, by go_num, by show _ = _; have := hq.out; omega⟩
            case measure => simp [intOf]; omega
          · have hqn' : ¬ (q : Int) < (n : Int) := by omega
            have hY := hid (pad_out xs q (by rw [HV.out.1]; exact hqn))
            rw [hY.out] at hst
            generalize num (pad xs) p t = X at *
            go_wp2
            go_round
            case rel => exact ⟨t + 1, q + 1, by omega, val_int hst.out.symm, by go_num, by show _ = _; have := hq.out; omega⟩
            case measure => simp [intOf]; omega
        · obtain rfl : t = 8 := by omega
          have hlen := packTo_length (pad xs) J
          have hJn : J ≤ n := by have := hpJ.out; omega
          have hq8 : ¬ (q : Int) < (p : Int) + 8 := by have := hq.out; omega
          have hst : Hid (packTo (pad xs) (J + 1) = packTo (pad xs) J ++ [num (pad xs) p 8]) := by
            show _ = _
            rw [packTo, hpJ.out]
          generalize num (pad xs) p 8 = X at *
          have x2 : X ≤ 255 := by omega
          go_wp2_with (at_builtin; refine wpList_push _ rfl _ _ 105 rfl _ 5 .u8 0 1 Tryz.underlying105 Tryz.info5 _ _ rfl hown X rfl (by omega) (by decide) ?_)
          intro v1 w1 hown1 hb1
          go_wp2
          go_roundw
          case rel => exact ⟨J + 1, p + 8, by omega, by go_num, by show _ = _; have := hpJ.out; omega, by rw [hst.out]; exact hown1, hb.trans hb1⟩
          case measure => simp [intOf]; omega
    · have hge : ¬ (p : Int) < (n : Int) := by omega
      have hJ : Hid (J = (n + 7) / 8) := by show _ = _; have := hpJ.out; omega
      have hc := Own.conv Tryz.underlying105 Tryz.underlying5 Tryz.underlying9 hown
      go_wp2
      go_ret
      exact ⟨ret_str (by rw [hJ.out]), hb⟩

set_option maxHeartbeats 800000 in
theorem spec_putBits_no (ao : Option Addr) (n cap : Nat) (xs : List Int) (w : World) (hn : n ≤ 1048576) (hv : View .i64 w ao n xs) (hbad : 480000 < n ∨ ¬ ∀ j, j < n → Bit (xs.getD j 0)) :
    Calls Tryz.prog 59 #[.slice ao n cap] w fun e w' => e = .returned (.string ⟨#[]⟩) ∧ Below w.heap.size w w' := by
  by_cases h : (480000 : Int) < (n : Int)
  · clear hbad
    go_enter Tryz.func59, Tryz.ntmps59
    go_wp2
    go_ret
    exact ⟨rfl, Below.refl _ _⟩
  · have HC := hid (specBits_no ao n cap xs w hn hv (by rcases hbad with h2 | h2; omega; exact h2))
    have hl : decide ((480000 : Int) < (n : Int)) = false := by simp; omega
    clear hbad hv
    go_enter Tryz.func59, Tryz.ntmps59
    go_wp2_with (go_at_call 75; refine HC.out.mono ?_; rintro e w' ⟨rfl, rfl⟩)
    go_ret
    exact ⟨rfl, Below.refl _ _⟩

/-- Both PutBits come to one text. -/
theorem both_putBits (n : Nat) (xs : List Int) (hn : n ≤ 1048576) : ∃ s : ByteArray,
    (∀ ao cap w, View .i64 w ao n xs → Calls Tryz.prog 59 #[.slice ao n cap] w fun e w' => e = .returned (.string s) ∧ Below w.heap.size w w') ∧
    (∀ ao cap w, View .i64 w ao n xs → Calls Tryz.prog 81 #[.slice ao n cap] w fun e w' => e = .returned (.string s) ∧ Below w.heap.size w w') := by
  by_cases h : 480000 < n ∨ ¬ ∀ j, j < n → Bit (xs.getD j 0)
  · exact ⟨⟨#[]⟩, fun ao cap w hv => spec_putBits_no ao n cap xs w hn hv h, fun ao cap w hv => impl_putBits_no ao n cap xs w hn hv h⟩
  · have h1 : ¬ 480000 < n := fun h2 => h (.inl h2)
    have h3 : ∀ j, j < n → Bit (xs.getD j 0) := Classical.byContradiction (fun h2 => h (.inr h2))
    exact ⟨_, fun ao cap w hv => spec_putBits ao n cap xs w (by omega) hv h3, fun ao cap w hv => impl_putBits ao n cap xs w (by omega) hv h3⟩

end Go.Proofs.YtnnakmgngkpghaaGreat

/- Plain facts on texts as numbers: no program is named here. -/
namespace Go.Proofs.YtnnakmgngkpghaaGreat
open Go.RowKit
set_option linter.unusedVariables false

/-- The first k bytes, a byte 0 behind each byte 255. -/
def stuffTo (b : Nat → Int) : Nat → List Int
  | 0 => []
  | k + 1 => stuffTo b k ++ (if b k = 255 then [b k, 0] else [b k])

theorem stuffTo_length (b : Nat → Int) : ∀ k, k ≤ (stuffTo b k).length ∧ (stuffTo b k).length ≤ 2 * k
  | 0 => by simp [stuffTo]
  | k + 1 => by
    have := stuffTo_length b k
    simp only [stuffTo, List.length_append]
    split <;> simp <;> omega

/-- What the bytes from place i on, behind what has been taken, are the stuffing of. -/
def unst (b : Nat → Int) (n : Nat) : Nat → Nat → List Int → Option (List Int)
  | 0, _, xs => some xs
  | f + 1, i, xs => if n ≤ i then some xs else if b i = 255 then (if n ≤ i + 1 ∨ b (i + 1) ≠ 0 then none else unst b n f (i + 2) (xs ++ [b i])) else unst b n f (i + 1) (xs ++ [b i])

theorem unst_end (b : Nat → Int) (n f i : Nat) (xs : List Int) (h : n ≤ i) : unst b n f i xs = some xs := by
  cases f <;> simp [unst, h]

theorem unst_plain (b : Nat → Int) (n f i : Nat) (xs : List Int) (h : i < n) (hf : n - i ≤ f) (hb : b i ≠ 255) : ∃ g, n - (i + 1) ≤ g ∧ unst b n f i xs = unst b n g (i + 1) (xs ++ [b i]) := by
  obtain ⟨g, rfl⟩ : ∃ g, f = g + 1 := ⟨f - 1, by omega⟩
  exact ⟨g, by omega, by rw [unst, if_neg (by omega), if_neg hb]⟩

theorem unst_mark (b : Nat → Int) (n f i : Nat) (xs : List Int) (h : i + 1 < n) (hf : n - i ≤ f) (hb : b i = 255) (hb2 : b (i + 1) = 0) : ∃ g, n - (i + 2) ≤ g ∧ unst b n f i xs = unst b n g (i + 2) (xs ++ [b i]) := by
  obtain ⟨g, rfl⟩ : ∃ g, f = g + 1 := ⟨f - 1, by omega⟩
  exact ⟨g, by omega, by rw [unst, if_neg (by omega), if_pos hb, if_neg (by simp [hb2]; omega)]⟩

theorem unst_bad (b : Nat → Int) (n f i : Nat) (xs : List Int) (h : i < n) (hf : n - i ≤ f) (hb : b i = 255) (hb2 : n ≤ i + 1 ∨ b (i + 1) ≠ 0) : unst b n f i xs = none := by
  obtain ⟨g, rfl⟩ : ∃ g, f = g + 1 := ⟨f - 1, by omega⟩
  rw [unst, if_neg (by omega), if_pos hb, if_pos hb2]

/-- What is unstuffed has at least half as many bytes. -/
theorem unst_long (b : Nat → Int) (n : Nat) : ∀ f i xs ys, n - i ≤ f → unst b n f i xs = some ys → 2 * xs.length + (n - i) ≤ 2 * ys.length
  | 0, i, xs, ys, hf, h => by
    simp [unst] at h
    subst h
    omega
  | f + 1, i, xs, ys, hf, h => by
    rw [unst] at h
    split at h
    · cases h
      omega
    · split at h
      · split at h
        · cases h
        · have := unst_long b n f (i + 2) _ ys (by omega) h
          simp at this
          omega
      · have := unst_long b n f (i + 1) _ ys (by omega) h
        simp at this
        omega
end Go.Proofs.YtnnakmgngkpghaaGreat

/- The contracts of Stuff, of the program and of the specification. -/
namespace Go.Proofs.YtnnakmgngkpghaaGreat
open Go.RowKit
set_option linter.unusedVariables false

set_option maxHeartbeats 800000 in
theorem spec_stuff (s : ByteArray) (w : World) (hs : s.size ≤ 60000) :
    Calls Tryz.prog 58 #[.string s] w fun e w' => e = .returned (.string (strOfNums (stuffTo (bt s) s.size))) ∧ Below w.heap.size w w' := by
  have hl : decide ((60000 : Int) < (s.size : Int)) = false := by simp; omega
  go_enter Tryz.func58, Tryz.ntmps58
  go_wp2
  go_loopw [3, 4] (fun v i wr => ∃ k : Nat, k ≤ s.size ∧ i = .int .i64 k ∧ Own wr w.heap.size 5 .u8 v (stuffTo (bt s) k) ∧ Below w.heap.size w wr) (fun _ i _ => s.size - (intOf i).toNat)
  case atStart =>
    exact ⟨0, by omega, rfl, Own.empty _ _ _ _ (Nat.le_refl _), (Below.refl _ _).alloc (Nat.le_refl _) _⟩
  case round =>
    obtain ⟨k, hk, rfl, hown, hb⟩ := hrel
    by_cases hlt : k < s.size
    · have hlen := stuffTo_length (bt s) k
      have he := bt_eq s k hlt
      by_cases h255 : (s[k].toNat : Int) = 255
      · have hq : ((s[k].toNat : Int) == 255) = true := by simpa using h255
        have hst : Hid (stuffTo (bt s) (k + 1) = stuffTo (bt s) k ++ [(s[k].toNat : Int), 0]) := by
          show _ = _
          simp only [stuffTo]; rw [he, if_pos h255]
        clear he h255
        go_wp2_with (at_builtin; refine wpList_push _ rfl _ _ 105 rfl _ 5 .u8 0 1 Tryz.underlying105 Tryz.info5 _ _ rfl hown (s[k].toNat : Int) rfl (by omega) (by decide) ?_)
        intro v1 w1 hown1 hb1
        have hlen1 : (stuffTo (bt s) k ++ [(s[k].toNat : Int)]).length < 1000000000000 := by simp; omega
        go_wp2_with (at_builtin; refine wpList_push _ rfl _ _ 105 rfl _ 5 .u8 0 1 Tryz.underlying105 Tryz.info5 _ _ rfl hown1 0 rfl hlen1 (by decide) ?_)
        intro v2 w2 hown2 hb2
        go_wp2
        go_roundw
        case rel => exact ⟨k + 1, by omega, by go_num, by rw [hst.out]; exact hown2, (hb.trans hb1).trans hb2⟩
        case measure => simp [intOf]; omega
      · have hq : ((s[k].toNat : Int) == 255) = false := by simpa using h255
        have hst : Hid (stuffTo (bt s) (k + 1) = stuffTo (bt s) k ++ [(s[k].toNat : Int)]) := by
          show _ = _
          simp only [stuffTo]; rw [he, if_neg h255]
        clear he h255
        go_wp2_with (at_builtin; refine wpList_push _ rfl _ _ 105 rfl _ 5 .u8 0 1 Tryz.underlying105 Tryz.info5 _ _ rfl hown (s[k].toNat : Int) rfl (by omega) (by decide) ?_)
        intro v1 w1 hown1 hb1
        go_wp2
        go_roundw
        case rel => exact ⟨k + 1, by omega, by go_num, by rw [hst.out]; exact hown1, hb.trans hb1⟩
        case measure => simp [intOf]; omega
    · obtain rfl : k = s.size := by omega
      have hc := Own.conv Tryz.underlying105 Tryz.underlying5 Tryz.underlying9 hown
      go_wp2
      go_ret
      exact ⟨rfl, hb⟩

set_option maxHeartbeats 800000 in
theorem impl_stuff (s : ByteArray) (w : World) (hs : s.size ≤ 60000) :
    Calls Tryz.prog 80 #[.string s] w fun e w' => e = .returned (.string (strOfNums (stuffTo (bt s) s.size))) ∧ Below w.heap.size w w' := by
  have hl : decide ((60000 : Int) < (s.size : Int)) = false := by simp; omega
  go_enter Tryz.func80, Tryz.ntmps80
  go_wp2_with (at_make; refine wpList_mk0 w rfl _ _ 105 rfl w.heap.size 5 .u8 0 1 Tryz.underlying105 Tryz.info5 _ _ s.size rfl rfl (by omega) (by decide) (Nat.le_refl _) ?_)
  intro w0 hown0 hb0
  go_wp2
  go_loopw [3, 13] (fun v i wr => ∃ k : Nat, k ≤ s.size ∧ i = .int .i64 k ∧ Own wr w.heap.size 5 .u8 v (stuffTo (bt s) k) ∧ Below w.heap.size w wr) (fun _ i _ => s.size - (intOf i).toNat)
  case atStart =>
    exact ⟨0, by omega, rfl, hown0, hb0⟩
  case round =>
    obtain ⟨k, hk, rfl, hown, hb⟩ := hrel
    clear hown0 hb0
    by_cases hlt : k < s.size
    · have hlen := stuffTo_length (bt s) k
      have he := bt_eq s k hlt
      by_cases h255 : (s[k].toNat : Int) = 255
      · have hq : ((s[k].toNat : Int) == 255) = true := by simpa using h255
        have hst : Hid (stuffTo (bt s) (k + 1) = stuffTo (bt s) k ++ [(s[k].toNat : Int), 0]) := by
          show _ = _
          simp only [stuffTo]; rw [he, if_pos h255]
        clear he h255
        go_wp2_with (at_builtin; refine wpList_push _ rfl _ _ 105 rfl _ 5 .u8 0 1 Tryz.underlying105 Tryz.info5 _ _ rfl hown (s[k].toNat : Int) rfl (by omega) (by decide) ?_)
        intro v1 w1 hown1 hb1
        have hlen1 : (stuffTo (bt s) k ++ [(s[k].toNat : Int)]).length < 1000000000000 := by simp; omega
        go_wp2_with (at_builtin; refine wpList_push _ rfl _ _ 105 rfl _ 5 .u8 0 1 Tryz.underlying105 Tryz.info5 _ _ rfl hown1 0 rfl hlen1 (by decide) ?_)
        intro v2 w2 hown2 hb2
        go_wp2
        go_roundw
        case rel => exact ⟨k + 1, by omega, by go_num, by rw [hst.out]; exact hown2, (hb.trans hb1).trans hb2⟩
        case measure => simp [intOf]; omega
      · have hq : ((s[k].toNat : Int) == 255) = false := by simpa using h255
        have hst : Hid (stuffTo (bt s) (k + 1) = stuffTo (bt s) k ++ [(s[k].toNat : Int)]) := by
          show _ = _
          simp only [stuffTo]; rw [he, if_neg h255]
        clear he h255
        go_wp2_with (at_builtin; refine wpList_push _ rfl _ _ 105 rfl _ 5 .u8 0 1 Tryz.underlying105 Tryz.info5 _ _ rfl hown (s[k].toNat : Int) rfl (by omega) (by decide) ?_)
        intro v1 w1 hown1 hb1
        go_wp2
        go_roundw
        case rel => exact ⟨k + 1, by omega, by go_num, by rw [hst.out]; exact hown1, hb.trans hb1⟩
        case measure => simp [intOf]; omega
    · obtain rfl : k = s.size := by omega
      have hc := Own.conv Tryz.underlying105 Tryz.underlying5 Tryz.underlying9 hown
      go_wp2
      go_ret
      exact ⟨rfl, hb⟩

theorem spec_stuff_no (s : ByteArray) (w : World) (h : 60000 < s.size) (hs : s.size ≤ 1048576) :
    Calls Tryz.prog 58 #[.string s] w fun e w' => e = .returned (.string ⟨#[]⟩) ∧ Below w.heap.size w w' := by
  have hl : (60000 : Int) < (s.size : Int) := by omega
  go_enter Tryz.func58, Tryz.ntmps58
  go_wp2
  go_ret
  exact ⟨rfl, (Below.refl _ _).alloc (Nat.le_refl _) _⟩

theorem impl_stuff_no (s : ByteArray) (w : World) (h : 60000 < s.size) (hs : s.size ≤ 1048576) :
    Calls Tryz.prog 80 #[.string s] w fun e w' => e = .returned (.string ⟨#[]⟩) ∧ Below w.heap.size w w' := by
  have hl : (60000 : Int) < (s.size : Int) := by omega
  go_enter Tryz.func80, Tryz.ntmps80
  go_wp2
  go_ret
  exact ⟨rfl, Below.refl _ _⟩

end Go.Proofs.YtnnakmgngkpghaaGreat

/- ScanText of both sides, and the walk of the law FnExactScanText. -/
namespace Go.Proofs.YtnnakmgngkpghaaGreat
open Go.RowKit Go.Maps
set_option linter.unusedVariables false

theorem both_put (xs : List Int) (hn : xs.length ≤ 480000) : ∃ s : ByteArray, s.size ≤ 60000 ∧
    (∀ ao cap w, View .i64 w ao xs.length xs → Calls Tryz.prog 59 #[.slice ao xs.length cap] w fun e w' => e = .returned (.string s) ∧ Below w.heap.size w w') ∧
    (∀ ao cap w, View .i64 w ao xs.length xs → Calls Tryz.prog 81 #[.slice ao xs.length cap] w fun e w' => e = .returned (.string s) ∧ Below w.heap.size w w') := by
  by_cases h : ∀ j, j < xs.length → Bit (xs.getD j 0)
  · refine ⟨strOfNums (packTo (pad xs) ((xs.length + 7) / 8)), ?_, fun ao cap w hv => spec_putBits ao _ cap xs w hn hv h, fun ao cap w hv => impl_putBits ao _ cap xs w hn hv h⟩
    rw [strOfNums_size, packTo_length]
    omega
  · exact ⟨⟨#[]⟩, by decide, fun ao cap w hv => spec_putBits_no ao _ cap xs w (by omega) hv (.inr h), fun ao cap w hv => impl_putBits_no ao _ cap xs w (by omega) hv (.inr h)⟩

set_option maxHeartbeats 800000 in
theorem text_i (v : Value) (T : Tb) (ao : Option Addr) (cap : Nat) (L : List (Int × List Int)) (w : World) (h0 : T.cs.length ≤ 1048576) (h1 : T.ss.length ≤ 1048576) (h2 : T.ct.length ≤ 1048576) (h3 : T.st.length ≤ 1048576)
    (hn : L.length ≤ 1048576) (hs : ∀ j, j < L.length → (nth L j).2.length ≤ 1048576) (ht : TV w v T.cs T.ss T.ct T.st) (hv : BRow w ao L) (r : List Int) (s u : ByteArray) (hR : scanR T L = some r)
    (hp : ∀ ao cap w, View .i64 w ao r.length r → Calls Tryz.prog 81 #[.slice ao r.length cap] w fun e w' => e = .returned (.string s) ∧ Below w.heap.size w w') (hu : ∀ w, Calls Tryz.prog 80 #[.string s] w fun e w' => e = .returned (.string u) ∧ Below w.heap.size w w') :
    Calls Tryz.prog 64 #[v, .slice ao L.length cap] w fun e w' => e = .returned (.tuple #[.string u, .bool true]) ∧ Below w.heap.size w w' := by
  have HTV := hid ht
  obtain ⟨a0, c0, a1, c1, a2, c2, a3, c3, rfl, _, _⟩ := ht
  have HB := hid ((Below.refl w.heap.size w).alloc (Nat.le_refl _) (.cells #[.slice a0 T.cs.length c0, .slice a1 T.ss.length c1, .slice a2 T.ct.length c2, .slice a3 T.st.length c3] 33))
  have HI := hid (impl_scanBits _ T ao cap L _ h0 h1 h2 h3 hn hs (HTV.out.below HB.out) (hv.below HB.out))
  rw [hR] at HI
  have HP := hid hp
  have HU := hid hu
  clear hv hs hp hu hR
  go_enter Tryz.func64, Tryz.ntmps64
  go_wp2_with fail
  refine HI.out.mono ?_
  generalize w.alloc (.cells #[.slice a0 T.cs.length c0, .slice a1 T.ss.length c1, .slice a2 T.ct.length c2, .slice a3 T.st.length c3] 33) = wa at *
  rintro e w1 ⟨v1, rfl, ho1, hb1⟩
  have B1 := hid (HB.out.trans (hb1.mono HB.out.size))
  obtain ⟨xo, xc, rfl, hvw⟩ := (show Own w1 wa.heap.size 3 .i64 v1 r from ho1).view
  have HVW := hid hvw
  clear ho1 hb1 HI hvw
  simp only [Option.isSome_some]
  go_wp2_with fail
  refine (HP.out _ _ _ HVW.out).mono ?_
  rintro e w2 ⟨rfl, hb2⟩
  have B2 := hid (B1.out.trans (hb2.mono B1.out.size))
  clear hb2
  go_wp2_with fail
  refine (HU.out _).mono ?_
  rintro e w3 ⟨rfl, hb3⟩
  have B3 := hid (B2.out.trans (hb3.mono B2.out.size))
  clear hb3
  go_wp2_with fail
  go_ret2
  exact ⟨rfl, B3.out⟩
theorem text_i_no (v : Value) (T : Tb) (ao : Option Addr) (cap : Nat) (L : List (Int × List Int)) (w : World) (h0 : T.cs.length ≤ 1048576) (h1 : T.ss.length ≤ 1048576) (h2 : T.ct.length ≤ 1048576) (h3 : T.st.length ≤ 1048576)
    (hn : L.length ≤ 1048576) (hs : ∀ j, j < L.length → (nth L j).2.length ≤ 1048576) (ht : TV w v T.cs T.ss T.ct T.st) (hv : BRow w ao L) (hR : scanR T L = none) :
    Calls Tryz.prog 64 #[v, .slice ao L.length cap] w fun e w' => e = .returned (.tuple #[.string ⟨#[]⟩, .bool false]) ∧ Below w.heap.size w w' := by
  have HTV := hid ht
  obtain ⟨a0, c0, a1, c1, a2, c2, a3, c3, rfl, _, _⟩ := ht
  have HB := hid ((Below.refl w.heap.size w).alloc (Nat.le_refl _) (.cells #[.slice a0 T.cs.length c0, .slice a1 T.ss.length c1, .slice a2 T.ct.length c2, .slice a3 T.st.length c3] 33))
  have HI := hid (impl_scanBits _ T ao cap L _ h0 h1 h2 h3 hn hs (HTV.out.below HB.out) (hv.below HB.out))
  rw [hR] at HI
  clear hv hs hR
  go_enter Tryz.func64, Tryz.ntmps64
  go_wp2_with fail
  refine HI.out.mono ?_
  generalize w.alloc (.cells #[.slice a0 T.cs.length c0, .slice a1 T.ss.length c1, .slice a2 T.ct.length c2, .slice a3 T.st.length c3] 33) = wa at *
  rintro e w1 ⟨v1, rfl, ho1, hb1⟩
  have B1 := hid (HB.out.trans (hb1.mono HB.out.size))
  obtain ⟨xo, xc, rfl⟩ := ho1.shape
  clear ho1 hb1 HI
  simp only [Option.isSome_none]
  go_wp2_with fail
  go_ret2
  exact ⟨rfl, B1.out⟩
set_option maxHeartbeats 800000 in
theorem text_s (v : Value) (T : Tb) (ao : Option Addr) (cap : Nat) (L : List (Int × List Int)) (w : World) (h0 : T.cs.length ≤ 1048576) (h1 : T.ss.length ≤ 1048576) (h2 : T.ct.length ≤ 1048576) (h3 : T.st.length ≤ 1048576)
    (hn : L.length ≤ 1048576) (hs : ∀ j, j < L.length → (nth L j).2.length ≤ 1048576) (ht : TV w v T.cs T.ss T.ct T.st) (hv : BRow w ao L) (r : List Int) (s u : ByteArray) (hR : scanR T L = some r) (hr : r.length ≤ 480000)
    (hp : ∀ ao cap w, View .i64 w ao r.length r → Calls Tryz.prog 59 #[.slice ao r.length cap] w fun e w' => e = .returned (.string s) ∧ Below w.heap.size w w') (hu : ∀ w, Calls Tryz.prog 58 #[.string s] w fun e w' => e = .returned (.string u) ∧ Below w.heap.size w w') :
    Calls Tryz.prog 42 #[v, .slice ao L.length cap] w fun e w' => e = .returned (.tuple #[.string u, .bool true]) ∧ Below w.heap.size w w' := by
  have HTV := hid ht
  obtain ⟨a0, c0, a1, c1, a2, c2, a3, c3, rfl, _, _⟩ := ht
  have HB := hid ((Below.refl w.heap.size w).alloc (Nat.le_refl _) (.cells #[.slice a0 T.cs.length c0, .slice a1 T.ss.length c1, .slice a2 T.ct.length c2, .slice a3 T.st.length c3] 33))
  have HI := hid (spec_scanBits _ T ao cap L _ h0 h1 h2 h3 hn hs (HTV.out.below HB.out) (hv.below HB.out))
  rw [hR] at HI
  have HP := hid hp
  have HU := hid hu
  clear hv hs hp hu hR
  go_enter Tryz.func42, Tryz.ntmps42
  go_wp2_with fail
  refine HI.out.mono ?_
  generalize w.alloc (.cells #[.slice a0 T.cs.length c0, .slice a1 T.ss.length c1, .slice a2 T.ct.length c2, .slice a3 T.st.length c3] 33) = wa at *
  rintro e w1 ⟨v1, rfl, ho1, hb1⟩
  have B1 := hid (HB.out.trans (hb1.mono HB.out.size))
  obtain ⟨xo, xc, rfl, hvw⟩ := (show Own w1 wa.heap.size 3 .i64 v1 r from ho1).view
  have HVW := hid hvw
  have hlim : ¬ (60000 : Int) < ((r.length : Int) + 7) / 8 := by omega
  clear ho1 hb1 HI hvw
  simp only [Option.isSome_some]
  go_wp2_with fail
  refine (HP.out _ _ _ HVW.out).mono ?_
  rintro e w2 ⟨rfl, hb2⟩
  have B2 := hid (B1.out.trans (hb2.mono B1.out.size))
  clear hb2
  go_wp2_with fail
  refine (HU.out _).mono ?_
  rintro e w3 ⟨rfl, hb3⟩
  have B3 := hid (B2.out.trans (hb3.mono B2.out.size))
  clear hb3
  go_wp2_with fail
  go_ret2
  exact ⟨rfl, B3.out⟩
theorem text_s_no (v : Value) (T : Tb) (ao : Option Addr) (cap : Nat) (L : List (Int × List Int)) (w : World) (h0 : T.cs.length ≤ 1048576) (h1 : T.ss.length ≤ 1048576) (h2 : T.ct.length ≤ 1048576) (h3 : T.st.length ≤ 1048576)
    (hn : L.length ≤ 1048576) (hs : ∀ j, j < L.length → (nth L j).2.length ≤ 1048576) (ht : TV w v T.cs T.ss T.ct T.st) (hv : BRow w ao L) (hR : scanR T L = none) :
    Calls Tryz.prog 42 #[v, .slice ao L.length cap] w fun e w' => e = .returned (.tuple #[.string ⟨#[]⟩, .bool false]) ∧ Below w.heap.size w w' := by
  have HTV := hid ht
  obtain ⟨a0, c0, a1, c1, a2, c2, a3, c3, rfl, _, _⟩ := ht
  have HB := hid ((Below.refl w.heap.size w).alloc (Nat.le_refl _) (.cells #[.slice a0 T.cs.length c0, .slice a1 T.ss.length c1, .slice a2 T.ct.length c2, .slice a3 T.st.length c3] 33))
  have HI := hid (spec_scanBits _ T ao cap L _ h0 h1 h2 h3 hn hs (HTV.out.below HB.out) (hv.below HB.out))
  rw [hR] at HI
  clear hv hs hR
  go_enter Tryz.func42, Tryz.ntmps42
  go_wp2_with fail
  refine HI.out.mono ?_
  generalize w.alloc (.cells #[.slice a0 T.cs.length c0, .slice a1 T.ss.length c1, .slice a2 T.ct.length c2, .slice a3 T.st.length c3] 33) = wa at *
  rintro e w1 ⟨v1, rfl, ho1, hb1⟩
  have B1 := hid (HB.out.trans (hb1.mono HB.out.size))
  obtain ⟨xo, xc, rfl⟩ := ho1.shape
  clear ho1 hb1 HI
  simp only [Option.isSome_none]
  go_wp2_with fail
  go_ret2
  exact ⟨rfl, B1.out⟩

/-- Both ScanText come to one text. -/
theorem both_scanText (T : Tb) (L : List (Int × List Int)) (h0 : T.cs.length ≤ 1048576) (h1 : T.ss.length ≤ 1048576) (h2 : T.ct.length ≤ 1048576) (h3 : T.st.length ≤ 1048576) (hn : L.length ≤ 1048576) (hs : ∀ j, j < L.length → (nth L j).2.length ≤ 1048576) : ∃ (u : ByteArray) (b : Bool),
    (∀ v ao cap w, TV w v T.cs T.ss T.ct T.st → BRow w ao L → Calls Tryz.prog 42 #[v, .slice ao L.length cap] w fun e w' => e = .returned (.tuple #[.string u, .bool b]) ∧ Below w.heap.size w w') ∧
    (∀ v ao cap w, TV w v T.cs T.ss T.ct T.st → BRow w ao L → Calls Tryz.prog 64 #[v, .slice ao L.length cap] w fun e w' => e = .returned (.tuple #[.string u, .bool b]) ∧ Below w.heap.size w w') := by
  have hlen := scanR_len T L
  cases hR : scanR T L with
  | none => exact ⟨⟨#[]⟩, false, fun v ao cap w ht hv => text_s_no v T ao cap L w h0 h1 h2 h3 hn hs ht hv hR, fun v ao cap w ht hv => text_i_no v T ao cap L w h0 h1 h2 h3 hn hs ht hv hR⟩
  | some r =>
    rw [hR] at hlen
    have hr : r.length ≤ 480000 := hlen
    obtain ⟨s, hsz, hp1, hp2⟩ := both_put r hr
    exact ⟨_, true, fun v ao cap w ht hv => text_s v T ao cap L w h0 h1 h2 h3 hn hs ht hv r s _ hR hr hp1 (fun w => spec_stuff s w hsz), fun v ao cap w ht hv => text_i v T ao cap L w h0 h1 h2 h3 hn hs ht hv r s _ hR hp2 (fun w => impl_stuff s w hsz)⟩

end Go.Proofs.YtnnakmgngkpghaaGreat
