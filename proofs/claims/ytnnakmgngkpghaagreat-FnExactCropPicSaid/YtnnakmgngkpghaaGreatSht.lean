/- sheetOf; a row of blocks that is thinned. -/
import Derived.Test.YtnnakmgngkpghaaGreatE8
import Derived.Test.YtnnakmgngkpghaaGreatTnb
import Derived.Test.YtnnakmgngkpghaaGreatGe
namespace Go.Proofs.YtnnakmgngkpghaaGreat
open Go.RowKit Go.Maps
set_option linter.unusedVariables false

/-- No row is longer than its room. -/
def Cap (L : List (Int × List Int)) (vs : List Value) : Prop := ∀ j, j < L.length → ∀ a n c, vs.getD j (.bool false) = .slice a n c → n ≤ c
theorem BLv.at {w : World} {ao : Option Addr} {n cap : Nat} {L : List (Int × List Int)} {vs : List Value} (h : BLv w (.slice ao n cap) L vs) (j : Nat) (hj : j < L.length) :
    n = L.length ∧ ∃ b off, ao = some ⟨b, off, none⟩ ∧ w.cell? ⟨b, off + j * 2, none⟩ = some (.int .i64 (nth L j).1) ∧ w.cell? ⟨b, off + j * 2 + 1, none⟩ = some (vs.getD j (.bool false)) ∧ Vp w (vs.getD j (.bool false)) (nth L j).2 := by
  obtain ⟨hl, hv, h0 | ⟨b, off, c, e, hc⟩⟩ := h
  · rw [h0.2] at hj
    exact absurd hj (by simp)
  · injection e with e1 e2 e3
    subst e1 e2
    have f := flN_at L vs L.length j hj
    exact ⟨rfl, b, off, rfl, hc _ _ f.1, by rw [Nat.add_assoc]; exact hc _ _ f.2, hv j hj⟩
theorem list_pair {n : Nat} (i : Nat) (h : i < n * 2) : ∃ j, j < n ∧ (i = j * 2 ∨ i = j * 2 + 1) := ⟨i / 2, by omega, by omega⟩
theorem Own.cap_le {w : World} {base : Nat} {v : Value} {xs : List Int} (h : Own w base 3 .i64 v xs) (a : Option Addr) (n c : Nat) (e : v = .slice a n c) : n ≤ c := by
  rcases h.2.2 with ⟨hv, h0⟩ | ⟨g, cap, cur, hv, hg, hh, hle, _⟩
  · rw [hv] at e
    injection e with e1 e2 e3
    omega
  · rw [hv] at e
    injection e with e1 e2 e3
    omega
theorem BSTo.blv {w : World} {g : Nat} {L : List (Int × List Int)} (h : BSTo w g L L.length L.length) : ∃ vs, BLv w (.slice (some ⟨g, 0, none⟩) L.length L.length) L vs ∧ Cap L vs ∧ ∀ j, j < L.length → Own w (g + 1) 3 .i64 (vs.getD j (.bool false)) (nth L j).2 := by
  obtain ⟨arr, h1, h2, h3⟩ := h
  obtain ⟨vs, hvs⟩ : ∃ vs : List Value, vs = (List.range L.length).map (fun j => arr.getD (j * 2 + 1) (.bool false)) := ⟨_, rfl⟩
  have hl : vs.length = L.length := by rw [hvs]; simp
  have hg : ∀ j, j < L.length → vs.getD j (.bool false) = arr.getD (j * 2 + 1) (.bool false) := fun j hj => by
    rw [hvs]
    simp [List.getD, hj]
  have ho : ∀ j, j < L.length → arr[j * 2 + 1]? = some (vs.getD j (.bool false)) ∧ Own w (g + 1) 3 .i64 (vs.getD j (.bool false)) (nth L j).2 := fun j hj => by
    obtain ⟨_, y, e2, e3⟩ := h3 j hj
    have : vs.getD j (.bool false) = y := by rw [hg j hj]; simp [Array.getD_eq_getD_getElem?, e2]
    rw [this]
    exact ⟨e2, e3⟩
  refine ⟨vs, ⟨hl, fun j hj => (ho j hj).2.vp, .inr ⟨g, 0, L.length, rfl, fun i u hu => ?_⟩⟩, fun j hj a n c e => (ho j hj).2.cap_le a n c e, fun j hj => (ho j hj).2⟩
  have hi : i < L.length * 2 := by rw [← flN_len L vs L.length]; exact (List.getElem?_eq_some_iff.1 hu).1
  obtain ⟨j, hj, rfl | rfl⟩ := list_pair i hi
  · rw [(flN_at L vs L.length j hj).1] at hu
    rw [Nat.zero_add, h1.cell, (h3 j hj).1, hu]
  · rw [(flN_at L vs L.length j hj).2] at hu
    rw [Nat.zero_add, h1.cell, (ho j hj).1, hu]

theorem sheetOf_any (W H : Int) (x0 x1 x2 x3 : Value) (N : ByteArray) (ao : Option Addr) (n cap : Nat) (w : World) (s0 : ∃ a m c, x0 = .slice a m c) (s1 : ∃ a m c, x1 = .slice a m c) (s2 : ∃ a m c, x2 = .slice a m c) (s3 : ∃ a m c, x3 = .slice a m c) :
    Calls Tryz.prog 27 #[.agg #[.int .i64 W, .int .i64 H, x0, x1, x2, x3, .string N, .slice ao n cap]] w fun e w' => e = .returned (.agg #[.int .i64 W, .int .i64 H, .slice ao n cap]) ∧ Below w.heap.size w w' := by
  obtain ⟨a0, m0, c0, rfl⟩ := s0
  obtain ⟨a1, m1, c1, rfl⟩ := s1
  obtain ⟨a2, m2, c2, rfl⟩ := s2
  obtain ⟨a3, m3, c3, rfl⟩ := s3
  go_enter Tryz.func27, Tryz.ntmps27
  go_wp2_with fail
  exact bodyPost_ret (v := .agg #[.int .i64 W, .int .i64 H, .slice ao n cap]) (by simp [results, Tryz.results27, go_sem]) rfl ⟨rfl, ((Below.refl w.heap.size w).alloc (Nat.le_refl _) _).alloc (by simp) _⟩

/-- The row of blocks that is thinned. -/
def thL (k : Nat) (L : List (Int × List Int)) : List (Int × List Int) := L.map fun b => (b.1, thR k b.2)
theorem thL_len (k : Nat) (L : List (Int × List Int)) : (thL k L).length = L.length := by simp [thL]
theorem thL_nth (k : Nat) (L : List (Int × List Int)) (j : Nat) (h : j < L.length) : nth (thL k L) j = ((nth L j).1, thR k (nth L j).2) := by simp [thL, nth, List.getD, h]

set_option maxRecDepth 100000 in
set_option maxHeartbeats 1600000 in
theorem thin1_any (d : Int) (b off c k : Nat) (pa : Addr) (xs : List Int) (w : World) (hx : xs.length = 63) (hk : k ≤ 63) (hc : 63 ≤ c) (hv : View .i64 w (some ⟨b, off, none⟩) 63 xs) (hp : w.cell? pa = some (.int .i64 k)) :
    Calls Tryz.prog 37 #[.agg #[.int .i64 d, .slice (some ⟨b, off, none⟩) 63 c], .pointer (some pa)] w fun e w' => ∃ g, e = .returned (.agg #[.int .i64 d, .slice (some ⟨g, 0, none⟩) 63 63]) ∧ Own w' w.heap.size 3 .i64 (.slice (some ⟨g, 0, none⟩) 63 63) (thR k xs) ∧ Below w.heap.size w w' := by
  have hA1 := (Below.refl w.heap.size w).alloc (Nat.le_refl _) (.cells #[.int .i64 d, .slice (some ⟨b, off, none⟩) 63 c] 65)
  have hA := hA1.alloc (by simp) (.cells #[.int .i64 0, .slice none 0 0] 65)
  have hs1 : (w.alloc (.cells #[.int .i64 d, .slice (some ⟨b, off, none⟩) 63 c] 65)).heap.size = w.heap.size + 1 := by simp
  have t2 := Two.new (w.alloc (.cells #[.int .i64 d, .slice (some ⟨b, off, none⟩) 63 c] 65)) (.int .i64 0) (.slice none 0 0) 65
  rw [hs1] at t2
  have t1 := (Two.new w (.int .i64 d) (.slice (some ⟨b, off, none⟩) 63 c) 65).alloc (.cells #[.int .i64 0, .slice none 0 0] 65)
  have hpl : pa.block < w.heap.size := World.block_lt_of_cell? w _ hp
  have HTH := hid (thin_any d b off c k xs _ hx hk hc (hv.below (Nat.le_refl _) hA))
  have HT := hid t2
  have HA := hid hA
  have hp2 := (hA.cell (p := pa) hpl).trans hp
  obtain ⟨p0, p1, p2, p3⟩ := t1.cells
  clear t2 t1 hA hA1 hv hp
  go_enter Tryz.func37, Tryz.ntmps37
  go_wp2_with (first | (go_at_call 38; fail) | fail)
  refine HTH.out.mono ?_
  generalize (w.alloc _).alloc _ = wa at *
  rintro e w1 ⟨g, rfl, ho, hb1⟩
  have T1 := HT.out.below hb1 HT.out.lt
  obtain ⟨q0, q1, q2, q3⟩ := T1.cells
  have hlt : w.heap.size + 1 < wa.heap.size := HT.out.lt
  have HZ := hid ((T1.set0 (.int .i64 d)).set1 (.slice (some ⟨g, 0, none⟩) 63 63)).cells
  have HO := hid (((ho.setCell_below (a := ⟨w.heap.size + 1, 0, none⟩) hlt (.int .i64 d)).setCell_below (a := ⟨w.heap.size + 1, 1, none⟩) hlt (.slice (some ⟨g, 0, none⟩) 63 63)).mono (show w.heap.size ≤ wa.heap.size by omega))
  have HB := hid (((HA.out.trans (hb1.mono HA.out.size)).setCell (p := ⟨w.heap.size + 1, 0, none⟩) (Nat.le_succ _) (.int .i64 d)).setCell (p := ⟨w.heap.size + 1, 1, none⟩) (Nat.le_succ _) (.slice (some ⟨g, 0, none⟩) 63 63))
  clear T1 ho hb1 HT HA HTH
  go_wp2_with fail
  obtain ⟨z0, z1, _, _⟩ := HZ.out
  exact bodyPost_ret (v := .agg #[.int .i64 d, .slice (some ⟨g, 0, none⟩) 63 63]) (by simp [results, Tryz.results37, go_sem, z0, z1]) rfl ⟨g, rfl, HO.out, HB.out⟩

set_option maxRecDepth 100000 in
set_option maxHeartbeats 1600000 in
theorem eachT_any (ao : Option Addr) (cap k : Nat) (pa : Addr) (L : List (Int × List Int)) (vs : List Value) (w : World) (hn : L.length ≤ 1048576) (hk : k ≤ 63) (hs : ∀ j, j < L.length → (nth L j).2.length = 63) (hv : BLv w (.slice ao L.length cap) L vs) (hcp : Cap L vs) (hp : w.cell? pa = some (.int .i64 k)) :
    Calls Tryz.prog 36 #[.slice ao L.length cap, .func (.func 37) #[] #[.pointer (some pa)]] w fun e w' => e = .returned (.slice (some ⟨w.heap.size, 0, none⟩) L.length L.length) ∧ BSTo w' w.heap.size (thL k L) L.length L.length ∧ Below w.heap.size w w' := by
  have HV := hid hv
  have HS := hid hs
  have HC := hid hcp
  have HP := hid hp
  have HPL := hid (World.block_lt_of_cell? w _ hp)
  clear hv hs hcp hp
  go_enter Tryz.func36, Tryz.ntmps36
  go_wp2_with (at_make; refine wpList_mkB w rfl _ _ 34 rfl Tryz.underlying34 Tryz.info65 _ _ L.length rfl rfl (by omega) (thL k L) ?_)
  intro w1 hb1 hbel1
  go_wp2_with fail
  go_loopw [13] (fun i wr => ∃ j : Nat, j ≤ L.length ∧ i = .int .i64 j ∧ Hid (BSTo wr w.heap.size (thL k L) L.length j) ∧ Hid (Below w.heap.size w wr)) (fun i _ => L.length - (intOf i).toNat)
  case atStart => exact ⟨0, by omega, rfl, hb1, hbel1⟩
  case round =>
    obtain ⟨j, hj, rfl, hbs, hbr⟩ := hrel
    by_cases hlt : j < L.length
    · obtain ⟨_, b, off, rfl, hc1, hc2, hvw⟩ := (HV.out.below hbr.out).at j hlt
      have hlt' : (j : Int) < (L.length : Int) := by omega
      have hlen := HS.out j hlt
      obtain ⟨va, vc, hvj, hview, hpl⟩ := hvw
      obtain ⟨vb, voff, rfl⟩ : ∃ vb voff, va = some ⟨vb, voff, none⟩ := by
        rcases hpl with h | h
        · omega
        · exact h
      have hcap : (nth L j).2.length ≤ vc := HC.out j hlt _ _ _ hvj
      have hgt : w.heap.size < wr.heap.size := by obtain ⟨arr, h1, _⟩ := hbs.out; exact h1.lt
      have HSTEP := hid (fun q (hq : BSTo q w.heap.size (thL k L) L.length j) y (hy : Own q wr.heap.size 3 .i64 y (thR k (nth L j).2)) => hq.step hlt (y := y) (base := wr.heap.size) (by rw [thL_nth k L j hlt]; exact hy) (by omega))
      rw [thL_nth k L j hlt] at HSTEP
      rw [hvj] at hc2
      rw [hlen] at hc2 hcap hview
      have hA := (Below.refl wr.heap.size wr).alloc (Nat.le_refl _) (.cells #[.int .i64 (nth L j).1, .slice (some ⟨vb, voff, none⟩) 63 vc] 65)
      have hp2 := (hbr.out.cell (p := pa) HPL.out).trans HP.out
      have HTB := hid (thin1_any (nth L j).1 vb voff vc k pa (nth L j).2 _ hlen hk hcap (hview.below (Nat.le_refl _) hA) ((hA.cell (p := pa) (World.block_lt_of_cell? wr _ hp2)).trans hp2))
      have HAL := hid hA
      generalize (nth L j).1 = D at *
      generalize thR k (nth L j).2 = XS at *
      clear hview hA hp2 hcap hlen hvj
      go_wp2_with (first | (go_at_call 37; fail) | fail)
      refine HTB.out.mono ?_
      rintro e w2 ⟨g2, rfl, ho2, hb2⟩
      have B2' := HAL.out.trans (hb2.mono HAL.out.size)
      have HBS2 := hid (hbs.out.below B2')
      have B2 := hid (hbr.out.trans (B2'.mono hbr.out.size))
      have HO2 := hid (ho2.mono HAL.out.size)
      clear ho2 hb2 hc1 hc2 HTB B2' HAL
      obtain ⟨arr, har, hasz, _⟩ := HBS2.out
      have hl0 : j * 2 < arr.size := by omega
      have hl1 : j * 2 + 1 < arr.size := by omega
      have p0 : w2.cell? ⟨w.heap.size, j * 2, none⟩ = some arr[j * 2] := by rw [har.cell]; exact Array.getElem?_eq_getElem hl0
      have p1 : w2.cell? ⟨w.heap.size, j * 2 + 1, none⟩ = some arr[j * 2 + 1] := by rw [har.cell]; exact Array.getElem?_eq_getElem hl1
      have p2 := har.free (j * 2)
      have p3 := har.free (j * 2 + 1)
      generalize arr[j * 2] = Z0 at *
      generalize arr[j * 2 + 1] = Z1 at *
      clear har hasz hl0 hl1
      go_wp2_with fail
      go_roundw
      case rel => exact ⟨j + 1, by omega, by go_num, HSTEP.out w2 HBS2.out _ HO2.out, (B2.out.setCell (p := ⟨w.heap.size, j * 2, none⟩) (Nat.le_refl _) _).setCell (p := ⟨w.heap.size, j * 2 + 1, none⟩) (Nat.le_refl _) _⟩
      case measure => simp [intOf]; omega
    · obtain rfl : j = L.length := by omega
      go_wp2_with fail
      go_ret
      exact ⟨rfl, hbs.out, hbr.out⟩
end Go.Proofs.YtnnakmgngkpghaaGreat
