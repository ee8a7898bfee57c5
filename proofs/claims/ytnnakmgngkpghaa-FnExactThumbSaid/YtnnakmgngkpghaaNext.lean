/- Contracts of the reader's next and all. -/
import Derived.Test.YtnnakmgngkpghaaRead
namespace Go.Proofs.Ytnnakmgngkpghaa
open Go.RowKit
set_option linter.unusedVariables false

theorem split_bit (x p c R : Int) (hp : 0 < p) (hc : Bit c) (h0 : 0 ≤ R) (h1 : R < p) (h : x % (2 * p) = c * p + R) : x / p % 2 = c ∧ x % p = R := by
  have hk := Int.emod_add_mul_ediv x (2 * p)
  rw [h] at hk
  have e : x = R + p * (2 * (x / (2 * p)) + c) := by
    rw [Int.mul_add, ← Int.mul_assoc, Int.mul_comm p 2, Int.mul_comm p c]
    omega
  generalize x / (2 * p) = k at *
  have e1 : x / p = 2 * k + c := by
    rw [e, Int.add_mul_ediv_left _ _ (by omega), Int.ediv_eq_zero_of_lt h0 h1]
    omega
  have e2 : x % p = R := by
    rw [e, Int.add_mul_emod_self_left, Int.emod_eq_of_lt h0 h1]
  refine ⟨?_, e2⟩
  rw [e1]
  rcases hc with hc | hc <;> rw [hc] <;> omega

theorem next_step {rb : Nat → Int} (hbit : ∀ j, Bit (rb j)) {N q l : Nat} {x : Int} {s : ByteArray} (h : RSt rb N q x (l + 1) s) : RSt rb N (q + 1) x l s ∧ x / 2 ^ l % 2 = rb q := by
  obtain ⟨h1, h2, h3, h4, h5, h6⟩ := h
  have hsp := num_split rb q 1 l
  have e1 : num rb q 1 = rb q := by rw [num, num]; simp
  rw [e1, show 1 + l = l + 1 by omega] at hsp
  have hR := num_bd rb hbit (q + 1) l
  have e : (2 : Int) ^ (l + 1) = 2 * 2 ^ l := by rw [Int.pow_succ]; omega
  rw [hsp, e] at h5
  have hs := split_bit x (2 ^ l) (rb q) _ (Int.pow_pos (by decide)) (hbit q) hR.1 hR.2 h5
  refine ⟨⟨by omega, by omega, h3, h4, hs.2, fun j hj => ?_⟩, hs.1⟩
  rw [h6 j hj]
  congr 1
  omega

theorem and_one (x : Int) (l : Nat) (b : Int) (h0 : 0 ≤ x) (h1 : x < 4294967296) (h : x / 2 ^ l % 2 = b) : wrap64 (bits .and .u32 (x / 2 ^ l) 1) = b := by
  have hp : (0 : Int) < 2 ^ l := Int.pow_pos (by decide)
  have d0 : 0 ≤ x / 2 ^ l := Int.ediv_nonneg h0 (by omega)
  have d1 : x / 2 ^ l ≤ x := Int.ediv_le_self _ h0
  have hm := bits_mask .u32 32 (by decide) (fun n h0 h1 => by rw [IntKind.wrap_u32]; omega) 1 (by decide) (x / 2 ^ l) d0 (by omega)
  have e1 : (2 : Int) ^ 1 - 1 = 1 := by decide
  have e2 : (2 : Int) ^ 1 = 2 := by decide
  rw [e1, e2, h] at hm
  rw [hm, w64 (by omega) (by omega)]

set_option maxHeartbeats 800000 in
theorem next_some (rb : Nat → Int) (hbit : ∀ j, Bit (rb j)) (B N q l : Nat) (x : Int) (s : ByteArray) (w : World) (hst : RSt rb N q x (l + 1) s) (hw : Rd w B x ((l : Int) + 1) s) :
    Calls Try.prog 84 #[.pointer (some ⟨B, 0, none⟩)] w fun e w' => e = .returned (.int .i64 (rb q)) ∧ Rd w' B x l s ∧ Only B w w' := by
  obtain ⟨c0, c1, c2, f0, f1, f2⟩ := hw.cells
  have hq : ((l : Int) + 1 == 0) = false := by simp; omega
  have h32 : l + 1 ≤ 32 := hst.2.1
  have x0 := hst.2.2.1
  have x1 := hst.2.2.2.1
  have HV := hid (next_step hbit hst).2
  have HW := hid hw
  clear hst hw hbit
  go_enter Try.func84, Try.ntmps84
  go_wp2
  go_quiet (fail)
  go_wp2
  go_ret
  exact ⟨ret_int (and_one x l _ x0 x1 HV.out), HW.out.set1, ((Only.refl _ _).setCell 1 _).drewN _⟩

set_option maxHeartbeats 800000 in
theorem next_none (rb : Nat → Int) (hbit : ∀ j, Bit (rb j)) (B N q : Nat) (x : Int) (s : ByteArray) (w : World) (hN : N ≤ 100000000) (hpos : 0 < s.size) (hst : RSt rb N q x 0 s) (hw : Rd w B x 0 s) :
    Calls Try.prog 84 #[.pointer (some ⟨B, 0, none⟩)] w fun e w' => e = .returned (.int .i64 (rb q)) ∧ (∃ (x' : Int) (l' : Nat) (s' : ByteArray), RSt rb N (q + 1) x' l' s' ∧ Rd w' B x' l' s') ∧ Only B w w' := by
  obtain ⟨c0, c1, c2, f0, f1, f2⟩ := hw.cells
  have HF := hid (fill_any rb hbit B N q x s w hN hst hw)
  have HB := hid hbit
  clear hst hw hbit
  go_enter Try.func84, Try.ntmps84
  go_wp2_with fail
  refine HF.out.mono ?_
  rintro e w1 ⟨rfl, ⟨y, l, t, hst1, hw1, hl⟩, ho1⟩
  obtain ⟨l, rfl⟩ : ∃ k, l = k + 1 := ⟨l - 1, by have := hl hpos; omega⟩
  have h32 : l + 1 ≤ 32 := hst1.2.1
  have y0 := hst1.2.2.1
  have y1 := hst1.2.2.2.1
  have HS := hid (next_step HB.out hst1)
  rw [show ((l + 1 : Nat) : Int) = (l : Int) + 1 by omega] at hw1
  have HW := hid hw1
  obtain ⟨d0, d1, d2, g0, g1, g2⟩ := hw1.cells
  clear hst1 hw1 hl c0 c1 c2 f0 f1 f2
  go_wp2
  go_quiet (fail)
  go_wp2
  go_ret
  exact ⟨ret_int (and_one y l _ y0 y1 HS.out.2), ⟨y, l, t, HS.out.1, HW.out.set1⟩, (ho1.setCell 1 _).drewN _⟩

/-- Behind q of N bits. -/
def RInv (rb : Nat → Int) (w : World) (B N q : Nat) : Prop := ∃ (x : Int) (l : Nat) (s : ByteArray), RSt rb N q x l s ∧ Rd w B x l s

theorem next_any (rb : Nat → Int) (hbit : ∀ j, Bit (rb j)) (B N q : Nat) (w : World) (hN : N ≤ 100000000) (hq : q < N) (hi : RInv rb w B N q) :
    Calls Try.prog 84 #[.pointer (some ⟨B, 0, none⟩)] w fun e w' => e = .returned (.int .i64 (rb q)) ∧ RInv rb w' B N (q + 1) ∧ Only B w w' := by
  obtain ⟨x, l, s, hst, hw⟩ := hi
  by_cases h0 : l = 0
  · subst h0
    exact next_none rb hbit B N q x s w hN (by have := hst.1; omega) hst hw
  · obtain ⟨k, rfl⟩ : ∃ k, l = k + 1 := ⟨l - 1, by omega⟩
    rw [show ((k + 1 : Nat) : Int) = (k : Int) + 1 by omega] at hw
    refine (next_some rb hbit B N q k x s w hst hw).mono ?_
    rintro e w' ⟨rfl, hw', ho⟩
    exact ⟨rfl, ⟨x, k, s, (next_step hbit hst).1, hw'⟩, ho⟩

/-- The first k bits. -/
def bl (rb : Nat → Int) : Nat → List Int
  | 0 => []
  | k + 1 => bl rb k ++ [rb k]
theorem bl_length (rb : Nat → Int) : ∀ k, (bl rb k).length = k
  | 0 => rfl
  | k + 1 => by simp [bl, bl_length rb k]
theorem bl_get (rb : Nat → Int) : ∀ k j, j < k → (bl rb k).getD j 0 = rb j
  | k + 1, j, h => by
    have hl := bl_length rb k
    by_cases e : j = k
    · subst e
      simp [bl, List.getD, hl]
    · have := bl_get rb k j (by omega)
      simp only [bl, List.getD] at this ⊢
      rw [List.getElem?_append_left (by omega)]
      exact this

set_option maxHeartbeats 1600000 in
theorem all_any (rb : Nat → Int) (hbit : ∀ j, Bit (rb j)) (B N : Nat) (x : Int) (l : Nat) (s : ByteArray) (w : World) (hN : N ≤ 100000000) (hst : RSt rb N 0 x l s) (hw : Rd w B x l s) :
    Calls Try.prog 83 #[.pointer (some ⟨B, 0, none⟩)] w fun e w' => ∃ v, e = .returned v ∧ Own w' (B + 1) 3 .i64 v (bl rb N) ∧ Below B w w' := by
  obtain ⟨c0, c1, c2, f0, f1, f2⟩ := hw.cells
  have hBlt : B + 1 ≤ w.heap.size := lt_of_block hw
  have hNl : (l : Int) + 8 * (s.size : Int) = (N : Int) := by have := hst.1; omega
  have hl32 := hst.2.1
  have HI := hid (show RInv rb w B N 0 from ⟨x, l, s, hst, hw⟩)
  have HB := hid hbit
  have HN := hid hNl
  have w8 : IntKind.i64.wrap (8 * (s.size : Int)) = 8 * (s.size : Int) := by rw [IntKind.wrap_i64]; omega
  have w9 : IntKind.i64.wrap ((l : Int) + 8 * (s.size : Int)) = (N : Int) := by rw [IntKind.wrap_i64]; omega
  clear hst hw hbit hNl
  go_enter Try.func83, Try.ntmps83
  go_wp2
  go_quiet (fail)
  clear w8 w9 c0 c1 c2 f0 f1 f2
  go_wp2_with (at_make; refine wpList_mkn (w.drewN nq) rfl _ _ 22 rfl (B + 1) 3 .i64 8 Try.underlying22 Try.info3 _ _ N rfl rfl (by omega) (by decide) hBlt ?_)
  intro w0 hown0 hb0
  have HO := hid hown0
  clear hown0
  go_wp2
  go_loopw [21] (fun i wr => ∃ (k : Nat) (ys : List Int), k ≤ N ∧ i = .int .i64 k ∧ Hid (RInv rb wr B N k) ∧ Own wr (B + 1) 3 .i64 (.slice (some ⟨w.heap.size, 0, none⟩) N N) ys ∧ Hid (ys.length = N ∧ ∀ j, j < k → ys.getD j 0 = rb j) ∧ Hid (Below B w wr)) (fun i _ => N - (intOf i).toNat)
  case atStart =>
    refine ⟨0, _, by omega, rfl, ?_, HO.out, ⟨by simp, fun j hj => by omega⟩, ?_⟩
    · obtain ⟨x, l, s, h1, h2⟩ := HI.out
      exact ⟨x, l, s, h1, (hb0.block B (by omega)).trans h2⟩
    · exact (belowN (Below.refl _ _) nq).trans (hb0.mono (by omega))
  case round =>
    obtain ⟨k, ys, hk, rfl, hinv, hown, hys, hb⟩ := hrel
    clear hb0
    by_cases hlt : k < N
    · go_wp2_with fail
      refine (next_any rb HB.out B N k _ hN hlt hinv.out).mono ?_
      rintro e w1 ⟨rfl, hinv1, ho1⟩
      have hown1 := Only.own hown ho1 (by omega)
      have HI1 := hid hinv1
      have HO1 := hid ho1
      have hold := hown1.at k (by have := hys.out.1; omega)
      have hfree := hown1.free k
      have HNEW := hid (hown1.store k (rb k))
      generalize ys.getD k 0 = Y at *
      clear hinv1 ho1 hown
      have HOWN1 := hid hown1
      clear hown1
      go_wp2
      go_roundw
      case rel =>
        refine ⟨k + 1, _, by omega, by go_num, ?_, HNEW.out, ⟨by simp; exact hys.out.1, fun j hj => ?_⟩, ?_⟩
        · obtain ⟨x, l, s, h1, h2⟩ := HI1.out
          exact ⟨x, l, s, h1, (Below.heap_setCell _ _ _ _ (by show B ≠ w.heap.size; omega)).trans h2⟩
        · by_cases e : j = k
          · subst e
            simp [List.getD, hys.out.1, hlt]
          · rw [← hys.out.2 j (by omega)]
            simp [List.getD, show k ≠ j from fun h => e h.symm]
        · exact (hb.out.trans HO1.out.below).setCell (p := ⟨w.heap.size, k, none⟩) (by show B ≤ w.heap.size; omega) _
      case measure => simp [intOf]; omega
    · obtain rfl : k = N := by omega
      have hxy : ys = bl rb k := list_eq_of_getD (by rw [hys.out.1, bl_length]) (fun i hi => by rw [hys.out.2 i (by rw [← hys.out.1]; exact hi), bl_get rb k i (by rw [← hys.out.1]; exact hi)])
      subst hxy
      go_wp2
      go_ret
      exact ⟨_, rfl, hown, hb.out⟩
end Go.Proofs.Ytnnakmgngkpghaa
