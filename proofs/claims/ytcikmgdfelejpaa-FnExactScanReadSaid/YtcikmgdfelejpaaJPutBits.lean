/- Contracts of the writer's text, of PutBits and BitsNum of the program, and of PutBits of the specification. -/
import Derived.Test.YtcikmgdfelejpaaJGb
namespace Go.Proofs.Ytcikmgdfelejpaa
open Go.RowKit
set_option linter.unusedVariables false

set_option maxHeartbeats 1600000 in
theorem text_any (b : Nat → Int) (hbit : ∀ j, Bit (b j)) (B n : Nat) (w : World) (hn : n ≤ 1048576) (hone : ∀ j, n ≤ j → b j = 1) (hi : Inv b w B n) :
    Calls Try.prog 89 #[.pointer (some ⟨B, 0, none⟩)] w fun e w' => e = .returned (.string (strOfNums (packTo b ((n + 7) / 8)))) ∧ Below B w w' := by
  have HB := hid hbit
  have H1 := hid hone
  have HI := hid hi
  clear hbit hone hi
  go_enter Try.func89, Try.ntmps89
  go_wp2
  go_loopw [3] (fun _ wr => ∃ (J h : Nat) (v : Value), n ≤ 8 * J + h ∧ 8 * J + h ≤ 8 * ((n + 7) / 8) ∧ h ≤ 32 ∧ Hid (Wr wr B (num b (8 * J) h) h v) ∧ Own wr (B + 1) 5 .u8 v (packTo b J) ∧ Below B w wr) (fun _ wr => (8 - (intOf ((wr.cell? ⟨B, 1, none⟩).getD (.int .i64 0))).toNat % 8) % 8)
  case atStart =>
    obtain ⟨J, h, v, hm, h32, hJ, hw, ho⟩ := HI.out
    exact ⟨J, h, v, by omega, by omega, h32, hw, ho, Below.refl _ _⟩
  case round =>
    obtain ⟨J, h, v, hnm, hmn, h32, hw, ho, hb⟩ := hrel
    obtain ⟨c0, c1, c2, f0, f1, f2⟩ := hw.out.cells
    by_cases h8 : h % 8 = 0
    · have ht : ((h : Int) % 8 != 0) = false := by simp; omega
      obtain ⟨c, hc⟩ : ∃ c, h = 8 * c := ⟨h / 8, by omega⟩
      have HF := hid (flush_any b HB.out B J c (num b (8 * J) h) v wr (by omega) (by omega) (by rw [hc]) (by have := hw.out; rw [hc] at this ⊢; simpa using this) ho)
      have HE : Hid (J + c = (n + 7) / 8) := by show _ = _; omega
      clear hc
      go_wp2_with fail
      refine HF.out.mono ?_
      rintro e w1 ⟨rfl, ⟨v', hw1, ho1⟩, hb1⟩
      obtain ⟨d0, d1, d2, g0, g1, g2⟩ := hw1.cells
      have hcv := Own.conv Try.underlying129 Try.underlying5 Try.underlying9 ho1
      obtain ⟨ao1, cap1, rfl⟩ := ho1.shape
      clear c0 c1 c2 f0 f1 f2
      go_wp2
      go_ret
      exact ⟨ret_str (by rw [HE.out]), hb.trans hb1⟩
    · have ht : ((h : Int) % 8 != 0) = true := by simp; omega
      have hx := hid (H1.out (8 * J + h) hnm)
      have HP := hid (put_held b HB.out B J h v 1 wr hx.out.symm (by omega) hw.out ho)
      have HC1 := hid c1
      go_wp2_with fail
      refine HP.out.mono ?_
      rintro e w1 ⟨rfl, hw1, ho1, hb1⟩
      have HW1 := hid hw1
      have HB1 := hid hb1
      have HC2 := hid hw1.cells.2.1
      clear c0 c1 c2 f0 f1 f2 hw1 hb1
      go_wp2
      go_roundw
      case rel => exact ⟨J, h + 1, v, by omega, by omega, by omega, HW1.out, ho1, hb.trans HB1.out⟩
      case measure =>
        rw [HC2.out, HC1.out]
        simp [intOf]
        omega

set_option maxHeartbeats 800000 in
theorem impl_putBits (ao : Option Addr) (n cap : Nat) (xs : List Int) (w : World) (hn : n ≤ 480000) (hv : View .i64 w ao n xs) (hall : ∀ j, j < n → Bit (xs.getD j 0)) :
    Calls Try.prog 61 #[.slice ao n cap] w fun e w' => e = .returned (.string (strOfNums (packTo (pad xs) ((n + 7) / 8)))) ∧ Below w.heap.size w w' := by
  have HC := hid (areBits_yes ao n cap xs w (by omega) hv hall)
  have hl : decide ((480000 : Int) < (n : Int)) = false := by simp; omega
  have hlen := hid hv.1
  have HP := hid (putAll_any ao n cap xs w.heap.size w _ (by omega) hv hall (Nat.le_refl _) ((Below.refl _ _).alloc (Nat.le_refl _) _) (Inv.start (pad xs) w))
  have HB := hid (pad_bit xs (by rw [hv.1]; exact hall))
  clear hv hall
  go_enter Try.func61, Try.ntmps61
  go_wp2_with (go_at_call 54; refine HC.out.mono ?_; rintro e w' ⟨rfl, rfl⟩)
  refine HP.out.mono ?_
  rintro e w1 ⟨rfl, hi1, hb1⟩
  have HI := hid hi1
  clear hi1
  go_wp2_with fail
  refine (text_any (pad xs) HB.out w.heap.size n _ (by omega) (fun j hj => pad_out xs j (by rw [hlen.out]; omega)) HI.out).mono ?_
  rintro e w2 ⟨rfl, hb2⟩
  go_wp2
  go_ret
  exact ⟨rfl, ((Below.refl _ _).alloc (Nat.le_refl _) _).trans (hb1.trans hb2)⟩

set_option maxHeartbeats 800000 in
theorem impl_putBits_no (ao : Option Addr) (n cap : Nat) (xs : List Int) (w : World) (hn : n ≤ 1048576) (hv : View .i64 w ao n xs) (hbad : 480000 < n ∨ ¬ ∀ j, j < n → Bit (xs.getD j 0)) :
    Calls Try.prog 61 #[.slice ao n cap] w fun e w' => e = .returned (.string ⟨#[]⟩) ∧ Below w.heap.size w w' := by
  by_cases h : (480000 : Int) < (n : Int)
  · clear hbad
    go_enter Try.func61, Try.ntmps61
    go_wp2
    go_ret
    exact ⟨rfl, Below.refl _ _⟩
  · have HC := hid (areBits_no ao n cap xs w hn hv (by rcases hbad with h2 | h2; omega; exact h2))
    have hl : decide ((480000 : Int) < (n : Int)) = false := by simp; omega
    clear hbad hv
    go_enter Try.func61, Try.ntmps61
    go_wp2_with (go_at_call 54; refine HC.out.mono ?_; rintro e w' ⟨rfl, rfl⟩)
    go_ret
    exact ⟨rfl, Below.refl _ _⟩

end Go.Proofs.Ytcikmgdfelejpaa
