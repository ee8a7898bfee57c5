/- Contracts of the writer's put, putAll and text, and of PutBits and BitsNum of the program. -/
import Derived.Test.YtnnakmgngkpghaaWrite
namespace Go.Proofs.Ytnnakmgngkpghaa
open Go.RowKit
set_option linter.unusedVariables false

/-- Behind m bits: whole bytes are written, the rest is held. -/
def Inv (b : Nat → Int) (w : World) (B m : Nat) : Prop :=
  ∃ (J h : Nat) (v : Value), m = 8 * J + h ∧ h ≤ 32 ∧ (J = 0 ∨ 33 ≤ m) ∧ Wr w B (num b (8 * J) h) h v ∧ Own w (B + 1) 5 .u8 v (packTo b J)

theorem room_next {b : Nat → Int} {w : World} {B J h : Nat} {v : Value} {x : Int} (hx : x = b (8 * J + h)) (hw : Wr w B (num b (8 * J) h) h v) (ho : Own w (B + 1) 5 .u8 v (packTo b J)) :
    Wr ((w.setCell ⟨B, 0, none⟩ (.int .u32 (2 * num b (8 * J) h + x))).setCell ⟨B, 1, none⟩ (.int .i64 ((h : Int) + 1))) B (num b (8 * J) (h + 1)) ((h + 1 : Nat) : Int) v ∧
    Own ((w.setCell ⟨B, 0, none⟩ (.int .u32 (2 * num b (8 * J) h + x))).setCell ⟨B, 1, none⟩ (.int .i64 ((h : Int) + 1))) (B + 1) 5 .u8 v (packTo b J) ∧
    Below B w ((w.setCell ⟨B, 0, none⟩ (.int .u32 (2 * num b (8 * J) h + x))).setCell ⟨B, 1, none⟩ (.int .i64 ((h : Int) + 1))) := by
  subst hx
  refine ⟨?_, ?_, ?_⟩
  · have := (hw.set0 (y := 2 * num b (8 * J) h + b (8 * J + h))).set1 (y := (h : Int) + 1)
    have e : ((h + 1 : Nat) : Int) = (h : Int) + 1 := by omega
    rw [e, num]
    exact this
  · exact (ho.setCell_below (a := ⟨B, 0, none⟩) (by show B < B + 1; omega) _).setCell_below (a := ⟨B, 1, none⟩) (by show B < B + 1; omega) _
  · exact ((Below.refl B w).setCell (p := ⟨B, 0, none⟩) (Nat.le_refl _) _).setCell (p := ⟨B, 1, none⟩) (Nat.le_refl _) _

/-- A bit is put where there is room. -/
theorem put_held (b : Nat → Int) (hbit : ∀ j, Bit (b j)) (B J h : Nat) (v : Value) (x : Int) (w : World) (hx : x = b (8 * J + h)) (hh : h < 32) (hw : Wr w B (num b (8 * J) h) h v) (ho : Own w (B + 1) 5 .u8 v (packTo b J)) :
    Calls Try.prog 72 #[.pointer (some ⟨B, 0, none⟩), .int .i64 x] w fun e w' => e = .returned (.tuple #[]) ∧ Wr w' B (num b (8 * J) (h + 1)) ((h + 1 : Nat) : Int) v ∧ Own w' (B + 1) 5 .u8 v (packTo b J) ∧ Below B w w' := by
  refine (put_room B _ _ x v w hw (by omega) (by omega) (num_bd b hbit _ _).1 (num_le b hbit _ _ 31 (by omega)) (by rw [hx]; exact hbit _)).mono ?_
  rintro e w' ⟨rfl, rfl⟩
  exact ⟨rfl, room_next hx hw ho⟩

set_option maxHeartbeats 800000 in
theorem put_full (b : Nat → Int) (hbit : ∀ j, Bit (b j)) (B J : Nat) (v : Value) (x : Int) (w : World) (hJ : J ≤ 1000000) (hx : x = b (8 * (J + 4))) (hw : Wr w B (num b (8 * J) 32) 32 v) (ho : Own w (B + 1) 5 .u8 v (packTo b J)) :
    Calls Try.prog 72 #[.pointer (some ⟨B, 0, none⟩), .int .i64 x] w fun e w' => e = .returned (.tuple #[]) ∧ (∃ v', Wr w' B (num b (8 * (J + 4)) 1) 1 v' ∧ Own w' (B + 1) 5 .u8 v' (packTo b (J + 4))) ∧ Below B w w' := by
  obtain ⟨c0, c1, c2, f0, f1, f2⟩ := hw.cells
  have HF := hid (flush_any b hbit B J 4 _ v w (by decide) hJ rfl hw ho)
  have hb : Bit x := by rw [hx]; exact hbit _
  have HX := hid hx
  have b0 : 0 ≤ x := by rcases hb with h | h <;> omega
  have b1 : x ≤ 1 := by rcases hb with h | h <;> omega
  have HBT := hid hb
  clear hb hx hw ho hbit
  go_enter Try.func72, Try.ntmps72
  go_wp2_with fail
  refine HF.out.mono ?_
  rintro e w1 ⟨rfl, ⟨v', hw1, ho1⟩, hb1⟩
  obtain ⟨X, hX, hw1⟩ : ∃ X, X = (0 : Int) ∧ Wr w1 B X 0 v' := ⟨0, rfl, hw1⟩
  have hor := or_bit X x (by omega) (by omega) HBT.out
  have X0 : 0 ≤ X := by omega
  have X1 : X ≤ 0 := by omega
  have HX0 := hid hX
  have HW1 := hid hw1
  obtain ⟨d0, d1, d2, g0, g1, g2⟩ := hw1.cells
  clear hX c0 c1 c2 f0 f1 f2
  go_wp2
  go_end0
  refine ⟨rfl, ⟨v', ?_, ?_⟩, ?_⟩
  · have := (HW1.out.set0 (y := 2 * X + x)).set1 (y := 1)
    have e1 : num b (8 * (J + 4)) 1 = 2 * X + x := by rw [num, num, HX.out, HX0.out]; rfl
    rw [e1]
    exact this
  · exact (ho1.setCell_below (a := ⟨B, 0, none⟩) (by show B < B + 1; omega) _).setCell_below (a := ⟨B, 1, none⟩) (by show B < B + 1; omega) _
  · exact (hb1.setCell (p := ⟨B, 0, none⟩) (Nat.le_refl _) _).setCell (p := ⟨B, 1, none⟩) (Nat.le_refl _) _

theorem put_any (b : Nat → Int) (hbit : ∀ j, Bit (b j)) (B m : Nat) (x : Int) (w : World) (hm : m ≤ 8000000) (hx : x = b m) (hi : Inv b w B m) :
    Calls Try.prog 72 #[.pointer (some ⟨B, 0, none⟩), .int .i64 x] w fun e w' => e = .returned (.tuple #[]) ∧ Inv b w' B (m + 1) ∧ Below B w w' := by
  obtain ⟨J, h, v, rfl, h32, hJ, hw, ho⟩ := hi
  by_cases hh : h < 32
  · refine (put_held b hbit B J h v x w hx hh hw ho).mono ?_
    rintro e w' ⟨rfl, hw', ho', hb'⟩
    exact ⟨rfl, ⟨J, h + 1, v, by omega, by omega, by omega, hw', ho'⟩, hb'⟩
  · obtain rfl : h = 32 := by omega
    refine (put_full b hbit B J v x w (by omega) (by rw [hx]; congr 1) hw ho).mono ?_
    rintro e w' ⟨rfl, ⟨v', hw', ho'⟩, hb'⟩
    exact ⟨rfl, ⟨J + 4, 1, v', by omega, by omega, by omega, hw', ho'⟩, hb'⟩

set_option maxHeartbeats 800000 in
theorem putAll_any (ao : Option Addr) (n cap : Nat) (xs : List Int) (B : Nat) (w0 w : World) (hn : n ≤ 1048576) (hv : View .i64 w0 ao n xs) (hall : ∀ j, j < n → Bit (xs.getD j 0)) (hsz : w0.heap.size ≤ B) (hbw : Below B w0 w) (hi : Inv (pad xs) w B 0) :
    Calls Try.prog 61 #[.pointer (some ⟨B, 0, none⟩), .slice ao n cap] w fun e w' => e = .returned (.tuple #[]) ∧ Inv (pad xs) w' B n ∧ Below B w w' := by
  have HB := hid (pad_bit xs (by rw [hv.1]; exact hall))
  have HV := hid hv
  have HW := hid hbw
  clear hv hall hbw
  go_enter Try.func61, Try.ntmps61
  go_wp2
  go_loopw [8] (fun i wr => ∃ k : Nat, k ≤ n ∧ i = .int .i64 k ∧ Hid (Inv (pad xs) wr B k) ∧ Below B w wr) (fun i _ => n - (intOf i).toNat)
  case atStart => exact ⟨0, by omega, rfl, hi, Below.refl _ _⟩
  case round =>
    obtain ⟨k, hk, rfl, hinv, hb⟩ := hrel
    clear hi
    by_cases hlt : k < n
    · obtain ⟨b, off, rfl, hc⟩ := HV.out.2 k hlt
      have hblt := World.block_lt_of_cell? w0 _ hc
      have hcr : wr.cell? ⟨b, off + k, none⟩ = some (.int .i64 (xs.getD k 0)) := ((HW.out.trans hb).cell (p := ⟨b, off + k, none⟩) (Nat.lt_of_lt_of_le hblt hsz)).trans hc
      have HX := hid (show xs.getD k 0 = pad xs k from (pad_in xs k (by rw [HV.out.1]; exact hlt)).symm)
      generalize xs.getD k 0 = X at *
      clear hc hblt
      go_wp2_with fail
      refine (put_any (pad xs) HB.out B k X _ (by omega) HX.out hinv.out).mono ?_
      rintro e w1 ⟨rfl, hinv1, hb1⟩
      have HI1 := hid hinv1
      have HB1 := hid hb1
      clear hinv1 hb1 hcr
      go_wp2
      go_roundw
      case rel => exact ⟨k + 1, by omega, by go_num, HI1.out, hb.trans HB1.out⟩
      case measure => simp [intOf]; omega
    · obtain rfl : k = n := by omega
      go_wp2
      go_end0
      exact ⟨rfl, hinv.out, hb⟩
end Go.Proofs.Ytnnakmgngkpghaa
