/- Texts joined: Write, Put, BitsN, Read, Next, Mark, Size, NumB, Rest. No statement is proved here. -/
import Derived.Test.YtnnakmgngkpghaaGreatGa
import Derived.BigRegion
import Derived.Shelf.Small.Bits

/- Contracts of the writer's flush, put, putAll and text. -/
namespace Go.Proofs.YtnnakmgngkpghaaGreat
open Go.RowKit
set_option linter.unusedVariables false

theorem num_split (b : Nat → Int) (s a : Nat) : ∀ c, num b s (a + c) = num b s a * 2 ^ c + num b (s + a) c
  | 0 => by simp [num]
  | c + 1 => by
    have h := num_split b s a c
    have e : (2 : Int) ^ (c + 1) = 2 * 2 ^ c := by rw [Int.pow_succ]; omega
    have e2 : s + (a + c) = s + a + c := by omega
    rw [show a + (c + 1) = (a + c) + 1 by omega, num, h, num, e, e2]
    generalize (2 : Int) ^ c = p
    generalize num b s a = q
    have e3 : q * (2 * p) = 2 * (q * p) := by rw [← Int.mul_assoc, Int.mul_comm q 2, Int.mul_assoc]
    rw [e3]
    omega

/-- The first J whole bytes. -/
def packTo (b : Nat → Int) : Nat → List Int
  | 0 => []
  | J + 1 => packTo b J ++ [num b (8 * J) 8]
theorem packTo_length (b : Nat → Int) : ∀ J, (packTo b J).length = J
  | 0 => rfl
  | J + 1 => by simp [packTo, packTo_length b J]

theorem Wr.below {w w' : World} {B : Nat} {x h : Int} {v : Value} (hw : Wr w B x h v) (hb : Below (B + 1) w w') : Wr w' B x h v := (hb.block B (by omega)).trans hw
theorem Wr.drew {w : World} {B : Nat} {x h : Int} {v : Value} (hw : Wr w B x h v) : Wr w.drew B x h v := hw

/-- The byte that is taken out of the word. -/
theorem byte_of (b : Nat → Int) (hb : ∀ j, Bit (b j)) (J t m : Nat) (x : Int) (hx : x = num b (8 * J) (8 * (t + (m + 1)))) : ∃ A D R : Int, D = num b (8 * (J + t)) 8 ∧ 0 ≤ A ∧ 0 ≤ D ∧ D < 256 ∧ 0 ≤ R ∧ R < 2 ^ (8 * m) ∧ x = A * 2 ^ (8 * (m + 1)) + (D * 2 ^ (8 * m) + R) := by
  have h1 := num_split b (8 * J) (8 * t) (8 * (m + 1))
  have h2 := num_split b (8 * (J + t)) 8 (8 * m)
  rw [show 8 * t + 8 * (m + 1) = 8 * (t + (m + 1)) by omega, show 8 * J + 8 * t = 8 * (J + t) by omega] at h1
  rw [show 8 + 8 * m = 8 * (m + 1) by omega] at h2
  refine ⟨num b (8 * J) (8 * t), num b (8 * (J + t)) 8, num b (8 * (J + t) + 8) (8 * m), rfl, (num_bd b hb _ _).1, (num_bd b hb _ 8).1, (num_bd b hb _ 8).2, (num_bd b hb _ _).1, (num_bd b hb _ (8 * m)).2, ?_⟩
  rw [hx, h1, h2]

/-- What one round of flush comes to. -/
theorem flush_round {b : Nat → Int} {B J t m c : Nat} {x y h : Int} {v V : Value} {w wr w1 : World} (hbr : Below B w wr) (u : Value) (hwS : Wr (wr.setCell ⟨B, 1, none⟩ u) B x h v) (hh : h = 8 * (m : Int)) (htm : Hid (t + (m + 1) = c))
    (hown1 : Own w1 (B + 1) 5 .u8 V (packTo b (J + t) ++ [y])) (hb1 : Below (B + 1) (wr.setCell ⟨B, 1, none⟩ u).drew w1) (hy : y = num b (8 * (J + t)) 8) (c1 : wr.cell? ⟨B, 1, none⟩ = some (.int .i64 (8 * ((m + 1 : Nat) : Int)))) :
    (∃ (t' m' : Nat) (v' : Value), Hid (t' + m' = c) ∧ Wr (w1.setCell ⟨B, 2, none⟩ V) B x (8 * (m' : Int)) v' ∧ Own (w1.setCell ⟨B, 2, none⟩ V) (B + 1) 5 .u8 v' (packTo b (J + t')) ∧ Below B w (w1.setCell ⟨B, 2, none⟩ V)) ∧
    (intOf (((w1.setCell ⟨B, 2, none⟩ V).cell? ⟨B, 1, none⟩).getD (.int .i64 0))).toNat < (intOf ((wr.cell? ⟨B, 1, none⟩).getD (.int .i64 0))).toNat := by
  subst hh
  have hw2 : Wr (w1.setCell ⟨B, 2, none⟩ V) B x (8 * (m : Int)) V := ((hwS.drew).below hb1).set2
  refine ⟨⟨t + 1, m, V, ?_, hw2, ?_, ?_⟩, ?_⟩
  · show _ = _
    have := htm.out
    omega
  · have := hown1.setCell_below (a := ⟨B, 2, none⟩) (by show B < B + 1; omega) V
    rw [hy] at this
    exact this
  · exact (((hbr.setCell (p := ⟨B, 1, none⟩) (Nat.le_refl _) u).drew).trans (hb1.mono (by omega))).setCell (p := ⟨B, 2, none⟩) (Nat.le_refl _) V
  · rw [hw2.cells.2.1, c1]
    simp [intOf]
    omega

set_option maxRecDepth 100000 in
set_option maxHeartbeats 3200000 in
theorem flush_any (b : Nat → Int) (hbit : ∀ j, Bit (b j)) (B J c : Nat) (x : Int) (v : Value) (w : World) (hc4 : c ≤ 4) (hJ : J ≤ 1000000) (hx : x = num b (8 * J) (8 * c)) (hw : Wr w B x (8 * c) v) (hown : Own w (B + 1) 5 .u8 v (packTo b J)) :
    Calls Tryz.prog 118 #[.pointer (some ⟨B, 0, none⟩)] w fun e w' => e = .returned (.tuple #[]) ∧ (∃ v', Wr w' B 0 0 v' ∧ Own w' (B + 1) 5 .u8 v' (packTo b (J + c))) ∧ Below B w w' := by
  have x0 : 0 ≤ x := by rw [hx]; exact (num_bd b hbit _ _).1
  have x1 : x < 4294967296 := by rw [hx]; exact num_le b hbit _ _ 32 (by omega)
  have HX := hid hx
  have HB := hid hbit
  clear hx hbit
  go_enter Tryz.func118, Tryz.ntmps118
  go_wp2
  go_loopw [2] (fun _ wr => ∃ (t m : Nat) (v : Value), Hid (t + m = c) ∧ Wr wr B x (8 * m) v ∧ Own wr (B + 1) 5 .u8 v (packTo b (J + t)) ∧ Below B w wr) (fun _ wr => (intOf ((wr.cell? ⟨B, 1, none⟩).getD (.int .i64 0))).toNat)
  case atStart => exact ⟨0, c, v, by show _ = _; omega, hw, hown, Below.refl _ _⟩
  case round =>
    obtain ⟨t, m, v, htm, hwr, hownr, hbr⟩ := hrel
    clear hw hown
    have hw0 := hid hwr
    have hBlt : B < wr.heap.size := lt_of_block hwr
    obtain ⟨c0, c1, c2, f0, f1, f2⟩ := hwr.cells
    have hlen := packTo_length b (J + t)
    have ht4 : t ≤ 4 := by have := htm.out; omega
    obtain rfl | rfl | rfl | rfl | rfl : m = 0 ∨ m = 1 ∨ m = 2 ∨ m = 3 ∨ m = 4 := by have := htm.out; omega
    · have hct : t = c := by have := htm.out; omega
      have HCT := hid hct
      clear hct
      go_wp2
      go_end0
      refine ⟨rfl, ⟨v, ?_, ?_⟩, ?_⟩
      · exact hw0.out.set0
      · rw [← HCT.out]
        exact hownr.setCell_below (a := ⟨B, 0, none⟩) (by show B < B + 1; omega) _
      · exact hbr.setCell (p := ⟨B, 0, none⟩) (Nat.le_refl _) _
    · obtain ⟨A, D, R, hD, hA, hD0, hD1, hR0, hR1, hxx⟩ := byte_of b HB.out J t 0 x (by rw [HX.out, ← htm.out])
      have hv : Hid (IntKind.u8.wrap x = num b (8 * (J + t)) 8) := by
        show _ = _
        rw [IntKind.wrap_u8]
        simp at hxx hR1
        omega
      clear hxx hR0 hR1 hA hD0 hD1 hD
      have hoS := hid (hownr.setCell_below (a := ⟨B, 1, none⟩) (by show B < B + 1; omega) (.int .i64 0))
      have HWS := hid (hw0.out.set1 (y := 0))
      have HC1 := hid c1
      go_wp2
      go_region_law (refine step_push1g (wr.setCell ⟨B, 1, none⟩ (.int .i64 0)).drew wr.heap.size (by simp [World.setCell, World.drew]) rfl (.tmp 18) (.tmp 29) 105 rfl _ 5 .u8 0 1 Tryz.underlying105 Tryz.info5 _ _ rfl hoS.out.drew1 (IntKind.u8.wrap x) rfl (by omega) (by decide) ?_; intro v1 w1 hown1 hb1; obtain ⟨ao1, cap1, rfl⟩ := hown1.shape; obtain ⟨c0', c1', c2', f0', f1', f2'⟩ := (HWS.out.drew.below hb1).cells)
      all_goals
        simp only [List.length_append, hlen, List.length_cons, List.length_nil, Nat.zero_add] at hown1
        have HO := hid hown1
        have HB1 := hid hb1
        clear hown1 hb1
        go_wp2
        exact flush_round (m := 0) hbr _ HWS.out (by decide) htm HO.out HB1.out hv.out HC1.out
    · obtain ⟨A, D, R, hD, hA, hD0, hD1, hR0, hR1, hxx⟩ := byte_of b HB.out J t 1 x (by rw [HX.out, ← htm.out])
      have hv : Hid (IntKind.u8.wrap (x / 256) = num b (8 * (J + t)) 8) := by
        show _ = _
        rw [IntKind.wrap_u8]
        simp at hxx hR1
        omega
      clear hxx hR0 hR1 hA hD0 hD1 hD
      have hoS := hid (hownr.setCell_below (a := ⟨B, 1, none⟩) (by show B < B + 1; omega) (.int .i64 8))
      have HWS := hid (hw0.out.set1 (y := 8))
      have HC1 := hid c1
      go_wp2
      go_region_law (refine step_push1g (wr.setCell ⟨B, 1, none⟩ (.int .i64 8)).drew wr.heap.size (by simp [World.setCell, World.drew]) rfl (.tmp 18) (.tmp 29) 105 rfl _ 5 .u8 0 1 Tryz.underlying105 Tryz.info5 _ _ rfl hoS.out.drew1 (IntKind.u8.wrap (x / 256)) rfl (by omega) (by decide) ?_; intro v1 w1 hown1 hb1; obtain ⟨ao1, cap1, rfl⟩ := hown1.shape; obtain ⟨c0', c1', c2', f0', f1', f2'⟩ := (HWS.out.drew.below hb1).cells)
      all_goals
        simp only [List.length_append, hlen, List.length_cons, List.length_nil, Nat.zero_add] at hown1
        have HO := hid hown1
        have HB1 := hid hb1
        clear hown1 hb1
        go_wp2
        exact flush_round (m := 1) hbr _ HWS.out (by decide) htm HO.out HB1.out hv.out HC1.out
    · obtain ⟨A, D, R, hD, hA, hD0, hD1, hR0, hR1, hxx⟩ := byte_of b HB.out J t 2 x (by rw [HX.out, ← htm.out])
      have hv : Hid (IntKind.u8.wrap (x / 65536) = num b (8 * (J + t)) 8) := by
        show _ = _
        rw [IntKind.wrap_u8]
        simp at hxx hR1
        omega
      clear hxx hR0 hR1 hA hD0 hD1 hD
      have hoS := hid (hownr.setCell_below (a := ⟨B, 1, none⟩) (by show B < B + 1; omega) (.int .i64 16))
      have HWS := hid (hw0.out.set1 (y := 16))
      have HC1 := hid c1
      go_wp2
      go_region_law (refine step_push1g (wr.setCell ⟨B, 1, none⟩ (.int .i64 16)).drew wr.heap.size (by simp [World.setCell, World.drew]) rfl (.tmp 18) (.tmp 29) 105 rfl _ 5 .u8 0 1 Tryz.underlying105 Tryz.info5 _ _ rfl hoS.out.drew1 (IntKind.u8.wrap (x / 65536)) rfl (by omega) (by decide) ?_; intro v1 w1 hown1 hb1; obtain ⟨ao1, cap1, rfl⟩ := hown1.shape; obtain ⟨c0', c1', c2', f0', f1', f2'⟩ := (HWS.out.drew.below hb1).cells)
      all_goals
        simp only [List.length_append, hlen, List.length_cons, List.length_nil, Nat.zero_add] at hown1
        have HO := hid hown1
        have HB1 := hid hb1
        clear hown1 hb1
        go_wp2
        exact flush_round (m := 2) hbr _ HWS.out (by decide) htm HO.out HB1.out hv.out HC1.out
    · obtain ⟨A, D, R, hD, hA, hD0, hD1, hR0, hR1, hxx⟩ := byte_of b HB.out J t 3 x (by rw [HX.out, ← htm.out])
      have hv : Hid (IntKind.u8.wrap (x / 16777216) = num b (8 * (J + t)) 8) := by
        show _ = _
        rw [IntKind.wrap_u8]
        simp at hxx hR1
        omega
      clear hxx hR0 hR1 hA hD0 hD1 hD
      have hoS := hid (hownr.setCell_below (a := ⟨B, 1, none⟩) (by show B < B + 1; omega) (.int .i64 24))
      have HWS := hid (hw0.out.set1 (y := 24))
      have HC1 := hid c1
      go_wp2
      go_region_law (refine step_push1g (wr.setCell ⟨B, 1, none⟩ (.int .i64 24)).drew wr.heap.size (by simp [World.setCell, World.drew]) rfl (.tmp 18) (.tmp 29) 105 rfl _ 5 .u8 0 1 Tryz.underlying105 Tryz.info5 _ _ rfl hoS.out.drew1 (IntKind.u8.wrap (x / 16777216)) rfl (by omega) (by decide) ?_; intro v1 w1 hown1 hb1; obtain ⟨ao1, cap1, rfl⟩ := hown1.shape; obtain ⟨c0', c1', c2', f0', f1', f2'⟩ := (HWS.out.drew.below hb1).cells)
      all_goals
        simp only [List.length_append, hlen, List.length_cons, List.length_nil, Nat.zero_add] at hown1
        have HO := hid hown1
        have HB1 := hid hb1
        clear hown1 hb1
        go_wp2
        exact flush_round (m := 3) hbr _ HWS.out (by decide) htm HO.out HB1.out hv.out HC1.out
end Go.Proofs.YtnnakmgngkpghaaGreat

/- Contracts of the writer's put, putAll and text, and of PutBits and BitsNum of the program. -/
namespace Go.Proofs.YtnnakmgngkpghaaGreat
open Go.RowKit
set_option linter.unusedVariables false

/-- Behind m bits: whole bytes are written, the rest is held. -/
def Inv (b : Nat → Int) (w : World) (B m : Nat) : Prop :=
  ∃ (J h : Nat) (v : Value), m = 8 * J + h ∧ h ≤ 32 ∧ (J = 0 ∨ 33 ≤ m) ∧ Wr w B (num b (8 * J) h) h v ∧ Own w (B + 1) 5 .u8 v (packTo b J)

theorem room_next {b : Nat → Int} {w : World} {B J h : Nat} {v : Value} {x : Int} (hx : x = b (8 * J + h)) (hw : Wr w B (num b (8 * J) h) h v) (ho : Own w (B + 1) 5 .u8 v (packTo b J)) :
    Wr ((w.setCell ⟨B, 0, none⟩ (.int .u32 (2 * num b (8 * J) h + x))).setCell ⟨B, 1, none⟩ (.int .i64 ((h : Int) + 1))) B (num b (8 * J) (h + 1)) ((h + 1 : Nat) : Int) v ∧
    Own ((w.setCell ⟨B, 0, none⟩ (.int .u32 (2 * num b (8 * J) h + x))).setCell ⟨B, 1, none⟩ (.int .i64 ((h : Int) + 1))) (B + 1) 5 .u8 v (packTo b J) ∧
    Below B w ((w.setCell ⟨B, 0, none⟩ (.int .u32 (2 * num b (8 * J) h + x))).setCell ⟨B, 1, none⟩ (.int .i64 ((h : Int) + 1))) := by
  subst hx
  refine ⟨?_, ?_, ?_⟩
  · have := (hw.set0 (y := 2 * num b (8 * J) h + b (8 * J + h))).set1 (y := (h : Int) + 1)
    have e : ((h + 1 : Nat) : Int) = (h : Int) + 1 := by omega
    rw [e, num]
    exact this
  · exact (ho.setCell_below (a := ⟨B, 0, none⟩) (by show B < B + 1; omega) _).setCell_below (a := ⟨B, 1, none⟩) (by show B < B + 1; omega) _
  · exact ((Below.refl B w).setCell (p := ⟨B, 0, none⟩) (Nat.le_refl _) _).setCell (p := ⟨B, 1, none⟩) (Nat.le_refl _) _

/-- A bit is put where there is room. -/
theorem put_held (b : Nat → Int) (hbit : ∀ j, Bit (b j)) (B J h : Nat) (v : Value) (x : Int) (w : World) (hx : x = b (8 * J + h)) (hh : h < 32) (hw : Wr w B (num b (8 * J) h) h v) (ho : Own w (B + 1) 5 .u8 v (packTo b J)) :
    Calls Tryz.prog 117 #[.pointer (some ⟨B, 0, none⟩), .int .i64 x] w fun e w' => e = .returned (.tuple #[]) ∧ Wr w' B (num b (8 * J) (h + 1)) ((h + 1 : Nat) : Int) v ∧ Own w' (B + 1) 5 .u8 v (packTo b J) ∧ Below B w w' := by
  refine (put_room B _ _ x v w hw (by omega) (by omega) (num_bd b hbit _ _).1 (num_le b hbit _ _ 31 (by omega)) (by rw [hx]; exact hbit _)).mono ?_
  rintro e w' ⟨rfl, rfl⟩
  exact ⟨rfl, room_next hx hw ho⟩

set_option maxHeartbeats 800000 in
theorem put_full (b : Nat → Int) (hbit : ∀ j, Bit (b j)) (B J : Nat) (v : Value) (x : Int) (w : World) (hJ : J ≤ 1000000) (hx : x = b (8 * (J + 4))) (hw : Wr w B (num b (8 * J) 32) 32 v) (ho : Own w (B + 1) 5 .u8 v (packTo b J)) :
    Calls Tryz.prog 117 #[.pointer (some ⟨B, 0, none⟩), .int .i64 x] w fun e w' => e = .returned (.tuple #[]) ∧ (∃ v', Wr w' B (num b (8 * (J + 4)) 1) 1 v' ∧ Own w' (B + 1) 5 .u8 v' (packTo b (J + 4))) ∧ Below B w w' := by
  obtain ⟨c0, c1, c2, f0, f1, f2⟩ := hw.cells
  have HF := hid (flush_any b hbit B J 4 _ v w (by decide) hJ rfl hw ho)
  have hb : Bit x := by rw [hx]; exact hbit _
  have HX := hid hx
  have b0 : 0 ≤ x := by rcases hb with h | h <;> omega
  have b1 : x ≤ 1 := by rcases hb with h | h <;> omega
  have HBT := hid hb
  clear hb hx hw ho hbit
  go_enter Tryz.func117, Tryz.ntmps117
  go_wp2_with fail
  refine HF.out.mono ?_
  rintro e w1 ⟨rfl, ⟨v', hw1, ho1⟩, hb1⟩
  obtain ⟨X, hX, hw1⟩ : ∃ X, X = (0 : Int) ∧ Wr w1 B X 0 v' := ⟨0, rfl, hw1⟩
  have hor := or_bit X x (by omega) (by omega) HBT.out
  have X0 : 0 ≤ X := by omega
  have X1 : X ≤ 0 := by omega
  have HX0 := hid hX
  have HW1 := hid hw1
  obtain ⟨d0, d1, d2, g0, g1, g2⟩ := hw1.cells
  clear hX c0 c1 c2 f0 f1 f2
  go_wp2
  go_end0
  refine ⟨rfl, ⟨v', ?_, ?_⟩, ?_⟩
  · have := (HW1.out.set0 (y := 2 * X + x)).set1 (y := 1)
    have e1 : num b (8 * (J + 4)) 1 = 2 * X + x := by rw [num, num, HX.out, HX0.out]; rfl
    rw [e1]
    exact this
  · exact (ho1.setCell_below (a := ⟨B, 0, none⟩) (by show B < B + 1; omega) _).setCell_below (a := ⟨B, 1, none⟩) (by show B < B + 1; omega) _
  · exact (hb1.setCell (p := ⟨B, 0, none⟩) (Nat.le_refl _) _).setCell (p := ⟨B, 1, none⟩) (Nat.le_refl _) _

theorem put_any (b : Nat → Int) (hbit : ∀ j, Bit (b j)) (B m : Nat) (x : Int) (w : World) (hm : m ≤ 8000000) (hx : x = b m) (hi : Inv b w B m) :
    Calls Tryz.prog 117 #[.pointer (some ⟨B, 0, none⟩), .int .i64 x] w fun e w' => e = .returned (.tuple #[]) ∧ Inv b w' B (m + 1) ∧ Below B w w' := by
  obtain ⟨J, h, v, rfl, h32, hJ, hw, ho⟩ := hi
  by_cases hh : h < 32
  · refine (put_held b hbit B J h v x w hx hh hw ho).mono ?_
    rintro e w' ⟨rfl, hw', ho', hb'⟩
    exact ⟨rfl, ⟨J, h + 1, v, by omega, by omega, by omega, hw', ho'⟩, hb'⟩
  · obtain rfl : h = 32 := by omega
    refine (put_full b hbit B J v x w (by omega) (by rw [hx]; congr 1) hw ho).mono ?_
    rintro e w' ⟨rfl, ⟨v', hw', ho'⟩, hb'⟩
    exact ⟨rfl, ⟨J + 4, 1, v', by omega, by omega, by omega, hw', ho'⟩, hb'⟩

set_option maxHeartbeats 800000 in
theorem putAll_any (ao : Option Addr) (n cap : Nat) (xs : List Int) (B : Nat) (w0 w : World) (hn : n ≤ 1048576) (hv : View .i64 w0 ao n xs) (hall : ∀ j, j < n → Bit (xs.getD j 0)) (hsz : w0.heap.size ≤ B) (hbw : Below B w0 w) (hi : Inv (pad xs) w B 0) :
    Calls Tryz.prog 98 #[.pointer (some ⟨B, 0, none⟩), .slice ao n cap] w fun e w' => e = .returned (.tuple #[]) ∧ Inv (pad xs) w' B n ∧ Below B w w' := by
  have HB := hid (pad_bit xs (by rw [hv.1]; exact hall))
  have HV := hid hv
  have HW := hid hbw
  clear hv hall hbw
  go_enter Tryz.func98, Tryz.ntmps98
  go_wp2
  go_loopw [8] (fun i wr => ∃ k : Nat, k ≤ n ∧ i = .int .i64 k ∧ Hid (Inv (pad xs) wr B k) ∧ Below B w wr) (fun i _ => n - (intOf i).toNat)
  case atStart => exact ⟨0, by omega, rfl, hi, Below.refl _ _⟩
  case round =>
    obtain ⟨k, hk, rfl, hinv, hb⟩ := hrel
    clear hi
    by_cases hlt : k < n
    · obtain ⟨b, off, rfl, hc⟩ := HV.out.2 k hlt
      have hblt := World.block_lt_of_cell? w0 _ hc
      have hcr : wr.cell? ⟨b, off + k, none⟩ = some (.int .i64 (xs.getD k 0)) := ((HW.out.trans hb).cell (p := ⟨b, off + k, none⟩) (Nat.lt_of_lt_of_le hblt hsz)).trans hc
      have HX := hid (show xs.getD k 0 = pad xs k from (pad_in xs k (by rw [HV.out.1]; exact hlt)).symm)
      generalize xs.getD k 0 = X at *
      clear hc hblt
      go_wp2_with fail
      refine (put_any (pad xs) HB.out B k X _ (by omega) HX.out hinv.out).mono ?_
      rintro e w1 ⟨rfl, hinv1, hb1⟩
      have HI1 := hid hinv1
      have HB1 := hid hb1
      clear hinv1 hb1 hcr
      go_wp2
      go_roundw
      case rel => exact ⟨k + 1, by omega, by go_num, HI1.out, hb.trans HB1.out⟩
      case measure => simp [intOf]; omega
    · obtain rfl : k = n := by omega
      go_wp2
      go_end0
      exact ⟨rfl, hinv.out, hb⟩
end Go.Proofs.YtnnakmgngkpghaaGreat

/- The contract of BitsNum of the program. -/
namespace Go.Proofs.YtnnakmgngkpghaaGreat
open Go.RowKit
set_option linter.unusedVariables false

theorem Inv.start (b : Nat → Int) (w : World) : Inv b (w.alloc (.cells #[.int .u32 0, .int .i64 0, .slice none 0 0] 129)) w.heap.size 0 :=
  ⟨0, 0, .slice none 0 0, rfl, by decide, .inl rfl, heap_alloc_new w _, Own.nil _ _ _ _ (by simp)⟩

end Go.Proofs.YtnnakmgngkpghaaGreat

/- Contracts of the reader's fill and next. -/
namespace Go.Proofs.YtnnakmgngkpghaaGreat
open Go.RowKit
set_option linter.unusedVariables false

/-- The byte at a place; 0 where there is none. -/
def bt (s : ByteArray) (j : Nat) : Int := if h : j < s.size then (s[j].toNat : Int) else 0
theorem bt_eq (s : ByteArray) (j : Nat) (h : j < s.size) : bt s j = (s[j].toNat : Int) := by simp [bt, h]
theorem bt_nonneg (s : ByteArray) (j : Nat) : 0 ≤ bt s j := by unfold bt; split <;> omega
theorem bt_lt (s : ByteArray) (j : Nat) : bt s j < 256 := by
  unfold bt
  split
  · exact byte_lt _
  · omega
theorem bt_tail (s : ByteArray) (j : Nat) : bt (s.extract 1 s.size) j = bt s (j + 1) := by
  unfold bt
  have e : (s.extract 1 s.size).size = s.size - 1 := by rw [ByteArray.size_extract]; omega
  by_cases h : j + 1 < s.size
  · rw [dif_pos h, dif_pos (by omega)]
    congr 2
    rw [ByteArray.getElem_extract]
    congr 1
    omega
  · rw [dif_neg h, dif_neg (by omega)]

/-- Nothing but block B has turned. -/
def Only (B : Nat) (w w' : World) : Prop := w'.os = w.os ∧ w'.tape = w.tape ∧ w'.output = w.output ∧ w'.heap.size = w.heap.size ∧ ∀ k, k ≠ B → w'.heap[k]? = w.heap[k]?
theorem Only.refl (B : Nat) (w : World) : Only B w w := ⟨rfl, rfl, rfl, rfl, fun _ _ => rfl⟩
theorem Only.trans {B : Nat} {a b c : World} (h : Only B a b) (k : Only B b c) : Only B a c :=
  ⟨k.1.trans h.1, k.2.1.trans h.2.1, k.2.2.1.trans h.2.2.1, k.2.2.2.1.trans h.2.2.2.1, fun i hi => (k.2.2.2.2 i hi).trans (h.2.2.2.2 i hi)⟩
theorem Only.setCell {B : Nat} {a w : World} (h : Only B a w) (j : Nat) (u : Value) : Only B a (w.setCell ⟨B, j, none⟩ u) :=
  h.trans ⟨rfl, rfl, rfl, by simp [World.setCell], fun k hk => Below.heap_setCell _ _ _ _ hk⟩
theorem Only.drew {B : Nat} {a w : World} (h : Only B a w) : Only B a w.drew := h
theorem Only.drewN {B : Nat} {a w : World} (h : Only B a w) (n : Nat) : Only B a (w.drewN n) := h
theorem Only.below {B : Nat} {w w' : World} (h : Only B w w') : Below B w w' := ⟨h.1, h.2.1, h.2.2.1, by rw [h.2.2.2.1]; exact Nat.le_refl _, fun k hk => h.2.2.2.2 k (by omega)⟩
theorem Only.own {B base : Nat} {w w' : World} {e : TypeId} {k : IntKind} {v : Value} {xs : List Int} (ho : Own w base e k v xs) (h : Only B w w') (hb : B < base) : Own w' base e k v xs := by
  refine ⟨by rw [h.2.2.2.1]; exact ho.1, ho.2.1, ?_⟩
  rcases ho.2.2 with h0 | ⟨g, cap, cur, hv, hg, hh, r⟩
  · exact .inl h0
  · exact .inr ⟨g, cap, cur, hv, hg, (h.2.2.2.2 g (by omega)).trans hh, r⟩

/-- The reader: its word, how many bits of it are left, the bytes behind it. -/
def Rd (w : World) (B : Nat) (x l : Int) (s : ByteArray) : Prop := w.heap[B]? = some (.cells #[.int .u32 x, .int .i64 l, .string s] 183 (0, 0))
theorem Rd.cells {w : World} {B : Nat} {x l : Int} {s : ByteArray} (hw : Rd w B x l s) :
    w.cell? ⟨B, 0, none⟩ = some (.int .u32 x) ∧ w.cell? ⟨B, 1, none⟩ = some (.int .i64 l) ∧ w.cell? ⟨B, 2, none⟩ = some (.string s) ∧ w.frozen? ⟨B, 0, none⟩ = false ∧ w.frozen? ⟨B, 1, none⟩ = false ∧ w.frozen? ⟨B, 2, none⟩ = false := by
  unfold Rd at hw
  simp [World.cell?, World.frozen?, hw]
theorem Rd.set0 {w : World} {B : Nat} {x l y : Int} {s : ByteArray} (hw : Rd w B x l s) : Rd (w.setCell ⟨B, 0, none⟩ (.int .u32 y)) B y l s := heap_setCell_same w B 0 _ 183 _ hw
theorem Rd.set1 {w : World} {B : Nat} {x l y : Int} {s : ByteArray} (hw : Rd w B x l s) : Rd (w.setCell ⟨B, 1, none⟩ (.int .i64 y)) B x y s := heap_setCell_same w B 1 _ 183 _ hw
theorem Rd.set2 {w : World} {B : Nat} {x l : Int} {s t : ByteArray} (hw : Rd w B x l s) : Rd (w.setCell ⟨B, 2, none⟩ (.string t)) B x l t := heap_setCell_same w B 2 _ 183 _ hw
theorem Rd.drew {w : World} {B : Nat} {x l : Int} {s : ByteArray} (hw : Rd w B x l s) : Rd w.drew B x l s := hw

theorem some_bytes {t : ByteArray} (h : 0 < t.size) : t.toList.isEmpty = false := by
  rw [ByteArray.toList_eq]
  cases h2 : t.data.toList with
  | nil =>
    have h3 : t.data.size = 0 := by simpa using congrArg List.length h2
    have h4 : t.size = t.data.size := rfl
    omega
  | cons => rfl
theorem no_bytes {t : ByteArray} (h : t.size = 0) : t.toList.isEmpty = true := by
  rw [ByteArray.toList_eq]
  have h4 : t.size = t.data.size := rfl
  have h3 : t.data.toList.length = 0 := by rw [Array.length_toList]; omega
  rw [List.length_eq_zero_iff.1 h3]
  rfl

def strLen : Value → Nat | .string s => s.size | _ => 0

/-- The reader with q of N bits read. -/
def RSt (rb : Nat → Int) (N q : Nat) (x : Int) (l : Nat) (s : ByteArray) : Prop :=
  q + l + 8 * s.size = N ∧ l ≤ 32 ∧ 0 ≤ x ∧ x < 4294967296 ∧ x % 2 ^ l = num rb q l ∧ ∀ j, j < s.size → bt s j = num rb (q + l + 8 * j) 8

theorem or_byte (y : Int) (b : UInt8) (h0 : 0 ≤ y) : bits .or .u32 (y * 256 % 4294967296) ((b.toNat : Int) % 4294967296) = y * 256 % 4294967296 + (b.toNat : Int) := by
  have hb := byte_lt b
  rw [show (b.toNat : Int) % 4294967296 = (b.toNat : Int) by omega]
  exact bits_join .u32 32 (by decide) (fun n h0 h1 => by rw [IntKind.wrap_u32]; omega) 8 _ _ (by omega) (by omega) (by omega) (by omega) (by omega) (by omega)

/-- One byte more in the word. -/
theorem fill_step {rb : Nat → Int} (hbit : ∀ j, Bit (rb j)) {N q m : Nat} {y : Int} {t : ByteArray} (hm : m < 4) (ht : 0 < t.size) (h : RSt rb N q y (8 * m) t) :
    RSt rb N q (bits .or .u32 (y * 256 % 4294967296) ((t[0].toNat : Int) % 4294967296)) (8 * (m + 1)) (t.extract 1 t.size) := by
  obtain ⟨h1, h2, h3, h4, h5, h6⟩ := h
  have hb := byte_lt t[0]
  have hs : (t.extract 1 t.size).size = t.size - 1 := by rw [ByteArray.size_extract]; omega
  have hsp := num_split rb q (8 * m) 8
  have hb0 := h6 0 ht
  rw [bt_eq t 0 ht, Nat.mul_zero, Nat.add_zero] at hb0
  have hn0 := num_bd rb hbit q (8 * m)
  rw [or_byte y t[0] h3]
  refine ⟨by rw [hs]; omega, by omega, by omega, by omega, ?_, ?_⟩
  · rw [show 8 * (m + 1) = 8 * m + 8 by omega, hsp, ← hb0]
    have hb1 : (0 : Int) ≤ (t[0].toNat : Int) := by omega
    generalize (t[0].toNat : Int) = b at *
    generalize num rb q (8 * m) = A at *
    have p8 : (2 : Int) ^ 8 = 256 := by decide
    clear hsp h6 hb0
    obtain rfl | rfl | rfl | rfl : m = 0 ∨ m = 1 ∨ m = 2 ∨ m = 3 := by omega
    · rw [show (2 : Int) ^ (8 * 0) = 1 by decide] at h5 hn0
      rw [show (2 : Int) ^ (8 * 0 + 8) = 256 by decide]
      omega
    · rw [show (2 : Int) ^ (8 * 1) = 256 by decide] at h5 hn0
      rw [show (2 : Int) ^ (8 * 1 + 8) = 65536 by decide, p8]
      omega
    · rw [show (2 : Int) ^ (8 * 2) = 65536 by decide] at h5 hn0
      rw [show (2 : Int) ^ (8 * 2 + 8) = 16777216 by decide, p8]
      omega
    · rw [show (2 : Int) ^ (8 * 3) = 16777216 by decide] at h5 hn0
      rw [show (2 : Int) ^ (8 * 3 + 8) = 4294967296 by decide, p8]
      omega
  · intro j hj
    rw [bt_tail, h6 (j + 1) (by omega)]
    congr 1
    omega

theorem fill_round {rb : Nat → Int} (hbit : ∀ j, Bit (rb j)) {B N q m : Nat} {y : Int} {t s : ByteArray} {w wr : World} (hm : m < 4) (ht : 0 < t.size) (hst : RSt rb N q y (8 * m) t) (hwr : Rd wr B y (8 * m) t) (honly : Only B w wr) :
    (∃ (m' : Nat) (y' : Int) (t' : ByteArray), m' ≤ 4 ∧ Hid (RSt rb N q y' (8 * m') t') ∧ Hid (Rd (((wr.setCell ⟨B, 0, none⟩ (.int .u32 (bits .or .u32 (y * 256 % 4294967296) ((t[0].toNat : Int) % 4294967296)))).setCell ⟨B, 1, none⟩ (.int .i64 (8 * (m : Int) + 8))).setCell ⟨B, 2, none⟩ (.string (t.extract 1 t.size))).drew B y' (8 * m') t') ∧ Hid (m' = 0 → t'.size = s.size) ∧
      Hid (Only B w (((wr.setCell ⟨B, 0, none⟩ (.int .u32 (bits .or .u32 (y * 256 % 4294967296) ((t[0].toNat : Int) % 4294967296)))).setCell ⟨B, 1, none⟩ (.int .i64 (8 * (m : Int) + 8))).setCell ⟨B, 2, none⟩ (.string (t.extract 1 t.size))).drew)) ∧
    strLen (((((wr.setCell ⟨B, 0, none⟩ (.int .u32 (bits .or .u32 (y * 256 % 4294967296) ((t[0].toNat : Int) % 4294967296)))).setCell ⟨B, 1, none⟩ (.int .i64 (8 * (m : Int) + 8))).setCell ⟨B, 2, none⟩ (.string (t.extract 1 t.size))).drew.cell? ⟨B, 2, none⟩).getD (.int .i64 0)) < strLen ((wr.cell? ⟨B, 2, none⟩).getD (.int .i64 0)) := by
  have h3 := (((hwr.set0 (y := bits .or .u32 (y * 256 % 4294967296) ((t[0].toNat : Int) % 4294967296))).set1 (y := 8 * (m : Int) + 8)).set2 (t := t.extract 1 t.size)).drew
  refine ⟨⟨m + 1, _, _, by omega, fill_step hbit hm ht hst, ?_, fun h => by omega, (((honly.setCell 0 _).setCell 1 _).setCell 2 _).drew⟩, ?_⟩
  · show Rd _ _ _ _ _
    rw [show (8 : Int) * ((m + 1 : Nat) : Int) = 8 * (m : Int) + 8 by omega]
    exact h3
  · rw [h3.cells.2.2.1, hwr.cells.2.2.1]
    have hs : (t.extract 1 t.size).size = t.size - 1 := by rw [ByteArray.size_extract]; omega
    simp only [Option.getD_some, strLen]
    omega

set_option maxRecDepth 100000 in
set_option maxHeartbeats 3200000 in
theorem fill_any (rb : Nat → Int) (hbit : ∀ j, Bit (rb j)) (B N q : Nat) (x : Int) (s : ByteArray) (w : World) (hN : N ≤ 100000000) (hst : RSt rb N q x 0 s) (hw : Rd w B x 0 s) :
    Calls Tryz.prog 138 #[.pointer (some ⟨B, 0, none⟩)] w fun e w' => e = .returned (.tuple #[]) ∧ (∃ (x' : Int) (l' : Nat) (s' : ByteArray), RSt rb N q x' l' s' ∧ Rd w' B x' l' s' ∧ (0 < s.size → 0 < l')) ∧ Only B w w' := by
  have HB := hid hbit
  have HS := hid hst
  have HW := hid hw
  clear hbit hst hw
  go_enter Tryz.func138, Tryz.ntmps138
  go_wp2
  go_loopw [2] (fun _ wr => ∃ (m : Nat) (y : Int) (t : ByteArray), m ≤ 4 ∧ Hid (RSt rb N q y (8 * m) t) ∧ Hid (Rd wr B y (8 * m) t) ∧ Hid (m = 0 → t.size = s.size) ∧ Hid (Only B w wr)) (fun _ wr => strLen ((wr.cell? ⟨B, 2, none⟩).getD (.int .i64 0)))
  case atStart => exact ⟨0, x, s, by decide, HS.out, HW.out, fun _ => rfl, Only.refl _ _⟩
  case round =>
    obtain ⟨m, y, t, hm, hst, hwr, hms, honly⟩ := hrel
    obtain ⟨c0, c1, c2, f0, f1, f2⟩ := hwr.out.cells
    by_cases hgo : m < 4 ∧ 0 < t.size
    · obtain ⟨hm4, hts⟩ := hgo
      have hlt : (8 * (m : Int)) < 32 := by omega
      have hne := some_bytes hts
      have ht1 : (0 : Int) < (t.size : Int) := by omega
      go_wp2
      go_region
      all_goals
        go_wp2
        exact fill_round HB.out hm4 hts hst.out hwr.out honly.out
    · have hend : (∃ (x' : Int) (l' : Nat) (s' : ByteArray), RSt rb N q x' l' s' ∧ Rd wr B x' l' s' ∧ (0 < s.size → 0 < l')) := by
        refine ⟨y, 8 * m, t, hst.out, by have := hwr.out; rw [show ((8 * m : Nat) : Int) = 8 * (m : Int) by omega]; exact this, fun hs => ?_⟩
        by_cases h0 : m = 0
        · have := hms.out h0
          exfalso
          apply hgo
          omega
        · omega
      have HE := hid hend
      clear hend
      by_cases hm4 : m = 4
      · subst hm4
        clear hgo
        go_wp2
        go_end0
        exact ⟨rfl, HE.out, honly.out⟩
      · have hts : t.size = 0 := by
          by_cases h : t.size = 0
          · exact h
          · exfalso
            apply hgo
            omega
        have hlt : (8 * (m : Int)) < 32 := by omega
        have hne := no_bytes hts
        clear hgo hts
        go_wp2
        go_end0
        exact ⟨rfl, HE.out, honly.out⟩
end Go.Proofs.YtnnakmgngkpghaaGreat

/- Contracts of the reader's next and all. -/
namespace Go.Proofs.YtnnakmgngkpghaaGreat
open Go.RowKit
set_option linter.unusedVariables false

theorem split_bit (x p c R : Int) (hp : 0 < p) (hc : Bit c) (h0 : 0 ≤ R) (h1 : R < p) (h : x % (2 * p) = c * p + R) : x / p % 2 = c ∧ x % p = R := by
  have hk := Int.emod_add_mul_ediv x (2 * p)
  rw [h] at hk
  have e : x = R + p * (2 * (x / (2 * p)) + c) := by
    rw [Int.mul_add, ← Int.mul_assoc, Int.mul_comm p 2, Int.mul_comm p c]
    omega
  generalize x / (2 * p) = k at *
  have e1 : x / p = 2 * k + c := by
    rw [e, Int.add_mul_ediv_left _ _ (by omega), Int.ediv_eq_zero_of_lt h0 h1]
    omega
  have e2 : x % p = R := by
    rw [e, Int.add_mul_emod_self_left, Int.emod_eq_of_lt h0 h1]
  refine ⟨?_, e2⟩
  rw [e1]
  rcases hc with hc | hc <;> rw [hc] <;> omega

theorem next_step {rb : Nat → Int} (hbit : ∀ j, Bit (rb j)) {N q l : Nat} {x : Int} {s : ByteArray} (h : RSt rb N q x (l + 1) s) : RSt rb N (q + 1) x l s ∧ x / 2 ^ l % 2 = rb q := by
  obtain ⟨h1, h2, h3, h4, h5, h6⟩ := h
  have hsp := num_split rb q 1 l
  have e1 : num rb q 1 = rb q := by rw [num, num]; simp
  rw [e1, show 1 + l = l + 1 by omega] at hsp
  have hR := num_bd rb hbit (q + 1) l
  have e : (2 : Int) ^ (l + 1) = 2 * 2 ^ l := by rw [Int.pow_succ]; omega
  rw [hsp, e] at h5
  have hs := split_bit x (2 ^ l) (rb q) _ (Int.pow_pos (by decide)) (hbit q) hR.1 hR.2 h5
  refine ⟨⟨by omega, by omega, h3, h4, hs.2, fun j hj => ?_⟩, hs.1⟩
  rw [h6 j hj]
  congr 1
  omega

theorem and_one (x : Int) (l : Nat) (b : Int) (h0 : 0 ≤ x) (h1 : x < 4294967296) (h : x / 2 ^ l % 2 = b) : wrap64 (bits .and .u32 (x / 2 ^ l) 1) = b := by
  have hp : (0 : Int) < 2 ^ l := Int.pow_pos (by decide)
  have d0 : 0 ≤ x / 2 ^ l := Int.ediv_nonneg h0 (by omega)
  have d1 : x / 2 ^ l ≤ x := Int.ediv_le_self _ h0
  have hm := bits_mask .u32 32 (by decide) (fun n h0 h1 => by rw [IntKind.wrap_u32]; omega) 1 (by decide) (x / 2 ^ l) d0 (by omega)
  have e1 : (2 : Int) ^ 1 - 1 = 1 := by decide
  have e2 : (2 : Int) ^ 1 = 2 := by decide
  rw [e1, e2, h] at hm
  rw [hm, w64 (by omega) (by omega)]

set_option maxHeartbeats 800000 in
theorem next_some (rb : Nat → Int) (hbit : ∀ j, Bit (rb j)) (B N q l : Nat) (x : Int) (s : ByteArray) (w : World) (hst : RSt rb N q x (l + 1) s) (hw : Rd w B x ((l : Int) + 1) s) :
    Calls Tryz.prog 137 #[.pointer (some ⟨B, 0, none⟩)] w fun e w' => e = .returned (.int .i64 (rb q)) ∧ Rd w' B x l s ∧ Only B w w' := by
  obtain ⟨c0, c1, c2, f0, f1, f2⟩ := hw.cells
  have hq : ((l : Int) + 1 == 0) = false := by simp; omega
  have h32 : l + 1 ≤ 32 := hst.2.1
  have x0 := hst.2.2.1
  have x1 := hst.2.2.2.1
  have HV := hid (next_step hbit hst).2
  have HW := hid hw
  clear hst hw hbit
  go_enter Tryz.func137, Tryz.ntmps137
  go_wp2
  go_quiet (fail)
  go_wp2
  go_ret
  exact ⟨ret_int (and_one x l _ x0 x1 HV.out), HW.out.set1, ((Only.refl _ _).setCell 1 _).drewN _⟩

set_option maxHeartbeats 800000 in
theorem next_none (rb : Nat → Int) (hbit : ∀ j, Bit (rb j)) (B N q : Nat) (x : Int) (s : ByteArray) (w : World) (hN : N ≤ 100000000) (hpos : 0 < s.size) (hst : RSt rb N q x 0 s) (hw : Rd w B x 0 s) :
    Calls Tryz.prog 137 #[.pointer (some ⟨B, 0, none⟩)] w fun e w' => e = .returned (.int .i64 (rb q)) ∧ (∃ (x' : Int) (l' : Nat) (s' : ByteArray), RSt rb N (q + 1) x' l' s' ∧ Rd w' B x' l' s') ∧ Only B w w' := by
  obtain ⟨c0, c1, c2, f0, f1, f2⟩ := hw.cells
  have HF := hid (fill_any rb hbit B N q x s w hN hst hw)
  have HB := hid hbit
  clear hst hw hbit
  go_enter Tryz.func137, Tryz.ntmps137
  go_wp2_with fail
  refine HF.out.mono ?_
  rintro e w1 ⟨rfl, ⟨y, l, t, hst1, hw1, hl⟩, ho1⟩
  obtain ⟨l, rfl⟩ : ∃ k, l = k + 1 := ⟨l - 1, by have := hl hpos; omega⟩
  have h32 : l + 1 ≤ 32 := hst1.2.1
  have y0 := hst1.2.2.1
  have y1 := hst1.2.2.2.1
  have HS := hid (next_step HB.out hst1)
  rw [show ((l + 1 : Nat) : Int) = (l : Int) + 1 by omega] at hw1
  have HW := hid hw1
  obtain ⟨d0, d1, d2, g0, g1, g2⟩ := hw1.cells
  clear hst1 hw1 hl c0 c1 c2 f0 f1 f2
  go_wp2
  go_quiet (fail)
  go_wp2
  go_ret
  exact ⟨ret_int (and_one y l _ y0 y1 HS.out.2), ⟨y, l, t, HS.out.1, HW.out.set1⟩, (ho1.setCell 1 _).drewN _⟩

/-- Behind q of N bits. -/
def RInv (rb : Nat → Int) (w : World) (B N q : Nat) : Prop := ∃ (x : Int) (l : Nat) (s : ByteArray), RSt rb N q x l s ∧ Rd w B x l s

theorem next_any (rb : Nat → Int) (hbit : ∀ j, Bit (rb j)) (B N q : Nat) (w : World) (hN : N ≤ 100000000) (hq : q < N) (hi : RInv rb w B N q) :
    Calls Tryz.prog 137 #[.pointer (some ⟨B, 0, none⟩)] w fun e w' => e = .returned (.int .i64 (rb q)) ∧ RInv rb w' B N (q + 1) ∧ Only B w w' := by
  obtain ⟨x, l, s, hst, hw⟩ := hi
  by_cases h0 : l = 0
  · subst h0
    exact next_none rb hbit B N q x s w hN (by have := hst.1; omega) hst hw
  · obtain ⟨k, rfl⟩ : ∃ k, l = k + 1 := ⟨l - 1, by omega⟩
    rw [show ((k + 1 : Nat) : Int) = (k : Int) + 1 by omega] at hw
    refine (next_some rb hbit B N q k x s w hst hw).mono ?_
    rintro e w' ⟨rfl, hw', ho⟩
    exact ⟨rfl, ⟨x, k, s, (next_step hbit hst).1, hw'⟩, ho⟩

/-- The first k bits. -/
def bl (rb : Nat → Int) : Nat → List Int
  | 0 => []
  | k + 1 => bl rb k ++ [rb k]
theorem bl_length (rb : Nat → Int) : ∀ k, (bl rb k).length = k
  | 0 => rfl
  | k + 1 => by simp [bl, bl_length rb k]
theorem bl_get (rb : Nat → Int) : ∀ k j, j < k → (bl rb k).getD j 0 = rb j
  | k + 1, j, h => by
    have hl := bl_length rb k
    by_cases e : j = k
    · subst e
      simp [bl, List.getD, hl]
    · have := bl_get rb k j (by omega)
      simp only [bl, List.getD] at this ⊢
      rw [List.getElem?_append_left (by omega)]
      exact this

set_option maxHeartbeats 1600000 in
theorem all_any (rb : Nat → Int) (hbit : ∀ j, Bit (rb j)) (B N : Nat) (x : Int) (l : Nat) (s : ByteArray) (w : World) (hN : N ≤ 100000000) (hst : RSt rb N 0 x l s) (hw : Rd w B x l s) :
    Calls Tryz.prog 136 #[.pointer (some ⟨B, 0, none⟩)] w fun e w' => ∃ v, e = .returned v ∧ Own w' (B + 1) 3 .i64 v (bl rb N) ∧ Below B w w' := by
  obtain ⟨c0, c1, c2, f0, f1, f2⟩ := hw.cells
  have hBlt : B + 1 ≤ w.heap.size := lt_of_block hw
  have hNl : (l : Int) + 8 * (s.size : Int) = (N : Int) := by have := hst.1; omega
  have hl32 := hst.2.1
  have HI := hid (show RInv rb w B N 0 from ⟨x, l, s, hst, hw⟩)
  have HB := hid hbit
  have HN := hid hNl
  have w8 : IntKind.i64.wrap (8 * (s.size : Int)) = 8 * (s.size : Int) := by rw [IntKind.wrap_i64]; omega
  have w9 : IntKind.i64.wrap ((l : Int) + 8 * (s.size : Int)) = (N : Int) := by rw [IntKind.wrap_i64]; omega
  clear hst hw hbit hNl
  go_enter Tryz.func136, Tryz.ntmps136
  go_wp2
  go_quiet (fail)
  clear w8 w9 c0 c1 c2 f0 f1 f2
  go_wp2_with (at_make; refine wpList_mkn (w.drewN nq) rfl _ _ 22 rfl (B + 1) 3 .i64 8 Tryz.underlying22 Tryz.info3 _ _ N rfl rfl (by omega) (by decide) hBlt ?_)
  intro w0 hown0 hb0
  have HO := hid hown0
  clear hown0
  go_wp2
  go_loopw [21] (fun i wr => ∃ (k : Nat) (ys : List Int), k ≤ N ∧ i = .int .i64 k ∧ Hid (RInv rb wr B N k) ∧ Own wr (B + 1) 3 .i64 (.slice (some ⟨w.heap.size, 0, none⟩) N N) ys ∧ Hid (ys.length = N ∧ ∀ j, j < k → ys.getD j 0 = rb j) ∧ Hid (Below B w wr)) (fun i _ => N - (intOf i).toNat)
  case atStart =>
    refine ⟨0, _, by omega, rfl, ?_, HO.out, ⟨by simp, fun j hj => by omega⟩, ?_⟩
    · obtain ⟨x, l, s, h1, h2⟩ := HI.out
      exact ⟨x, l, s, h1, (hb0.block B (by omega)).trans h2⟩
    · exact (belowN (Below.refl _ _) nq).trans (hb0.mono (by omega))
  case round =>
    obtain ⟨k, ys, hk, rfl, hinv, hown, hys, hb⟩ := hrel
    clear hb0
    by_cases hlt : k < N
    · go_wp2_with fail
      refine (next_any rb HB.out B N k _ hN hlt hinv.out).mono ?_
      rintro e w1 ⟨rfl, hinv1, ho1⟩
      have hown1 := Only.own hown ho1 (by omega)
      have HI1 := hid hinv1
      have HO1 := hid ho1
      have hold := hown1.at k (by have := hys.out.1; omega)
      have hfree := hown1.free k
      have HNEW := hid (hown1.store k (rb k))
      generalize ys.getD k 0 = Y at *
      clear hinv1 ho1 hown
      have HOWN1 := hid hown1
      clear hown1
      go_wp2
      go_roundw
      case rel =>
        refine ⟨k + 1, _, by omega, by go_num, ?_, HNEW.out, ⟨by simp; exact hys.out.1, fun j hj => ?_⟩, ?_⟩
        · obtain ⟨x, l, s, h1, h2⟩ := HI1.out
          exact ⟨x, l, s, h1, (Below.heap_setCell _ _ _ _ (by show B ≠ w.heap.size; omega)).trans h2⟩
        · by_cases e : j = k
          · subst e
            simp [List.getD, hys.out.1, hlt]
          · rw [← hys.out.2 j (by omega)]
            simp [List.getD, show k ≠ j from fun h => e h.symm]
        · exact (hb.out.trans HO1.out.below).setCell (p := ⟨w.heap.size, k, none⟩) (by show B ≤ w.heap.size; omega) _
      case measure => simp [intOf]; omega
    · obtain rfl : k = N := by omega
      have hxy : ys = bl rb k := list_eq_of_getD (by rw [hys.out.1, bl_length]) (fun i hi => by rw [hys.out.2 i (by rw [← hys.out.1]; exact hi), bl_get rb k i (by rw [← hys.out.1]; exact hi)])
      subst hxy
      go_wp2
      go_ret
      exact ⟨_, rfl, hown, hb.out⟩
end Go.Proofs.YtnnakmgngkpghaaGreat

/- Contracts of the marks and of the power; plain facts. -/
namespace Go.Proofs.YtnnakmgngkpghaaGreat
open Go.RowKit
set_option linter.unusedVariables false

theorem Own.lower {k : IntKind} {w : World} {base base' : Nat} {e : TypeId} {v : Value} {xs : List Int} (h : Own w base e k v xs) (hb : base' ≤ base) : Own w base' e k v xs := by
  refine ⟨Nat.le_trans hb h.1, h.2.1, ?_⟩
  rcases h.2.2 with h0 | ⟨g, cap, cur, hv, hg, r⟩
  · exact .inl h0
  · exact .inr ⟨g, cap, cur, hv, Nat.le_trans hb hg, r⟩

/-- The bits of a text. -/
def rbS (s : ByteArray) (j : Nat) : Int := bt s (j / 8) / 2 ^ (7 - j % 8) % 2

theorem rbS_bit (s : ByteArray) (j : Nat) : Bit (rbS s j) := by unfold rbS Bit; omega

theorem rbS_at (s : ByteArray) (j t : Nat) (h : t < 8) : rbS s (8 * j + t) = bt s j / 2 ^ (7 - t) % 2 := by
  unfold rbS
  rw [show (8 * j + t) / 8 = j by omega, show (8 * j + t) % 8 = t by omega]

theorem rbS_byte (s : ByteArray) (j : Nat) : num (rbS s) (8 * j) 8 = bt s j := by
  have h0 := bt_nonneg s j
  have h1 := bt_lt s j
  simp only [num]
  rw [rbS_at s j 0 (by decide), rbS_at s j 1 (by decide), rbS_at s j 2 (by decide), rbS_at s j 3 (by decide), rbS_at s j 4 (by decide), rbS_at s j 5 (by decide), rbS_at s j 6 (by decide), rbS_at s j 7 (by decide)]
  generalize bt s j = X at *
  rw [show (2 : Int) ^ (7 - 0) = 128 by decide, show (2 : Int) ^ (7 - 1) = 64 by decide, show (2 : Int) ^ (7 - 2) = 32 by decide, show (2 : Int) ^ (7 - 3) = 16 by decide, show (2 : Int) ^ (7 - 4) = 8 by decide, show (2 : Int) ^ (7 - 5) = 4 by decide, show (2 : Int) ^ (7 - 6) = 2 by decide, show (2 : Int) ^ (7 - 7) = 1 by decide]
  omega

theorem start_text (s : ByteArray) : RSt (rbS s) (8 * s.size) 0 0 0 s :=
  ⟨by omega, by decide, by decide, by decide, by simp [num], fun j hj => by rw [show 0 + 0 + 8 * j = 8 * j by omega, rbS_byte]⟩

theorem bl_step (s : ByteArray) (k t : Nat) (h : t < 8) (hk : k < s.size) : bl (rbS s) (8 * k + (t + 1)) = bl (rbS s) (8 * k + t) ++ [(s[k].toNat : Int) / 2 ^ (7 - t) % 2] := by
  rw [← Nat.add_assoc, bl, rbS_at s k t h, bt_eq s k hk]

/-- What stands at the inner loop's head behind t rounds. -/
def half (t : Nat) : Int := if t < 8 then 2 ^ (7 - t) else 0

/-- The marks 1, 2, ... -/
def marks (n : Nat) : List Int := (List.range n).map fun (i : Nat) => (i : Int) + 1

theorem marks_length (n : Nat) : (marks n).length = n := by simp [marks]

theorem marks_get (n j : Nat) (h : j < n) : (marks n).getD j 0 = (j : Int) + 1 := by simp [marks, List.getD, h]

set_option maxHeartbeats 800000 in
/-- The marks are written into the slice, and nowhere else. -/
theorem mark_any (base : Nat) (v : Value) (ys : List Int) (w : World) (hn : ys.length ≤ 1000000000) (ho : Own w base 3 .i64 v ys) :
    Calls Tryz.prog 52 #[v, .int .i64 1] w fun e w' => e = .returned (.int .i64 ((ys.length : Int) + 1)) ∧ Own w' base 3 .i64 v (marks ys.length) ∧ Below base w w' := by
  rcases ho.2.2 with ⟨rfl, h0⟩ | ⟨g, cap, cur, rfl, _⟩
  · have e : ys = [] := List.length_eq_zero_iff.1 h0
    subst e
    have HO := hid ho
    clear ho
    go_enter Tryz.func52, Tryz.ntmps52
    go_wp2
    go_loop [1, 5] (fun m i => m = .int .i64 1 ∧ i = .int .i64 0) (fun _ _ => 0)
    case atStart => exact ⟨rfl, rfl⟩
    case round =>
      obtain ⟨rfl, rfl⟩ := hrel
      go_wp2
      go_ret
      exact ⟨rfl, HO.out, Below.refl _ _⟩
  · have HO := hid ho
    have hge := ho.ge.1
    generalize hN : ys.length = n at *
    have HN := hid hN
    clear ho hN
    go_enter Tryz.func52, Tryz.ntmps52
    go_wp2
    go_loopw [1, 5] (fun m i wr => ∃ (k : Nat) (zs : List Int), k ≤ n ∧ i = .int .i64 k ∧ m = .int .i64 ((k : Int) + 1) ∧ Own wr base 3 .i64 (.slice (some ⟨g, 0, none⟩) n cap) zs ∧ Hid (zs.length = n ∧ ∀ j, j < k → zs.getD j 0 = (j : Int) + 1) ∧ Below base w wr) (fun _ i _ => n - (intOf i).toNat)
    case atStart => exact ⟨0, ys, by omega, rfl, rfl, HO.out, ⟨HN.out, fun j hj => by omega⟩, Below.refl _ _⟩
    case round =>
      obtain ⟨k, zs, hk, rfl, rfl, hown, hzs, hb⟩ := hrel
      by_cases hlt : k < n
      · have hold := hown.at k (by have := hzs.out.1; omega)
        have hfree := hown.free k
        have HNEW := hid (hown.store k ((k : Int) + 1))
        generalize zs.getD k 0 = Y at *
        go_wp2
        go_roundw
        case rel =>
          refine ⟨k + 1, _, by omega, by go_num, by go_num, HNEW.out, ⟨by simp; exact hzs.out.1, fun j hj => ?_⟩, hb.setCell (p := ⟨g, k, none⟩) hge _⟩
          by_cases e : j = k
          · subst e
            simp [List.getD, hzs.out.1, hlt]
          · rw [← hzs.out.2 j (by omega)]
            simp [List.getD, show k ≠ j from fun h => e h.symm]
        case measure => simp [intOf]; omega
      · obtain rfl : k = n := by omega
        have hxy : zs = marks k := list_eq_of_getD (by rw [hzs.out.1, marks_length]) (fun i hi => by rw [hzs.out.2 i (by rw [← hzs.out.1]; exact hi), marks_get k i (by rw [← hzs.out.1]; exact hi)])
        subst hxy
        go_wp2
        go_ret
        exact ⟨rfl, hown, hb⟩

set_option maxHeartbeats 800000 in
theorem held_any (ao : Option Addr) (n cap : Nat) (w : World) (hn : n ≤ 1000000000) (hv : View .i64 w ao n (marks n)) :
    Calls Tryz.prog 54 #[.slice ao n cap, .int .i64 1] w fun e w' => e = .returned (.int .i64 ((n : Int) + 1)) ∧ w = w' := by
  have HV := hid hv
  clear hv
  go_enter Tryz.func54, Tryz.ntmps54
  go_wp2
  go_loop [1, 5] (fun m i => ∃ k : Nat, k ≤ n ∧ i = .int .i64 k ∧ m = .int .i64 ((k : Int) + 1)) (fun _ i => n - (intOf i).toNat)
  case atStart => exact ⟨0, by omega, rfl, rfl⟩
  case round =>
    obtain ⟨k, hk, rfl, rfl⟩ := hrel
    by_cases hlt : k < n
    · obtain ⟨b, off, rfl, hc⟩ := HV.out.2 k hlt
      rw [marks_get n k hlt] at hc
      go_wp2
      go_round
      case rel => exact ⟨k + 1, by omega, by go_num, by go_num⟩
      case measure => simp [intOf]; omega
    · obtain rfl : k = n := by omega
      go_wp2
      go_ret
      exact ⟨rfl, rfl⟩

set_option maxHeartbeats 800000 in
theorem pow2_any (k : Nat) (w : World) (hk : k ≤ 32) : Calls Tryz.prog 89 #[.int .i64 k] w fun e w' => e = .returned (.int .i64 (2 ^ k)) ∧ w = w' := by
  go_enter Tryz.func89, Tryz.ntmps89
  go_wp2
  go_loop [3, 4] (fun n i => ∃ j : Nat, j ≤ k ∧ i = .int .i64 j ∧ n = .int .i64 (2 ^ j)) (fun _ i => k - (intOf i).toNat)
  case atStart => exact ⟨0, by omega, rfl, rfl⟩
  case round =>
    obtain ⟨j, hj, rfl, rfl⟩ := hrel
    by_cases hlt : j < k
    · have hst : Hid ((2 : Int) ^ (j + 1) = 2 * 2 ^ j) := by show _ = _; rw [Int.pow_succ]; omega
      have p0 : (0 : Int) < 2 ^ j := Int.pow_pos (by decide)
      have p1 : (2 : Int) ^ j ≤ 4294967296 := by
        have h := pow2_mono j (32 - j)
        rw [show j + (32 - j) = 32 by omega] at h
        exact h
      generalize (2 : Int) ^ j = P at *
      go_wp2
      go_round
      case rel => exact ⟨j + 1, by omega, by go_num, val_int hst.out.symm⟩
      case measure => simp [intOf]; omega
    · obtain rfl : j = k := by omega
      generalize hP : (2 : Int) ^ j = P at *
      have HP := hid hP
      clear hP
      go_wp2
      go_ret
      exact ⟨ret_int HP.out.symm, rfl⟩

end Go.Proofs.YtnnakmgngkpghaaGreat

/- Contracts of Size, of the program and of the specification. -/
namespace Go.Proofs.YtnnakmgngkpghaaGreat
open Go.RowKit Go.Shelf
set_option linter.unusedVariables false

def Tryz.laysLen_ren : Go.Shelf.Ren := { f := fun x => match x with | 125 => 127 | 128 => 134 | 129 => 135 | n => n, t := fun x => match x with | 46 => 169 | 3 => 3 | 51 => 127 | 53 => 181 | 4 => 4 | 5 => 5 | 9 => 9 | n => n, g := fun n => n }
theorem Tryz.laysLen : Lays.n125 Tryz.prog Tryz.laysLen_ren := {
  mixed := by kernel_rfl
  f125 := Tryz.func127.trans (by kernel_rfl)
  f128 := Tryz.func134.trans (by kernel_rfl)
  f129 := Tryz.func135.trans (by kernel_rfl)
  t3 := Tryz.underlying3
  a3 := Tryz.isAgg3
  z3 := Tryz.sizeOf3
  v3 := Tryz.zeroValue3
  t4 := Tryz.underlying4
  a4 := Tryz.isAgg4
  z4 := Tryz.sizeOf4
  v4 := Tryz.zeroValue4
  t5 := Tryz.underlying5
  a5 := Tryz.isAgg5
  z5 := Tryz.sizeOf5
  v5 := Tryz.zeroValue5
  t9 := Tryz.underlying9
  a9 := Tryz.isAgg9
  z9 := Tryz.sizeOf9
  v9 := Tryz.zeroValue9
  t46 := Tryz.underlying169
  a46 := Tryz.isAgg169
  z46 := Tryz.sizeOf169
  v46 := Tryz.zeroValue169
  t51 := Tryz.underlying127
  a51 := Tryz.isAgg127
  z51 := Tryz.sizeOf127
  v51 := Tryz.zeroValue127
  t53 := Tryz.underlying181
  a53 := Tryz.isAgg181
  z53 := Tryz.sizeOf181
  v53 := Tryz.zeroValue181 }

/-- The size of a number. -/
def sz (x : Int) : Int := if -2047 ≤ x ∧ x ≤ 2047 then (Lib.bitLen x.natAbs : Int) else -1
theorem bitLen_all : ∀ m : Fin 2048, ∀ c : Fin 12, (2 ^ c.val ≤ m.val ↔ c.val < Lib.bitLen m.val) ∧ Lib.bitLen m.val ≤ 11 := by decide +kernel
theorem bitLen_at (m c : Nat) (hm : m ≤ 2047) (hc : c ≤ 11) : (2 ^ c ≤ m ↔ c < Lib.bitLen m) ∧ Lib.bitLen m ≤ 11 := bitLen_all ⟨m, by omega⟩ ⟨c, by omega⟩
theorem sz_in {x : Int} (h : -2047 ≤ x ∧ x ≤ 2047) : sz x = (Lib.bitLen x.natAbs : Int) := by unfold sz; rw [if_pos h]
theorem sz_out {x : Int} (h : ¬ (-2047 ≤ x ∧ x ≤ 2047)) : sz x = -1 := by unfold sz; rw [if_neg h]
theorem pow_cast (c : Nat) : ((2 ^ c : Nat) : Int) = 2 ^ c := by simp
theorem sz_le (x : Int) : -1 ≤ sz x ∧ sz x ≤ 11 := by
  unfold sz
  split
  · have := (bitLen_at x.natAbs 0 (by omega) (by omega)).2
    omega
  · omega

set_option maxHeartbeats 800000 in
theorem impl_size (x : Int) (w : World) (h0 : -9223372036854775808 ≤ x) (h1 : x ≤ 9223372036854775807) :
    Calls Tryz.prog 111 #[.int .i64 x] w fun e w' => e = .returned (.int .i64 (sz x)) ∧ w = w' := by
  by_cases a1 : x < -2047
  · have hs := hid (sz_out (x := x) (by omega))
    go_enter Tryz.func111, Tryz.ntmps111
    go_wp2_with fail
    go_ret
    exact ⟨ret_int hs.out.symm, rfl⟩
  · by_cases a2 : 2047 < x
    · have hs := hid (sz_out (x := x) (by omega))
      go_enter Tryz.func111, Tryz.ntmps111
      go_wp2_with fail
      go_ret
      exact ⟨ret_int hs.out.symm, rfl⟩
    · have hs := hid (sz_in (x := x) (by omega))
      by_cases a3 : x < 0
      · obtain ⟨m, rfl⟩ : ∃ m : Nat, x = -(m : Int) := ⟨x.natAbs, by omega⟩
        have hl := (bitLen_at m 0 (by omega) (by omega)).2
        have HL : Hid (Calls Tryz.prog 127 #[.int .u64 (max (-(m : Int)) m)] w fun e w' => e = .returned (.int .i64 (Lib.bitLen m)) ∧ w' = w) := hid (by
          rw [show max (-(m : Int)) m = m by omega]
          exact Any.bits_Len Tryz.laysLen (m : Int) w (by omega) (by omega))
        rw [show (-(m : Int)).natAbs = m by omega] at hs
        go_enter Tryz.func111, Tryz.ntmps111
        go_wp2_with fail
        refine HL.out.mono ?_
        rintro e w1 ⟨rfl, rfl⟩
        go_wp2
        go_ret
        exact ⟨ret_int hs.out.symm, rfl⟩
      · obtain ⟨m, rfl⟩ := Int.eq_ofNat_of_zero_le (show 0 ≤ x by omega)
        have hl := (bitLen_at m 0 (by omega) (by omega)).2
        have HL : Hid (Calls Tryz.prog 127 #[.int .u64 (max (m : Int) (-m))] w fun e w' => e = .returned (.int .i64 (Lib.bitLen m)) ∧ w' = w) := hid (by
          rw [show max (m : Int) (-m) = m by omega]
          exact Any.bits_Len Tryz.laysLen (m : Int) w (by omega) (by omega))
        rw [show ((m : Int)).natAbs = m by omega] at hs
        go_enter Tryz.func111, Tryz.ntmps111
        go_wp2_with fail
        refine HL.out.mono ?_
        rintro e w1 ⟨rfl, rfl⟩
        go_wp2
        go_ret
        exact ⟨ret_int hs.out.symm, rfl⟩

set_option maxHeartbeats 800000 in
theorem spec_size (x : Int) (w : World) (h0 : -9223372036854775808 ≤ x) (h1 : x ≤ 9223372036854775807) :
    Calls Tryz.prog 72 #[.int .i64 x] w fun e w' => e = .returned (.int .i64 (sz x)) ∧ w = w' := by
  by_cases a : -2047 ≤ x ∧ x ≤ 2047
  · have hs := hid (sz_in (x := x) a)
    have hd : decide (-2047 ≤ x ∧ x ≤ 2047) = true := by simpa using a
    obtain ⟨m, hm, hx⟩ : ∃ m : Nat, m ≤ 2047 ∧ x.natAbs = m := ⟨x.natAbs, by omega, rfl⟩
    rw [hx] at hs
    have HB := hid (fun c hc => bitLen_at m c hm hc)
    have hl : Lib.bitLen m ≤ 11 := (bitLen_at m 0 hm (by omega)).2
    have HS := hid (spec_in x (-2047) 2047 w)
    rw [hd] at HS
    clear a hd
    by_cases a3 : x < 0
    · have hneg : -x = (m : Int) := by omega
      clear hx
      go_enter Tryz.func72, Tryz.ntmps72
      go_wp2_with fail
      refine HS.out.mono ?_
      rintro e w1 ⟨rfl, rfl⟩
      go_wp2_with fail
      go_loop [3] (fun n => ∃ c : Nat, c ≤ Lib.bitLen m ∧ n = .int .i64 c) (fun n => Lib.bitLen m - (intOf n).toNat)
      case atStart => exact ⟨0, by omega, rfl⟩
      case round =>
        obtain ⟨c, hc, rfl⟩ := hrel
        have HP := hid (pow2_any c w (by omega))
        have hb := (HB.out c (by omega)).1
        have hcast := pow_cast c
        have p0 : (0 : Int) < 2 ^ c := Int.pow_pos (by decide)
        by_cases hlt : c < Lib.bitLen m
        · have hge : (2 : Int) ^ c ≤ m := by have := hb.2 hlt; exact_mod_cast this
          have hlt2 : c + 1 ≤ Lib.bitLen m := hlt
          clear hb hcast
          generalize (2 : Int) ^ c = P at *
          go_wp2_with fail
          refine HP.out.mono ?_
          rintro e w1 ⟨rfl, rfl⟩
          go_wp2_with fail
          go_round
          case rel => first | exact ⟨c + 1, by omega, by go_num⟩ | exact ⟨trivial, c + 1, by omega, by go_num⟩
          case measure => simp [intOf]; omega
        · have hge : (m : Int) < 2 ^ c := by
            have : m < 2 ^ c := Nat.lt_of_not_le fun h => hlt (hb.1 h)
            exact_mod_cast this
          obtain rfl : c = Lib.bitLen m := by omega
          clear hb hcast
          generalize (2 : Int) ^ Lib.bitLen m = P at *
          go_wp2_with fail
          refine HP.out.mono ?_
          rintro e w1 ⟨rfl, rfl⟩
          go_wp2_with fail
          go_ret
          exact ⟨ret_int hs.out.symm, rfl⟩
    · obtain rfl : x = (m : Int) := by omega
      clear hx
      go_enter Tryz.func72, Tryz.ntmps72
      go_wp2_with fail
      refine HS.out.mono ?_
      rintro e w1 ⟨rfl, rfl⟩
      go_wp2_with fail
      go_loop [3] (fun n => ∃ c : Nat, c ≤ Lib.bitLen m ∧ n = .int .i64 c) (fun n => Lib.bitLen m - (intOf n).toNat)
      case atStart => exact ⟨0, by omega, rfl⟩
      case round =>
        obtain ⟨c, hc, rfl⟩ := hrel
        have HP := hid (pow2_any c w (by omega))
        have hb := (HB.out c (by omega)).1
        have hcast := pow_cast c
        have p0 : (0 : Int) < 2 ^ c := Int.pow_pos (by decide)
        by_cases hlt : c < Lib.bitLen m
        · have hge : (2 : Int) ^ c ≤ m := by have := hb.2 hlt; exact_mod_cast this
          have hlt2 : c + 1 ≤ Lib.bitLen m := hlt
          clear hb hcast
          generalize (2 : Int) ^ c = P at *
          go_wp2_with fail
          refine HP.out.mono ?_
          rintro e w1 ⟨rfl, rfl⟩
          go_wp2_with fail
          go_round
          case rel => first | exact ⟨c + 1, by omega, by go_num⟩ | exact ⟨trivial, c + 1, by omega, by go_num⟩
          case measure => simp [intOf]; omega
        · have hge : (m : Int) < 2 ^ c := by
            have : m < 2 ^ c := Nat.lt_of_not_le fun h => hlt (hb.1 h)
            exact_mod_cast this
          obtain rfl : c = Lib.bitLen m := by omega
          clear hb hcast
          generalize (2 : Int) ^ Lib.bitLen m = P at *
          go_wp2_with fail
          refine HP.out.mono ?_
          rintro e w1 ⟨rfl, rfl⟩
          go_wp2_with fail
          go_ret
          exact ⟨ret_int hs.out.symm, rfl⟩
  · have hs := hid (sz_out a)
    have hd : decide (-2047 ≤ x ∧ x ≤ 2047) = false := by simpa using a
    have HS := hid (spec_in x (-2047) 2047 w)
    rw [hd] at HS
    clear a hd
    go_enter Tryz.func72, Tryz.ntmps72
    go_wp2_with fail
    refine HS.out.mono ?_
    rintro e w1 ⟨rfl, rfl⟩
    go_wp2_with fail
    go_ret
    exact ⟨ret_int hs.out.symm, rfl⟩

end Go.Proofs.YtnnakmgngkpghaaGreat

/- Contracts of NumBits, of the program and of the specification. -/
namespace Go.Proofs.YtnnakmgngkpghaaGreat
open Go.RowKit
set_option linter.unusedVariables false

/-- The n bits of a number. -/
def rbX (x : Int) (n j : Nat) : Int := x / 2 ^ (n - 1 - j) % 2
theorem rbX_bit (x : Int) (n j : Nat) : Bit (rbX x n j) := by unfold rbX Bit; omega
theorem pow_half (x : Int) (m : Nat) : x / 2 ^ (m + 1) = x / 2 ^ m / 2 := by
  rw [Int.pow_succ, Int.ediv_ediv_of_nonneg (Int.le_of_lt (Int.pow_pos (by decide)))]
theorem rbX_num (x : Int) (n : Nat) (h0 : 0 ≤ x) (h1 : x < 2 ^ n) : ∀ c, c ≤ n → num (rbX x n) 0 c = x / 2 ^ (n - c)
  | 0, _ => by rw [num, Nat.sub_zero, Int.ediv_eq_zero_of_lt h0 h1]
  | c + 1, h => by
    rw [num, rbX_num x n h0 h1 c (by omega), rbX, Nat.zero_add]
    rw [show n - c = (n - (c + 1)) + 1 by omega, show n - 1 - c = n - (c + 1) by omega, pow_half]
    omega

theorem start_num (x : Int) (n : Nat) (hn : n ≤ 32) (h0 : 0 ≤ x) (h1 : x < 2 ^ n) : RSt (rbX x n) n 0 x n ⟨#[]⟩ := by
  have hm := pow2_mono n (32 - n)
  rw [show n + (32 - n) = 32 by omega] at hm
  refine ⟨by show 0 + n + 8 * 0 = n; omega, hn, h0, by omega, ?_, fun j hj => by exact absurd hj (Nat.not_lt_zero j)⟩
  rw [rbX_num x n h0 h1 n (Nat.le_refl _), Nat.sub_self, Int.emod_eq_of_lt h0 h1]
  simp

set_option maxHeartbeats 1600000 in
theorem impl_numBits (x : Int) (n : Nat) (w : World) (hn : n ≤ 32) (h0 : 0 ≤ x) (h1 : x < 2 ^ n) :
    Calls Tryz.prog 128 #[.int .i64 x, .int .i64 n] w fun e w' => ∃ v, e = .returned v ∧ Own w' w.heap.size 3 .i64 v (bl (rbX x n) n) ∧ Below w.heap.size w w' := by
  have HA := hid (all_any (rbX x n) (rbX_bit x n) w.heap.size n x n ⟨#[]⟩ (w.alloc (.cells #[.int .u32 x, .int .i64 n, .string ⟨#[]⟩] 183)) (by omega) (start_num x n hn h0 h1) (heap_alloc_new w _))
  have hz : x / 2 ^ n = 0 := Int.ediv_eq_zero_of_lt h0 h1
  have hm := pow2_mono n (32 - n)
  rw [show n + (32 - n) = 32 by omega] at hm
  have hx32 : x < 4294967296 := by omega
  clear hm h1
  go_enter Tryz.func128, Tryz.ntmps128
  go_wp2_with fail
  refine HA.out.mono ?_
  rintro e w1 ⟨v, rfl, ho, hb⟩
  obtain ⟨ao, cap, rfl⟩ := ho.shape
  go_wp2
  go_ret
  exact ⟨_, rfl, ho.lower (by omega), ((Below.refl _ _).alloc (Nat.le_refl _) _).trans hb⟩

set_option maxHeartbeats 1600000 in
theorem impl_numBits_no (x n : Int) (w : World) (hb : n < 0 ∨ 32 < n ∨ x < 0 ∨ 2 ^ n.toNat ≤ x) :
    Calls Tryz.prog 128 #[.int .i64 x, .int .i64 n] w fun e w' => ∃ v, e = .returned v ∧ Own w' w.heap.size 3 .i64 v [] ∧ Below w.heap.size w w' := by
  by_cases a1 : n < 0
  · clear hb
    go_enter Tryz.func128, Tryz.ntmps128
    go_wp2
    go_ret
    exact ⟨_, rfl, Own.empty _ _ _ _ (Nat.le_refl _), (Below.refl _ _).alloc (Nat.le_refl _) _⟩
  · by_cases a2 : 32 < n
    · clear hb
      go_enter Tryz.func128, Tryz.ntmps128
      go_wp2
      go_ret
      exact ⟨_, rfl, Own.empty _ _ _ _ (Nat.le_refl _), (Below.refl _ _).alloc (Nat.le_refl _) _⟩
    · by_cases a3 : x < 0
      · clear hb
        go_enter Tryz.func128, Tryz.ntmps128
        go_wp2
        go_ret
        exact ⟨_, rfl, Own.empty _ _ _ _ (Nat.le_refl _), (Below.refl _ _).alloc (Nat.le_refl _) _⟩
      · obtain ⟨k, rfl⟩ := Int.eq_ofNat_of_zero_le (show 0 ≤ n by omega)
        have hge : 2 ^ k ≤ x := by
          rcases hb with h | h | h | h
          · omega
          · omega
          · omega
          · simpa using h
        have hz : (x / 2 ^ k != 0) = true := by
          have hp : (0 : Int) < 2 ^ k := Int.pow_pos (by decide)
          have : 1 ≤ x / 2 ^ k := (Int.le_ediv_iff_mul_le hp).2 (by omega)
          simp
          omega
        clear hb hge
        go_enter Tryz.func128, Tryz.ntmps128
        go_wp2
        go_ret
        exact ⟨_, rfl, Own.empty _ _ _ _ (Nat.le_refl _), (Below.refl _ _).alloc (Nat.le_refl _) _⟩

set_option maxHeartbeats 1600000 in
theorem spec_numBits_no (x n : Int) (w : World) (hb : n < 0 ∨ 32 < n ∨ x < 0 ∨ 2 ^ n.toNat ≤ x) :
    Calls Tryz.prog 90 #[.int .i64 x, .int .i64 n] w fun e w' => ∃ v, e = .returned v ∧ Own w' w.heap.size 3 .i64 v [] ∧ Below w.heap.size w w' := by
  by_cases a1 : 0 ≤ n ∧ n ≤ 32
  · obtain ⟨k, rfl⟩ := Int.eq_ofNat_of_zero_le a1.1
    have hk : k ≤ 32 := by omega
    have hd : decide ((0 : Int) ≤ (k : Int) ∧ (k : Int) ≤ 32) = true := by simp; omega
    have p0 : (0 : Int) < 2 ^ k := Int.pow_pos (by decide)
    have p1 : (2 : Int) ^ k ≤ 4294967296 := by
      have h := pow2_mono k (32 - k)
      rw [show k + (32 - k) = 32 by omega] at h
      exact h
    have hd2 : decide ((0 : Int) ≤ x ∧ x ≤ 2 ^ k - 1) = false := by
      rw [decide_eq_false_iff_not]
      intro h
      rcases hb with h2 | h2 | h2 | h2
      · omega
      · omega
      · omega
      · simp at h2
        omega
    have HP := hid (fun w => pow2_any k w hk)
    generalize hP : (2 : Int) ^ k = P at *
    clear hb a1 hP
    go_enter Tryz.func90, Tryz.ntmps90
    go_wp2_with fail
    refine (spec_in _ _ _ _).mono ?_
    rw [hd]
    rintro e w1 ⟨rfl, rfl⟩
    go_wp2_with fail
    refine (HP.out _).mono ?_
    rintro e w1 ⟨rfl, rfl⟩
    go_wp2_with fail
    refine (spec_in _ _ _ _).mono ?_
    rw [hd2]
    rintro e w1 ⟨rfl, rfl⟩
    go_wp2
    go_ret
    exact ⟨_, rfl, Own.empty _ _ _ _ (Nat.le_refl _), (Below.refl _ _).alloc (Nat.le_refl _) _⟩
  · have hd : decide ((0 : Int) ≤ n ∧ n ≤ 32) = false := by simpa using a1
    clear hb a1
    go_enter Tryz.func90, Tryz.ntmps90
    go_wp2_with fail
    refine (spec_in _ _ _ _).mono ?_
    rw [hd]
    rintro e w1 ⟨rfl, rfl⟩
    go_wp2
    go_ret
    exact ⟨_, rfl, Own.empty _ _ _ _ (Nat.le_refl _), (Below.refl _ _).alloc (Nat.le_refl _) _⟩

set_option maxHeartbeats 1600000 in
theorem spec_numBits (x : Int) (n : Nat) (w : World) (hn : n ≤ 32) (h0 : 0 ≤ x) (h1 : x < 2 ^ n) :
    Calls Tryz.prog 90 #[.int .i64 x, .int .i64 n] w fun e w' => ∃ v, e = .returned v ∧ Own w' w.heap.size 3 .i64 v (bl (rbX x n) n) ∧ Below w.heap.size w w' := by
  have hd : decide ((0 : Int) ≤ (n : Int) ∧ (n : Int) ≤ 32) = true := by simp; omega
  have p0 : (0 : Int) < 2 ^ n := Int.pow_pos (by decide)
  have p1 : (2 : Int) ^ n ≤ 4294967296 := by
    have h := pow2_mono n (32 - n)
    rw [show n + (32 - n) = 32 by omega] at h
    exact h
  have hx32 : x < 4294967296 := by omega
  have hd2 : decide ((0 : Int) ≤ x ∧ x ≤ 2 ^ n - 1) = true := by
    rw [decide_eq_true_iff]
    omega
  have HP := hid (fun w => pow2_any n w hn)
  generalize hP : (2 : Int) ^ n = P at *
  clear h1 hP
  go_enter Tryz.func90, Tryz.ntmps90
  go_wp2_with fail
  refine (spec_in _ _ _ _).mono ?_
  rw [hd]
  rintro e w1 ⟨rfl, rfl⟩
  go_wp2_with fail
  refine (HP.out _).mono ?_
  rintro e w1 ⟨rfl, rfl⟩
  go_wp2_with fail
  refine (spec_in _ _ _ _).mono ?_
  rw [hd2]
  rintro e w1 ⟨rfl, rfl⟩
  go_wp2
  go_loopw [5, 6] (fun v i wr => ∃ (c : Nat) (y : Int), c ≤ n ∧ i = .int .i64 y ∧ Hid (y = (n : Int) - 1 - c) ∧ Own wr w.heap.size 3 .i64 v (bl (rbX x n) c) ∧ Below w.heap.size w wr) (fun _ i _ => (intOf i + 1).toNat)
  case atStart => exact ⟨0, (n : Int) - 1, by omega, rfl, by show _ = _; omega, Own.empty _ _ _ _ (Nat.le_refl _), (Below.refl _ _).alloc (Nat.le_refl _) _⟩
  case round =>
    obtain ⟨c, y, hc, rfl, hy, hown, hb⟩ := hrel
    by_cases hlt : c < n
    · obtain ⟨q, hq⟩ : ∃ q : Nat, y = (q : Int) := ⟨n - 1 - c, by have := hy.out; omega⟩
      subst hq
      have hq32 : q ≤ 32 := by have := hy.out; omega
      have hst : Hid (bl (rbX x n) (c + 1) = bl (rbX x n) c ++ [x / 2 ^ q % 2]) := by
        show _ = _
        rw [bl, rbX, show n - 1 - c = q by have := hy.out; omega]
      have hlen := bl_length (rbX x n) c
      have q0 : (0 : Int) < 2 ^ q := Int.pow_pos (by decide)
      have q1 : (2 : Int) ^ q ≤ 4294967296 := by
        have h := pow2_mono q (32 - q)
        rw [show q + (32 - q) = 32 by omega] at h
        exact h
      have q2 : 0 ≤ x / 2 ^ q := Int.ediv_nonneg h0 (by omega)
      have q3 : x / 2 ^ q ≤ x := Int.ediv_le_self _ h0
      have HP2 := hid (fun w => pow2_any q w hq32)
      generalize hP : (2 : Int) ^ q = P2 at *
      have q4 : x.tdiv P2 = x / P2 := Int.tdiv_eq_ediv_of_nonneg h0
      clear hP
      go_wp2_with fail
      refine (HP2.out _).mono ?_
      rintro e w1 ⟨rfl, rfl⟩
      go_wp2_with (at_builtin; refine wpList_push _ rfl _ _ 22 rfl _ 3 .i64 0 8 Tryz.underlying22 Tryz.info3 _ _ rfl hown (x / P2 % 2) rfl (by omega) (by decide) ?_)
      intro v1 w1 hown1 hb1
      go_wp2
      go_roundw
      case rel => exact ⟨c + 1, (q : Int) - 1, by omega, rfl, by show _ = _; have := hy.out; omega, by rw [hst.out]; exact hown1, hb.trans hb1⟩
      case measure => simp [intOf]
    · obtain rfl : c = n := by omega
      obtain rfl : y = -1 := by have := hy.out; omega
      obtain ⟨ao, cap, rfl⟩ := hown.shape
      go_wp2
      go_ret
      exact ⟨_, rfl, hown, hb⟩
end Go.Proofs.YtnnakmgngkpghaaGreat

/- Contracts of Rest, of the program and of the specification, and the walk of the law FnExactRest. -/
namespace Go.Proofs.YtnnakmgngkpghaaGreat
open Go.RowKit
set_option linter.unusedVariables false

/-- The number that the rest of x tells. -/
def restN (x : Int) : Int := if x < 0 then x + 2 ^ Lib.bitLen x.natAbs - 1 else x
/-- The rest of x. -/
def restL (x : Int) : List Int := if -2047 ≤ x ∧ x ≤ 2047 then bl (rbX (restN x) (Lib.bitLen x.natAbs)) (Lib.bitLen x.natAbs) else []
theorem rest_in {x : Int} (h : -2047 ≤ x ∧ x ≤ 2047) : restL x = bl (rbX (restN x) (Lib.bitLen x.natAbs)) (Lib.bitLen x.natAbs) := by unfold restL; rw [if_pos h]
theorem rest_out {x : Int} (h : ¬ (-2047 ≤ x ∧ x ≤ 2047)) : restL x = [] := by unfold restL; rw [if_neg h]
theorem bitLen_pow (m : Nat) (hm : m ≤ 2047) : (m : Int) < 2 ^ Lib.bitLen m := by
  have h := bitLen_at m (Lib.bitLen m) hm (bitLen_at m 0 hm (by omega)).2
  have : m < 2 ^ Lib.bitLen m := Nat.lt_of_not_le fun e => absurd (h.1.1 e) (by omega)
  exact_mod_cast this
theorem restN_bd {x : Int} (h : -2047 ≤ x ∧ x ≤ 2047) : 0 ≤ restN x ∧ restN x < 2 ^ Lib.bitLen x.natAbs := by
  have := bitLen_pow x.natAbs (by omega)
  unfold restN
  generalize (2 : Int) ^ Lib.bitLen x.natAbs = P at *
  split <;> omega
theorem restL_len (x : Int) : (restL x).length ≤ 11 := by
  unfold restL
  split
  · rw [bl_length]
    exact (bitLen_at x.natAbs 0 (by omega) (by omega)).2
  · simp
theorem pow_small (n : Nat) (h : n ≤ 11) : (1 : Int) ≤ 2 ^ n ∧ (2 : Int) ^ n ≤ 2048 := by
  have h1 := pow2_mono 0 n
  have h2 := pow2_mono n (11 - n)
  rw [Nat.zero_add] at h1
  rw [show n + (11 - n) = 11 by omega] at h2
  exact ⟨h1, h2⟩

set_option maxHeartbeats 800000 in
theorem impl_rest (x : Int) (w : World) (h0 : -9223372036854775808 ≤ x) (h1 : x ≤ 9223372036854775807) :
    Calls Tryz.prog 112 #[.int .i64 x] w fun e w' => ∃ v, e = .returned v ∧ Own w' w.heap.size 3 .i64 v (restL x) ∧ Below w.heap.size w w' := by
  have HS := hid (impl_size x w h0 h1)
  by_cases a : -2047 ≤ x ∧ x ≤ 2047
  · have hl := (bitLen_at x.natAbs 0 (by omega) (by omega)).2
    have hp := pow_small (Lib.bitLen x.natAbs) hl
    have hb := restN_bd a
    have HN := hid (fun q => impl_numBits (restN x) (Lib.bitLen x.natAbs) q (by omega) hb.1 hb.2)
    rw [sz_in a] at HS
    rw [rest_in a]
    have a1 := a.1
    have a2 := a.2
    by_cases a3 : x < 0
    · have hr : restN x = x + (2 ^ Lib.bitLen x.natAbs - 1) := by unfold restN; rw [if_pos a3]; omega
      generalize bl (rbX (restN x) (Lib.bitLen x.natAbs)) (Lib.bitLen x.natAbs) = L at *
      rw [hr] at HN
      clear hr hb a
      generalize Lib.bitLen x.natAbs = n at *
      generalize hP : (2 : Int) ^ n = P at *
      go_enter Tryz.func112, Tryz.ntmps112
      go_wp2_with fail
      refine HS.out.mono ?_
      rintro e w1 ⟨rfl, rfl⟩
      go_wp2_with fail
      refine (HN.out _).mono ?_
      rintro e w1 ⟨v, rfl, ho, hb⟩
      obtain ⟨ao, cap, rfl⟩ := ho.shape
      go_wp2
      go_ret
      exact ⟨_, rfl, ho, hb⟩
    · have hr : restN x = x := by unfold restN; rw [if_neg a3]
      generalize bl (rbX (restN x) (Lib.bitLen x.natAbs)) (Lib.bitLen x.natAbs) = L at *
      rw [hr] at HN
      clear hr hb a
      generalize Lib.bitLen x.natAbs = n at *
      go_enter Tryz.func112, Tryz.ntmps112
      go_wp2_with fail
      refine HS.out.mono ?_
      rintro e w1 ⟨rfl, rfl⟩
      go_wp2_with fail
      refine (HN.out _).mono ?_
      rintro e w1 ⟨v, rfl, ho, hb⟩
      obtain ⟨ao, cap, rfl⟩ := ho.shape
      go_wp2
      go_ret
      exact ⟨_, rfl, ho, hb⟩
  · rw [sz_out a] at HS
    rw [rest_out a]
    clear a
    go_enter Tryz.func112, Tryz.ntmps112
    go_wp2_with fail
    refine HS.out.mono ?_
    rintro e w1 ⟨rfl, rfl⟩
    go_wp2
    go_ret
    exact ⟨_, rfl, Own.empty _ _ _ _ (Nat.le_refl _), (Below.refl _ _).alloc (Nat.le_refl _) _⟩

set_option maxHeartbeats 800000 in
theorem spec_rest (x : Int) (w : World) (h0 : -9223372036854775808 ≤ x) (h1 : x ≤ 9223372036854775807) :
    Calls Tryz.prog 73 #[.int .i64 x] w fun e w' => ∃ v, e = .returned v ∧ Own w' w.heap.size 3 .i64 v (restL x) ∧ Below w.heap.size w w' := by
  have HS := hid (spec_size x w h0 h1)
  by_cases a : -2047 ≤ x ∧ x ≤ 2047
  · have hl := (bitLen_at x.natAbs 0 (by omega) (by omega)).2
    have hp := pow_small (Lib.bitLen x.natAbs) hl
    have hb := restN_bd a
    have HN := hid (fun q => spec_numBits (restN x) (Lib.bitLen x.natAbs) q (by omega) hb.1 hb.2)
    have HP := hid (fun q => pow2_any (Lib.bitLen x.natAbs) q (by omega))
    rw [sz_in a] at HS
    rw [rest_in a]
    have a1 := a.1
    have a2 := a.2
    by_cases a3 : x < 0
    · have hr : restN x = x + 2 ^ Lib.bitLen x.natAbs - 1 := by unfold restN; rw [if_pos a3]
      generalize bl (rbX (restN x) (Lib.bitLen x.natAbs)) (Lib.bitLen x.natAbs) = L at *
      rw [hr] at HN
      clear hr hb a
      generalize Lib.bitLen x.natAbs = n at *
      generalize hP : (2 : Int) ^ n = P at *
      go_enter Tryz.func73, Tryz.ntmps73
      go_wp2_with fail
      refine HS.out.mono ?_
      rintro e w1 ⟨rfl, rfl⟩
      go_wp2_with fail
      refine (HP.out _).mono ?_
      rintro e w1 ⟨rfl, rfl⟩
      go_wp2_with fail
      refine (HN.out _).mono ?_
      rintro e w1 ⟨v, rfl, ho, hb⟩
      obtain ⟨ao, cap, rfl⟩ := ho.shape
      go_wp2
      go_ret
      exact ⟨_, rfl, ho, hb⟩
    · have hr : restN x = x := by unfold restN; rw [if_neg a3]
      generalize bl (rbX (restN x) (Lib.bitLen x.natAbs)) (Lib.bitLen x.natAbs) = L at *
      rw [hr] at HN
      clear hr hb a HP
      generalize Lib.bitLen x.natAbs = n at *
      go_enter Tryz.func73, Tryz.ntmps73
      go_wp2_with fail
      refine HS.out.mono ?_
      rintro e w1 ⟨rfl, rfl⟩
      go_wp2_with fail
      refine (HN.out _).mono ?_
      rintro e w1 ⟨v, rfl, ho, hb⟩
      obtain ⟨ao, cap, rfl⟩ := ho.shape
      go_wp2
      go_ret
      exact ⟨_, rfl, ho, hb⟩
  · rw [sz_out a] at HS
    rw [rest_out a]
    clear a
    go_enter Tryz.func73, Tryz.ntmps73
    go_wp2_with fail
    refine HS.out.mono ?_
    rintro e w1 ⟨rfl, rfl⟩
    go_wp2
    go_ret
    exact ⟨_, rfl, Own.empty _ _ _ _ (Nat.le_refl _), (Below.refl _ _).alloc (Nat.le_refl _) _⟩

end Go.Proofs.YtnnakmgngkpghaaGreat
