/- Contracts of the writer's flush, put, putAll and text. -/
import Derived.Test.YtnnakmgngkpghaaBits
import Derived.BigRegion
namespace Go.Proofs.Ytnnakmgngkpghaa
open Go.RowKit
set_option linter.unusedVariables false

theorem num_split (b : Nat → Int) (s a : Nat) : ∀ c, num b s (a + c) = num b s a * 2 ^ c + num b (s + a) c
  | 0 => by simp [num]
  | c + 1 => by
    have h := num_split b s a c
    have e : (2 : Int) ^ (c + 1) = 2 * 2 ^ c := by rw [Int.pow_succ]; omega
    have e2 : s + (a + c) = s + a + c := by omega
    rw [show a + (c + 1) = (a + c) + 1 by omega, num, h, num, e, e2]
    generalize (2 : Int) ^ c = p
    generalize num b s a = q
    have e3 : q * (2 * p) = 2 * (q * p) := by rw [← Int.mul_assoc, Int.mul_comm q 2, Int.mul_assoc]
    rw [e3]
    omega

/-- The first J whole bytes. -/
def packTo (b : Nat → Int) : Nat → List Int
  | 0 => []
  | J + 1 => packTo b J ++ [num b (8 * J) 8]
theorem packTo_length (b : Nat → Int) : ∀ J, (packTo b J).length = J
  | 0 => rfl
  | J + 1 => by simp [packTo, packTo_length b J]

theorem Wr.below {w w' : World} {B : Nat} {x h : Int} {v : Value} (hw : Wr w B x h v) (hb : Below (B + 1) w w') : Wr w' B x h v := (hb.block B (by omega)).trans hw
theorem Wr.drew {w : World} {B : Nat} {x h : Int} {v : Value} (hw : Wr w B x h v) : Wr w.drew B x h v := hw

/-- The byte that is taken out of the word. -/
theorem byte_of (b : Nat → Int) (hb : ∀ j, Bit (b j)) (J t m : Nat) (x : Int) (hx : x = num b (8 * J) (8 * (t + (m + 1)))) : ∃ A D R : Int, D = num b (8 * (J + t)) 8 ∧ 0 ≤ A ∧ 0 ≤ D ∧ D < 256 ∧ 0 ≤ R ∧ R < 2 ^ (8 * m) ∧ x = A * 2 ^ (8 * (m + 1)) + (D * 2 ^ (8 * m) + R) := by
  have h1 := num_split b (8 * J) (8 * t) (8 * (m + 1))
  have h2 := num_split b (8 * (J + t)) 8 (8 * m)
  rw [show 8 * t + 8 * (m + 1) = 8 * (t + (m + 1)) by omega, show 8 * J + 8 * t = 8 * (J + t) by omega] at h1
  rw [show 8 + 8 * m = 8 * (m + 1) by omega] at h2
  refine ⟨num b (8 * J) (8 * t), num b (8 * (J + t)) 8, num b (8 * (J + t) + 8) (8 * m), rfl, (num_bd b hb _ _).1, (num_bd b hb _ 8).1, (num_bd b hb _ 8).2, (num_bd b hb _ _).1, (num_bd b hb _ (8 * m)).2, ?_⟩
  rw [hx, h1, h2]

/-- What one round of flush comes to. -/
theorem flush_round {b : Nat → Int} {B J t m c : Nat} {x y h : Int} {v V : Value} {w wr w1 : World} (hbr : Below B w wr) (u : Value) (hwS : Wr (wr.setCell ⟨B, 1, none⟩ u) B x h v) (hh : h = 8 * (m : Int)) (htm : Hid (t + (m + 1) = c))
    (hown1 : Own w1 (B + 1) 5 .u8 V (packTo b (J + t) ++ [y])) (hb1 : Below (B + 1) (wr.setCell ⟨B, 1, none⟩ u).drew w1) (hy : y = num b (8 * (J + t)) 8) (c1 : wr.cell? ⟨B, 1, none⟩ = some (.int .i64 (8 * ((m + 1 : Nat) : Int)))) :
    (∃ (t' m' : Nat) (v' : Value), Hid (t' + m' = c) ∧ Wr (w1.setCell ⟨B, 2, none⟩ V) B x (8 * (m' : Int)) v' ∧ Own (w1.setCell ⟨B, 2, none⟩ V) (B + 1) 5 .u8 v' (packTo b (J + t')) ∧ Below B w (w1.setCell ⟨B, 2, none⟩ V)) ∧
    (intOf (((w1.setCell ⟨B, 2, none⟩ V).cell? ⟨B, 1, none⟩).getD (.int .i64 0))).toNat < (intOf ((wr.cell? ⟨B, 1, none⟩).getD (.int .i64 0))).toNat := by
  subst hh
  have hw2 : Wr (w1.setCell ⟨B, 2, none⟩ V) B x (8 * (m : Int)) V := ((hwS.drew).below hb1).set2
  refine ⟨⟨t + 1, m, V, ?_, hw2, ?_, ?_⟩, ?_⟩
  · show _ = _
    have := htm.out
    omega
  · have := hown1.setCell_below (a := ⟨B, 2, none⟩) (by show B < B + 1; omega) V
    rw [hy] at this
    exact this
  · exact (((hbr.setCell (p := ⟨B, 1, none⟩) (Nat.le_refl _) u).drew).trans (hb1.mono (by omega))).setCell (p := ⟨B, 2, none⟩) (Nat.le_refl _) V
  · rw [hw2.cells.2.1, c1]
    simp [intOf]
    omega

set_option maxRecDepth 100000 in
set_option maxHeartbeats 3200000 in
theorem flush_any (b : Nat → Int) (hbit : ∀ j, Bit (b j)) (B J c : Nat) (x : Int) (v : Value) (w : World) (hc4 : c ≤ 4) (hJ : J ≤ 1000000) (hx : x = num b (8 * J) (8 * c)) (hw : Wr w B x (8 * c) v) (hown : Own w (B + 1) 5 .u8 v (packTo b J)) :
    Calls Try.prog 73 #[.pointer (some ⟨B, 0, none⟩)] w fun e w' => e = .returned (.tuple #[]) ∧ (∃ v', Wr w' B 0 0 v' ∧ Own w' (B + 1) 5 .u8 v' (packTo b (J + c))) ∧ Below B w w' := by
  have x0 : 0 ≤ x := by rw [hx]; exact (num_bd b hbit _ _).1
  have x1 : x < 4294967296 := by rw [hx]; exact num_le b hbit _ _ 32 (by omega)
  have HX := hid hx
  have HB := hid hbit
  clear hx hbit
  go_enter Try.func73, Try.ntmps73
  go_wp2
  go_loopw [2] (fun _ wr => ∃ (t m : Nat) (v : Value), Hid (t + m = c) ∧ Wr wr B x (8 * m) v ∧ Own wr (B + 1) 5 .u8 v (packTo b (J + t)) ∧ Below B w wr) (fun _ wr => (intOf ((wr.cell? ⟨B, 1, none⟩).getD (.int .i64 0))).toNat)
  case atStart => exact ⟨0, c, v, by show _ = _; omega, hw, hown, Below.refl _ _⟩
  case round =>
    obtain ⟨t, m, v, htm, hwr, hownr, hbr⟩ := hrel
    clear hw hown
    have hw0 := hid hwr
    have hBlt : B < wr.heap.size := lt_of_block hwr
    obtain ⟨c0, c1, c2, f0, f1, f2⟩ := hwr.cells
    have hlen := packTo_length b (J + t)
    have ht4 : t ≤ 4 := by have := htm.out; omega
    obtain rfl | rfl | rfl | rfl | rfl : m = 0 ∨ m = 1 ∨ m = 2 ∨ m = 3 ∨ m = 4 := by have := htm.out; omega
    · have hct : t = c := by have := htm.out; omega
      have HCT := hid hct
      clear hct
      go_wp2
      go_end0
      refine ⟨rfl, ⟨v, ?_, ?_⟩, ?_⟩
      · exact hw0.out.set0
      · rw [← HCT.out]
        exact hownr.setCell_below (a := ⟨B, 0, none⟩) (by show B < B + 1; omega) _
      · exact hbr.setCell (p := ⟨B, 0, none⟩) (Nat.le_refl _) _
    · obtain ⟨A, D, R, hD, hA, hD0, hD1, hR0, hR1, hxx⟩ := byte_of b HB.out J t 0 x (by rw [HX.out, ← htm.out])
      have hv : Hid (IntKind.u8.wrap x = num b (8 * (J + t)) 8) := by
        show _ = _
        rw [IntKind.wrap_u8]
        simp at hxx hR1
        omega
      clear hxx hR0 hR1 hA hD0 hD1 hD
      have hoS := hid (hownr.setCell_below (a := ⟨B, 1, none⟩) (by show B < B + 1; omega) (.int .i64 0))
      have HWS := hid (hw0.out.set1 (y := 0))
      have HC1 := hid c1
      go_wp2
      go_region_law (refine step_push1g (wr.setCell ⟨B, 1, none⟩ (.int .i64 0)).drew wr.heap.size (by simp [World.setCell, World.drew]) rfl (.tmp 18) (.tmp 29) 86 rfl _ 5 .u8 0 1 Try.underlying86 Try.info5 _ _ rfl hoS.out.drew1 (IntKind.u8.wrap x) rfl (by omega) (by decide) ?_; intro v1 w1 hown1 hb1; obtain ⟨ao1, cap1, rfl⟩ := hown1.shape; obtain ⟨c0', c1', c2', f0', f1', f2'⟩ := (HWS.out.drew.below hb1).cells)
      all_goals
        simp only [List.length_append, hlen, List.length_cons, List.length_nil, Nat.zero_add] at hown1
        have HO := hid hown1
        have HB1 := hid hb1
        clear hown1 hb1
        go_wp2
        exact flush_round (m := 0) hbr _ HWS.out (by decide) htm HO.out HB1.out hv.out HC1.out
    · obtain ⟨A, D, R, hD, hA, hD0, hD1, hR0, hR1, hxx⟩ := byte_of b HB.out J t 1 x (by rw [HX.out, ← htm.out])
      have hv : Hid (IntKind.u8.wrap (x / 256) = num b (8 * (J + t)) 8) := by
        show _ = _
        rw [IntKind.wrap_u8]
        simp at hxx hR1
        omega
      clear hxx hR0 hR1 hA hD0 hD1 hD
      have hoS := hid (hownr.setCell_below (a := ⟨B, 1, none⟩) (by show B < B + 1; omega) (.int .i64 8))
      have HWS := hid (hw0.out.set1 (y := 8))
      have HC1 := hid c1
      go_wp2
      go_region_law (refine step_push1g (wr.setCell ⟨B, 1, none⟩ (.int .i64 8)).drew wr.heap.size (by simp [World.setCell, World.drew]) rfl (.tmp 18) (.tmp 29) 86 rfl _ 5 .u8 0 1 Try.underlying86 Try.info5 _ _ rfl hoS.out.drew1 (IntKind.u8.wrap (x / 256)) rfl (by omega) (by decide) ?_; intro v1 w1 hown1 hb1; obtain ⟨ao1, cap1, rfl⟩ := hown1.shape; obtain ⟨c0', c1', c2', f0', f1', f2'⟩ := (HWS.out.drew.below hb1).cells)
      all_goals
        simp only [List.length_append, hlen, List.length_cons, List.length_nil, Nat.zero_add] at hown1
        have HO := hid hown1
        have HB1 := hid hb1
        clear hown1 hb1
        go_wp2
        exact flush_round (m := 1) hbr _ HWS.out (by decide) htm HO.out HB1.out hv.out HC1.out
    · obtain ⟨A, D, R, hD, hA, hD0, hD1, hR0, hR1, hxx⟩ := byte_of b HB.out J t 2 x (by rw [HX.out, ← htm.out])
      have hv : Hid (IntKind.u8.wrap (x / 65536) = num b (8 * (J + t)) 8) := by
        show _ = _
        rw [IntKind.wrap_u8]
        simp at hxx hR1
        omega
      clear hxx hR0 hR1 hA hD0 hD1 hD
      have hoS := hid (hownr.setCell_below (a := ⟨B, 1, none⟩) (by show B < B + 1; omega) (.int .i64 16))
      have HWS := hid (hw0.out.set1 (y := 16))
      have HC1 := hid c1
      go_wp2
      go_region_law (refine step_push1g (wr.setCell ⟨B, 1, none⟩ (.int .i64 16)).drew wr.heap.size (by simp [World.setCell, World.drew]) rfl (.tmp 18) (.tmp 29) 86 rfl _ 5 .u8 0 1 Try.underlying86 Try.info5 _ _ rfl hoS.out.drew1 (IntKind.u8.wrap (x / 65536)) rfl (by omega) (by decide) ?_; intro v1 w1 hown1 hb1; obtain ⟨ao1, cap1, rfl⟩ := hown1.shape; obtain ⟨c0', c1', c2', f0', f1', f2'⟩ := (HWS.out.drew.below hb1).cells)
      all_goals
        simp only [List.length_append, hlen, List.length_cons, List.length_nil, Nat.zero_add] at hown1
        have HO := hid hown1
        have HB1 := hid hb1
        clear hown1 hb1
        go_wp2
        exact flush_round (m := 2) hbr _ HWS.out (by decide) htm HO.out HB1.out hv.out HC1.out
    · obtain ⟨A, D, R, hD, hA, hD0, hD1, hR0, hR1, hxx⟩ := byte_of b HB.out J t 3 x (by rw [HX.out, ← htm.out])
      have hv : Hid (IntKind.u8.wrap (x / 16777216) = num b (8 * (J + t)) 8) := by
        show _ = _
        rw [IntKind.wrap_u8]
        simp at hxx hR1
        omega
      clear hxx hR0 hR1 hA hD0 hD1 hD
      have hoS := hid (hownr.setCell_below (a := ⟨B, 1, none⟩) (by show B < B + 1; omega) (.int .i64 24))
      have HWS := hid (hw0.out.set1 (y := 24))
      have HC1 := hid c1
      go_wp2
      go_region_law (refine step_push1g (wr.setCell ⟨B, 1, none⟩ (.int .i64 24)).drew wr.heap.size (by simp [World.setCell, World.drew]) rfl (.tmp 18) (.tmp 29) 86 rfl _ 5 .u8 0 1 Try.underlying86 Try.info5 _ _ rfl hoS.out.drew1 (IntKind.u8.wrap (x / 16777216)) rfl (by omega) (by decide) ?_; intro v1 w1 hown1 hb1; obtain ⟨ao1, cap1, rfl⟩ := hown1.shape; obtain ⟨c0', c1', c2', f0', f1', f2'⟩ := (HWS.out.drew.below hb1).cells)
      all_goals
        simp only [List.length_append, hlen, List.length_cons, List.length_nil, Nat.zero_add] at hown1
        have HO := hid hown1
        have HB1 := hid hb1
        clear hown1 hb1
        go_wp2
        exact flush_round (m := 3) hbr _ HWS.out (by decide) htm HO.out HB1.out hv.out HC1.out
end Go.Proofs.Ytnnakmgngkpghaa
