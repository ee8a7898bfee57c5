/- Contracts of the writer's flush, put, putAll and text. -/
import Derived.Test.YtckpdmgmeolepaaBits
import Derived.BigRegion
namespace Go.Proofs.Ytckpdmgmeolepaa
open Go.RowKit
set_option linter.unusedVariables false

theorem num_split (b : Nat → Int) (s a : Nat) : ∀ c, num b s (a + c) = num b s a * 2 ^ c + num b (s + a) c
  | 0 => by simp [num]
  | c + 1 => by
    have h := num_split b s a c
    have e : (2 : Int) ^ (c + 1) = 2 * 2 ^ c := by rw [Int.pow_succ]; omega
    have e2 : s + (a + c) = s + a + c := by omega
    rw [show a + (c + 1) = (a + c) + 1 by omega, num, h, num, e, e2]
    generalize (2 : Int) ^ c = p
    generalize num b s a = q
    have e3 : q * (2 * p) = 2 * (q * p) := by rw [← Int.mul_assoc, Int.mul_comm q 2, Int.mul_assoc]
    rw [e3]
    omega

/-- The first J whole bytes. -/
def packTo (b : Nat → Int) : Nat → List Int
  | 0 => []
  | J + 1 => packTo b J ++ [num b (8 * J) 8]
theorem packTo_length (b : Nat → Int) : ∀ J, (packTo b J).length = J
  | 0 => rfl
  | J + 1 => by simp [packTo, packTo_length b J]

theorem Wr.below {w w' : World} {B : Nat} {x h : Int} {v : Value} (hw : Wr w B x h v) (hb : Below (B + 1) w w') : Wr w' B x h v := (hb.block B (by omega)).trans hw
theorem Wr.drew {w : World} {B : Nat} {x h : Int} {v : Value} (hw : Wr w B x h v) : Wr w.drew B x h v := hw

/-- The byte that is taken out of the word. -/
theorem byte_of (b : Nat → Int) (hb : ∀ j, Bit (b j)) (J t m : Nat) (x : Int) (hx : x = num b (8 * J) (8 * (t + (m + 1)))) : ∃ A D R : Int, D = num b (8 * (J + t)) 8 ∧ 0 ≤ A ∧ 0 ≤ D ∧ D < 256 ∧ 0 ≤ R ∧ R < 2 ^ (8 * m) ∧ x = A * 2 ^ (8 * (m + 1)) + (D * 2 ^ (8 * m) + R) := by
  have h1 := num_split b (8 * J) (8 * t) (8 * (m + 1))
  have h2 := num_split b (8 * (J + t)) 8 (8 * m)
  rw [show 8 * t + 8 * (m + 1) = 8 * (t + (m + 1)) by omega, show 8 * J + 8 * t = 8 * (J + t) by omega] at h1
  rw [show 8 + 8 * m = 8 * (m + 1) by omega] at h2
  refine ⟨num b (8 * J) (8 * t), num b (8 * (J + t)) 8, num b (8 * (J + t) + 8) (8 * m), rfl, (num_bd b hb _ _).1, (num_bd b hb _ 8).1, (num_bd b hb _ 8).2, (num_bd b hb _ _).1, (num_bd b hb _ (8 * m)).2, ?_⟩
  rw [hx, h1, h2]

/-- What one round of flush comes to. -/
theorem flush_round {b : Nat → Int} {B J t m c : Nat} {x y h : Int} {v V : Value} {w wr w1 : World} (hbr : Below B w wr) (u : Value) (hwS : Wr (wr.setCell ⟨B, 1, none⟩ u) B x h v) (hh : h = 8 * (m : Int)) (htm : Hid (t + (m + 1) = c))
    (hown1 : Own w1 (B + 1) 5 .u8 V (packTo b (J + t) ++ [y])) (hb1 : Below (B + 1) (wr.setCell ⟨B, 1, none⟩ u).drew w1) (hy : y = num b (8 * (J + t)) 8) (c1 : wr.cell? ⟨B, 1, none⟩ = some (.int .i64 (8 * ((m + 1 : Nat) : Int)))) :
    (∃ (t' m' : Nat) (v' : Value), Hid (t' + m' = c) ∧ Wr (w1.setCell ⟨B, 2, none⟩ V) B x (8 * (m' : Int)) v' ∧ Own (w1.setCell ⟨B, 2, none⟩ V) (B + 1) 5 .u8 v' (packTo b (J + t')) ∧ Below B w (w1.setCell ⟨B, 2, none⟩ V)) ∧
    (intOf (((w1.setCell ⟨B, 2, none⟩ V).cell? ⟨B, 1, none⟩).getD (.int .i64 0))).toNat < (intOf ((wr.cell? ⟨B, 1, none⟩).getD (.int .i64 0))).toNat := by
  subst hh
  have hw2 : Wr (w1.setCell ⟨B, 2, none⟩ V) B x (8 * (m : Int)) V := ((hwS.drew).below hb1).set2
  refine ⟨⟨t + 1, m, V, ?_, hw2, ?_, ?_⟩, ?_⟩
  · show _ = _
    have := htm.out
    omega
  · have := hown1.setCell_below (a := ⟨B, 2, none⟩) (by show B < B + 1; omega) V
    rw [hy] at this
    exact this
  · exact (((hbr.setCell (p := ⟨B, 1, none⟩) (Nat.le_refl _) u).drew).trans (hb1.mono (by omega))).setCell (p := ⟨B, 2, none⟩) (Nat.le_refl _) V
  · rw [hw2.cells.2.1, c1]
    simp [intOf]
    omega

end Go.Proofs.Ytckpdmgmeolepaa
