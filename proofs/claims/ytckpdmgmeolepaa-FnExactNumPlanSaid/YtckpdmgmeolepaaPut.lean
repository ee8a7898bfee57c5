/- Contracts of the writer's put, putAll and text, and of PutBits and BitsNum of the program. -/
import Derived.Test.YtckpdmgmeolepaaWrite
namespace Go.Proofs.Ytckpdmgmeolepaa
open Go.RowKit
set_option linter.unusedVariables false

/-- Behind m bits: whole bytes are written, the rest is held. -/
def Inv (b : Nat → Int) (w : World) (B m : Nat) : Prop :=
  ∃ (J h : Nat) (v : Value), m = 8 * J + h ∧ h ≤ 32 ∧ (J = 0 ∨ 33 ≤ m) ∧ Wr w B (num b (8 * J) h) h v ∧ Own w (B + 1) 5 .u8 v (packTo b J)

theorem room_next {b : Nat → Int} {w : World} {B J h : Nat} {v : Value} {x : Int} (hx : x = b (8 * J + h)) (hw : Wr w B (num b (8 * J) h) h v) (ho : Own w (B + 1) 5 .u8 v (packTo b J)) :
    Wr ((w.setCell ⟨B, 0, none⟩ (.int .u32 (2 * num b (8 * J) h + x))).setCell ⟨B, 1, none⟩ (.int .i64 ((h : Int) + 1))) B (num b (8 * J) (h + 1)) ((h + 1 : Nat) : Int) v ∧
    Own ((w.setCell ⟨B, 0, none⟩ (.int .u32 (2 * num b (8 * J) h + x))).setCell ⟨B, 1, none⟩ (.int .i64 ((h : Int) + 1))) (B + 1) 5 .u8 v (packTo b J) ∧
    Below B w ((w.setCell ⟨B, 0, none⟩ (.int .u32 (2 * num b (8 * J) h + x))).setCell ⟨B, 1, none⟩ (.int .i64 ((h : Int) + 1))) := by
  subst hx
  refine ⟨?_, ?_, ?_⟩
  · have := (hw.set0 (y := 2 * num b (8 * J) h + b (8 * J + h))).set1 (y := (h : Int) + 1)
    have e : ((h + 1 : Nat) : Int) = (h : Int) + 1 := by omega
    rw [e, num]
    exact this
  · exact (ho.setCell_below (a := ⟨B, 0, none⟩) (by show B < B + 1; omega) _).setCell_below (a := ⟨B, 1, none⟩) (by show B < B + 1; omega) _
  · exact ((Below.refl B w).setCell (p := ⟨B, 0, none⟩) (Nat.le_refl _) _).setCell (p := ⟨B, 1, none⟩) (Nat.le_refl _) _

end Go.Proofs.Ytckpdmgmeolepaa
