/- The contracts of PutWord, of the program and of the specification: both hand back the four bytes of the word. -/
import Derived.Test.YtkeabkedbbjccaaDoorRows
import Derived.Test.YtkeabkedbbjccaaDoorView
import Derived.WalkKit
import Derived.WalkSpells
import Derived.WalkLawsBesides
import Derived.Laws.BytesArg
import Derived.Outline
import Derived.OpenShut
namespace Go.Proofs.YtkeabkedbbjccaaDoor
open Go.RowKit

def wordBytes (x : Int) : List Int := [x / 16777216, x / 65536 % 256, x / 256 % 256, x % 256]

theorem conv4 (w : World) (a b c d : Int) : Sem.run Tryd.prog (convert 22 9 (.slice (some ⟨w.heap.size, 0, none⟩) 4 4)) (w.alloc (.cells #[.int .u8 a, .int .u8 b, .int .u8 c, .int .u8 d] 5)) =
    .ok (.string (strOfNums [a, b, c, d])) (w.alloc (.cells #[.int .u8 a, .int .u8 b, .int .u8 c, .int .u8 d] 5)) := by
  refine run_convert_bytes_arg _ 22 5 Tryd.underlying22 Tryd.underlying5 _ 0 4 4 [a, b, c, d] rfl ?_ 9 Tryd.underlying9
  intro i hi
  match i, hi with
  | 0, _ => simp
  | 1, _ => simp
  | 2, _ => simp
  | 3, _ => simp

set_option maxHeartbeats 400000 in
theorem spec_putWord (x : Int) (w : World) (h0 : 0 ≤ x) (h1 : x ≤ 4294967295) :
    Calls Tryd.prog 31 #[.int .u32 x] w fun e w' => e = .returned (.string (strOfNums (wordBytes x))) ∧ Below w.heap.size w w' := by
  have hc := conv4 w
  go_enter Tryd.func31, Tryd.ntmps31
  go_wp2
  go_ret
  exact ⟨rfl, (Below.refl _ _).alloc (Nat.le_refl _) _⟩

set_option maxHeartbeats 400000 in
theorem impl_putWord (x : Int) (w : World) (h0 : 0 ≤ x) (h1 : x ≤ 4294967295) :
    Calls Tryd.prog 13 #[.int .u32 x] w fun e w' => e = .returned (.string (strOfNums (wordBytes x))) ∧ Below w.heap.size w w' := by
  have hc := conv4 w
  go_enter Tryd.func13, Tryd.ntmps13
  go_wp2
  go_ret
  exact ⟨rfl, (Below.refl _ _).alloc (Nat.le_refl _) _⟩

end Go.Proofs.YtkeabkedbbjccaaDoor
