/- The contract of BitsNum of the program. -/
import Derived.Test.YtnnakmgngkpghaaPut
namespace Go.Proofs.Ytnnakmgngkpghaa
open Go.RowKit
set_option linter.unusedVariables false

theorem Inv.start (b : Nat → Int) (w : World) : Inv b (w.alloc (.cells #[.int .u32 0, .int .i64 0, .slice none 0 0] 103)) w.heap.size 0 :=
  ⟨0, 0, .slice none 0 0, rfl, by decide, .inl rfl, heap_alloc_new w _, Own.nil _ _ _ _ (by simp)⟩

end Go.Proofs.Ytnnakmgngkpghaa
