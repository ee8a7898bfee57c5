/-
  NARROWER THAN 'FOR EVERY INPUT', by the rows' own cells (each row's printed sentence says how): FnCells: laid · FnExactCell: laid · FnExactFromCells: laid · FnExactMirror: laid · FnExactTranspose: laid.
  DERIVED. THE GIVEN ROWS OF THIS SEAT. 5 by the template 'for every input the law returns true; each argument reads behind the call as it read before'; 0 by the template 'total and deterministic' (their statements: YtcodmkampihphaaDoorTotals.lean).
  GIVEN WITH THE SEED: the statements are not yours to turn. If you find one false, say at which input.
  Laid BY PROGRAM, IN A SANDBOX (cutbox-rows.mjs): the forced cells as the released guide's own fill.sh prints them over the translation 0672be0a8dd9dd9e… (all of the seat's roots in one cut). By AI agents, Wed Nov 11 2026. No macro, syntax, notation, axiom, sorry.
-/
import Derived.Test.YtcodmkampihphaaDoorChecked
import GoSem.Claim
import GoSem.ClaimJoined
import GoSem.ClaimMapViews
import Derived.JoinedTies
import Derived.KernelRfl
namespace Go.Proofs.YtcodmkampihphaaDoor
/- THE CELL 'sum', in the pinned program and in every row, IS THE sha256 OF THE DUMP (.gsa) THAT YtcodmkampihphaaDoorProg.lean LOADS. Nothing in Lean hashes anything: it is a label: what it is worth is what the hold of that sum in a sandbox is worth. -/
noncomputable def Tryd.pinned : Pinned := { name := "ytcodmkampihphaadoor", sum := "0672be0a8dd9dd9e5dbceb745121a7f9a7d2fdb00411a9f2e1c8fc33e9395793", checked := Tryd.checked }
namespace Rows
def none {H : Type} : Left H := { results := [], args := [] }

/- WHAT THE LISTED PACKAGE-LEVEL VARIABLES READ AS WHEN THE CALL BEGINS. Each datum BY PROGRAM (the guide's laid-datum.mjs) off the statement by which the dump's own 'gosem.cut.vars' lays the variable. In a bare row this is a premise. The card (YtcodmkampihphaaDoorCards.lean) ties it to the program's text. -/
def laid_loop_example_g00120_impl_zigzagWay {H : Type} : DataW H := .agg [.lit (.int .i64 0), .lit (.int .i64 1), .lit (.int .i64 8), .lit (.int .i64 16), .lit (.int .i64 9), .lit (.int .i64 2), .lit (.int .i64 3), .lit (.int .i64 10), .lit (.int .i64 17), .lit (.int .i64 24), .lit (.int .i64 32), .lit (.int .i64 25), .lit (.int .i64 18), .lit (.int .i64 11), .lit (.int .i64 4), .lit (.int .i64 5), .lit (.int .i64 12), .lit (.int .i64 19), .lit (.int .i64 26), .lit (.int .i64 33), .lit (.int .i64 40), .lit (.int .i64 48), .lit (.int .i64 41), .lit (.int .i64 34), .lit (.int .i64 27), .lit (.int .i64 20), .lit (.int .i64 13), .lit (.int .i64 6), .lit (.int .i64 7), .lit (.int .i64 14), .lit (.int .i64 21), .lit (.int .i64 28), .lit (.int .i64 35), .lit (.int .i64 42), .lit (.int .i64 49), .lit (.int .i64 56), .lit (.int .i64 57), .lit (.int .i64 50), .lit (.int .i64 43), .lit (.int .i64 36), .lit (.int .i64 29), .lit (.int .i64 22), .lit (.int .i64 15), .lit (.int .i64 23), .lit (.int .i64 30), .lit (.int .i64 37), .lit (.int .i64 44), .lit (.int .i64 51), .lit (.int .i64 58), .lit (.int .i64 59), .lit (.int .i64 52), .lit (.int .i64 45), .lit (.int .i64 38), .lit (.int .i64 31), .lit (.int .i64 39), .lit (.int .i64 46), .lit (.int .i64 53), .lit (.int .i64 60), .lit (.int .i64 61), .lit (.int .i64 54), .lit (.int .i64 47), .lit (.int .i64 55), .lit (.int .i64 62), .lit (.int .i64 63)]

/-- 'laws.FnCells': WHATEVER THE INPUT: true; the input reads as it did. -/
def fnCellsSpec : ChangeSpec := { name := "fnCells", vars := ["loop.example/g00120/impl.zigzagWay"], fn := fun _ => fun
  | [d, g1] => { results := [.lit (.bool true)], args := [d], vars := [g1] }
  | _ => none }
def fnCellsRow : OpenClaim := { program := "ytcodmkampihphaadoor", sum := "0672be0a8dd9dd9e5dbceb745121a7f9a7d2fdb00411a9f2e1c8fc33e9395793", func := "loop.example/g00120/laws.FnCells", spec := "fnCells", unfollowed := true, recurses := true, named := ["loop.example/g00120/impl.zigzagWay"], apart := false, laid := [("loop.example/g00120/impl.zigzagWay", laid_loop_example_g00120_impl_zigzagWay)] }
def FnCellsSaid : Prop := fnCellsRow.holds Tryd.pinned (OpenSpec.ofChange fnCellsSpec)

/-- ITS FALSE NEIGHBOUR: 'it returns false'. Refute it at one input. -/
def fnCellsWrong : ChangeSpec := { name := "fnCells", vars := ["loop.example/g00120/impl.zigzagWay"], fn := fun _ => fun
  | [d, g1] => { results := [.lit (.bool false)], args := [d], vars := [g1] }
  | _ => none }
def FnCellsWrongFalsely : Prop := fnCellsRow.holds Tryd.pinned (OpenSpec.ofChange fnCellsWrong)

/-- 'laws.FnExactCell': WHATEVER THE INPUT: true; the input reads as it did. -/
def fnExactCellSpec : ChangeSpec := { name := "fnExactCell", vars := ["loop.example/g00120/impl.zigzagWay"], fn := fun _ => fun
  | [d1, d2, d3, g1] => { results := [.lit (.bool true)], args := [d1, d2, d3], vars := [g1] }
  | _ => none }
def fnExactCellRow : OpenClaim := { program := "ytcodmkampihphaadoor", sum := "0672be0a8dd9dd9e5dbceb745121a7f9a7d2fdb00411a9f2e1c8fc33e9395793", func := "loop.example/g00120/laws.FnExactCell", spec := "fnExactCell", named := ["loop.example/g00120/impl.zigzagWay"], apart := false, laid := [("loop.example/g00120/impl.zigzagWay", laid_loop_example_g00120_impl_zigzagWay)] }
def FnExactCellSaid : Prop := fnExactCellRow.holds Tryd.pinned (OpenSpec.ofChange fnExactCellSpec)

/-- ITS FALSE NEIGHBOUR: 'it returns false'. Refute it at one input. -/
def fnExactCellWrong : ChangeSpec := { name := "fnExactCell", vars := ["loop.example/g00120/impl.zigzagWay"], fn := fun _ => fun
  | [d1, d2, d3, g1] => { results := [.lit (.bool false)], args := [d1, d2, d3], vars := [g1] }
  | _ => none }
def FnExactCellWrongFalsely : Prop := fnExactCellRow.holds Tryd.pinned (OpenSpec.ofChange fnExactCellWrong)

/-- 'laws.FnExactFromCells': WHATEVER THE INPUT: true; the input reads as it did. -/
def fnExactFromCellsSpec : ChangeSpec := { name := "fnExactFromCells", vars := ["loop.example/g00120/impl.zigzagWay"], fn := fun _ => fun
  | [d, g1] => { results := [.lit (.bool true)], args := [d], vars := [g1] }
  | _ => none }
def fnExactFromCellsRow : OpenClaim := { program := "ytcodmkampihphaadoor", sum := "0672be0a8dd9dd9e5dbceb745121a7f9a7d2fdb00411a9f2e1c8fc33e9395793", func := "loop.example/g00120/laws.FnExactFromCells", spec := "fnExactFromCells", named := ["loop.example/g00120/impl.zigzagWay"], apart := false, laid := [("loop.example/g00120/impl.zigzagWay", laid_loop_example_g00120_impl_zigzagWay)] }
def FnExactFromCellsSaid : Prop := fnExactFromCellsRow.holds Tryd.pinned (OpenSpec.ofChange fnExactFromCellsSpec)

/-- ITS FALSE NEIGHBOUR: 'it returns false'. Refute it at one input. -/
def fnExactFromCellsWrong : ChangeSpec := { name := "fnExactFromCells", vars := ["loop.example/g00120/impl.zigzagWay"], fn := fun _ => fun
  | [d, g1] => { results := [.lit (.bool false)], args := [d], vars := [g1] }
  | _ => none }
def FnExactFromCellsWrongFalsely : Prop := fnExactFromCellsRow.holds Tryd.pinned (OpenSpec.ofChange fnExactFromCellsWrong)

/-- 'laws.FnExactMirror': WHATEVER THE INPUT: true; the input reads as it did. -/
def fnExactMirrorSpec : ChangeSpec := { name := "fnExactMirror", vars := ["loop.example/g00120/impl.zigzagWay"], fn := fun _ => fun
  | [d, g1] => { results := [.lit (.bool true)], args := [d], vars := [g1] }
  | _ => none }
def fnExactMirrorRow : OpenClaim := { program := "ytcodmkampihphaadoor", sum := "0672be0a8dd9dd9e5dbceb745121a7f9a7d2fdb00411a9f2e1c8fc33e9395793", func := "loop.example/g00120/laws.FnExactMirror", spec := "fnExactMirror", unfollowed := true, recurses := true, named := ["loop.example/g00120/impl.zigzagWay"], apart := false, laid := [("loop.example/g00120/impl.zigzagWay", laid_loop_example_g00120_impl_zigzagWay)] }
def FnExactMirrorSaid : Prop := fnExactMirrorRow.holds Tryd.pinned (OpenSpec.ofChange fnExactMirrorSpec)

/-- ITS FALSE NEIGHBOUR: 'it returns false'. Refute it at one input. -/
def fnExactMirrorWrong : ChangeSpec := { name := "fnExactMirror", vars := ["loop.example/g00120/impl.zigzagWay"], fn := fun _ => fun
  | [d, g1] => { results := [.lit (.bool false)], args := [d], vars := [g1] }
  | _ => none }
def FnExactMirrorWrongFalsely : Prop := fnExactMirrorRow.holds Tryd.pinned (OpenSpec.ofChange fnExactMirrorWrong)

/-- 'laws.FnExactTranspose': WHATEVER THE INPUT: true; the input reads as it did. -/
def fnExactTransposeSpec : ChangeSpec := { name := "fnExactTranspose", vars := ["loop.example/g00120/impl.zigzagWay"], fn := fun _ => fun
  | [d, g1] => { results := [.lit (.bool true)], args := [d], vars := [g1] }
  | _ => none }
def fnExactTransposeRow : OpenClaim := { program := "ytcodmkampihphaadoor", sum := "0672be0a8dd9dd9e5dbceb745121a7f9a7d2fdb00411a9f2e1c8fc33e9395793", func := "loop.example/g00120/laws.FnExactTranspose", spec := "fnExactTranspose", unfollowed := true, recurses := true, named := ["loop.example/g00120/impl.zigzagWay"], apart := false, laid := [("loop.example/g00120/impl.zigzagWay", laid_loop_example_g00120_impl_zigzagWay)] }
def FnExactTransposeSaid : Prop := fnExactTransposeRow.holds Tryd.pinned (OpenSpec.ofChange fnExactTransposeSpec)

/-- ITS FALSE NEIGHBOUR: 'it returns false'. Refute it at one input. -/
def fnExactTransposeWrong : ChangeSpec := { name := "fnExactTranspose", vars := ["loop.example/g00120/impl.zigzagWay"], fn := fun _ => fun
  | [d, g1] => { results := [.lit (.bool false)], args := [d], vars := [g1] }
  | _ => none }
def FnExactTransposeWrongFalsely : Prop := fnExactTransposeRow.holds Tryd.pinned (OpenSpec.ofChange fnExactTransposeWrong)

/- THE SECOND FORM. 'bulk': how many values and letters a reading holds, each counted each time it is reached (what is shared counts as often as it is met; a slice's spare places count too). A statement '..UptoSaid' is the law's where the arguments, and the package variables that the reading takes, are together of bulk at most 1048576: NARROWER than '..Said'. Prove '..Said' where nothing that the law and all that it calls make is longer than what came in: it says more and counts as full. Else prove '..UptoSaid'. A law counts once. -/
mutual
def uptoBulk {H : Type} : DataW H → Nat
  | .lit (.string bytes) => bytes.length + 1
  | .lit _ => 1
  | .nil => 1
  | .ptr d => uptoBulk d + 1
  | .slice elems spare => uptoBulkAll elems + uptoBulkAll spare + 1
  | .agg parts => uptoBulkAll parts + 1
  | .iface _ d => uptoBulk d + 1
  | .map entries => uptoBulkEntries entries + 1
  | .held _ => 1
def uptoBulkAll {H : Type} : List (DataW H) → Nat
  | [] => 0
  | d :: r => uptoBulk d + uptoBulkAll r
def uptoBulkEntries {H : Type} : List (Lit × DataW H) → Nat
  | [] => 0
  | x :: r => uptoBulkEntry x + uptoBulkEntries r
def uptoBulkEntry {H : Type} : Lit × DataW H → Nat
  | (.string bytes, d) => bytes.length + uptoBulk d + 1
  | (_, d) => uptoBulk d + 1
 end
def uptoSmall : (H : Type) → List (DataW H) → Bool := fun _ ds => decide (uptoBulkAll ds ≤ 1048576)
def OpenSpec.upto (s : _root_.Go.ChangeSpec) : _root_.Go.OpenSpec := { _root_.Go.OpenSpec.ofChange s with cond := some uptoSmall }

/-- 'laws.FnCells', WHERE WHAT IT READS IS OF BULK AT MOST 1048576: true; the input reads as it did. -/
def fnCellsUptoRow : OpenClaim := { program := "ytcodmkampihphaadoor", sum := "0672be0a8dd9dd9e5dbceb745121a7f9a7d2fdb00411a9f2e1c8fc33e9395793", func := "loop.example/g00120/laws.FnCells", spec := "fnCells", unfollowed := true, recurses := true, named := ["loop.example/g00120/impl.zigzagWay"], apart := false, laid := [("loop.example/g00120/impl.zigzagWay", laid_loop_example_g00120_impl_zigzagWay)], narrowed := true }
def FnCellsUptoSaid : Prop := fnCellsUptoRow.holds Tryd.pinned (OpenSpec.upto fnCellsSpec)

/-- 'laws.FnExactCell', WHERE WHAT IT READS IS OF BULK AT MOST 1048576: true; the input reads as it did. -/
def fnExactCellUptoRow : OpenClaim := { program := "ytcodmkampihphaadoor", sum := "0672be0a8dd9dd9e5dbceb745121a7f9a7d2fdb00411a9f2e1c8fc33e9395793", func := "loop.example/g00120/laws.FnExactCell", spec := "fnExactCell", named := ["loop.example/g00120/impl.zigzagWay"], apart := false, laid := [("loop.example/g00120/impl.zigzagWay", laid_loop_example_g00120_impl_zigzagWay)], narrowed := true }
def FnExactCellUptoSaid : Prop := fnExactCellUptoRow.holds Tryd.pinned (OpenSpec.upto fnExactCellSpec)

/-- 'laws.FnExactFromCells', WHERE WHAT IT READS IS OF BULK AT MOST 1048576: true; the input reads as it did. -/
def fnExactFromCellsUptoRow : OpenClaim := { program := "ytcodmkampihphaadoor", sum := "0672be0a8dd9dd9e5dbceb745121a7f9a7d2fdb00411a9f2e1c8fc33e9395793", func := "loop.example/g00120/laws.FnExactFromCells", spec := "fnExactFromCells", named := ["loop.example/g00120/impl.zigzagWay"], apart := false, laid := [("loop.example/g00120/impl.zigzagWay", laid_loop_example_g00120_impl_zigzagWay)], narrowed := true }
def FnExactFromCellsUptoSaid : Prop := fnExactFromCellsUptoRow.holds Tryd.pinned (OpenSpec.upto fnExactFromCellsSpec)

/-- 'laws.FnExactMirror', WHERE WHAT IT READS IS OF BULK AT MOST 1048576: true; the input reads as it did. -/
def fnExactMirrorUptoRow : OpenClaim := { program := "ytcodmkampihphaadoor", sum := "0672be0a8dd9dd9e5dbceb745121a7f9a7d2fdb00411a9f2e1c8fc33e9395793", func := "loop.example/g00120/laws.FnExactMirror", spec := "fnExactMirror", unfollowed := true, recurses := true, named := ["loop.example/g00120/impl.zigzagWay"], apart := false, laid := [("loop.example/g00120/impl.zigzagWay", laid_loop_example_g00120_impl_zigzagWay)], narrowed := true }
def FnExactMirrorUptoSaid : Prop := fnExactMirrorUptoRow.holds Tryd.pinned (OpenSpec.upto fnExactMirrorSpec)

/-- 'laws.FnExactTranspose', WHERE WHAT IT READS IS OF BULK AT MOST 1048576: true; the input reads as it did. -/
def fnExactTransposeUptoRow : OpenClaim := { program := "ytcodmkampihphaadoor", sum := "0672be0a8dd9dd9e5dbceb745121a7f9a7d2fdb00411a9f2e1c8fc33e9395793", func := "loop.example/g00120/laws.FnExactTranspose", spec := "fnExactTranspose", unfollowed := true, recurses := true, named := ["loop.example/g00120/impl.zigzagWay"], apart := false, laid := [("loop.example/g00120/impl.zigzagWay", laid_loop_example_g00120_impl_zigzagWay)], narrowed := true }
def FnExactTransposeUptoSaid : Prop := fnExactTransposeUptoRow.holds Tryd.pinned (OpenSpec.upto fnExactTransposeSpec)

end Rows
end Go.Proofs.YtcodmkampihphaaDoor
