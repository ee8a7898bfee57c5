/-
  No cell of these rows narrows 'for every input' (looked for: loops, veiled, ifaces, maps, wideKeys, modest, calm, conditions, laid).
  DERIVED. THE GIVEN ROWS OF THIS SEAT. 5 by the template 'for every input the law returns true; each argument reads behind the call as it read before'; 0 by the template 'total and deterministic' (their statements: YtflfgdgkpmlhnaaTotals.lean).
  GIVEN WITH THE SEED: the statements are not yours to turn. If you find one false, say at which input.
  Laid BY PROGRAM, IN A SANDBOX (cutbox-rows.mjs): the forced cells as the released guide's own fill.sh prints them over the translation 725bd206db457ba3… (all of the seat's roots in one cut). By AI agents, Wed Nov 11 2026. No macro, syntax, notation, axiom, sorry.
-/
import Derived.Test.YtflfgdgkpmlhnaaChecked
import GoSem.Claim
import GoSem.ClaimJoined
import GoSem.ClaimMapViews
import Derived.JoinedTies
import Derived.KernelRfl
namespace Go.Proofs.Ytflfgdgkpmlhnaa
/- THE CELL 'sum', in the pinned program and in every row, IS THE sha256 OF THE DUMP (.gsa) THAT YtflfgdgkpmlhnaaProg.lean LOADS. Nothing in Lean hashes anything: it is a label: what it is worth is what the hold of that sum in a sandbox is worth. -/
noncomputable def Try.pinned : Pinned := { name := "ytflfgdgkpmlhnaa", sum := "725bd206db457ba362e961aba277ee78785632b23b8d2e8336ee7e670a4b16bd", checked := Try.checked }
namespace Rows
def none {H : Type} : Left H := { results := [], args := [] }

/-- 'laws.FnExactPicOk': WHATEVER THE INPUT: true; the input reads as it did. -/
def fnExactPicOkSpec : ChangeSpec := { name := "fnExactPicOk", fn := fun _ => fun
  | [d] => { results := [.lit (.bool true)], args := [d] }
  | _ => none }
def fnExactPicOkRow : OpenClaim := { program := "ytflfgdgkpmlhnaa", sum := "725bd206db457ba362e961aba277ee78785632b23b8d2e8336ee7e670a4b16bd", func := "loop.example/g00120/laws.FnExactPicOk", spec := "fnExactPicOk", plainKeys := false, apart := false }
def FnExactPicOkSaid : Prop := fnExactPicOkRow.holds Try.pinned (OpenSpec.ofChange fnExactPicOkSpec)

/-- ITS FALSE NEIGHBOUR: 'it returns false'. Refute it at one input. -/
def fnExactPicOkWrong : ChangeSpec := { name := "fnExactPicOk", fn := fun _ => fun
  | [d] => { results := [.lit (.bool false)], args := [d] }
  | _ => none }
def FnExactPicOkWrongFalsely : Prop := fnExactPicOkRow.holds Try.pinned (OpenSpec.ofChange fnExactPicOkWrong)

/-- 'laws.FnExactPutCodes': WHATEVER THE INPUT: true; the input reads as it did. -/
def fnExactPutCodesSpec : ChangeSpec := { name := "fnExactPutCodes", fn := fun _ => fun
  | [d] => { results := [.lit (.bool true)], args := [d] }
  | _ => none }
def fnExactPutCodesRow : OpenClaim := { program := "ytflfgdgkpmlhnaa", sum := "725bd206db457ba362e961aba277ee78785632b23b8d2e8336ee7e670a4b16bd", func := "loop.example/g00120/laws.FnExactPutCodes", spec := "fnExactPutCodes", plainKeys := false, apart := false }
def FnExactPutCodesSaid : Prop := fnExactPutCodesRow.holds Try.pinned (OpenSpec.ofChange fnExactPutCodesSpec)

/-- ITS FALSE NEIGHBOUR: 'it returns false'. Refute it at one input. -/
def fnExactPutCodesWrong : ChangeSpec := { name := "fnExactPutCodes", fn := fun _ => fun
  | [d] => { results := [.lit (.bool false)], args := [d] }
  | _ => none }
def FnExactPutCodesWrongFalsely : Prop := fnExactPutCodesRow.holds Try.pinned (OpenSpec.ofChange fnExactPutCodesWrong)

/-- 'laws.FnExactGetCodes': WHATEVER THE INPUT: true; the input reads as it did. -/
def fnExactGetCodesSpec : ChangeSpec := { name := "fnExactGetCodes", fn := fun _ => fun
  | [d1, d2] => { results := [.lit (.bool true)], args := [d1, d2] }
  | _ => none }
def fnExactGetCodesRow : OpenClaim := { program := "ytflfgdgkpmlhnaa", sum := "725bd206db457ba362e961aba277ee78785632b23b8d2e8336ee7e670a4b16bd", func := "loop.example/g00120/laws.FnExactGetCodes", spec := "fnExactGetCodes", plainKeys := false, apart := false }
def FnExactGetCodesSaid : Prop := fnExactGetCodesRow.holds Try.pinned (OpenSpec.ofChange fnExactGetCodesSpec)

/-- ITS FALSE NEIGHBOUR: 'it returns false'. Refute it at one input. -/
def fnExactGetCodesWrong : ChangeSpec := { name := "fnExactGetCodes", fn := fun _ => fun
  | [d1, d2] => { results := [.lit (.bool false)], args := [d1, d2] }
  | _ => none }
def FnExactGetCodesWrongFalsely : Prop := fnExactGetCodesRow.holds Try.pinned (OpenSpec.ofChange fnExactGetCodesWrong)

/-- 'laws.FnExactPicWrite': WHATEVER THE INPUT: true; the input reads as it did. -/
def fnExactPicWriteSpec : ChangeSpec := { name := "fnExactPicWrite", fn := fun _ => fun
  | [d] => { results := [.lit (.bool true)], args := [d] }
  | _ => none }
def fnExactPicWriteRow : OpenClaim := { program := "ytflfgdgkpmlhnaa", sum := "725bd206db457ba362e961aba277ee78785632b23b8d2e8336ee7e670a4b16bd", func := "loop.example/g00120/laws.FnExactPicWrite", spec := "fnExactPicWrite", inPlace := ["internal/abi.NoEscape", "internal/bytealg.MakeNoZero"], plainKeys := false, apart := false }
def FnExactPicWriteSaid : Prop := fnExactPicWriteRow.holds Try.pinned (OpenSpec.ofChange fnExactPicWriteSpec)

/-- ITS FALSE NEIGHBOUR: 'it returns false'. Refute it at one input. -/
def fnExactPicWriteWrong : ChangeSpec := { name := "fnExactPicWrite", fn := fun _ => fun
  | [d] => { results := [.lit (.bool false)], args := [d] }
  | _ => none }
def FnExactPicWriteWrongFalsely : Prop := fnExactPicWriteRow.holds Try.pinned (OpenSpec.ofChange fnExactPicWriteWrong)

/-- 'laws.FnExactPicCost': WHATEVER THE INPUT: true; the input reads as it did. -/
def fnExactPicCostSpec : ChangeSpec := { name := "fnExactPicCost", fn := fun _ => fun
  | [d] => { results := [.lit (.bool true)], args := [d] }
  | _ => none }
def fnExactPicCostRow : OpenClaim := { program := "ytflfgdgkpmlhnaa", sum := "725bd206db457ba362e961aba277ee78785632b23b8d2e8336ee7e670a4b16bd", func := "loop.example/g00120/laws.FnExactPicCost", spec := "fnExactPicCost", inPlace := ["internal/abi.NoEscape", "internal/bytealg.MakeNoZero"], plainKeys := false, apart := false }
def FnExactPicCostSaid : Prop := fnExactPicCostRow.holds Try.pinned (OpenSpec.ofChange fnExactPicCostSpec)

/-- ITS FALSE NEIGHBOUR: 'it returns false'. Refute it at one input. -/
def fnExactPicCostWrong : ChangeSpec := { name := "fnExactPicCost", fn := fun _ => fun
  | [d] => { results := [.lit (.bool false)], args := [d] }
  | _ => none }
def FnExactPicCostWrongFalsely : Prop := fnExactPicCostRow.holds Try.pinned (OpenSpec.ofChange fnExactPicCostWrong)

/- THE SECOND FORM. 'bulk': how many values and letters a reading holds, each counted each time it is reached (what is shared counts as often as it is met; a slice's spare places count too). A statement '..UptoSaid' is the law's where the arguments, and the package variables that the reading takes, are together of bulk at most 1048576: NARROWER than '..Said'. Prove '..Said' where nothing that the law and all that it calls make is longer than what came in: it says more and counts as full. Else prove '..UptoSaid'. A law counts once. -/
mutual
def uptoBulk {H : Type} : DataW H → Nat
  | .lit (.string bytes) => bytes.length + 1
  | .lit _ => 1
  | .nil => 1
  | .ptr d => uptoBulk d + 1
  | .slice elems spare => uptoBulkAll elems + uptoBulkAll spare + 1
  | .agg parts => uptoBulkAll parts + 1
  | .iface _ d => uptoBulk d + 1
  | .map entries => uptoBulkEntries entries + 1
  | .held _ => 1
def uptoBulkAll {H : Type} : List (DataW H) → Nat
  | [] => 0
  | d :: r => uptoBulk d + uptoBulkAll r
def uptoBulkEntries {H : Type} : List (Lit × DataW H) → Nat
  | [] => 0
  | x :: r => uptoBulkEntry x + uptoBulkEntries r
def uptoBulkEntry {H : Type} : Lit × DataW H → Nat
  | (.string bytes, d) => bytes.length + uptoBulk d + 1
  | (_, d) => uptoBulk d + 1
 end
def uptoSmall : (H : Type) → List (DataW H) → Bool := fun _ ds => decide (uptoBulkAll ds ≤ 1048576)
def OpenSpec.upto (s : _root_.Go.ChangeSpec) : _root_.Go.OpenSpec := { _root_.Go.OpenSpec.ofChange s with cond := some uptoSmall }

/-- 'laws.FnExactPicOk', WHERE WHAT IT READS IS OF BULK AT MOST 1048576: true; the input reads as it did. -/
def fnExactPicOkUptoRow : OpenClaim := { program := "ytflfgdgkpmlhnaa", sum := "725bd206db457ba362e961aba277ee78785632b23b8d2e8336ee7e670a4b16bd", func := "loop.example/g00120/laws.FnExactPicOk", spec := "fnExactPicOk", plainKeys := false, apart := false, narrowed := true }
def FnExactPicOkUptoSaid : Prop := fnExactPicOkUptoRow.holds Try.pinned (OpenSpec.upto fnExactPicOkSpec)

/-- 'laws.FnExactPutCodes', WHERE WHAT IT READS IS OF BULK AT MOST 1048576: true; the input reads as it did. -/
def fnExactPutCodesUptoRow : OpenClaim := { program := "ytflfgdgkpmlhnaa", sum := "725bd206db457ba362e961aba277ee78785632b23b8d2e8336ee7e670a4b16bd", func := "loop.example/g00120/laws.FnExactPutCodes", spec := "fnExactPutCodes", plainKeys := false, apart := false, narrowed := true }
def FnExactPutCodesUptoSaid : Prop := fnExactPutCodesUptoRow.holds Try.pinned (OpenSpec.upto fnExactPutCodesSpec)

/-- 'laws.FnExactGetCodes', WHERE WHAT IT READS IS OF BULK AT MOST 1048576: true; the input reads as it did. -/
def fnExactGetCodesUptoRow : OpenClaim := { program := "ytflfgdgkpmlhnaa", sum := "725bd206db457ba362e961aba277ee78785632b23b8d2e8336ee7e670a4b16bd", func := "loop.example/g00120/laws.FnExactGetCodes", spec := "fnExactGetCodes", plainKeys := false, apart := false, narrowed := true }
def FnExactGetCodesUptoSaid : Prop := fnExactGetCodesUptoRow.holds Try.pinned (OpenSpec.upto fnExactGetCodesSpec)

/-- 'laws.FnExactPicWrite', WHERE WHAT IT READS IS OF BULK AT MOST 1048576: true; the input reads as it did. -/
def fnExactPicWriteUptoRow : OpenClaim := { program := "ytflfgdgkpmlhnaa", sum := "725bd206db457ba362e961aba277ee78785632b23b8d2e8336ee7e670a4b16bd", func := "loop.example/g00120/laws.FnExactPicWrite", spec := "fnExactPicWrite", inPlace := ["internal/abi.NoEscape", "internal/bytealg.MakeNoZero"], plainKeys := false, apart := false, narrowed := true }
def FnExactPicWriteUptoSaid : Prop := fnExactPicWriteUptoRow.holds Try.pinned (OpenSpec.upto fnExactPicWriteSpec)

/-- 'laws.FnExactPicCost', WHERE WHAT IT READS IS OF BULK AT MOST 1048576: true; the input reads as it did. -/
def fnExactPicCostUptoRow : OpenClaim := { program := "ytflfgdgkpmlhnaa", sum := "725bd206db457ba362e961aba277ee78785632b23b8d2e8336ee7e670a4b16bd", func := "loop.example/g00120/laws.FnExactPicCost", spec := "fnExactPicCost", inPlace := ["internal/abi.NoEscape", "internal/bytealg.MakeNoZero"], plainKeys := false, apart := false, narrowed := true }
def FnExactPicCostUptoSaid : Prop := fnExactPicCostUptoRow.holds Try.pinned (OpenSpec.upto fnExactPicCostSpec)

end Rows
end Go.Proofs.Ytflfgdgkpmlhnaa
