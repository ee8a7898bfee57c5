/-
  No cell of these rows narrows 'for every input' (looked for: loops, veiled, ifaces, maps, wideKeys, modest, calm, conditions, laid).
  DERIVED. THE GIVEN ROWS OF THIS SEAT. 6 by the template 'for every input the law returns true; each argument reads behind the call as it read before'; 0 by the template 'total and deterministic' (their statements: YtokmkijpfmopiaaTotals.lean).
  GIVEN WITH THE SEED: the statements are not yours to turn. If you find one false, say at which input.
  Laid BY PROGRAM, IN A SANDBOX (cutbox-rows.mjs): the forced cells as the released guide's own fill.sh prints them over the translation ca74b26a6521755d… (all of the seat's roots in one cut). By AI agents, Wed Nov 11 2026. No macro, syntax, notation, axiom, sorry.
-/
import Derived.Test.YtokmkijpfmopiaaChecked
import GoSem.Claim
import GoSem.ClaimJoined
import GoSem.ClaimMapViews
import Derived.JoinedTies
import Derived.KernelRfl
namespace Go.Proofs.Ytokmkijpfmopiaa
/- THE CELL 'sum', in the pinned program and in every row, IS THE sha256 OF THE DUMP (.gsa) THAT YtokmkijpfmopiaaProg.lean LOADS. Nothing in Lean hashes anything: it is a label: what it is worth is what the hold of that sum in a sandbox is worth. -/
noncomputable def Try.pinned : Pinned := { name := "ytokmkijpfmopiaa", sum := "ca74b26a6521755dd042b0fe5ed22a21b4922dc2f2673073bcaca75ea7cc7705", checked := Try.checked }
namespace Rows
def none {H : Type} : Left H := { results := [], args := [] }

/-- 'laws.FnLearn': WHATEVER THE INPUT: true; the input reads as it did. -/
def fnLearnSpec : ChangeSpec := { name := "fnLearn", fn := fun _ => fun
  | [d] => { results := [.lit (.bool true)], args := [d] }
  | _ => none }
def fnLearnRow : OpenClaim := { program := "ytokmkijpfmopiaa", sum := "ca74b26a6521755dd042b0fe5ed22a21b4922dc2f2673073bcaca75ea7cc7705", func := "loop.example/g00120/laws.FnLearn", spec := "fnLearn", apart := false }
def FnLearnSaid : Prop := fnLearnRow.holds Try.pinned (OpenSpec.ofChange fnLearnSpec)

/-- ITS FALSE NEIGHBOUR: 'it returns false'. Refute it at one input. -/
def fnLearnWrong : ChangeSpec := { name := "fnLearn", fn := fun _ => fun
  | [d] => { results := [.lit (.bool false)], args := [d] }
  | _ => none }
def FnLearnWrongFalsely : Prop := fnLearnRow.holds Try.pinned (OpenSpec.ofChange fnLearnWrong)

/-- 'laws.FnExactCoderStart': WHATEVER THE INPUT: true; the input reads as it did. -/
def fnExactCoderStartSpec : ChangeSpec := { name := "fnExactCoderStart", fn := fun _ => fun
  | [d] => { results := [.lit (.bool true)], args := [d] }
  | _ => none }
def fnExactCoderStartRow : OpenClaim := { program := "ytokmkijpfmopiaa", sum := "ca74b26a6521755dd042b0fe5ed22a21b4922dc2f2673073bcaca75ea7cc7705", func := "loop.example/g00120/laws.FnExactCoderStart", spec := "fnExactCoderStart", apart := false }
def FnExactCoderStartSaid : Prop := fnExactCoderStartRow.holds Try.pinned (OpenSpec.ofChange fnExactCoderStartSpec)

/-- ITS FALSE NEIGHBOUR: 'it returns false'. Refute it at one input. -/
def fnExactCoderStartWrong : ChangeSpec := { name := "fnExactCoderStart", fn := fun _ => fun
  | [d] => { results := [.lit (.bool false)], args := [d] }
  | _ => none }
def FnExactCoderStartWrongFalsely : Prop := fnExactCoderStartRow.holds Try.pinned (OpenSpec.ofChange fnExactCoderStartWrong)

/-- 'laws.FnExactCoderMid': WHATEVER THE INPUT: true; the input reads as it did. -/
def fnExactCoderMidSpec : ChangeSpec := { name := "fnExactCoderMid", fn := fun _ => fun
  | [d1, d2, d3] => { results := [.lit (.bool true)], args := [d1, d2, d3] }
  | _ => none }
def fnExactCoderMidRow : OpenClaim := { program := "ytokmkijpfmopiaa", sum := "ca74b26a6521755dd042b0fe5ed22a21b4922dc2f2673073bcaca75ea7cc7705", func := "loop.example/g00120/laws.FnExactCoderMid", spec := "fnExactCoderMid", apart := false }
def FnExactCoderMidSaid : Prop := fnExactCoderMidRow.holds Try.pinned (OpenSpec.ofChange fnExactCoderMidSpec)

/-- ITS FALSE NEIGHBOUR: 'it returns false'. Refute it at one input. -/
def fnExactCoderMidWrong : ChangeSpec := { name := "fnExactCoderMid", fn := fun _ => fun
  | [d1, d2, d3] => { results := [.lit (.bool false)], args := [d1, d2, d3] }
  | _ => none }
def FnExactCoderMidWrongFalsely : Prop := fnExactCoderMidRow.holds Try.pinned (OpenSpec.ofChange fnExactCoderMidWrong)

/-- 'laws.FnExactCoderEnd': WHATEVER THE INPUT: true; the input reads as it did. -/
def fnExactCoderEndSpec : ChangeSpec := { name := "fnExactCoderEnd", fn := fun _ => fun
  | [d] => { results := [.lit (.bool true)], args := [d] }
  | _ => none }
def fnExactCoderEndRow : OpenClaim := { program := "ytokmkijpfmopiaa", sum := "ca74b26a6521755dd042b0fe5ed22a21b4922dc2f2673073bcaca75ea7cc7705", func := "loop.example/g00120/laws.FnExactCoderEnd", spec := "fnExactCoderEnd", apart := false }
def FnExactCoderEndSaid : Prop := fnExactCoderEndRow.holds Try.pinned (OpenSpec.ofChange fnExactCoderEndSpec)

/-- ITS FALSE NEIGHBOUR: 'it returns false'. Refute it at one input. -/
def fnExactCoderEndWrong : ChangeSpec := { name := "fnExactCoderEnd", fn := fun _ => fun
  | [d] => { results := [.lit (.bool false)], args := [d] }
  | _ => none }
def FnExactCoderEndWrongFalsely : Prop := fnExactCoderEndRow.holds Try.pinned (OpenSpec.ofChange fnExactCoderEndWrong)

/-- 'laws.FnExactReaderStart': WHATEVER THE INPUT: true; the input reads as it did. -/
def fnExactReaderStartSpec : ChangeSpec := { name := "fnExactReaderStart", fn := fun _ => fun
  | [d] => { results := [.lit (.bool true)], args := [d] }
  | _ => none }
def fnExactReaderStartRow : OpenClaim := { program := "ytokmkijpfmopiaa", sum := "ca74b26a6521755dd042b0fe5ed22a21b4922dc2f2673073bcaca75ea7cc7705", func := "loop.example/g00120/laws.FnExactReaderStart", spec := "fnExactReaderStart", apart := false }
def FnExactReaderStartSaid : Prop := fnExactReaderStartRow.holds Try.pinned (OpenSpec.ofChange fnExactReaderStartSpec)

/-- ITS FALSE NEIGHBOUR: 'it returns false'. Refute it at one input. -/
def fnExactReaderStartWrong : ChangeSpec := { name := "fnExactReaderStart", fn := fun _ => fun
  | [d] => { results := [.lit (.bool false)], args := [d] }
  | _ => none }
def FnExactReaderStartWrongFalsely : Prop := fnExactReaderStartRow.holds Try.pinned (OpenSpec.ofChange fnExactReaderStartWrong)

/-- 'laws.FnExactLearn': WHATEVER THE INPUT: true; the input reads as it did. -/
def fnExactLearnSpec : ChangeSpec := { name := "fnExactLearn", fn := fun _ => fun
  | [d1, d2] => { results := [.lit (.bool true)], args := [d1, d2] }
  | _ => none }
def fnExactLearnRow : OpenClaim := { program := "ytokmkijpfmopiaa", sum := "ca74b26a6521755dd042b0fe5ed22a21b4922dc2f2673073bcaca75ea7cc7705", func := "loop.example/g00120/laws.FnExactLearn", spec := "fnExactLearn", apart := false }
def FnExactLearnSaid : Prop := fnExactLearnRow.holds Try.pinned (OpenSpec.ofChange fnExactLearnSpec)

/-- ITS FALSE NEIGHBOUR: 'it returns false'. Refute it at one input. -/
def fnExactLearnWrong : ChangeSpec := { name := "fnExactLearn", fn := fun _ => fun
  | [d1, d2] => { results := [.lit (.bool false)], args := [d1, d2] }
  | _ => none }
def FnExactLearnWrongFalsely : Prop := fnExactLearnRow.holds Try.pinned (OpenSpec.ofChange fnExactLearnWrong)

/- THE SECOND FORM. 'bulk': how many values and letters a reading holds, each counted each time it is reached (what is shared counts as often as it is met; a slice's spare places count too). A statement '..UptoSaid' is the law's where the arguments, and the package variables that the reading takes, are together of bulk at most 1048576: NARROWER than '..Said'. Prove '..Said' where nothing that the law and all that it calls make is longer than what came in: it says more and counts as full. Else prove '..UptoSaid'. A law counts once. -/
mutual
def uptoBulk {H : Type} : DataW H → Nat
  | .lit (.string bytes) => bytes.length + 1
  | .lit _ => 1
  | .nil => 1
  | .ptr d => uptoBulk d + 1
  | .slice elems spare => uptoBulkAll elems + uptoBulkAll spare + 1
  | .agg parts => uptoBulkAll parts + 1
  | .iface _ d => uptoBulk d + 1
  | .map entries => uptoBulkEntries entries + 1
  | .held _ => 1
def uptoBulkAll {H : Type} : List (DataW H) → Nat
  | [] => 0
  | d :: r => uptoBulk d + uptoBulkAll r
def uptoBulkEntries {H : Type} : List (Lit × DataW H) → Nat
  | [] => 0
  | x :: r => uptoBulkEntry x + uptoBulkEntries r
def uptoBulkEntry {H : Type} : Lit × DataW H → Nat
  | (.string bytes, d) => bytes.length + uptoBulk d + 1
  | (_, d) => uptoBulk d + 1
 end
def uptoSmall : (H : Type) → List (DataW H) → Bool := fun _ ds => decide (uptoBulkAll ds ≤ 1048576)
def OpenSpec.upto (s : _root_.Go.ChangeSpec) : _root_.Go.OpenSpec := { _root_.Go.OpenSpec.ofChange s with cond := some uptoSmall }

/-- 'laws.FnLearn', WHERE WHAT IT READS IS OF BULK AT MOST 1048576: true; the input reads as it did. -/
def fnLearnUptoRow : OpenClaim := { program := "ytokmkijpfmopiaa", sum := "ca74b26a6521755dd042b0fe5ed22a21b4922dc2f2673073bcaca75ea7cc7705", func := "loop.example/g00120/laws.FnLearn", spec := "fnLearn", apart := false, narrowed := true }
def FnLearnUptoSaid : Prop := fnLearnUptoRow.holds Try.pinned (OpenSpec.upto fnLearnSpec)

/-- 'laws.FnExactCoderStart', WHERE WHAT IT READS IS OF BULK AT MOST 1048576: true; the input reads as it did. -/
def fnExactCoderStartUptoRow : OpenClaim := { program := "ytokmkijpfmopiaa", sum := "ca74b26a6521755dd042b0fe5ed22a21b4922dc2f2673073bcaca75ea7cc7705", func := "loop.example/g00120/laws.FnExactCoderStart", spec := "fnExactCoderStart", apart := false, narrowed := true }
def FnExactCoderStartUptoSaid : Prop := fnExactCoderStartUptoRow.holds Try.pinned (OpenSpec.upto fnExactCoderStartSpec)

/-- 'laws.FnExactCoderMid', WHERE WHAT IT READS IS OF BULK AT MOST 1048576: true; the input reads as it did. -/
def fnExactCoderMidUptoRow : OpenClaim := { program := "ytokmkijpfmopiaa", sum := "ca74b26a6521755dd042b0fe5ed22a21b4922dc2f2673073bcaca75ea7cc7705", func := "loop.example/g00120/laws.FnExactCoderMid", spec := "fnExactCoderMid", apart := false, narrowed := true }
def FnExactCoderMidUptoSaid : Prop := fnExactCoderMidUptoRow.holds Try.pinned (OpenSpec.upto fnExactCoderMidSpec)

/-- 'laws.FnExactCoderEnd', WHERE WHAT IT READS IS OF BULK AT MOST 1048576: true; the input reads as it did. -/
def fnExactCoderEndUptoRow : OpenClaim := { program := "ytokmkijpfmopiaa", sum := "ca74b26a6521755dd042b0fe5ed22a21b4922dc2f2673073bcaca75ea7cc7705", func := "loop.example/g00120/laws.FnExactCoderEnd", spec := "fnExactCoderEnd", apart := false, narrowed := true }
def FnExactCoderEndUptoSaid : Prop := fnExactCoderEndUptoRow.holds Try.pinned (OpenSpec.upto fnExactCoderEndSpec)

/-- 'laws.FnExactReaderStart', WHERE WHAT IT READS IS OF BULK AT MOST 1048576: true; the input reads as it did. -/
def fnExactReaderStartUptoRow : OpenClaim := { program := "ytokmkijpfmopiaa", sum := "ca74b26a6521755dd042b0fe5ed22a21b4922dc2f2673073bcaca75ea7cc7705", func := "loop.example/g00120/laws.FnExactReaderStart", spec := "fnExactReaderStart", apart := false, narrowed := true }
def FnExactReaderStartUptoSaid : Prop := fnExactReaderStartUptoRow.holds Try.pinned (OpenSpec.upto fnExactReaderStartSpec)

/-- 'laws.FnExactLearn', WHERE WHAT IT READS IS OF BULK AT MOST 1048576: true; the input reads as it did. -/
def fnExactLearnUptoRow : OpenClaim := { program := "ytokmkijpfmopiaa", sum := "ca74b26a6521755dd042b0fe5ed22a21b4922dc2f2673073bcaca75ea7cc7705", func := "loop.example/g00120/laws.FnExactLearn", spec := "fnExactLearn", apart := false, narrowed := true }
def FnExactLearnUptoSaid : Prop := fnExactLearnUptoRow.holds Try.pinned (OpenSpec.upto fnExactLearnSpec)

end Rows
end Go.Proofs.Ytokmkijpfmopiaa
