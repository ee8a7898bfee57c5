/-
  No cell of these rows narrows 'for every input' (looked for: loops, veiled, ifaces, maps, wideKeys, modest, calm, conditions, laid).
  DERIVED. THE GIVEN ROWS OF THIS SEAT. 6 by the template 'for every input the law returns true; each argument reads behind the call as it read before'; 0 by the template 'total and deterministic' (their statements: YtahknoeloclofaaTotals.lean).
  GIVEN WITH THE SEED: the statements are not yours to turn. If you find one false, say at which input.
  Laid BY PROGRAM, IN A SANDBOX (cutbox-rows.mjs): the forced cells as the released guide's own fill.sh prints them over the translation c0d1c30904bb21f6… (all of the seat's roots in one cut). By AI agents, Wed Nov 11 2026. No macro, syntax, notation, axiom, sorry.
-/
import Derived.Test.YtahknoeloclofaaChecked
import GoSem.Claim
import GoSem.ClaimJoined
import GoSem.ClaimMapViews
import Derived.JoinedTies
import Derived.KernelRfl
namespace Go.Proofs.Ytahknoeloclofaa
/- THE CELL 'sum', in the pinned program and in every row, IS THE sha256 OF THE DUMP (.gsa) THAT YtahknoeloclofaaProg.lean LOADS. Nothing in Lean hashes anything: it is a label: what it is worth is what the hold of that sum in a sandbox is worth. -/
noncomputable def Try.pinned : Pinned := { name := "ytahknoeloclofaa", sum := "c0d1c30904bb21f648853d84c6d4b931d42ebdbf5ec47504f9cfd14c817b4027", checked := Try.checked }
namespace Rows
def none {H : Type} : Left H := { results := [], args := [] }

/-- 'laws.FnCoder': WHATEVER THE INPUT: true; the input reads as it did. -/
def fnCoderSpec : ChangeSpec := { name := "fnCoder", fn := fun _ => fun
  | [d] => { results := [.lit (.bool true)], args := [d] }
  | _ => none }
def fnCoderRow : OpenClaim := { program := "ytahknoeloclofaa", sum := "c0d1c30904bb21f648853d84c6d4b931d42ebdbf5ec47504f9cfd14c817b4027", func := "loop.example/g00120/laws.FnCoder", spec := "fnCoder", unfollowed := true, recurses := true, apart := false }
def FnCoderSaid : Prop := fnCoderRow.holds Try.pinned (OpenSpec.ofChange fnCoderSpec)

/-- ITS FALSE NEIGHBOUR: 'it returns false'. Refute it at one input. -/
def fnCoderWrong : ChangeSpec := { name := "fnCoder", fn := fun _ => fun
  | [d] => { results := [.lit (.bool false)], args := [d] }
  | _ => none }
def FnCoderWrongFalsely : Prop := fnCoderRow.holds Try.pinned (OpenSpec.ofChange fnCoderWrong)

/-- 'laws.FnBounds': WHATEVER THE INPUT: true; the input reads as it did. -/
def fnBoundsSpec : ChangeSpec := { name := "fnBounds", fn := fun _ => fun
  | [d] => { results := [.lit (.bool true)], args := [d] }
  | _ => none }
def fnBoundsRow : OpenClaim := { program := "ytahknoeloclofaa", sum := "c0d1c30904bb21f648853d84c6d4b931d42ebdbf5ec47504f9cfd14c817b4027", func := "loop.example/g00120/laws.FnBounds", spec := "fnBounds", unfollowed := true, recurses := true, apart := false }
def FnBoundsSaid : Prop := fnBoundsRow.holds Try.pinned (OpenSpec.ofChange fnBoundsSpec)

/-- ITS FALSE NEIGHBOUR: 'it returns false'. Refute it at one input. -/
def fnBoundsWrong : ChangeSpec := { name := "fnBounds", fn := fun _ => fun
  | [d] => { results := [.lit (.bool false)], args := [d] }
  | _ => none }
def FnBoundsWrongFalsely : Prop := fnBoundsRow.holds Try.pinned (OpenSpec.ofChange fnBoundsWrong)

/-- 'laws.FnExactCoderPut': WHATEVER THE INPUT: true; the input reads as it did. -/
def fnExactCoderPutSpec : ChangeSpec := { name := "fnExactCoderPut", fn := fun _ => fun
  | [d1, d2, d3] => { results := [.lit (.bool true)], args := [d1, d2, d3] }
  | _ => none }
def fnExactCoderPutRow : OpenClaim := { program := "ytahknoeloclofaa", sum := "c0d1c30904bb21f648853d84c6d4b931d42ebdbf5ec47504f9cfd14c817b4027", func := "loop.example/g00120/laws.FnExactCoderPut", spec := "fnExactCoderPut", unfollowed := true, recurses := true, apart := false }
def FnExactCoderPutSaid : Prop := fnExactCoderPutRow.holds Try.pinned (OpenSpec.ofChange fnExactCoderPutSpec)

/-- ITS FALSE NEIGHBOUR: 'it returns false'. Refute it at one input. -/
def fnExactCoderPutWrong : ChangeSpec := { name := "fnExactCoderPut", fn := fun _ => fun
  | [d1, d2, d3] => { results := [.lit (.bool false)], args := [d1, d2, d3] }
  | _ => none }
def FnExactCoderPutWrongFalsely : Prop := fnExactCoderPutRow.holds Try.pinned (OpenSpec.ofChange fnExactCoderPutWrong)

/-- 'laws.FnExactReaderGet': WHATEVER THE INPUT: true; the input reads as it did. -/
def fnExactReaderGetSpec : ChangeSpec := { name := "fnExactReaderGet", fn := fun _ => fun
  | [d1, d2] => { results := [.lit (.bool true)], args := [d1, d2] }
  | _ => none }
def fnExactReaderGetRow : OpenClaim := { program := "ytahknoeloclofaa", sum := "c0d1c30904bb21f648853d84c6d4b931d42ebdbf5ec47504f9cfd14c817b4027", func := "loop.example/g00120/laws.FnExactReaderGet", spec := "fnExactReaderGet", unfollowed := true, recurses := true, apart := false }
def FnExactReaderGetSaid : Prop := fnExactReaderGetRow.holds Try.pinned (OpenSpec.ofChange fnExactReaderGetSpec)

/-- ITS FALSE NEIGHBOUR: 'it returns false'. Refute it at one input. -/
def fnExactReaderGetWrong : ChangeSpec := { name := "fnExactReaderGet", fn := fun _ => fun
  | [d1, d2] => { results := [.lit (.bool false)], args := [d1, d2] }
  | _ => none }
def FnExactReaderGetWrongFalsely : Prop := fnExactReaderGetRow.holds Try.pinned (OpenSpec.ofChange fnExactReaderGetWrong)

/-- 'laws.FnExactCodeAll': WHATEVER THE INPUT: true; the input reads as it did. -/
def fnExactCodeAllSpec : ChangeSpec := { name := "fnExactCodeAll", fn := fun _ => fun
  | [d1, d2] => { results := [.lit (.bool true)], args := [d1, d2] }
  | _ => none }
def fnExactCodeAllRow : OpenClaim := { program := "ytahknoeloclofaa", sum := "c0d1c30904bb21f648853d84c6d4b931d42ebdbf5ec47504f9cfd14c817b4027", func := "loop.example/g00120/laws.FnExactCodeAll", spec := "fnExactCodeAll", unfollowed := true, recurses := true, apart := false }
def FnExactCodeAllSaid : Prop := fnExactCodeAllRow.holds Try.pinned (OpenSpec.ofChange fnExactCodeAllSpec)

/-- ITS FALSE NEIGHBOUR: 'it returns false'. Refute it at one input. -/
def fnExactCodeAllWrong : ChangeSpec := { name := "fnExactCodeAll", fn := fun _ => fun
  | [d1, d2] => { results := [.lit (.bool false)], args := [d1, d2] }
  | _ => none }
def FnExactCodeAllWrongFalsely : Prop := fnExactCodeAllRow.holds Try.pinned (OpenSpec.ofChange fnExactCodeAllWrong)

/-- 'laws.FnExactReadAll': WHATEVER THE INPUT: true; the input reads as it did. -/
def fnExactReadAllSpec : ChangeSpec := { name := "fnExactReadAll", fn := fun _ => fun
  | [d1, d2] => { results := [.lit (.bool true)], args := [d1, d2] }
  | _ => none }
def fnExactReadAllRow : OpenClaim := { program := "ytahknoeloclofaa", sum := "c0d1c30904bb21f648853d84c6d4b931d42ebdbf5ec47504f9cfd14c817b4027", func := "loop.example/g00120/laws.FnExactReadAll", spec := "fnExactReadAll", unfollowed := true, recurses := true, apart := false }
def FnExactReadAllSaid : Prop := fnExactReadAllRow.holds Try.pinned (OpenSpec.ofChange fnExactReadAllSpec)

/-- ITS FALSE NEIGHBOUR: 'it returns false'. Refute it at one input. -/
def fnExactReadAllWrong : ChangeSpec := { name := "fnExactReadAll", fn := fun _ => fun
  | [d1, d2] => { results := [.lit (.bool false)], args := [d1, d2] }
  | _ => none }
def FnExactReadAllWrongFalsely : Prop := fnExactReadAllRow.holds Try.pinned (OpenSpec.ofChange fnExactReadAllWrong)

/- THE SECOND FORM. 'bulk': how many values and letters a reading holds, each counted each time it is reached (what is shared counts as often as it is met; a slice's spare places count too). A statement '..UptoSaid' is the law's where the arguments, and the package variables that the reading takes, are together of bulk at most 1048576: NARROWER than '..Said'. Prove '..Said' where nothing that the law and all that it calls make is longer than what came in: it says more and counts as full. Else prove '..UptoSaid'. A law counts once. -/
mutual
def uptoBulk {H : Type} : DataW H → Nat
  | .lit (.string bytes) => bytes.length + 1
  | .lit _ => 1
  | .nil => 1
  | .ptr d => uptoBulk d + 1
  | .slice elems spare => uptoBulkAll elems + uptoBulkAll spare + 1
  | .agg parts => uptoBulkAll parts + 1
  | .iface _ d => uptoBulk d + 1
  | .map entries => uptoBulkEntries entries + 1
  | .held _ => 1
def uptoBulkAll {H : Type} : List (DataW H) → Nat
  | [] => 0
  | d :: r => uptoBulk d + uptoBulkAll r
def uptoBulkEntries {H : Type} : List (Lit × DataW H) → Nat
  | [] => 0
  | x :: r => uptoBulkEntry x + uptoBulkEntries r
def uptoBulkEntry {H : Type} : Lit × DataW H → Nat
  | (.string bytes, d) => bytes.length + uptoBulk d + 1
  | (_, d) => uptoBulk d + 1
 end
def uptoSmall : (H : Type) → List (DataW H) → Bool := fun _ ds => decide (uptoBulkAll ds ≤ 1048576)
def OpenSpec.upto (s : _root_.Go.ChangeSpec) : _root_.Go.OpenSpec := { _root_.Go.OpenSpec.ofChange s with cond := some uptoSmall }

/-- 'laws.FnCoder', WHERE WHAT IT READS IS OF BULK AT MOST 1048576: true; the input reads as it did. -/
def fnCoderUptoRow : OpenClaim := { program := "ytahknoeloclofaa", sum := "c0d1c30904bb21f648853d84c6d4b931d42ebdbf5ec47504f9cfd14c817b4027", func := "loop.example/g00120/laws.FnCoder", spec := "fnCoder", unfollowed := true, recurses := true, apart := false, narrowed := true }
def FnCoderUptoSaid : Prop := fnCoderUptoRow.holds Try.pinned (OpenSpec.upto fnCoderSpec)

/-- 'laws.FnBounds', WHERE WHAT IT READS IS OF BULK AT MOST 1048576: true; the input reads as it did. -/
def fnBoundsUptoRow : OpenClaim := { program := "ytahknoeloclofaa", sum := "c0d1c30904bb21f648853d84c6d4b931d42ebdbf5ec47504f9cfd14c817b4027", func := "loop.example/g00120/laws.FnBounds", spec := "fnBounds", unfollowed := true, recurses := true, apart := false, narrowed := true }
def FnBoundsUptoSaid : Prop := fnBoundsUptoRow.holds Try.pinned (OpenSpec.upto fnBoundsSpec)

/-- 'laws.FnExactCoderPut', WHERE WHAT IT READS IS OF BULK AT MOST 1048576: true; the input reads as it did. -/
def fnExactCoderPutUptoRow : OpenClaim := { program := "ytahknoeloclofaa", sum := "c0d1c30904bb21f648853d84c6d4b931d42ebdbf5ec47504f9cfd14c817b4027", func := "loop.example/g00120/laws.FnExactCoderPut", spec := "fnExactCoderPut", unfollowed := true, recurses := true, apart := false, narrowed := true }
def FnExactCoderPutUptoSaid : Prop := fnExactCoderPutUptoRow.holds Try.pinned (OpenSpec.upto fnExactCoderPutSpec)

/-- 'laws.FnExactReaderGet', WHERE WHAT IT READS IS OF BULK AT MOST 1048576: true; the input reads as it did. -/
def fnExactReaderGetUptoRow : OpenClaim := { program := "ytahknoeloclofaa", sum := "c0d1c30904bb21f648853d84c6d4b931d42ebdbf5ec47504f9cfd14c817b4027", func := "loop.example/g00120/laws.FnExactReaderGet", spec := "fnExactReaderGet", unfollowed := true, recurses := true, apart := false, narrowed := true }
def FnExactReaderGetUptoSaid : Prop := fnExactReaderGetUptoRow.holds Try.pinned (OpenSpec.upto fnExactReaderGetSpec)

/-- 'laws.FnExactCodeAll', WHERE WHAT IT READS IS OF BULK AT MOST 1048576: true; the input reads as it did. -/
def fnExactCodeAllUptoRow : OpenClaim := { program := "ytahknoeloclofaa", sum := "c0d1c30904bb21f648853d84c6d4b931d42ebdbf5ec47504f9cfd14c817b4027", func := "loop.example/g00120/laws.FnExactCodeAll", spec := "fnExactCodeAll", unfollowed := true, recurses := true, apart := false, narrowed := true }
def FnExactCodeAllUptoSaid : Prop := fnExactCodeAllUptoRow.holds Try.pinned (OpenSpec.upto fnExactCodeAllSpec)

/-- 'laws.FnExactReadAll', WHERE WHAT IT READS IS OF BULK AT MOST 1048576: true; the input reads as it did. -/
def fnExactReadAllUptoRow : OpenClaim := { program := "ytahknoeloclofaa", sum := "c0d1c30904bb21f648853d84c6d4b931d42ebdbf5ec47504f9cfd14c817b4027", func := "loop.example/g00120/laws.FnExactReadAll", spec := "fnExactReadAll", unfollowed := true, recurses := true, apart := false, narrowed := true }
def FnExactReadAllUptoSaid : Prop := fnExactReadAllUptoRow.holds Try.pinned (OpenSpec.upto fnExactReadAllSpec)

end Rows
end Go.Proofs.Ytahknoeloclofaa
