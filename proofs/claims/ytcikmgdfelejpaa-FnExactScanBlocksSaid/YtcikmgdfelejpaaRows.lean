/-
  No cell of these rows narrows 'for every input' (looked for: loops, veiled, ifaces, maps, wideKeys, modest, calm, conditions, laid).
  DERIVED. THE GIVEN ROWS OF THIS SEAT. 6 by the template 'for every input the law returns true; each argument reads behind the call as it read before'; 0 by the template 'total and deterministic' (their statements: YtcikmgdfelejpaaTotals.lean).
  GIVEN WITH THE SEED: the statements are not yours to turn. If you find one false, say at which input.
  Laid BY PROGRAM, IN A SANDBOX (cutbox-rows.mjs): the forced cells as the released guide's own fill.sh prints them over the translation 6b67e0c01e439bc1… (all of the seat's roots in one cut). By AI agents, Wed Nov 11 2026. No macro, syntax, notation, axiom, sorry.
-/
import Derived.Test.YtcikmgdfelejpaaChecked
import GoSem.Claim
import GoSem.ClaimJoined
import GoSem.ClaimMapViews
import Derived.JoinedTies
import Derived.KernelRfl
namespace Go.Proofs.Ytcikmgdfelejpaa
/- THE CELL 'sum', in the pinned program and in every row, IS THE sha256 OF THE DUMP (.gsa) THAT YtcikmgdfelejpaaProg.lean LOADS. Nothing in Lean hashes anything: it is a label: what it is worth is what the hold of that sum in a sandbox is worth. -/
noncomputable def Try.pinned : Pinned := { name := "ytcikmgdfelejpaa", sum := "6b67e0c01e439bc1e52a02582d89d7ab7407b172def477f64c78ff9c4eddd05d", checked := Try.checked }
namespace Rows
def none {H : Type} : Left H := { results := [], args := [] }

/-- 'laws.FnExactScanBits': WHATEVER THE INPUT: true; the input reads as it did. -/
def fnExactScanBitsSpec : ChangeSpec := { name := "fnExactScanBits", fn := fun _ => fun
  | [d1, d2] => { results := [.lit (.bool true)], args := [d1, d2] }
  | _ => none }
def fnExactScanBitsRow : OpenClaim := { program := "ytcikmgdfelejpaa", sum := "6b67e0c01e439bc1e52a02582d89d7ab7407b172def477f64c78ff9c4eddd05d", func := "loop.example/g00120/laws.FnExactScanBits", spec := "fnExactScanBits", plainKeys := false, apart := false }
def FnExactScanBitsSaid : Prop := fnExactScanBitsRow.holds Try.pinned (OpenSpec.ofChange fnExactScanBitsSpec)

/-- ITS FALSE NEIGHBOUR: 'it returns false'. Refute it at one input. -/
def fnExactScanBitsWrong : ChangeSpec := { name := "fnExactScanBits", fn := fun _ => fun
  | [d1, d2] => { results := [.lit (.bool false)], args := [d1, d2] }
  | _ => none }
def FnExactScanBitsWrongFalsely : Prop := fnExactScanBitsRow.holds Try.pinned (OpenSpec.ofChange fnExactScanBitsWrong)

/-- 'laws.FnExactScanBlocks': WHATEVER THE INPUT: true; the input reads as it did. -/
def fnExactScanBlocksSpec : ChangeSpec := { name := "fnExactScanBlocks", fn := fun _ => fun
  | [d1, d2, d3] => { results := [.lit (.bool true)], args := [d1, d2, d3] }
  | _ => none }
def fnExactScanBlocksRow : OpenClaim := { program := "ytcikmgdfelejpaa", sum := "6b67e0c01e439bc1e52a02582d89d7ab7407b172def477f64c78ff9c4eddd05d", func := "loop.example/g00120/laws.FnExactScanBlocks", spec := "fnExactScanBlocks", plainKeys := false, apart := false }
def FnExactScanBlocksSaid : Prop := fnExactScanBlocksRow.holds Try.pinned (OpenSpec.ofChange fnExactScanBlocksSpec)

/-- ITS FALSE NEIGHBOUR: 'it returns false'. Refute it at one input. -/
def fnExactScanBlocksWrong : ChangeSpec := { name := "fnExactScanBlocks", fn := fun _ => fun
  | [d1, d2, d3] => { results := [.lit (.bool false)], args := [d1, d2, d3] }
  | _ => none }
def FnExactScanBlocksWrongFalsely : Prop := fnExactScanBlocksRow.holds Try.pinned (OpenSpec.ofChange fnExactScanBlocksWrong)

/-- 'laws.FnExactScanFreqs': WHATEVER THE INPUT: true; the input reads as it did. -/
def fnExactScanFreqsSpec : ChangeSpec := { name := "fnExactScanFreqs", fn := fun _ => fun
  | [d] => { results := [.lit (.bool true)], args := [d] }
  | _ => none }
def fnExactScanFreqsRow : OpenClaim := { program := "ytcikmgdfelejpaa", sum := "6b67e0c01e439bc1e52a02582d89d7ab7407b172def477f64c78ff9c4eddd05d", func := "loop.example/g00120/laws.FnExactScanFreqs", spec := "fnExactScanFreqs", plainKeys := false, apart := false }
def FnExactScanFreqsSaid : Prop := fnExactScanFreqsRow.holds Try.pinned (OpenSpec.ofChange fnExactScanFreqsSpec)

/-- ITS FALSE NEIGHBOUR: 'it returns false'. Refute it at one input. -/
def fnExactScanFreqsWrong : ChangeSpec := { name := "fnExactScanFreqs", fn := fun _ => fun
  | [d] => { results := [.lit (.bool false)], args := [d] }
  | _ => none }
def FnExactScanFreqsWrongFalsely : Prop := fnExactScanFreqsRow.holds Try.pinned (OpenSpec.ofChange fnExactScanFreqsWrong)

/-- 'laws.FnExactScanCost': WHATEVER THE INPUT: true; the input reads as it did. -/
def fnExactScanCostSpec : ChangeSpec := { name := "fnExactScanCost", fn := fun _ => fun
  | [d1, d2] => { results := [.lit (.bool true)], args := [d1, d2] }
  | _ => none }
def fnExactScanCostRow : OpenClaim := { program := "ytcikmgdfelejpaa", sum := "6b67e0c01e439bc1e52a02582d89d7ab7407b172def477f64c78ff9c4eddd05d", func := "loop.example/g00120/laws.FnExactScanCost", spec := "fnExactScanCost", plainKeys := false, apart := false }
def FnExactScanCostSaid : Prop := fnExactScanCostRow.holds Try.pinned (OpenSpec.ofChange fnExactScanCostSpec)

/-- ITS FALSE NEIGHBOUR: 'it returns false'. Refute it at one input. -/
def fnExactScanCostWrong : ChangeSpec := { name := "fnExactScanCost", fn := fun _ => fun
  | [d1, d2] => { results := [.lit (.bool false)], args := [d1, d2] }
  | _ => none }
def FnExactScanCostWrongFalsely : Prop := fnExactScanCostRow.holds Try.pinned (OpenSpec.ofChange fnExactScanCostWrong)

/-- 'laws.FnExactScanText': WHATEVER THE INPUT: true; the input reads as it did. -/
def fnExactScanTextSpec : ChangeSpec := { name := "fnExactScanText", fn := fun _ => fun
  | [d1, d2] => { results := [.lit (.bool true)], args := [d1, d2] }
  | _ => none }
def fnExactScanTextRow : OpenClaim := { program := "ytcikmgdfelejpaa", sum := "6b67e0c01e439bc1e52a02582d89d7ab7407b172def477f64c78ff9c4eddd05d", func := "loop.example/g00120/laws.FnExactScanText", spec := "fnExactScanText", plainKeys := false, apart := false }
def FnExactScanTextSaid : Prop := fnExactScanTextRow.holds Try.pinned (OpenSpec.ofChange fnExactScanTextSpec)

/-- ITS FALSE NEIGHBOUR: 'it returns false'. Refute it at one input. -/
def fnExactScanTextWrong : ChangeSpec := { name := "fnExactScanText", fn := fun _ => fun
  | [d1, d2] => { results := [.lit (.bool false)], args := [d1, d2] }
  | _ => none }
def FnExactScanTextWrongFalsely : Prop := fnExactScanTextRow.holds Try.pinned (OpenSpec.ofChange fnExactScanTextWrong)

/-- 'laws.FnExactScanRead': WHATEVER THE INPUT: true; the input reads as it did. -/
def fnExactScanReadSpec : ChangeSpec := { name := "fnExactScanRead", fn := fun _ => fun
  | [d1, d2, d3] => { results := [.lit (.bool true)], args := [d1, d2, d3] }
  | _ => none }
def fnExactScanReadRow : OpenClaim := { program := "ytcikmgdfelejpaa", sum := "6b67e0c01e439bc1e52a02582d89d7ab7407b172def477f64c78ff9c4eddd05d", func := "loop.example/g00120/laws.FnExactScanRead", spec := "fnExactScanRead", plainKeys := false, apart := false }
def FnExactScanReadSaid : Prop := fnExactScanReadRow.holds Try.pinned (OpenSpec.ofChange fnExactScanReadSpec)

/-- ITS FALSE NEIGHBOUR: 'it returns false'. Refute it at one input. -/
def fnExactScanReadWrong : ChangeSpec := { name := "fnExactScanRead", fn := fun _ => fun
  | [d1, d2, d3] => { results := [.lit (.bool false)], args := [d1, d2, d3] }
  | _ => none }
def FnExactScanReadWrongFalsely : Prop := fnExactScanReadRow.holds Try.pinned (OpenSpec.ofChange fnExactScanReadWrong)

/- THE SECOND FORM. 'bulk': how many values and letters a reading holds, each counted each time it is reached (what is shared counts as often as it is met; a slice's spare places count too). A statement '..UptoSaid' is the law's where the arguments, and the package variables that the reading takes, are together of bulk at most 1048576: NARROWER than '..Said'. Prove '..Said' where nothing that the law and all that it calls make is longer than what came in: it says more and counts as full. Else prove '..UptoSaid'. A law counts once. -/
mutual
def uptoBulk {H : Type} : DataW H → Nat
  | .lit (.string bytes) => bytes.length + 1
  | .lit _ => 1
  | .nil => 1
  | .ptr d => uptoBulk d + 1
  | .slice elems spare => uptoBulkAll elems + uptoBulkAll spare + 1
  | .agg parts => uptoBulkAll parts + 1
  | .iface _ d => uptoBulk d + 1
  | .map entries => uptoBulkEntries entries + 1
  | .held _ => 1
def uptoBulkAll {H : Type} : List (DataW H) → Nat
  | [] => 0
  | d :: r => uptoBulk d + uptoBulkAll r
def uptoBulkEntries {H : Type} : List (Lit × DataW H) → Nat
  | [] => 0
  | x :: r => uptoBulkEntry x + uptoBulkEntries r
def uptoBulkEntry {H : Type} : Lit × DataW H → Nat
  | (.string bytes, d) => bytes.length + uptoBulk d + 1
  | (_, d) => uptoBulk d + 1
 end
def uptoSmall : (H : Type) → List (DataW H) → Bool := fun _ ds => decide (uptoBulkAll ds ≤ 1048576)
def OpenSpec.upto (s : _root_.Go.ChangeSpec) : _root_.Go.OpenSpec := { _root_.Go.OpenSpec.ofChange s with cond := some uptoSmall }

/-- 'laws.FnExactScanBits', WHERE WHAT IT READS IS OF BULK AT MOST 1048576: true; the input reads as it did. -/
def fnExactScanBitsUptoRow : OpenClaim := { program := "ytcikmgdfelejpaa", sum := "6b67e0c01e439bc1e52a02582d89d7ab7407b172def477f64c78ff9c4eddd05d", func := "loop.example/g00120/laws.FnExactScanBits", spec := "fnExactScanBits", plainKeys := false, apart := false, narrowed := true }
def FnExactScanBitsUptoSaid : Prop := fnExactScanBitsUptoRow.holds Try.pinned (OpenSpec.upto fnExactScanBitsSpec)

/-- 'laws.FnExactScanBlocks', WHERE WHAT IT READS IS OF BULK AT MOST 1048576: true; the input reads as it did. -/
def fnExactScanBlocksUptoRow : OpenClaim := { program := "ytcikmgdfelejpaa", sum := "6b67e0c01e439bc1e52a02582d89d7ab7407b172def477f64c78ff9c4eddd05d", func := "loop.example/g00120/laws.FnExactScanBlocks", spec := "fnExactScanBlocks", plainKeys := false, apart := false, narrowed := true }
def FnExactScanBlocksUptoSaid : Prop := fnExactScanBlocksUptoRow.holds Try.pinned (OpenSpec.upto fnExactScanBlocksSpec)

/-- 'laws.FnExactScanFreqs', WHERE WHAT IT READS IS OF BULK AT MOST 1048576: true; the input reads as it did. -/
def fnExactScanFreqsUptoRow : OpenClaim := { program := "ytcikmgdfelejpaa", sum := "6b67e0c01e439bc1e52a02582d89d7ab7407b172def477f64c78ff9c4eddd05d", func := "loop.example/g00120/laws.FnExactScanFreqs", spec := "fnExactScanFreqs", plainKeys := false, apart := false, narrowed := true }
def FnExactScanFreqsUptoSaid : Prop := fnExactScanFreqsUptoRow.holds Try.pinned (OpenSpec.upto fnExactScanFreqsSpec)

/-- 'laws.FnExactScanCost', WHERE WHAT IT READS IS OF BULK AT MOST 1048576: true; the input reads as it did. -/
def fnExactScanCostUptoRow : OpenClaim := { program := "ytcikmgdfelejpaa", sum := "6b67e0c01e439bc1e52a02582d89d7ab7407b172def477f64c78ff9c4eddd05d", func := "loop.example/g00120/laws.FnExactScanCost", spec := "fnExactScanCost", plainKeys := false, apart := false, narrowed := true }
def FnExactScanCostUptoSaid : Prop := fnExactScanCostUptoRow.holds Try.pinned (OpenSpec.upto fnExactScanCostSpec)

/-- 'laws.FnExactScanText', WHERE WHAT IT READS IS OF BULK AT MOST 1048576: true; the input reads as it did. -/
def fnExactScanTextUptoRow : OpenClaim := { program := "ytcikmgdfelejpaa", sum := "6b67e0c01e439bc1e52a02582d89d7ab7407b172def477f64c78ff9c4eddd05d", func := "loop.example/g00120/laws.FnExactScanText", spec := "fnExactScanText", plainKeys := false, apart := false, narrowed := true }
def FnExactScanTextUptoSaid : Prop := fnExactScanTextUptoRow.holds Try.pinned (OpenSpec.upto fnExactScanTextSpec)

/-- 'laws.FnExactScanRead', WHERE WHAT IT READS IS OF BULK AT MOST 1048576: true; the input reads as it did. -/
def fnExactScanReadUptoRow : OpenClaim := { program := "ytcikmgdfelejpaa", sum := "6b67e0c01e439bc1e52a02582d89d7ab7407b172def477f64c78ff9c4eddd05d", func := "loop.example/g00120/laws.FnExactScanRead", spec := "fnExactScanRead", plainKeys := false, apart := false, narrowed := true }
def FnExactScanReadUptoSaid : Prop := fnExactScanReadUptoRow.holds Try.pinned (OpenSpec.upto fnExactScanReadSpec)

end Rows
end Go.Proofs.Ytcikmgdfelejpaa
