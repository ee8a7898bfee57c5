/-
  No cell of these rows narrows 'for every input' (looked for: loops, veiled, ifaces, maps, wideKeys, modest, calm, conditions, laid).
  DERIVED. THE GIVEN ROWS OF THIS SEAT. 6 by the template 'for every input the law returns true; each argument reads behind the call as it read before'; 0 by the template 'total and deterministic' (their statements: YtdimglmabmkddaaTotals.lean).
  GIVEN WITH THE SEED: the statements are not yours to turn. If you find one false, say at which input.
  Laid BY PROGRAM, IN A SANDBOX (cutbox-rows.mjs): the forced cells as the released guide's own fill.sh prints them over the translation 0ef5cf4d1b0cc185… (all of the seat's roots in one cut). By AI agents, Wed Nov 11 2026. No macro, syntax, notation, axiom, sorry.
-/
import Derived.Test.YtdimglmabmkddaaChecked
import GoSem.Claim
import GoSem.ClaimJoined
import GoSem.ClaimMapViews
import Derived.JoinedTies
import Derived.KernelRfl
namespace Go.Proofs.Ytdimglmabmkddaa
/- THE CELL 'sum', in the pinned program and in every row, IS THE sha256 OF THE DUMP (.gsa) THAT YtdimglmabmkddaaProg.lean LOADS. Nothing in Lean hashes anything: it is a label: what it is worth is what the hold of that sum in a sandbox is worth. -/
noncomputable def Try.pinned : Pinned := { name := "ytdimglmabmkddaa", sum := "0ef5cf4d1b0cc1853999f65e60dca2744cd5df6ac6b63efe7afbb61c164acdbc", checked := Try.checked }
namespace Rows
def none {H : Type} : Left H := { results := [], args := [] }

/-- 'laws.FnBits': WHATEVER THE INPUT: true; the input reads as it did. -/
def fnBitsSpec : ChangeSpec := { name := "fnBits", fn := fun _ => fun
  | [d] => { results := [.lit (.bool true)], args := [d] }
  | _ => none }
def fnBitsRow : OpenClaim := { program := "ytdimglmabmkddaa", sum := "0ef5cf4d1b0cc1853999f65e60dca2744cd5df6ac6b63efe7afbb61c164acdbc", func := "loop.example/g00120/laws.FnBits", spec := "fnBits", apart := false }
def FnBitsSaid : Prop := fnBitsRow.holds Try.pinned (OpenSpec.ofChange fnBitsSpec)

/-- ITS FALSE NEIGHBOUR: 'it returns false'. Refute it at one input. -/
def fnBitsWrong : ChangeSpec := { name := "fnBits", fn := fun _ => fun
  | [d] => { results := [.lit (.bool false)], args := [d] }
  | _ => none }
def FnBitsWrongFalsely : Prop := fnBitsRow.holds Try.pinned (OpenSpec.ofChange fnBitsWrong)

/-- 'laws.FnNums': WHATEVER THE INPUT: true; the input reads as it did. -/
def fnNumsSpec : ChangeSpec := { name := "fnNums", fn := fun _ => fun
  | [d] => { results := [.lit (.bool true)], args := [d] }
  | _ => none }
def fnNumsRow : OpenClaim := { program := "ytdimglmabmkddaa", sum := "0ef5cf4d1b0cc1853999f65e60dca2744cd5df6ac6b63efe7afbb61c164acdbc", func := "loop.example/g00120/laws.FnNums", spec := "fnNums", apart := false }
def FnNumsSaid : Prop := fnNumsRow.holds Try.pinned (OpenSpec.ofChange fnNumsSpec)

/-- ITS FALSE NEIGHBOUR: 'it returns false'. Refute it at one input. -/
def fnNumsWrong : ChangeSpec := { name := "fnNums", fn := fun _ => fun
  | [d] => { results := [.lit (.bool false)], args := [d] }
  | _ => none }
def FnNumsWrongFalsely : Prop := fnNumsRow.holds Try.pinned (OpenSpec.ofChange fnNumsWrong)

/-- 'laws.FnExactPutBits': WHATEVER THE INPUT: true; the input reads as it did. -/
def fnExactPutBitsSpec : ChangeSpec := { name := "fnExactPutBits", fn := fun _ => fun
  | [d] => { results := [.lit (.bool true)], args := [d] }
  | _ => none }
def fnExactPutBitsRow : OpenClaim := { program := "ytdimglmabmkddaa", sum := "0ef5cf4d1b0cc1853999f65e60dca2744cd5df6ac6b63efe7afbb61c164acdbc", func := "loop.example/g00120/laws.FnExactPutBits", spec := "fnExactPutBits", apart := false }
def FnExactPutBitsSaid : Prop := fnExactPutBitsRow.holds Try.pinned (OpenSpec.ofChange fnExactPutBitsSpec)

/-- ITS FALSE NEIGHBOUR: 'it returns false'. Refute it at one input. -/
def fnExactPutBitsWrong : ChangeSpec := { name := "fnExactPutBits", fn := fun _ => fun
  | [d] => { results := [.lit (.bool false)], args := [d] }
  | _ => none }
def FnExactPutBitsWrongFalsely : Prop := fnExactPutBitsRow.holds Try.pinned (OpenSpec.ofChange fnExactPutBitsWrong)

/-- 'laws.FnExactGetBits': WHATEVER THE INPUT: true; the input reads as it did. -/
def fnExactGetBitsSpec : ChangeSpec := { name := "fnExactGetBits", fn := fun _ => fun
  | [d] => { results := [.lit (.bool true)], args := [d] }
  | _ => none }
def fnExactGetBitsRow : OpenClaim := { program := "ytdimglmabmkddaa", sum := "0ef5cf4d1b0cc1853999f65e60dca2744cd5df6ac6b63efe7afbb61c164acdbc", func := "loop.example/g00120/laws.FnExactGetBits", spec := "fnExactGetBits", apart := false }
def FnExactGetBitsSaid : Prop := fnExactGetBitsRow.holds Try.pinned (OpenSpec.ofChange fnExactGetBitsSpec)

/-- ITS FALSE NEIGHBOUR: 'it returns false'. Refute it at one input. -/
def fnExactGetBitsWrong : ChangeSpec := { name := "fnExactGetBits", fn := fun _ => fun
  | [d] => { results := [.lit (.bool false)], args := [d] }
  | _ => none }
def FnExactGetBitsWrongFalsely : Prop := fnExactGetBitsRow.holds Try.pinned (OpenSpec.ofChange fnExactGetBitsWrong)

/-- 'laws.FnExactNumBits': WHATEVER THE INPUT: true; the input reads as it did. -/
def fnExactNumBitsSpec : ChangeSpec := { name := "fnExactNumBits", fn := fun _ => fun
  | [d1, d2] => { results := [.lit (.bool true)], args := [d1, d2] }
  | _ => none }
def fnExactNumBitsRow : OpenClaim := { program := "ytdimglmabmkddaa", sum := "0ef5cf4d1b0cc1853999f65e60dca2744cd5df6ac6b63efe7afbb61c164acdbc", func := "loop.example/g00120/laws.FnExactNumBits", spec := "fnExactNumBits", apart := false }
def FnExactNumBitsSaid : Prop := fnExactNumBitsRow.holds Try.pinned (OpenSpec.ofChange fnExactNumBitsSpec)

/-- ITS FALSE NEIGHBOUR: 'it returns false'. Refute it at one input. -/
def fnExactNumBitsWrong : ChangeSpec := { name := "fnExactNumBits", fn := fun _ => fun
  | [d1, d2] => { results := [.lit (.bool false)], args := [d1, d2] }
  | _ => none }
def FnExactNumBitsWrongFalsely : Prop := fnExactNumBitsRow.holds Try.pinned (OpenSpec.ofChange fnExactNumBitsWrong)

/-- 'laws.FnExactBitsNum': WHATEVER THE INPUT: true; the input reads as it did. -/
def fnExactBitsNumSpec : ChangeSpec := { name := "fnExactBitsNum", fn := fun _ => fun
  | [d] => { results := [.lit (.bool true)], args := [d] }
  | _ => none }
def fnExactBitsNumRow : OpenClaim := { program := "ytdimglmabmkddaa", sum := "0ef5cf4d1b0cc1853999f65e60dca2744cd5df6ac6b63efe7afbb61c164acdbc", func := "loop.example/g00120/laws.FnExactBitsNum", spec := "fnExactBitsNum", apart := false }
def FnExactBitsNumSaid : Prop := fnExactBitsNumRow.holds Try.pinned (OpenSpec.ofChange fnExactBitsNumSpec)

/-- ITS FALSE NEIGHBOUR: 'it returns false'. Refute it at one input. -/
def fnExactBitsNumWrong : ChangeSpec := { name := "fnExactBitsNum", fn := fun _ => fun
  | [d] => { results := [.lit (.bool false)], args := [d] }
  | _ => none }
def FnExactBitsNumWrongFalsely : Prop := fnExactBitsNumRow.holds Try.pinned (OpenSpec.ofChange fnExactBitsNumWrong)

/- THE SECOND FORM. 'bulk': how many values and letters a reading holds, each counted each time it is reached (what is shared counts as often as it is met; a slice's spare places count too). A statement '..UptoSaid' is the law's where the arguments, and the package variables that the reading takes, are together of bulk at most 1048576: NARROWER than '..Said'. Prove '..Said' where nothing that the law and all that it calls make is longer than what came in: it says more and counts as full. Else prove '..UptoSaid'. A law counts once. -/
mutual
def uptoBulk {H : Type} : DataW H → Nat
  | .lit (.string bytes) => bytes.length + 1
  | .lit _ => 1
  | .nil => 1
  | .ptr d => uptoBulk d + 1
  | .slice elems spare => uptoBulkAll elems + uptoBulkAll spare + 1
  | .agg parts => uptoBulkAll parts + 1
  | .iface _ d => uptoBulk d + 1
  | .map entries => uptoBulkEntries entries + 1
  | .held _ => 1
def uptoBulkAll {H : Type} : List (DataW H) → Nat
  | [] => 0
  | d :: r => uptoBulk d + uptoBulkAll r
def uptoBulkEntries {H : Type} : List (Lit × DataW H) → Nat
  | [] => 0
  | x :: r => uptoBulkEntry x + uptoBulkEntries r
def uptoBulkEntry {H : Type} : Lit × DataW H → Nat
  | (.string bytes, d) => bytes.length + uptoBulk d + 1
  | (_, d) => uptoBulk d + 1
 end
def uptoSmall : (H : Type) → List (DataW H) → Bool := fun _ ds => decide (uptoBulkAll ds ≤ 1048576)
def OpenSpec.upto (s : _root_.Go.ChangeSpec) : _root_.Go.OpenSpec := { _root_.Go.OpenSpec.ofChange s with cond := some uptoSmall }

/-- 'laws.FnBits', WHERE WHAT IT READS IS OF BULK AT MOST 1048576: true; the input reads as it did. -/
def fnBitsUptoRow : OpenClaim := { program := "ytdimglmabmkddaa", sum := "0ef5cf4d1b0cc1853999f65e60dca2744cd5df6ac6b63efe7afbb61c164acdbc", func := "loop.example/g00120/laws.FnBits", spec := "fnBits", apart := false, narrowed := true }
def FnBitsUptoSaid : Prop := fnBitsUptoRow.holds Try.pinned (OpenSpec.upto fnBitsSpec)

/-- 'laws.FnNums', WHERE WHAT IT READS IS OF BULK AT MOST 1048576: true; the input reads as it did. -/
def fnNumsUptoRow : OpenClaim := { program := "ytdimglmabmkddaa", sum := "0ef5cf4d1b0cc1853999f65e60dca2744cd5df6ac6b63efe7afbb61c164acdbc", func := "loop.example/g00120/laws.FnNums", spec := "fnNums", apart := false, narrowed := true }
def FnNumsUptoSaid : Prop := fnNumsUptoRow.holds Try.pinned (OpenSpec.upto fnNumsSpec)

/-- 'laws.FnExactPutBits', WHERE WHAT IT READS IS OF BULK AT MOST 1048576: true; the input reads as it did. -/
def fnExactPutBitsUptoRow : OpenClaim := { program := "ytdimglmabmkddaa", sum := "0ef5cf4d1b0cc1853999f65e60dca2744cd5df6ac6b63efe7afbb61c164acdbc", func := "loop.example/g00120/laws.FnExactPutBits", spec := "fnExactPutBits", apart := false, narrowed := true }
def FnExactPutBitsUptoSaid : Prop := fnExactPutBitsUptoRow.holds Try.pinned (OpenSpec.upto fnExactPutBitsSpec)

/-- 'laws.FnExactGetBits', WHERE WHAT IT READS IS OF BULK AT MOST 1048576: true; the input reads as it did. -/
def fnExactGetBitsUptoRow : OpenClaim := { program := "ytdimglmabmkddaa", sum := "0ef5cf4d1b0cc1853999f65e60dca2744cd5df6ac6b63efe7afbb61c164acdbc", func := "loop.example/g00120/laws.FnExactGetBits", spec := "fnExactGetBits", apart := false, narrowed := true }
def FnExactGetBitsUptoSaid : Prop := fnExactGetBitsUptoRow.holds Try.pinned (OpenSpec.upto fnExactGetBitsSpec)

/-- 'laws.FnExactNumBits', WHERE WHAT IT READS IS OF BULK AT MOST 1048576: true; the input reads as it did. -/
def fnExactNumBitsUptoRow : OpenClaim := { program := "ytdimglmabmkddaa", sum := "0ef5cf4d1b0cc1853999f65e60dca2744cd5df6ac6b63efe7afbb61c164acdbc", func := "loop.example/g00120/laws.FnExactNumBits", spec := "fnExactNumBits", apart := false, narrowed := true }
def FnExactNumBitsUptoSaid : Prop := fnExactNumBitsUptoRow.holds Try.pinned (OpenSpec.upto fnExactNumBitsSpec)

/-- 'laws.FnExactBitsNum', WHERE WHAT IT READS IS OF BULK AT MOST 1048576: true; the input reads as it did. -/
def fnExactBitsNumUptoRow : OpenClaim := { program := "ytdimglmabmkddaa", sum := "0ef5cf4d1b0cc1853999f65e60dca2744cd5df6ac6b63efe7afbb61c164acdbc", func := "loop.example/g00120/laws.FnExactBitsNum", spec := "fnExactBitsNum", apart := false, narrowed := true }
def FnExactBitsNumUptoSaid : Prop := fnExactBitsNumUptoRow.holds Try.pinned (OpenSpec.upto fnExactBitsNumSpec)

end Rows
end Go.Proofs.Ytdimglmabmkddaa
