/-
  No cell of these rows narrows 'for every input' (looked for: loops, veiled, ifaces, maps, wideKeys, modest, calm, conditions, laid).
  DERIVED. THE GIVEN ROWS OF THIS SEAT. 6 by the template 'for every input the law returns true; each argument reads behind the call as it read before'; 0 by the template 'total and deterministic' (their statements: YtckpdmgmeolepaaTotals.lean).
  GIVEN WITH THE SEED: the statements are not yours to turn. If you find one false, say at which input.
  Laid BY PROGRAM, IN A SANDBOX (cutbox-rows.mjs): the forced cells as the released guide's own fill.sh prints them over the translation 338e2e935ded159b… (all of the seat's roots in one cut). By AI agents, Wed Nov 11 2026. No macro, syntax, notation, axiom, sorry.
-/
import Derived.Test.YtckpdmgmeolepaaChecked
import GoSem.Claim
import GoSem.ClaimJoined
import GoSem.ClaimMapViews
import Derived.JoinedTies
import Derived.KernelRfl
namespace Go.Proofs.Ytckpdmgmeolepaa
/- THE CELL 'sum', in the pinned program and in every row, IS THE sha256 OF THE DUMP (.gsa) THAT YtckpdmgmeolepaaProg.lean LOADS. Nothing in Lean hashes anything: it is a label: what it is worth is what the hold of that sum in a sandbox is worth. -/
noncomputable def Try.pinned : Pinned := { name := "ytckpdmgmeolepaa", sum := "338e2e935ded159b849c96c189e678d1b9144952756b0741f72aa5b8e59ab829", checked := Try.checked }
namespace Rows
def none {H : Type} : Left H := { results := [], args := [] }

/-- 'laws.FnPlan': WHATEVER THE INPUT: true; the input reads as it did. -/
def fnPlanSpec : ChangeSpec := { name := "fnPlan", fn := fun _ => fun
  | [d] => { results := [.lit (.bool true)], args := [d] }
  | _ => none }
def fnPlanRow : OpenClaim := { program := "ytckpdmgmeolepaa", sum := "338e2e935ded159b849c96c189e678d1b9144952756b0741f72aa5b8e59ab829", func := "loop.example/g00120/laws.FnPlan", spec := "fnPlan", unfollowed := true, recurses := true, apart := false }
def FnPlanSaid : Prop := fnPlanRow.holds Try.pinned (OpenSpec.ofChange fnPlanSpec)

/-- ITS FALSE NEIGHBOUR: 'it returns false'. Refute it at one input. -/
def fnPlanWrong : ChangeSpec := { name := "fnPlan", fn := fun _ => fun
  | [d] => { results := [.lit (.bool false)], args := [d] }
  | _ => none }
def FnPlanWrongFalsely : Prop := fnPlanRow.holds Try.pinned (OpenSpec.ofChange fnPlanWrong)

/-- 'laws.FnExactNumPlan': WHATEVER THE INPUT: true; the input reads as it did. -/
def fnExactNumPlanSpec : ChangeSpec := { name := "fnExactNumPlan", fn := fun _ => fun
  | [d] => { results := [.lit (.bool true)], args := [d] }
  | _ => none }
def fnExactNumPlanRow : OpenClaim := { program := "ytckpdmgmeolepaa", sum := "338e2e935ded159b849c96c189e678d1b9144952756b0741f72aa5b8e59ab829", func := "loop.example/g00120/laws.FnExactNumPlan", spec := "fnExactNumPlan", apart := false }
def FnExactNumPlanSaid : Prop := fnExactNumPlanRow.holds Try.pinned (OpenSpec.ofChange fnExactNumPlanSpec)

/-- ITS FALSE NEIGHBOUR: 'it returns false'. Refute it at one input. -/
def fnExactNumPlanWrong : ChangeSpec := { name := "fnExactNumPlan", fn := fun _ => fun
  | [d] => { results := [.lit (.bool false)], args := [d] }
  | _ => none }
def FnExactNumPlanWrongFalsely : Prop := fnExactNumPlanRow.holds Try.pinned (OpenSpec.ofChange fnExactNumPlanWrong)

/-- 'laws.FnExactNextSlot': WHATEVER THE INPUT: true; the input reads as it did. -/
def fnExactNextSlotSpec : ChangeSpec := { name := "fnExactNextSlot", fn := fun _ => fun
  | [d] => { results := [.lit (.bool true)], args := [d] }
  | _ => none }
def fnExactNextSlotRow : OpenClaim := { program := "ytckpdmgmeolepaa", sum := "338e2e935ded159b849c96c189e678d1b9144952756b0741f72aa5b8e59ab829", func := "loop.example/g00120/laws.FnExactNextSlot", spec := "fnExactNextSlot", unfollowed := true, recurses := true, apart := false }
def FnExactNextSlotSaid : Prop := fnExactNextSlotRow.holds Try.pinned (OpenSpec.ofChange fnExactNextSlotSpec)

/-- ITS FALSE NEIGHBOUR: 'it returns false'. Refute it at one input. -/
def fnExactNextSlotWrong : ChangeSpec := { name := "fnExactNextSlot", fn := fun _ => fun
  | [d] => { results := [.lit (.bool false)], args := [d] }
  | _ => none }
def FnExactNextSlotWrongFalsely : Prop := fnExactNextSlotRow.holds Try.pinned (OpenSpec.ofChange fnExactNextSlotWrong)

/-- 'laws.FnExactPlanNum': WHATEVER THE INPUT: true; the input reads as it did. -/
def fnExactPlanNumSpec : ChangeSpec := { name := "fnExactPlanNum", fn := fun _ => fun
  | [d] => { results := [.lit (.bool true)], args := [d] }
  | _ => none }
def fnExactPlanNumRow : OpenClaim := { program := "ytckpdmgmeolepaa", sum := "338e2e935ded159b849c96c189e678d1b9144952756b0741f72aa5b8e59ab829", func := "loop.example/g00120/laws.FnExactPlanNum", spec := "fnExactPlanNum", apart := false }
def FnExactPlanNumSaid : Prop := fnExactPlanNumRow.holds Try.pinned (OpenSpec.ofChange fnExactPlanNumSpec)

/-- ITS FALSE NEIGHBOUR: 'it returns false'. Refute it at one input. -/
def fnExactPlanNumWrong : ChangeSpec := { name := "fnExactPlanNum", fn := fun _ => fun
  | [d] => { results := [.lit (.bool false)], args := [d] }
  | _ => none }
def FnExactPlanNumWrongFalsely : Prop := fnExactPlanNumRow.holds Try.pinned (OpenSpec.ofChange fnExactPlanNumWrong)

/-- 'laws.FnExactModelOk': WHATEVER THE INPUT: true; the input reads as it did. -/
def fnExactModelOkSpec : ChangeSpec := { name := "fnExactModelOk", fn := fun _ => fun
  | [d] => { results := [.lit (.bool true)], args := [d] }
  | _ => none }
def fnExactModelOkRow : OpenClaim := { program := "ytckpdmgmeolepaa", sum := "338e2e935ded159b849c96c189e678d1b9144952756b0741f72aa5b8e59ab829", func := "loop.example/g00120/laws.FnExactModelOk", spec := "fnExactModelOk", apart := false }
def FnExactModelOkSaid : Prop := fnExactModelOkRow.holds Try.pinned (OpenSpec.ofChange fnExactModelOkSpec)

/-- ITS FALSE NEIGHBOUR: 'it returns false'. Refute it at one input. -/
def fnExactModelOkWrong : ChangeSpec := { name := "fnExactModelOk", fn := fun _ => fun
  | [d] => { results := [.lit (.bool false)], args := [d] }
  | _ => none }
def FnExactModelOkWrongFalsely : Prop := fnExactModelOkRow.holds Try.pinned (OpenSpec.ofChange fnExactModelOkWrong)

/-- 'laws.FnExactModelStart': WHATEVER THE INPUT: true; the input reads as it did. -/
def fnExactModelStartSpec : ChangeSpec := { name := "fnExactModelStart", fn := fun _ => fun
  | [d] => { results := [.lit (.bool true)], args := [d] }
  | _ => none }
def fnExactModelStartRow : OpenClaim := { program := "ytckpdmgmeolepaa", sum := "338e2e935ded159b849c96c189e678d1b9144952756b0741f72aa5b8e59ab829", func := "loop.example/g00120/laws.FnExactModelStart", spec := "fnExactModelStart", apart := false }
def FnExactModelStartSaid : Prop := fnExactModelStartRow.holds Try.pinned (OpenSpec.ofChange fnExactModelStartSpec)

/-- ITS FALSE NEIGHBOUR: 'it returns false'. Refute it at one input. -/
def fnExactModelStartWrong : ChangeSpec := { name := "fnExactModelStart", fn := fun _ => fun
  | [d] => { results := [.lit (.bool false)], args := [d] }
  | _ => none }
def FnExactModelStartWrongFalsely : Prop := fnExactModelStartRow.holds Try.pinned (OpenSpec.ofChange fnExactModelStartWrong)

/- THE SECOND FORM. 'bulk': how many values and letters a reading holds, each counted each time it is reached (what is shared counts as often as it is met; a slice's spare places count too). A statement '..UptoSaid' is the law's where the arguments, and the package variables that the reading takes, are together of bulk at most 1048576: NARROWER than '..Said'. Prove '..Said' where nothing that the law and all that it calls make is longer than what came in: it says more and counts as full. Else prove '..UptoSaid'. A law counts once. -/
mutual
def uptoBulk {H : Type} : DataW H → Nat
  | .lit (.string bytes) => bytes.length + 1
  | .lit _ => 1
  | .nil => 1
  | .ptr d => uptoBulk d + 1
  | .slice elems spare => uptoBulkAll elems + uptoBulkAll spare + 1
  | .agg parts => uptoBulkAll parts + 1
  | .iface _ d => uptoBulk d + 1
  | .map entries => uptoBulkEntries entries + 1
  | .held _ => 1
def uptoBulkAll {H : Type} : List (DataW H) → Nat
  | [] => 0
  | d :: r => uptoBulk d + uptoBulkAll r
def uptoBulkEntries {H : Type} : List (Lit × DataW H) → Nat
  | [] => 0
  | x :: r => uptoBulkEntry x + uptoBulkEntries r
def uptoBulkEntry {H : Type} : Lit × DataW H → Nat
  | (.string bytes, d) => bytes.length + uptoBulk d + 1
  | (_, d) => uptoBulk d + 1
 end
def uptoSmall : (H : Type) → List (DataW H) → Bool := fun _ ds => decide (uptoBulkAll ds ≤ 1048576)
def OpenSpec.upto (s : _root_.Go.ChangeSpec) : _root_.Go.OpenSpec := { _root_.Go.OpenSpec.ofChange s with cond := some uptoSmall }

/-- 'laws.FnPlan', WHERE WHAT IT READS IS OF BULK AT MOST 1048576: true; the input reads as it did. -/
def fnPlanUptoRow : OpenClaim := { program := "ytckpdmgmeolepaa", sum := "338e2e935ded159b849c96c189e678d1b9144952756b0741f72aa5b8e59ab829", func := "loop.example/g00120/laws.FnPlan", spec := "fnPlan", unfollowed := true, recurses := true, apart := false, narrowed := true }
def FnPlanUptoSaid : Prop := fnPlanUptoRow.holds Try.pinned (OpenSpec.upto fnPlanSpec)

/-- 'laws.FnExactNumPlan', WHERE WHAT IT READS IS OF BULK AT MOST 1048576: true; the input reads as it did. -/
def fnExactNumPlanUptoRow : OpenClaim := { program := "ytckpdmgmeolepaa", sum := "338e2e935ded159b849c96c189e678d1b9144952756b0741f72aa5b8e59ab829", func := "loop.example/g00120/laws.FnExactNumPlan", spec := "fnExactNumPlan", apart := false, narrowed := true }
def FnExactNumPlanUptoSaid : Prop := fnExactNumPlanUptoRow.holds Try.pinned (OpenSpec.upto fnExactNumPlanSpec)

/-- 'laws.FnExactNextSlot', WHERE WHAT IT READS IS OF BULK AT MOST 1048576: true; the input reads as it did. -/
def fnExactNextSlotUptoRow : OpenClaim := { program := "ytckpdmgmeolepaa", sum := "338e2e935ded159b849c96c189e678d1b9144952756b0741f72aa5b8e59ab829", func := "loop.example/g00120/laws.FnExactNextSlot", spec := "fnExactNextSlot", unfollowed := true, recurses := true, apart := false, narrowed := true }
def FnExactNextSlotUptoSaid : Prop := fnExactNextSlotUptoRow.holds Try.pinned (OpenSpec.upto fnExactNextSlotSpec)

/-- 'laws.FnExactPlanNum', WHERE WHAT IT READS IS OF BULK AT MOST 1048576: true; the input reads as it did. -/
def fnExactPlanNumUptoRow : OpenClaim := { program := "ytckpdmgmeolepaa", sum := "338e2e935ded159b849c96c189e678d1b9144952756b0741f72aa5b8e59ab829", func := "loop.example/g00120/laws.FnExactPlanNum", spec := "fnExactPlanNum", apart := false, narrowed := true }
def FnExactPlanNumUptoSaid : Prop := fnExactPlanNumUptoRow.holds Try.pinned (OpenSpec.upto fnExactPlanNumSpec)

/-- 'laws.FnExactModelOk', WHERE WHAT IT READS IS OF BULK AT MOST 1048576: true; the input reads as it did. -/
def fnExactModelOkUptoRow : OpenClaim := { program := "ytckpdmgmeolepaa", sum := "338e2e935ded159b849c96c189e678d1b9144952756b0741f72aa5b8e59ab829", func := "loop.example/g00120/laws.FnExactModelOk", spec := "fnExactModelOk", apart := false, narrowed := true }
def FnExactModelOkUptoSaid : Prop := fnExactModelOkUptoRow.holds Try.pinned (OpenSpec.upto fnExactModelOkSpec)

/-- 'laws.FnExactModelStart', WHERE WHAT IT READS IS OF BULK AT MOST 1048576: true; the input reads as it did. -/
def fnExactModelStartUptoRow : OpenClaim := { program := "ytckpdmgmeolepaa", sum := "338e2e935ded159b849c96c189e678d1b9144952756b0741f72aa5b8e59ab829", func := "loop.example/g00120/laws.FnExactModelStart", spec := "fnExactModelStart", apart := false, narrowed := true }
def FnExactModelStartUptoSaid : Prop := fnExactModelStartUptoRow.holds Try.pinned (OpenSpec.upto fnExactModelStartSpec)

end Rows
end Go.Proofs.Ytckpdmgmeolepaa
