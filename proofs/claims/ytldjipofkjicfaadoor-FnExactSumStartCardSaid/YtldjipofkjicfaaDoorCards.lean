/-
  DERIVED. GIVEN WITH THE SEED: THE CARDS: each row of YtldjipofkjicfaaDoorRows.lean that lists a variable, with what it lists TIED to the program's text (the seventh form; the later family's looks); each row that meets fmt, with fmt's text TOLD by the authors' own Lean function (tested against real Go, not proved from fmt's source: count such statements apart). THE CARD IS WHAT COUNTS. Prove the row's statement (the work); the ties are given (YtldjipofkjicfaaDoorTie.lean); close each card by the builder's one call (the guide's Derived/Test/ToyasCard.lean, 'card_holds'). Laid BY PROGRAM, IN A SANDBOX (cutbox-door.mjs). By AI agents, Wed Nov 11 2026. No macro, syntax, notation, axiom, sorry.
-/
import Derived.Test.YtldjipofkjicfaaDoorRows
import GoSem.ClaimSeven
namespace Go.Proofs.YtldjipofkjicfaaDoor
namespace Rows

/-- THE TIED CARD OF 'laws.FnExactSumConst'. -/
def fnExactSumConstCard : Claim7 := { stood := { row := fnExactSumConstRow, standIns := [], harness := (true, "4d04d5f620c5dffbe00015c2577aa8e7ba3bb9abc36b6a2b218591f4ac52f6a6"), looks := false }, kinds := [], alts := [], laidByText := true, laidKinds := [.data], laidTests := true, laidLooks := .later }
def FnExactSumConstCardSaid : Prop := Claim7.holds Tryd.pinned (.plain (OpenSpec.ofChange fnExactSumConstSpec)) fnExactSumConstCard

/-- THE TIED CARD OF 'laws.FnExactSumStart'. -/
def fnExactSumStartCard : Claim7 := { stood := { row := fnExactSumStartRow, standIns := [], harness := (true, "4d04d5f620c5dffbe00015c2577aa8e7ba3bb9abc36b6a2b218591f4ac52f6a6"), looks := false }, kinds := [], alts := [], laidByText := true, laidKinds := [.data], laidTests := true, laidLooks := .later }
def FnExactSumStartCardSaid : Prop := Claim7.holds Tryd.pinned (.plain (OpenSpec.ofChange fnExactSumStartSpec)) fnExactSumStartCard

/-- THE SECOND FORM's CARD OF 'laws.FnExactSumConst'. -/
def fnExactSumConstUptoCard : Claim7 := { stood := { row := fnExactSumConstUptoRow, standIns := [], harness := (true, "4d04d5f620c5dffbe00015c2577aa8e7ba3bb9abc36b6a2b218591f4ac52f6a6"), looks := false }, kinds := [], alts := [], laidByText := true, laidKinds := [.data], laidTests := true, laidLooks := .later }
def FnExactSumConstUptoCardSaid : Prop := Claim7.holds Tryd.pinned (.plain (OpenSpec.upto fnExactSumConstSpec)) fnExactSumConstUptoCard

/-- THE SECOND FORM's CARD OF 'laws.FnExactSumStart'. -/
def fnExactSumStartUptoCard : Claim7 := { stood := { row := fnExactSumStartUptoRow, standIns := [], harness := (true, "4d04d5f620c5dffbe00015c2577aa8e7ba3bb9abc36b6a2b218591f4ac52f6a6"), looks := false }, kinds := [], alts := [], laidByText := true, laidKinds := [.data], laidTests := true, laidLooks := .later }
def FnExactSumStartUptoCardSaid : Prop := Claim7.holds Tryd.pinned (.plain (OpenSpec.upto fnExactSumStartSpec)) fnExactSumStartUptoCard
end Rows
end Go.Proofs.YtldjipofkjicfaaDoor
