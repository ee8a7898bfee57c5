/-
  DERIVED. GIVEN WITH THE SEED: THE CARDS: each row of YtkeabkedbbjccaaDoorRows.lean that lists a variable, with what it lists TIED to the program's text (the seventh form; the later family's looks); each row that meets fmt, with fmt's text TOLD by the authors' own Lean function (tested against real Go, not proved from fmt's source: count such statements apart). THE CARD IS WHAT COUNTS. Prove the row's statement (the work); the ties are given (YtkeabkedbbjccaaDoorTie.lean); close each card by the builder's one call (the guide's Derived/Test/ToyasCard.lean, 'card_holds'). Laid BY PROGRAM, IN A SANDBOX (cutbox-door.mjs). By AI agents, Wed Nov 11 2026. No macro, syntax, notation, axiom, sorry.
-/
import Derived.Test.YtkeabkedbbjccaaDoorRows
import GoSem.ClaimSeven
namespace Go.Proofs.YtkeabkedbbjccaaDoor
namespace Rows

/-- THE TIED CARD OF 'laws.FnSum'. -/
def fnSumCard : Claim7 := { stood := { row := fnSumRow, standIns := [], harness := (true, "f2237a863b780d77e46d8bdec660cc2510717f57d3c6f5ea6380231275ed62f7"), looks := false }, kinds := [], alts := [], laidByText := true, laidKinds := [.data, .data], laidTests := true, laidLooks := .later }
def FnSumCardSaid : Prop := Claim7.holds Tryd.pinned (.plain (OpenSpec.ofChange fnSumSpec)) fnSumCard

/-- THE TIED CARD OF 'laws.FnWords'. -/
def fnWordsCard : Claim7 := { stood := { row := fnWordsRow, standIns := [], harness := (true, "f2237a863b780d77e46d8bdec660cc2510717f57d3c6f5ea6380231275ed62f7"), looks := false }, kinds := [], alts := [], laidByText := true, laidKinds := [.data], laidTests := true, laidLooks := .later }
def FnWordsCardSaid : Prop := Claim7.holds Tryd.pinned (.plain (OpenSpec.ofChange fnWordsSpec)) fnWordsCard

/-- THE TIED CARD OF 'laws.FnExactSumBlock'. -/
def fnExactSumBlockCard : Claim7 := { stood := { row := fnExactSumBlockRow, standIns := [], harness := (true, "f2237a863b780d77e46d8bdec660cc2510717f57d3c6f5ea6380231275ed62f7"), looks := false }, kinds := [], alts := [], laidByText := true, laidKinds := [.data], laidTests := true, laidLooks := .later }
def FnExactSumBlockCardSaid : Prop := Claim7.holds Tryd.pinned (.plain (OpenSpec.ofChange fnExactSumBlockSpec)) fnExactSumBlockCard

/-- THE TIED CARD OF 'laws.FnExactSum'. -/
def fnExactSumCard : Claim7 := { stood := { row := fnExactSumRow, standIns := [], harness := (true, "f2237a863b780d77e46d8bdec660cc2510717f57d3c6f5ea6380231275ed62f7"), looks := false }, kinds := [], alts := [], laidByText := true, laidKinds := [.data, .data], laidTests := true, laidLooks := .later }
def FnExactSumCardSaid : Prop := Claim7.holds Tryd.pinned (.plain (OpenSpec.ofChange fnExactSumSpec)) fnExactSumCard

/-- THE SECOND FORM's CARD OF 'laws.FnSum'. -/
def fnSumUptoCard : Claim7 := { stood := { row := fnSumUptoRow, standIns := [], harness := (true, "f2237a863b780d77e46d8bdec660cc2510717f57d3c6f5ea6380231275ed62f7"), looks := false }, kinds := [], alts := [], laidByText := true, laidKinds := [.data, .data], laidTests := true, laidLooks := .later }
def FnSumUptoCardSaid : Prop := Claim7.holds Tryd.pinned (.plain (OpenSpec.upto fnSumSpec)) fnSumUptoCard

/-- THE SECOND FORM's CARD OF 'laws.FnWords'. -/
def fnWordsUptoCard : Claim7 := { stood := { row := fnWordsUptoRow, standIns := [], harness := (true, "f2237a863b780d77e46d8bdec660cc2510717f57d3c6f5ea6380231275ed62f7"), looks := false }, kinds := [], alts := [], laidByText := true, laidKinds := [.data], laidTests := true, laidLooks := .later }
def FnWordsUptoCardSaid : Prop := Claim7.holds Tryd.pinned (.plain (OpenSpec.upto fnWordsSpec)) fnWordsUptoCard

/-- THE SECOND FORM's CARD OF 'laws.FnExactSumBlock'. -/
def fnExactSumBlockUptoCard : Claim7 := { stood := { row := fnExactSumBlockUptoRow, standIns := [], harness := (true, "f2237a863b780d77e46d8bdec660cc2510717f57d3c6f5ea6380231275ed62f7"), looks := false }, kinds := [], alts := [], laidByText := true, laidKinds := [.data], laidTests := true, laidLooks := .later }
def FnExactSumBlockUptoCardSaid : Prop := Claim7.holds Tryd.pinned (.plain (OpenSpec.upto fnExactSumBlockSpec)) fnExactSumBlockUptoCard

/-- THE SECOND FORM's CARD OF 'laws.FnExactSum'. -/
def fnExactSumUptoCard : Claim7 := { stood := { row := fnExactSumUptoRow, standIns := [], harness := (true, "f2237a863b780d77e46d8bdec660cc2510717f57d3c6f5ea6380231275ed62f7"), looks := false }, kinds := [], alts := [], laidByText := true, laidKinds := [.data, .data], laidTests := true, laidLooks := .later }
def FnExactSumUptoCardSaid : Prop := Claim7.holds Tryd.pinned (.plain (OpenSpec.upto fnExactSumSpec)) fnExactSumUptoCard
end Rows
end Go.Proofs.YtkeabkedbbjccaaDoor
