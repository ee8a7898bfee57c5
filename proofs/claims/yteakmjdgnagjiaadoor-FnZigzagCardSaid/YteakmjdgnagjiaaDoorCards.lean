/-
  DERIVED. GIVEN WITH THE SEED: THE CARDS: each row of YteakmjdgnagjiaaDoorRows.lean that lists a variable, with what it lists TIED to the program's text (the seventh form; the later family's looks); each row that meets fmt, with fmt's text TOLD by the authors' own Lean function (tested against real Go, not proved from fmt's source: count such statements apart). THE CARD IS WHAT COUNTS. Prove the row's statement (the work); the ties are given (YteakmjdgnagjiaaDoorTie.lean); close each card by the builder's one call (the guide's Derived/Test/ToyasCard.lean, 'card_holds'). Laid BY PROGRAM, IN A SANDBOX (cutbox-door.mjs). By AI agents, Wed Nov 11 2026. No macro, syntax, notation, axiom, sorry.
-/
import Derived.Test.YteakmjdgnagjiaaDoorRows
import GoSem.ClaimSeven
namespace Go.Proofs.YteakmjdgnagjiaaDoor
namespace Rows

/-- THE TIED CARD OF 'laws.FnZigzag'. -/
def fnZigzagCard : Claim7 := { stood := { row := fnZigzagRow, standIns := [], harness := (true, "b23c4b632f81917843bbf235d1172a4b5be32b2d6739aa79e10c108c12dc1e8a"), looks := false }, kinds := [], alts := [], laidByText := true, laidKinds := [.data], laidTests := true, laidLooks := .later }
def FnZigzagCardSaid : Prop := Claim7.holds Tryd.pinned (.plain (OpenSpec.ofChange fnZigzagSpec)) fnZigzagCard

/-- THE TIED CARD OF 'laws.FnExactZigzag'. -/
def fnExactZigzagCard : Claim7 := { stood := { row := fnExactZigzagRow, standIns := [], harness := (true, "b23c4b632f81917843bbf235d1172a4b5be32b2d6739aa79e10c108c12dc1e8a"), looks := false }, kinds := [], alts := [], laidByText := true, laidKinds := [.data], laidTests := true, laidLooks := .later }
def FnExactZigzagCardSaid : Prop := Claim7.holds Tryd.pinned (.plain (OpenSpec.ofChange fnExactZigzagSpec)) fnExactZigzagCard

/-- THE SECOND FORM's CARD OF 'laws.FnZigzag'. -/
def fnZigzagUptoCard : Claim7 := { stood := { row := fnZigzagUptoRow, standIns := [], harness := (true, "b23c4b632f81917843bbf235d1172a4b5be32b2d6739aa79e10c108c12dc1e8a"), looks := false }, kinds := [], alts := [], laidByText := true, laidKinds := [.data], laidTests := true, laidLooks := .later }
def FnZigzagUptoCardSaid : Prop := Claim7.holds Tryd.pinned (.plain (OpenSpec.upto fnZigzagSpec)) fnZigzagUptoCard

/-- THE SECOND FORM's CARD OF 'laws.FnExactZigzag'. -/
def fnExactZigzagUptoCard : Claim7 := { stood := { row := fnExactZigzagUptoRow, standIns := [], harness := (true, "b23c4b632f81917843bbf235d1172a4b5be32b2d6739aa79e10c108c12dc1e8a"), looks := false }, kinds := [], alts := [], laidByText := true, laidKinds := [.data], laidTests := true, laidLooks := .later }
def FnExactZigzagUptoCardSaid : Prop := Claim7.holds Tryd.pinned (.plain (OpenSpec.upto fnExactZigzagSpec)) fnExactZigzagUptoCard
end Rows
end Go.Proofs.YteakmjdgnagjiaaDoor
