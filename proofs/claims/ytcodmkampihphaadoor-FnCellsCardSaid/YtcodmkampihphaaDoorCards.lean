/-
  DERIVED. GIVEN WITH THE SEED: THE CARDS: each row of YtcodmkampihphaaDoorRows.lean that lists a variable, with what it lists TIED to the program's text (the seventh form; the later family's looks); each row that meets fmt, with fmt's text TOLD by the authors' own Lean function (tested against real Go, not proved from fmt's source: count such statements apart). THE CARD IS WHAT COUNTS. Prove the row's statement (the work); the ties are given (YtcodmkampihphaaDoorTie.lean); close each card by the builder's one call (the guide's Derived/Test/ToyasCard.lean, 'card_holds'). Laid BY PROGRAM, IN A SANDBOX (cutbox-door.mjs). By AI agents, Wed Nov 11 2026. No macro, syntax, notation, axiom, sorry.
-/
import Derived.Test.YtcodmkampihphaaDoorRows
import GoSem.ClaimSeven
namespace Go.Proofs.YtcodmkampihphaaDoor
namespace Rows

/-- THE TIED CARD OF 'laws.FnCells'. -/
def fnCellsCard : Claim7 := { stood := { row := fnCellsRow, standIns := [], harness := (true, "919bbb0907ac0e0ae68e1e64a29ea8fd6dfcda4c9cdec9b200c6fac69d2ae544"), looks := false }, kinds := [], alts := [], laidByText := true, laidKinds := [.data], laidTests := true, laidLooks := .later }
def FnCellsCardSaid : Prop := Claim7.holds Tryd.pinned (.plain (OpenSpec.ofChange fnCellsSpec)) fnCellsCard

/-- THE TIED CARD OF 'laws.FnExactCell'. -/
def fnExactCellCard : Claim7 := { stood := { row := fnExactCellRow, standIns := [], harness := (true, "919bbb0907ac0e0ae68e1e64a29ea8fd6dfcda4c9cdec9b200c6fac69d2ae544"), looks := false }, kinds := [], alts := [], laidByText := true, laidKinds := [.data], laidTests := true, laidLooks := .later }
def FnExactCellCardSaid : Prop := Claim7.holds Tryd.pinned (.plain (OpenSpec.ofChange fnExactCellSpec)) fnExactCellCard

/-- THE TIED CARD OF 'laws.FnExactFromCells'. -/
def fnExactFromCellsCard : Claim7 := { stood := { row := fnExactFromCellsRow, standIns := [], harness := (true, "919bbb0907ac0e0ae68e1e64a29ea8fd6dfcda4c9cdec9b200c6fac69d2ae544"), looks := false }, kinds := [], alts := [], laidByText := true, laidKinds := [.data], laidTests := true, laidLooks := .later }
def FnExactFromCellsCardSaid : Prop := Claim7.holds Tryd.pinned (.plain (OpenSpec.ofChange fnExactFromCellsSpec)) fnExactFromCellsCard

/-- THE TIED CARD OF 'laws.FnExactMirror'. -/
def fnExactMirrorCard : Claim7 := { stood := { row := fnExactMirrorRow, standIns := [], harness := (true, "919bbb0907ac0e0ae68e1e64a29ea8fd6dfcda4c9cdec9b200c6fac69d2ae544"), looks := false }, kinds := [], alts := [], laidByText := true, laidKinds := [.data], laidTests := true, laidLooks := .later }
def FnExactMirrorCardSaid : Prop := Claim7.holds Tryd.pinned (.plain (OpenSpec.ofChange fnExactMirrorSpec)) fnExactMirrorCard

/-- THE TIED CARD OF 'laws.FnExactTranspose'. -/
def fnExactTransposeCard : Claim7 := { stood := { row := fnExactTransposeRow, standIns := [], harness := (true, "919bbb0907ac0e0ae68e1e64a29ea8fd6dfcda4c9cdec9b200c6fac69d2ae544"), looks := false }, kinds := [], alts := [], laidByText := true, laidKinds := [.data], laidTests := true, laidLooks := .later }
def FnExactTransposeCardSaid : Prop := Claim7.holds Tryd.pinned (.plain (OpenSpec.ofChange fnExactTransposeSpec)) fnExactTransposeCard

/-- THE SECOND FORM's CARD OF 'laws.FnCells'. -/
def fnCellsUptoCard : Claim7 := { stood := { row := fnCellsUptoRow, standIns := [], harness := (true, "919bbb0907ac0e0ae68e1e64a29ea8fd6dfcda4c9cdec9b200c6fac69d2ae544"), looks := false }, kinds := [], alts := [], laidByText := true, laidKinds := [.data], laidTests := true, laidLooks := .later }
def FnCellsUptoCardSaid : Prop := Claim7.holds Tryd.pinned (.plain (OpenSpec.upto fnCellsSpec)) fnCellsUptoCard

/-- THE SECOND FORM's CARD OF 'laws.FnExactCell'. -/
def fnExactCellUptoCard : Claim7 := { stood := { row := fnExactCellUptoRow, standIns := [], harness := (true, "919bbb0907ac0e0ae68e1e64a29ea8fd6dfcda4c9cdec9b200c6fac69d2ae544"), looks := false }, kinds := [], alts := [], laidByText := true, laidKinds := [.data], laidTests := true, laidLooks := .later }
def FnExactCellUptoCardSaid : Prop := Claim7.holds Tryd.pinned (.plain (OpenSpec.upto fnExactCellSpec)) fnExactCellUptoCard

/-- THE SECOND FORM's CARD OF 'laws.FnExactFromCells'. -/
def fnExactFromCellsUptoCard : Claim7 := { stood := { row := fnExactFromCellsUptoRow, standIns := [], harness := (true, "919bbb0907ac0e0ae68e1e64a29ea8fd6dfcda4c9cdec9b200c6fac69d2ae544"), looks := false }, kinds := [], alts := [], laidByText := true, laidKinds := [.data], laidTests := true, laidLooks := .later }
def FnExactFromCellsUptoCardSaid : Prop := Claim7.holds Tryd.pinned (.plain (OpenSpec.upto fnExactFromCellsSpec)) fnExactFromCellsUptoCard

/-- THE SECOND FORM's CARD OF 'laws.FnExactMirror'. -/
def fnExactMirrorUptoCard : Claim7 := { stood := { row := fnExactMirrorUptoRow, standIns := [], harness := (true, "919bbb0907ac0e0ae68e1e64a29ea8fd6dfcda4c9cdec9b200c6fac69d2ae544"), looks := false }, kinds := [], alts := [], laidByText := true, laidKinds := [.data], laidTests := true, laidLooks := .later }
def FnExactMirrorUptoCardSaid : Prop := Claim7.holds Tryd.pinned (.plain (OpenSpec.upto fnExactMirrorSpec)) fnExactMirrorUptoCard

/-- THE SECOND FORM's CARD OF 'laws.FnExactTranspose'. -/
def fnExactTransposeUptoCard : Claim7 := { stood := { row := fnExactTransposeUptoRow, standIns := [], harness := (true, "919bbb0907ac0e0ae68e1e64a29ea8fd6dfcda4c9cdec9b200c6fac69d2ae544"), looks := false }, kinds := [], alts := [], laidByText := true, laidKinds := [.data], laidTests := true, laidLooks := .later }
def FnExactTransposeUptoCardSaid : Prop := Claim7.holds Tryd.pinned (.plain (OpenSpec.upto fnExactTransposeSpec)) fnExactTransposeUptoCard
end Rows
end Go.Proofs.YtcodmkampihphaaDoor
