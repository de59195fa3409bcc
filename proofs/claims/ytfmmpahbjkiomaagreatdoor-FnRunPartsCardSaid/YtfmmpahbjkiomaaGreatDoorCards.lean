/-
  DERIVED. GIVEN WITH THE SEED: THE CARDS: each row of YtfmmpahbjkiomaaGreatDoorRows.lean that lists a variable, with what it lists TIED to the program's text (the seventh form; the later family's looks); each row that meets fmt, with fmt's text TOLD by the authors' own Lean function (tested against real Go, not proved from fmt's source: count such statements apart). THE CARD IS WHAT COUNTS. Prove the row's statement (the work); the ties are given (YtfmmpahbjkiomaaGreatDoorTie.lean); close each card by the builder's one call (the guide's Derived/Test/ToyasCard.lean, 'card_holds'). Laid BY PROGRAM, IN A SANDBOX (cutbox-door.mjs). By AI agents, Wed Nov 11 2026. No macro, syntax, notation, axiom, sorry.
-/
import Derived.Test.YtfmmpahbjkiomaaGreatDoorRows
import GoSem.ClaimSeven
namespace Go.Proofs.YtfmmpahbjkiomaaGreatDoor
namespace Rows

/-- THE TIED CARD OF 'laws.FnRename'. -/
def fnRenameCard : Claim7 := { stood := { row := fnRenameRow, standIns := [], harness := (true, "1cb743ac8426652f1cebf389d8a2b92d4f0d56454302ac72e36356fda077a88b"), looks := true }, kinds := [], alts := [], laidByText := true, laidKinds := [.data, .pinned], laidTests := true, laidLooks := .later }
def FnRenameCardSaid : Prop := Claim7.holds Tryz.pinned (.plain (OpenSpec.ofChange fnRenameSpec)) fnRenameCard

/-- THE TIED CARD OF 'laws.FnExactRenameProc'. -/
def fnExactRenameProcCard : Claim7 := { stood := { row := fnExactRenameProcRow, standIns := [], harness := (true, "1cb743ac8426652f1cebf389d8a2b92d4f0d56454302ac72e36356fda077a88b"), looks := true }, kinds := [], alts := [], laidByText := true, laidKinds := [.data, .pinned], laidTests := true, laidLooks := .later }
def FnExactRenameProcCardSaid : Prop := Claim7.holds Tryz.pinned (.plain (OpenSpec.ofChange fnExactRenameProcSpec)) fnExactRenameProcCard

/-- THE TIED CARD OF 'laws.FnRunParts'. -/
def fnRunPartsCard : Claim7 := { stood := { row := fnRunPartsRow, standIns := [], harness := (true, "1cb743ac8426652f1cebf389d8a2b92d4f0d56454302ac72e36356fda077a88b"), looks := true }, kinds := [], alts := [], laidByText := true, laidKinds := [.data, .pinned], laidTests := true, laidLooks := .later }
def FnRunPartsCardSaid : Prop := Claim7.holds Tryz.pinned (.plain (OpenSpec.ofChange fnRunPartsSpec)) fnRunPartsCard

/-- THE TIED CARD OF 'laws.FnRenamedRun'. -/
def fnRenamedRunCard : Claim7 := { stood := { row := fnRenamedRunRow, standIns := [], harness := (true, "1cb743ac8426652f1cebf389d8a2b92d4f0d56454302ac72e36356fda077a88b"), looks := true }, kinds := [], alts := [], laidByText := true, laidKinds := [.data, .pinned], laidTests := true, laidLooks := .later }
def FnRenamedRunCardSaid : Prop := Claim7.holds Tryz.pinned (.plain (OpenSpec.ofChange fnRenamedRunSpec)) fnRenamedRunCard

/-- THE SECOND FORM's CARD OF 'laws.FnRename'. -/
def fnRenameUptoCard : Claim7 := { stood := { row := fnRenameUptoRow, standIns := [], harness := (true, "1cb743ac8426652f1cebf389d8a2b92d4f0d56454302ac72e36356fda077a88b"), looks := true }, kinds := [], alts := [], laidByText := true, laidKinds := [.data, .pinned], laidTests := true, laidLooks := .later }
def FnRenameUptoCardSaid : Prop := Claim7.holds Tryz.pinned (.plain (OpenSpec.upto fnRenameSpec)) fnRenameUptoCard

/-- THE SECOND FORM's CARD OF 'laws.FnExactRenameProc'. -/
def fnExactRenameProcUptoCard : Claim7 := { stood := { row := fnExactRenameProcUptoRow, standIns := [], harness := (true, "1cb743ac8426652f1cebf389d8a2b92d4f0d56454302ac72e36356fda077a88b"), looks := true }, kinds := [], alts := [], laidByText := true, laidKinds := [.data, .pinned], laidTests := true, laidLooks := .later }
def FnExactRenameProcUptoCardSaid : Prop := Claim7.holds Tryz.pinned (.plain (OpenSpec.upto fnExactRenameProcSpec)) fnExactRenameProcUptoCard

/-- THE SECOND FORM's CARD OF 'laws.FnRunParts'. -/
def fnRunPartsUptoCard : Claim7 := { stood := { row := fnRunPartsUptoRow, standIns := [], harness := (true, "1cb743ac8426652f1cebf389d8a2b92d4f0d56454302ac72e36356fda077a88b"), looks := true }, kinds := [], alts := [], laidByText := true, laidKinds := [.data, .pinned], laidTests := true, laidLooks := .later }
def FnRunPartsUptoCardSaid : Prop := Claim7.holds Tryz.pinned (.plain (OpenSpec.upto fnRunPartsSpec)) fnRunPartsUptoCard

/-- THE SECOND FORM's CARD OF 'laws.FnRenamedRun'. -/
def fnRenamedRunUptoCard : Claim7 := { stood := { row := fnRenamedRunUptoRow, standIns := [], harness := (true, "1cb743ac8426652f1cebf389d8a2b92d4f0d56454302ac72e36356fda077a88b"), looks := true }, kinds := [], alts := [], laidByText := true, laidKinds := [.data, .pinned], laidTests := true, laidLooks := .later }
def FnRenamedRunUptoCardSaid : Prop := Claim7.holds Tryz.pinned (.plain (OpenSpec.upto fnRenamedRunSpec)) fnRenamedRunUptoCard
end Rows
end Go.Proofs.YtfmmpahbjkiomaaGreatDoor
