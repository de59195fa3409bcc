/-
  DERIVED. GIVEN WITH THE SEED: THE CARDS: each row of YtomodlllmbkndaaGreatDoorRows.lean that lists a variable, with what it lists TIED to the program's text (the seventh form; the later family's looks); each row that meets fmt, with fmt's text TOLD by the authors' own Lean function (tested against real Go, not proved from fmt's source: count such statements apart). THE CARD IS WHAT COUNTS. Prove the row's statement (the work); the ties are given (YtomodlllmbkndaaGreatDoorTie.lean); close each card by the builder's one call (the guide's Derived/Test/ToyasCard.lean, 'card_holds'). Laid BY PROGRAM, IN A SANDBOX (cutbox-door.mjs). By AI agents, Wed Nov 11 2026. No macro, syntax, notation, axiom, sorry.
-/
import Derived.Test.YtomodlllmbkndaaGreatDoorRows
import GoSem.ClaimSeven
namespace Go.Proofs.YtomodlllmbkndaaGreatDoor
namespace Rows

/-- THE TIED CARD OF 'laws.FnCallTree'. -/
def fnCallTreeCard : Claim7 := { stood := { row := fnCallTreeRow, standIns := [], harness := (true, "7366bd021493f5f740a87b3f50c7f55771e4969d03211329ad635ebd9902f66f"), looks := true }, kinds := [], alts := [], laidByText := true, laidKinds := [.data, .pinned], laidTests := true, laidLooks := .later }
def FnCallTreeCardSaid : Prop := Claim7.holds Tryz.pinned (.plain (OpenSpec.ofChange fnCallTreeSpec)) fnCallTreeCard

/-- THE TIED CARD OF 'laws.FnBusiest'. -/
def fnBusiestCard : Claim7 := { stood := { row := fnBusiestRow, standIns := [], harness := (true, "7366bd021493f5f740a87b3f50c7f55771e4969d03211329ad635ebd9902f66f"), looks := true }, kinds := [], alts := [], laidByText := true, laidKinds := [.data, .pinned], laidTests := true, laidLooks := .later }
def FnBusiestCardSaid : Prop := Claim7.holds Tryz.pinned (.plain (OpenSpec.ofChange fnBusiestSpec)) fnBusiestCard

/-- THE TIED CARD OF 'laws.FnExactCallCounts'. -/
def fnExactCallCountsCard : Claim7 := { stood := { row := fnExactCallCountsRow, standIns := [], harness := (true, "7366bd021493f5f740a87b3f50c7f55771e4969d03211329ad635ebd9902f66f"), looks := true }, kinds := [], alts := [], laidByText := true, laidKinds := [.data, .pinned], laidTests := true, laidLooks := .later }
def FnExactCallCountsCardSaid : Prop := Claim7.holds Tryz.pinned (.plain (OpenSpec.ofChange fnExactCallCountsSpec)) fnExactCallCountsCard

/-- THE TIED CARD OF 'laws.FnExactPrintCounts'. -/
def fnExactPrintCountsCard : Claim7 := { stood := { row := fnExactPrintCountsRow, standIns := [], harness := (true, "7366bd021493f5f740a87b3f50c7f55771e4969d03211329ad635ebd9902f66f"), looks := true }, kinds := [], alts := [], laidByText := true, laidKinds := [.data, .pinned], laidTests := true, laidLooks := .later }
def FnExactPrintCountsCardSaid : Prop := Claim7.holds Tryz.pinned (.plain (OpenSpec.ofChange fnExactPrintCountsSpec)) fnExactPrintCountsCard

/-- THE TIED CARD OF 'laws.FnExactCallTree'. -/
def fnExactCallTreeCard : Claim7 := { stood := { row := fnExactCallTreeRow, standIns := [], harness := (true, "7366bd021493f5f740a87b3f50c7f55771e4969d03211329ad635ebd9902f66f"), looks := true }, kinds := [], alts := [], laidByText := true, laidKinds := [.data, .pinned], laidTests := true, laidLooks := .later }
def FnExactCallTreeCardSaid : Prop := Claim7.holds Tryz.pinned (.plain (OpenSpec.ofChange fnExactCallTreeSpec)) fnExactCallTreeCard

/-- THE TIED CARD OF 'laws.FnExactBusiestOf'. -/
def fnExactBusiestOfCard : Claim7 := { stood := { row := fnExactBusiestOfRow, standIns := [], harness := (true, "7366bd021493f5f740a87b3f50c7f55771e4969d03211329ad635ebd9902f66f"), looks := true }, kinds := [], alts := [], laidByText := true, laidKinds := [.data, .pinned], laidTests := true, laidLooks := .later }
def FnExactBusiestOfCardSaid : Prop := Claim7.holds Tryz.pinned (.plain (OpenSpec.ofChange fnExactBusiestOfSpec)) fnExactBusiestOfCard

/-- THE SECOND FORM's CARD OF 'laws.FnCallTree'. -/
def fnCallTreeUptoCard : Claim7 := { stood := { row := fnCallTreeUptoRow, standIns := [], harness := (true, "7366bd021493f5f740a87b3f50c7f55771e4969d03211329ad635ebd9902f66f"), looks := true }, kinds := [], alts := [], laidByText := true, laidKinds := [.data, .pinned], laidTests := true, laidLooks := .later }
def FnCallTreeUptoCardSaid : Prop := Claim7.holds Tryz.pinned (.plain (OpenSpec.upto fnCallTreeSpec)) fnCallTreeUptoCard

/-- THE SECOND FORM's CARD OF 'laws.FnBusiest'. -/
def fnBusiestUptoCard : Claim7 := { stood := { row := fnBusiestUptoRow, standIns := [], harness := (true, "7366bd021493f5f740a87b3f50c7f55771e4969d03211329ad635ebd9902f66f"), looks := true }, kinds := [], alts := [], laidByText := true, laidKinds := [.data, .pinned], laidTests := true, laidLooks := .later }
def FnBusiestUptoCardSaid : Prop := Claim7.holds Tryz.pinned (.plain (OpenSpec.upto fnBusiestSpec)) fnBusiestUptoCard

/-- THE SECOND FORM's CARD OF 'laws.FnExactCallCounts'. -/
def fnExactCallCountsUptoCard : Claim7 := { stood := { row := fnExactCallCountsUptoRow, standIns := [], harness := (true, "7366bd021493f5f740a87b3f50c7f55771e4969d03211329ad635ebd9902f66f"), looks := true }, kinds := [], alts := [], laidByText := true, laidKinds := [.data, .pinned], laidTests := true, laidLooks := .later }
def FnExactCallCountsUptoCardSaid : Prop := Claim7.holds Tryz.pinned (.plain (OpenSpec.upto fnExactCallCountsSpec)) fnExactCallCountsUptoCard

/-- THE SECOND FORM's CARD OF 'laws.FnExactPrintCounts'. -/
def fnExactPrintCountsUptoCard : Claim7 := { stood := { row := fnExactPrintCountsUptoRow, standIns := [], harness := (true, "7366bd021493f5f740a87b3f50c7f55771e4969d03211329ad635ebd9902f66f"), looks := true }, kinds := [], alts := [], laidByText := true, laidKinds := [.data, .pinned], laidTests := true, laidLooks := .later }
def FnExactPrintCountsUptoCardSaid : Prop := Claim7.holds Tryz.pinned (.plain (OpenSpec.upto fnExactPrintCountsSpec)) fnExactPrintCountsUptoCard

/-- THE SECOND FORM's CARD OF 'laws.FnExactCallTree'. -/
def fnExactCallTreeUptoCard : Claim7 := { stood := { row := fnExactCallTreeUptoRow, standIns := [], harness := (true, "7366bd021493f5f740a87b3f50c7f55771e4969d03211329ad635ebd9902f66f"), looks := true }, kinds := [], alts := [], laidByText := true, laidKinds := [.data, .pinned], laidTests := true, laidLooks := .later }
def FnExactCallTreeUptoCardSaid : Prop := Claim7.holds Tryz.pinned (.plain (OpenSpec.upto fnExactCallTreeSpec)) fnExactCallTreeUptoCard

/-- THE SECOND FORM's CARD OF 'laws.FnExactBusiestOf'. -/
def fnExactBusiestOfUptoCard : Claim7 := { stood := { row := fnExactBusiestOfUptoRow, standIns := [], harness := (true, "7366bd021493f5f740a87b3f50c7f55771e4969d03211329ad635ebd9902f66f"), looks := true }, kinds := [], alts := [], laidByText := true, laidKinds := [.data, .pinned], laidTests := true, laidLooks := .later }
def FnExactBusiestOfUptoCardSaid : Prop := Claim7.holds Tryz.pinned (.plain (OpenSpec.upto fnExactBusiestOfSpec)) fnExactBusiestOfUptoCard
end Rows
end Go.Proofs.YtomodlllmbkndaaGreatDoor
