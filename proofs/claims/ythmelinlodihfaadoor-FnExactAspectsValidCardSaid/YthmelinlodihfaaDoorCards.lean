/-
  DERIVED. GIVEN WITH THE SEED: THE CARDS: each row of YthmelinlodihfaaDoorRows.lean that lists a variable, with what it lists TIED to the program's text (the seventh form; the later family's looks); each row that meets fmt, with fmt's text TOLD by the authors' own Lean function (tested against real Go, not proved from fmt's source: count such statements apart). THE CARD IS WHAT COUNTS. Prove the row's statement (the work); the ties are given (YthmelinlodihfaaDoorTie.lean); close each card by the builder's one call (the guide's Derived/Test/ToyasCard.lean, 'card_holds'). Laid BY PROGRAM, IN A SANDBOX (cutbox-door.mjs). By AI agents, Wed Nov 11 2026. No macro, syntax, notation, axiom, sorry.
-/
import Derived.Test.YthmelinlodihfaaDoorRows
import GoSem.ClaimSeven
namespace Go.Proofs.YthmelinlodihfaaDoor
namespace Rows

/-- THE TIED CARD OF 'laws.FnProceeds'. -/
def fnProceedsCard : Claim7 := { stood := { row := fnProceedsRow, standIns := [], harness := (true, "0501f81b24aaf50b2ba1d6bc03dad9bc2f6d3ebcc417d567a2d6bde1a798affe"), looks := true }, kinds := [], alts := [], laidByText := true, laidKinds := [.sentinel, .sentinel, .sentinel, .sentinel, .sentinel], laidTests := true, laidLooks := .later }
def FnProceedsCardSaid : Prop := Claim7.holds Tryd.pinned (.plain (OpenSpec.ofChange fnProceedsSpec)) fnProceedsCard

/-- THE TIED CARD OF 'laws.FnExactAspectValid'. -/
def fnExactAspectValidCard : Claim7 := { stood := { row := fnExactAspectValidRow, standIns := [], harness := (true, "0501f81b24aaf50b2ba1d6bc03dad9bc2f6d3ebcc417d567a2d6bde1a798affe"), looks := true }, kinds := [], alts := [], laidByText := true, laidKinds := [.sentinel, .sentinel, .sentinel, .sentinel, .sentinel], laidTests := true, laidLooks := .later }
def FnExactAspectValidCardSaid : Prop := Claim7.holds Tryd.pinned (.plain (OpenSpec.ofChange fnExactAspectValidSpec)) fnExactAspectValidCard

/-- THE TIED CARD OF 'laws.FnExactAspectsValid'. -/
def fnExactAspectsValidCard : Claim7 := { stood := { row := fnExactAspectsValidRow, standIns := [], harness := (true, "0501f81b24aaf50b2ba1d6bc03dad9bc2f6d3ebcc417d567a2d6bde1a798affe"), looks := true }, kinds := [], alts := [], laidByText := true, laidKinds := [.sentinel, .sentinel, .sentinel, .sentinel, .sentinel], laidTests := true, laidLooks := .later }
def FnExactAspectsValidCardSaid : Prop := Claim7.holds Tryd.pinned (.plain (OpenSpec.ofChange fnExactAspectsValidSpec)) fnExactAspectsValidCard

/-- THE TIED CARD OF 'laws.FnExactFormatAspect'. -/
def fnExactFormatAspectCard : Claim7 := { stood := { row := fnExactFormatAspectRow, standIns := [], harness := (true, "0501f81b24aaf50b2ba1d6bc03dad9bc2f6d3ebcc417d567a2d6bde1a798affe"), looks := true }, kinds := [], alts := [], laidByText := true, laidKinds := [.sentinel, .sentinel, .sentinel, .sentinel, .sentinel], laidTests := true, laidLooks := .later }
def FnExactFormatAspectCardSaid : Prop := Claim7.holds Tryd.pinned (.plain (OpenSpec.ofChange fnExactFormatAspectSpec)) fnExactFormatAspectCard

/-- THE TIED CARD OF 'laws.FnExactParseAspect'. -/
def fnExactParseAspectCard : Claim7 := { stood := { row := fnExactParseAspectRow, standIns := [], harness := (true, "0501f81b24aaf50b2ba1d6bc03dad9bc2f6d3ebcc417d567a2d6bde1a798affe"), looks := true }, kinds := [], alts := [], laidByText := true, laidKinds := [.sentinel, .sentinel, .sentinel, .sentinel, .sentinel], laidTests := true, laidLooks := .later }
def FnExactParseAspectCardSaid : Prop := Claim7.holds Tryd.pinned (.plain (OpenSpec.ofChange fnExactParseAspectSpec)) fnExactParseAspectCard

/-- THE TIED CARD OF 'laws.FnExactProceedsOf'. -/
def fnExactProceedsOfCard : Claim7 := { stood := { row := fnExactProceedsOfRow, standIns := [], harness := (true, "0501f81b24aaf50b2ba1d6bc03dad9bc2f6d3ebcc417d567a2d6bde1a798affe"), looks := true }, kinds := [], alts := [], laidByText := true, laidKinds := [.sentinel, .sentinel, .sentinel, .sentinel, .sentinel], laidTests := true, laidLooks := .later }
def FnExactProceedsOfCardSaid : Prop := Claim7.holds Tryd.pinned (.plain (OpenSpec.ofChange fnExactProceedsOfSpec)) fnExactProceedsOfCard

/-- THE TIED CARD OF 'laws.FnExactChangesValue'. -/
def fnExactChangesValueCard : Claim7 := { stood := { row := fnExactChangesValueRow, standIns := [], harness := (true, "0501f81b24aaf50b2ba1d6bc03dad9bc2f6d3ebcc417d567a2d6bde1a798affe"), looks := true }, kinds := [], alts := [], laidByText := true, laidKinds := [.sentinel, .sentinel, .sentinel, .sentinel, .sentinel], laidTests := true, laidLooks := .later }
def FnExactChangesValueCardSaid : Prop := Claim7.holds Tryd.pinned (.plain (OpenSpec.ofChange fnExactChangesValueSpec)) fnExactChangesValueCard

/-- THE TIED CARD OF 'laws.FnExactPrintsIn'. -/
def fnExactPrintsInCard : Claim7 := { stood := { row := fnExactPrintsInRow, standIns := [], harness := (true, "0501f81b24aaf50b2ba1d6bc03dad9bc2f6d3ebcc417d567a2d6bde1a798affe"), looks := true }, kinds := [], alts := [], laidByText := true, laidKinds := [.sentinel, .sentinel, .sentinel, .sentinel, .sentinel], laidTests := true, laidLooks := .later }
def FnExactPrintsInCardSaid : Prop := Claim7.holds Tryd.pinned (.plain (OpenSpec.ofChange fnExactPrintsInSpec)) fnExactPrintsInCard

/-- THE TIED CARD OF 'laws.FnExactClassOf'. -/
def fnExactClassOfCard : Claim7 := { stood := { row := fnExactClassOfRow, standIns := [], harness := (true, "0501f81b24aaf50b2ba1d6bc03dad9bc2f6d3ebcc417d567a2d6bde1a798affe"), looks := true }, kinds := [], alts := [], laidByText := true, laidKinds := [.sentinel, .sentinel, .sentinel, .sentinel, .sentinel], laidTests := true, laidLooks := .later }
def FnExactClassOfCardSaid : Prop := Claim7.holds Tryd.pinned (.plain (OpenSpec.ofChange fnExactClassOfSpec)) fnExactClassOfCard

/-- THE TIED CARD OF 'laws.FnExactAroundOf'. -/
def fnExactAroundOfCard : Claim7 := { stood := { row := fnExactAroundOfRow, standIns := [], harness := (true, "0501f81b24aaf50b2ba1d6bc03dad9bc2f6d3ebcc417d567a2d6bde1a798affe"), looks := true }, kinds := [], alts := [], laidByText := true, laidKinds := [.sentinel, .sentinel, .sentinel, .sentinel, .sentinel], laidTests := true, laidLooks := .later }
def FnExactAroundOfCardSaid : Prop := Claim7.holds Tryd.pinned (.plain (OpenSpec.ofChange fnExactAroundOfSpec)) fnExactAroundOfCard

/-- THE SECOND FORM's CARD OF 'laws.FnProceeds'. -/
def fnProceedsUptoCard : Claim7 := { stood := { row := fnProceedsUptoRow, standIns := [], harness := (true, "0501f81b24aaf50b2ba1d6bc03dad9bc2f6d3ebcc417d567a2d6bde1a798affe"), looks := true }, kinds := [], alts := [], laidByText := true, laidKinds := [.sentinel, .sentinel, .sentinel, .sentinel, .sentinel], laidTests := true, laidLooks := .later }
def FnProceedsUptoCardSaid : Prop := Claim7.holds Tryd.pinned (.plain (OpenSpec.upto fnProceedsSpec)) fnProceedsUptoCard

/-- THE SECOND FORM's CARD OF 'laws.FnExactAspectValid'. -/
def fnExactAspectValidUptoCard : Claim7 := { stood := { row := fnExactAspectValidUptoRow, standIns := [], harness := (true, "0501f81b24aaf50b2ba1d6bc03dad9bc2f6d3ebcc417d567a2d6bde1a798affe"), looks := true }, kinds := [], alts := [], laidByText := true, laidKinds := [.sentinel, .sentinel, .sentinel, .sentinel, .sentinel], laidTests := true, laidLooks := .later }
def FnExactAspectValidUptoCardSaid : Prop := Claim7.holds Tryd.pinned (.plain (OpenSpec.upto fnExactAspectValidSpec)) fnExactAspectValidUptoCard

/-- THE SECOND FORM's CARD OF 'laws.FnExactAspectsValid'. -/
def fnExactAspectsValidUptoCard : Claim7 := { stood := { row := fnExactAspectsValidUptoRow, standIns := [], harness := (true, "0501f81b24aaf50b2ba1d6bc03dad9bc2f6d3ebcc417d567a2d6bde1a798affe"), looks := true }, kinds := [], alts := [], laidByText := true, laidKinds := [.sentinel, .sentinel, .sentinel, .sentinel, .sentinel], laidTests := true, laidLooks := .later }
def FnExactAspectsValidUptoCardSaid : Prop := Claim7.holds Tryd.pinned (.plain (OpenSpec.upto fnExactAspectsValidSpec)) fnExactAspectsValidUptoCard

/-- THE SECOND FORM's CARD OF 'laws.FnExactFormatAspect'. -/
def fnExactFormatAspectUptoCard : Claim7 := { stood := { row := fnExactFormatAspectUptoRow, standIns := [], harness := (true, "0501f81b24aaf50b2ba1d6bc03dad9bc2f6d3ebcc417d567a2d6bde1a798affe"), looks := true }, kinds := [], alts := [], laidByText := true, laidKinds := [.sentinel, .sentinel, .sentinel, .sentinel, .sentinel], laidTests := true, laidLooks := .later }
def FnExactFormatAspectUptoCardSaid : Prop := Claim7.holds Tryd.pinned (.plain (OpenSpec.upto fnExactFormatAspectSpec)) fnExactFormatAspectUptoCard

/-- THE SECOND FORM's CARD OF 'laws.FnExactParseAspect'. -/
def fnExactParseAspectUptoCard : Claim7 := { stood := { row := fnExactParseAspectUptoRow, standIns := [], harness := (true, "0501f81b24aaf50b2ba1d6bc03dad9bc2f6d3ebcc417d567a2d6bde1a798affe"), looks := true }, kinds := [], alts := [], laidByText := true, laidKinds := [.sentinel, .sentinel, .sentinel, .sentinel, .sentinel], laidTests := true, laidLooks := .later }
def FnExactParseAspectUptoCardSaid : Prop := Claim7.holds Tryd.pinned (.plain (OpenSpec.upto fnExactParseAspectSpec)) fnExactParseAspectUptoCard

/-- THE SECOND FORM's CARD OF 'laws.FnExactProceedsOf'. -/
def fnExactProceedsOfUptoCard : Claim7 := { stood := { row := fnExactProceedsOfUptoRow, standIns := [], harness := (true, "0501f81b24aaf50b2ba1d6bc03dad9bc2f6d3ebcc417d567a2d6bde1a798affe"), looks := true }, kinds := [], alts := [], laidByText := true, laidKinds := [.sentinel, .sentinel, .sentinel, .sentinel, .sentinel], laidTests := true, laidLooks := .later }
def FnExactProceedsOfUptoCardSaid : Prop := Claim7.holds Tryd.pinned (.plain (OpenSpec.upto fnExactProceedsOfSpec)) fnExactProceedsOfUptoCard

/-- THE SECOND FORM's CARD OF 'laws.FnExactChangesValue'. -/
def fnExactChangesValueUptoCard : Claim7 := { stood := { row := fnExactChangesValueUptoRow, standIns := [], harness := (true, "0501f81b24aaf50b2ba1d6bc03dad9bc2f6d3ebcc417d567a2d6bde1a798affe"), looks := true }, kinds := [], alts := [], laidByText := true, laidKinds := [.sentinel, .sentinel, .sentinel, .sentinel, .sentinel], laidTests := true, laidLooks := .later }
def FnExactChangesValueUptoCardSaid : Prop := Claim7.holds Tryd.pinned (.plain (OpenSpec.upto fnExactChangesValueSpec)) fnExactChangesValueUptoCard

/-- THE SECOND FORM's CARD OF 'laws.FnExactPrintsIn'. -/
def fnExactPrintsInUptoCard : Claim7 := { stood := { row := fnExactPrintsInUptoRow, standIns := [], harness := (true, "0501f81b24aaf50b2ba1d6bc03dad9bc2f6d3ebcc417d567a2d6bde1a798affe"), looks := true }, kinds := [], alts := [], laidByText := true, laidKinds := [.sentinel, .sentinel, .sentinel, .sentinel, .sentinel], laidTests := true, laidLooks := .later }
def FnExactPrintsInUptoCardSaid : Prop := Claim7.holds Tryd.pinned (.plain (OpenSpec.upto fnExactPrintsInSpec)) fnExactPrintsInUptoCard

/-- THE SECOND FORM's CARD OF 'laws.FnExactClassOf'. -/
def fnExactClassOfUptoCard : Claim7 := { stood := { row := fnExactClassOfUptoRow, standIns := [], harness := (true, "0501f81b24aaf50b2ba1d6bc03dad9bc2f6d3ebcc417d567a2d6bde1a798affe"), looks := true }, kinds := [], alts := [], laidByText := true, laidKinds := [.sentinel, .sentinel, .sentinel, .sentinel, .sentinel], laidTests := true, laidLooks := .later }
def FnExactClassOfUptoCardSaid : Prop := Claim7.holds Tryd.pinned (.plain (OpenSpec.upto fnExactClassOfSpec)) fnExactClassOfUptoCard

/-- THE SECOND FORM's CARD OF 'laws.FnExactAroundOf'. -/
def fnExactAroundOfUptoCard : Claim7 := { stood := { row := fnExactAroundOfUptoRow, standIns := [], harness := (true, "0501f81b24aaf50b2ba1d6bc03dad9bc2f6d3ebcc417d567a2d6bde1a798affe"), looks := true }, kinds := [], alts := [], laidByText := true, laidKinds := [.sentinel, .sentinel, .sentinel, .sentinel, .sentinel], laidTests := true, laidLooks := .later }
def FnExactAroundOfUptoCardSaid : Prop := Claim7.holds Tryd.pinned (.plain (OpenSpec.upto fnExactAroundOfSpec)) fnExactAroundOfUptoCard
end Rows
end Go.Proofs.YthmelinlodihfaaDoor
