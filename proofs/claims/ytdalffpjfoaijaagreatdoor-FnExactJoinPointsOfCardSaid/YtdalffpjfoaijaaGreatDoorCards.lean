/-
  DERIVED. GIVEN WITH THE SEED: THE CARDS: each row of YtdalffpjfoaijaaGreatDoorRows.lean that lists a variable, with what it lists TIED to the program's text (the seventh form; the later family's looks); each row that meets fmt, with fmt's text TOLD by the authors' own Lean function (tested against real Go, not proved from fmt's source: count such statements apart). THE CARD IS WHAT COUNTS. Prove the row's statement (the work); the ties are given (YtdalffpjfoaijaaGreatDoorTie.lean); close each card by the builder's one call (the guide's Derived/Test/ToyasCard.lean, 'card_holds'). Laid BY PROGRAM, IN A SANDBOX (cutbox-door.mjs). By AI agents, Wed Nov 11 2026. No macro, syntax, notation, axiom, sorry.
-/
import Derived.Test.YtdalffpjfoaijaaGreatDoorRows
import GoSem.ClaimSeven
namespace Go.Proofs.YtdalffpjfoaijaaGreatDoor
namespace Rows

/-- THE TIED CARD OF 'laws.FnExactRunProgram'. -/
def fnExactRunProgramCard : Claim7 := { stood := { row := fnExactRunProgramRow, standIns := [], harness := (true, "09695bda5417dd5f90fd44f35493158741b5a66de618b6de325408f70d61ad2d"), looks := true }, kinds := [], alts := [], laidByText := true, laidKinds := [.data, .pinned], laidTests := true, laidLooks := .later }
def FnExactRunProgramCardSaid : Prop := Claim7.holds Tryz.pinned (.plain (OpenSpec.ofChange fnExactRunProgramSpec)) fnExactRunProgramCard

/-- THE TIED CARD OF 'laws.FnExactJoinPointsOf'. -/
def fnExactJoinPointsOfCard : Claim7 := { stood := { row := fnExactJoinPointsOfRow, standIns := [], harness := (true, "09695bda5417dd5f90fd44f35493158741b5a66de618b6de325408f70d61ad2d"), looks := true }, kinds := [], alts := [], laidByText := true, laidKinds := [.data, .pinned], laidTests := true, laidLooks := .later }
def FnExactJoinPointsOfCardSaid : Prop := Claim7.holds Tryz.pinned (.plain (OpenSpec.ofChange fnExactJoinPointsOfSpec)) fnExactJoinPointsOfCard

/-- THE SECOND FORM's CARD OF 'laws.FnExactRunProgram'. -/
def fnExactRunProgramUptoCard : Claim7 := { stood := { row := fnExactRunProgramUptoRow, standIns := [], harness := (true, "09695bda5417dd5f90fd44f35493158741b5a66de618b6de325408f70d61ad2d"), looks := true }, kinds := [], alts := [], laidByText := true, laidKinds := [.data, .pinned], laidTests := true, laidLooks := .later }
def FnExactRunProgramUptoCardSaid : Prop := Claim7.holds Tryz.pinned (.plain (OpenSpec.upto fnExactRunProgramSpec)) fnExactRunProgramUptoCard

/-- THE SECOND FORM's CARD OF 'laws.FnExactJoinPointsOf'. -/
def fnExactJoinPointsOfUptoCard : Claim7 := { stood := { row := fnExactJoinPointsOfUptoRow, standIns := [], harness := (true, "09695bda5417dd5f90fd44f35493158741b5a66de618b6de325408f70d61ad2d"), looks := true }, kinds := [], alts := [], laidByText := true, laidKinds := [.data, .pinned], laidTests := true, laidLooks := .later }
def FnExactJoinPointsOfUptoCardSaid : Prop := Claim7.holds Tryz.pinned (.plain (OpenSpec.upto fnExactJoinPointsOfSpec)) fnExactJoinPointsOfUptoCard
end Rows
end Go.Proofs.YtdalffpjfoaijaaGreatDoor
