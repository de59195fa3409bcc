/-
  DERIVED. GIVEN WITH THE SEED: THE CARDS: each row of YteckejnoahmfmaaGreatDoorRows.lean that lists a variable, with what it lists TIED to the program's text (the seventh form; the later family's looks); each row that meets fmt, with fmt's text TOLD by the authors' own Lean function (tested against real Go, not proved from fmt's source: count such statements apart). THE CARD IS WHAT COUNTS. Prove the row's statement (the work); the ties are given (YteckejnoahmfmaaGreatDoorTie.lean); close each card by the builder's one call (the guide's Derived/Test/ToyasCard.lean, 'card_holds'). Laid BY PROGRAM, IN A SANDBOX (cutbox-door.mjs). By AI agents, Wed Nov 11 2026. No macro, syntax, notation, axiom, sorry.
-/
import Derived.Test.YteckejnoahmfmaaGreatDoorRows
import GoSem.ClaimSeven
namespace Go.Proofs.YteckejnoahmfmaaGreatDoor
namespace Rows

/-- THE TIED CARD OF 'laws.FnRun'. -/
def fnRunCard : Claim7 := { stood := { row := fnRunRow, standIns := [], harness := (true, "5466de16c5ecec9f5cdde18f287365c051ffb223d57b62e539ab908690e63403"), looks := true }, kinds := [], alts := [], laidByText := true, laidKinds := [.data, .pinned], laidTests := true, laidLooks := .later }
def FnRunCardSaid : Prop := Claim7.holds Tryz.pinned (.plain (OpenSpec.ofChange fnRunSpec)) fnRunCard

/-- THE TIED CARD OF 'laws.FnJoinPoints'. -/
def fnJoinPointsCard : Claim7 := { stood := { row := fnJoinPointsRow, standIns := [], harness := (true, "5466de16c5ecec9f5cdde18f287365c051ffb223d57b62e539ab908690e63403"), looks := true }, kinds := [], alts := [], laidByText := true, laidKinds := [.data, .pinned], laidTests := true, laidLooks := .later }
def FnJoinPointsCardSaid : Prop := Claim7.holds Tryz.pinned (.plain (OpenSpec.ofChange fnJoinPointsSpec)) fnJoinPointsCard

/-- THE SECOND FORM's CARD OF 'laws.FnRun'. -/
def fnRunUptoCard : Claim7 := { stood := { row := fnRunUptoRow, standIns := [], harness := (true, "5466de16c5ecec9f5cdde18f287365c051ffb223d57b62e539ab908690e63403"), looks := true }, kinds := [], alts := [], laidByText := true, laidKinds := [.data, .pinned], laidTests := true, laidLooks := .later }
def FnRunUptoCardSaid : Prop := Claim7.holds Tryz.pinned (.plain (OpenSpec.upto fnRunSpec)) fnRunUptoCard

/-- THE SECOND FORM's CARD OF 'laws.FnJoinPoints'. -/
def fnJoinPointsUptoCard : Claim7 := { stood := { row := fnJoinPointsUptoRow, standIns := [], harness := (true, "5466de16c5ecec9f5cdde18f287365c051ffb223d57b62e539ab908690e63403"), looks := true }, kinds := [], alts := [], laidByText := true, laidKinds := [.data, .pinned], laidTests := true, laidLooks := .later }
def FnJoinPointsUptoCardSaid : Prop := Claim7.holds Tryz.pinned (.plain (OpenSpec.upto fnJoinPointsSpec)) fnJoinPointsUptoCard
end Rows
end Go.Proofs.YteckejnoahmfmaaGreatDoor
