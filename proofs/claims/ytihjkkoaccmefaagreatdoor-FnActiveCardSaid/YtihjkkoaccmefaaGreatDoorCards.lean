/-
  DERIVED. GIVEN WITH THE SEED: THE CARDS: each row of YtihjkkoaccmefaaGreatDoorRows.lean that lists a variable, with what it lists TIED to the program's text (the seventh form; the later family's looks); each row that meets fmt, with fmt's text TOLD by the authors' own Lean function (tested against real Go, not proved from fmt's source: count such statements apart). THE CARD IS WHAT COUNTS. Prove the row's statement (the work); the ties are given (YtihjkkoaccmefaaGreatDoorTie.lean); close each card by the builder's one call (the guide's Derived/Test/ToyasCard.lean, 'card_holds'). Laid BY PROGRAM, IN A SANDBOX (cutbox-door.mjs). By AI agents, Wed Nov 11 2026. No macro, syntax, notation, axiom, sorry.
-/
import Derived.Test.YtihjkkoaccmefaaGreatDoorRows
import GoSem.ClaimSeven
namespace Go.Proofs.YtihjkkoaccmefaaGreatDoor
namespace Rows

/-- THE TIED CARD OF 'laws.FnShadows'. -/
def fnShadowsCard : Claim7 := { stood := { row := fnShadowsRow, standIns := [], harness := (true, "7e2305bfd9a2cc55486d7a60952d03a95a462c93d1def5a26df817e1f923e0c7"), looks := true }, kinds := [], alts := [], laidByText := true, laidKinds := [.data, .pinned], laidTests := true, laidLooks := .later }
def FnShadowsCardSaid : Prop := Claim7.holds Tryz.pinned (.plain (OpenSpec.ofChange fnShadowsSpec)) fnShadowsCard

/-- THE TIED CARD OF 'laws.FnActive'. -/
def fnActiveCard : Claim7 := { stood := { row := fnActiveRow, standIns := [], harness := (true, "7e2305bfd9a2cc55486d7a60952d03a95a462c93d1def5a26df817e1f923e0c7"), looks := true }, kinds := [], alts := [], laidByText := true, laidKinds := [.data, .pinned], laidTests := true, laidLooks := .later }
def FnActiveCardSaid : Prop := Claim7.holds Tryz.pinned (.plain (OpenSpec.ofChange fnActiveSpec)) fnActiveCard

/-- THE SECOND FORM's CARD OF 'laws.FnShadows'. -/
def fnShadowsUptoCard : Claim7 := { stood := { row := fnShadowsUptoRow, standIns := [], harness := (true, "7e2305bfd9a2cc55486d7a60952d03a95a462c93d1def5a26df817e1f923e0c7"), looks := true }, kinds := [], alts := [], laidByText := true, laidKinds := [.data, .pinned], laidTests := true, laidLooks := .later }
def FnShadowsUptoCardSaid : Prop := Claim7.holds Tryz.pinned (.plain (OpenSpec.upto fnShadowsSpec)) fnShadowsUptoCard

/-- THE SECOND FORM's CARD OF 'laws.FnActive'. -/
def fnActiveUptoCard : Claim7 := { stood := { row := fnActiveUptoRow, standIns := [], harness := (true, "7e2305bfd9a2cc55486d7a60952d03a95a462c93d1def5a26df817e1f923e0c7"), looks := true }, kinds := [], alts := [], laidByText := true, laidKinds := [.data, .pinned], laidTests := true, laidLooks := .later }
def FnActiveUptoCardSaid : Prop := Claim7.holds Tryz.pinned (.plain (OpenSpec.upto fnActiveSpec)) fnActiveUptoCard
end Rows
end Go.Proofs.YtihjkkoaccmefaaGreatDoor
