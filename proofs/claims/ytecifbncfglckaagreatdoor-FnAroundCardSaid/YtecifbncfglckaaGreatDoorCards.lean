/-
  DERIVED. GIVEN WITH THE SEED: THE CARDS: each row of YtecifbncfglckaaGreatDoorRows.lean that lists a variable, with what it lists TIED to the program's text (the seventh form; the later family's looks); each row that meets fmt, with fmt's text TOLD by the authors' own Lean function (tested against real Go, not proved from fmt's source: count such statements apart). THE CARD IS WHAT COUNTS. Prove the row's statement (the work); the ties are given (YtecifbncfglckaaGreatDoorTie.lean); close each card by the builder's one call (the guide's Derived/Test/ToyasCard.lean, 'card_holds'). Laid BY PROGRAM, IN A SANDBOX (cutbox-door.mjs). By AI agents, Wed Nov 11 2026. No macro, syntax, notation, axiom, sorry.
-/
import Derived.Test.YtecifbncfglckaaGreatDoorRows
import GoSem.ClaimSeven
namespace Go.Proofs.YtecifbncfglckaaGreatDoor
namespace Rows

/-- THE TIED CARD OF 'laws.FnAspectText'. -/
def fnAspectTextCard : Claim7 := { stood := { row := fnAspectTextRow, standIns := [], harness := (true, "8f1045ada8f3e745c6a3db82237201368132c8e2f6734a94a2d52d45e5094386"), looks := true }, kinds := [], alts := [], laidByText := true, laidKinds := [.sentinel, .sentinel, .sentinel, .sentinel, .sentinel], laidTests := true, laidLooks := .later }
def FnAspectTextCardSaid : Prop := Claim7.holds Tryz.pinned (.plain (OpenSpec.ofChange fnAspectTextSpec)) fnAspectTextCard

/-- THE TIED CARD OF 'laws.FnClass'. -/
def fnClassCard : Claim7 := { stood := { row := fnClassRow, standIns := [], harness := (true, "8f1045ada8f3e745c6a3db82237201368132c8e2f6734a94a2d52d45e5094386"), looks := true }, kinds := [], alts := [], laidByText := true, laidKinds := [.sentinel, .sentinel, .sentinel, .sentinel, .sentinel], laidTests := true, laidLooks := .later }
def FnClassCardSaid : Prop := Claim7.holds Tryz.pinned (.plain (OpenSpec.ofChange fnClassSpec)) fnClassCard

/-- THE TIED CARD OF 'laws.FnAround'. -/
def fnAroundCard : Claim7 := { stood := { row := fnAroundRow, standIns := [], harness := (true, "8f1045ada8f3e745c6a3db82237201368132c8e2f6734a94a2d52d45e5094386"), looks := true }, kinds := [], alts := [], laidByText := true, laidKinds := [.sentinel, .sentinel, .sentinel, .sentinel, .sentinel], laidTests := true, laidLooks := .later }
def FnAroundCardSaid : Prop := Claim7.holds Tryz.pinned (.plain (OpenSpec.ofChange fnAroundSpec)) fnAroundCard

/-- THE SECOND FORM's CARD OF 'laws.FnAspectText'. -/
def fnAspectTextUptoCard : Claim7 := { stood := { row := fnAspectTextUptoRow, standIns := [], harness := (true, "8f1045ada8f3e745c6a3db82237201368132c8e2f6734a94a2d52d45e5094386"), looks := true }, kinds := [], alts := [], laidByText := true, laidKinds := [.sentinel, .sentinel, .sentinel, .sentinel, .sentinel], laidTests := true, laidLooks := .later }
def FnAspectTextUptoCardSaid : Prop := Claim7.holds Tryz.pinned (.plain (OpenSpec.upto fnAspectTextSpec)) fnAspectTextUptoCard

/-- THE SECOND FORM's CARD OF 'laws.FnClass'. -/
def fnClassUptoCard : Claim7 := { stood := { row := fnClassUptoRow, standIns := [], harness := (true, "8f1045ada8f3e745c6a3db82237201368132c8e2f6734a94a2d52d45e5094386"), looks := true }, kinds := [], alts := [], laidByText := true, laidKinds := [.sentinel, .sentinel, .sentinel, .sentinel, .sentinel], laidTests := true, laidLooks := .later }
def FnClassUptoCardSaid : Prop := Claim7.holds Tryz.pinned (.plain (OpenSpec.upto fnClassSpec)) fnClassUptoCard

/-- THE SECOND FORM's CARD OF 'laws.FnAround'. -/
def fnAroundUptoCard : Claim7 := { stood := { row := fnAroundUptoRow, standIns := [], harness := (true, "8f1045ada8f3e745c6a3db82237201368132c8e2f6734a94a2d52d45e5094386"), looks := true }, kinds := [], alts := [], laidByText := true, laidKinds := [.sentinel, .sentinel, .sentinel, .sentinel, .sentinel], laidTests := true, laidLooks := .later }
def FnAroundUptoCardSaid : Prop := Claim7.holds Tryz.pinned (.plain (OpenSpec.upto fnAroundSpec)) fnAroundUptoCard
end Rows
end Go.Proofs.YtecifbncfglckaaGreatDoor
