/-
  DERIVED. GIVEN WITH THE SEED: THE CARDS: each row of YtcahnffgpmanpaaGreatDoorRows.lean that lists a variable, with what it lists TIED to the program's text (the seventh form; the later family's looks); each row that meets fmt, with fmt's text TOLD by the authors' own Lean function (tested against real Go, not proved from fmt's source: count such statements apart). THE CARD IS WHAT COUNTS. Prove the row's statement (the work); the ties are given (YtcahnffgpmanpaaGreatDoorTie.lean); close each card by the builder's one call (the guide's Derived/Test/ToyasCard.lean, 'card_holds'). Laid BY PROGRAM, IN A SANDBOX (cutbox-door.mjs). By AI agents, Wed Nov 11 2026. No macro, syntax, notation, axiom, sorry.
-/
import Derived.Test.YtcahnffgpmanpaaGreatDoorRows
import GoSem.ClaimSeven
namespace Go.Proofs.YtcahnffgpmanpaaGreatDoor
namespace Rows

/-- THE TIED CARD OF 'laws.FnExactAreObservers'. -/
def fnExactAreObserversCard : Claim7 := { stood := { row := fnExactAreObserversRow, standIns := [], harness := (true, "038ae2dcdce85e3129e019d99eb231e63d9db03c67fe078eabf7fd9ac940adab"), looks := true }, kinds := [], alts := [], laidByText := true, laidKinds := [.sentinel, .sentinel, .sentinel, .sentinel, .sentinel], laidTests := true, laidLooks := .later }
def FnExactAreObserversCardSaid : Prop := Claim7.holds Tryz.pinned (.plain (OpenSpec.ofChange fnExactAreObserversSpec)) fnExactAreObserversCard

/-- THE TIED CARD OF 'laws.FnExactAreQuiet'. -/
def fnExactAreQuietCard : Claim7 := { stood := { row := fnExactAreQuietRow, standIns := [], harness := (true, "038ae2dcdce85e3129e019d99eb231e63d9db03c67fe078eabf7fd9ac940adab"), looks := true }, kinds := [], alts := [], laidByText := true, laidKinds := [.sentinel, .sentinel, .sentinel, .sentinel, .sentinel], laidTests := true, laidLooks := .later }
def FnExactAreQuietCardSaid : Prop := Claim7.holds Tryz.pinned (.plain (OpenSpec.ofChange fnExactAreQuietSpec)) fnExactAreQuietCard

/-- THE SECOND FORM's CARD OF 'laws.FnExactAreObservers'. -/
def fnExactAreObserversUptoCard : Claim7 := { stood := { row := fnExactAreObserversUptoRow, standIns := [], harness := (true, "038ae2dcdce85e3129e019d99eb231e63d9db03c67fe078eabf7fd9ac940adab"), looks := true }, kinds := [], alts := [], laidByText := true, laidKinds := [.sentinel, .sentinel, .sentinel, .sentinel, .sentinel], laidTests := true, laidLooks := .later }
def FnExactAreObserversUptoCardSaid : Prop := Claim7.holds Tryz.pinned (.plain (OpenSpec.upto fnExactAreObserversSpec)) fnExactAreObserversUptoCard

/-- THE SECOND FORM's CARD OF 'laws.FnExactAreQuiet'. -/
def fnExactAreQuietUptoCard : Claim7 := { stood := { row := fnExactAreQuietUptoRow, standIns := [], harness := (true, "038ae2dcdce85e3129e019d99eb231e63d9db03c67fe078eabf7fd9ac940adab"), looks := true }, kinds := [], alts := [], laidByText := true, laidKinds := [.sentinel, .sentinel, .sentinel, .sentinel, .sentinel], laidTests := true, laidLooks := .later }
def FnExactAreQuietUptoCardSaid : Prop := Claim7.holds Tryz.pinned (.plain (OpenSpec.upto fnExactAreQuietSpec)) fnExactAreQuietUptoCard
end Rows
end Go.Proofs.YtcahnffgpmanpaaGreatDoor
