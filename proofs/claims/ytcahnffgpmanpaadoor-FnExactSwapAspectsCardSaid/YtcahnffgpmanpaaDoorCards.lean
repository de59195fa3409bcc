/-
  DERIVED. GIVEN WITH THE SEED: THE CARDS: each row of YtcahnffgpmanpaaDoorRows.lean that lists a variable, with what it lists TIED to the program's text (the seventh form; the later family's looks); each row that meets fmt, with fmt's text TOLD by the authors' own Lean function (tested against real Go, not proved from fmt's source: count such statements apart). THE CARD IS WHAT COUNTS. Prove the row's statement (the work); the ties are given (YtcahnffgpmanpaaDoorTie.lean); close each card by the builder's one call (the guide's Derived/Test/ToyasCard.lean, 'card_holds'). Laid BY PROGRAM, IN A SANDBOX (cutbox-door.mjs). By AI agents, Wed Nov 11 2026. No macro, syntax, notation, axiom, sorry.
-/
import Derived.Test.YtcahnffgpmanpaaDoorRows
import GoSem.ClaimSeven
namespace Go.Proofs.YtcahnffgpmanpaaDoor
namespace Rows

/-- THE TIED CARD OF 'laws.FnExactSwapAspects'. -/
def fnExactSwapAspectsCard : Claim7 := { stood := { row := fnExactSwapAspectsRow, standIns := [], harness := (true, "14b31121da9fbdd0ac05af2aa26c45b6062c2edb7930289031fb6de73883cef8"), looks := true }, kinds := [], alts := [], laidByText := true, laidKinds := [.sentinel, .sentinel, .sentinel, .sentinel, .sentinel], laidTests := true, laidLooks := .later }
def FnExactSwapAspectsCardSaid : Prop := Claim7.holds Tryd.pinned (.plain (OpenSpec.ofChange fnExactSwapAspectsSpec)) fnExactSwapAspectsCard

/-- THE SECOND FORM's CARD OF 'laws.FnExactSwapAspects'. -/
def fnExactSwapAspectsUptoCard : Claim7 := { stood := { row := fnExactSwapAspectsUptoRow, standIns := [], harness := (true, "14b31121da9fbdd0ac05af2aa26c45b6062c2edb7930289031fb6de73883cef8"), looks := true }, kinds := [], alts := [], laidByText := true, laidKinds := [.sentinel, .sentinel, .sentinel, .sentinel, .sentinel], laidTests := true, laidLooks := .later }
def FnExactSwapAspectsUptoCardSaid : Prop := Claim7.holds Tryd.pinned (.plain (OpenSpec.upto fnExactSwapAspectsSpec)) fnExactSwapAspectsUptoCard
end Rows
end Go.Proofs.YtcahnffgpmanpaaDoor
