/-
  DERIVED. GIVEN WITH THE SEED: THE CARDS: each row of YthhlbcllhohcnaaDoorRows.lean that lists a variable, with what it lists TIED to the program's text (the seventh form; the later family's looks); each row that meets fmt, with fmt's text TOLD by the authors' own Lean function (tested against real Go, not proved from fmt's source: count such statements apart). THE CARD IS WHAT COUNTS. Prove the row's statement (the work); the ties are given (YthhlbcllhohcnaaDoorTie.lean); close each card by the builder's one call (the guide's Derived/Test/ToyasCard.lean, 'card_holds'). Laid BY PROGRAM, IN A SANDBOX (cutbox-door.mjs). By AI agents, Wed Nov 11 2026. No macro, syntax, notation, axiom, sorry.
-/
import Derived.Test.YthhlbcllhohcnaaDoorRows
import GoSem.ClaimSeven
namespace Go.Proofs.YthhlbcllhohcnaaDoor
namespace Rows

/-- THE TIED CARD OF 'laws.FnOutcome'. -/
def fnOutcomeCard : Claim7 := { stood := { row := fnOutcomeRow, standIns := [], harness := (true, "59696245ab35e40514d65dab2b0f08a569d85aff4db194c17b1de7a261d17afc"), looks := true }, kinds := [], alts := [], laidByText := true, laidKinds := [.data, .data, .data], laidTests := true, laidLooks := .later }
def FnOutcomeCardSaid : Prop := Claim7.holds Tryd.pinned (.plain (OpenSpec.ofChange fnOutcomeSpec)) fnOutcomeCard

/-- THE TIED CARD OF 'laws.FnExactDepthOf'. -/
def fnExactDepthOfCard : Claim7 := { stood := { row := fnExactDepthOfRow, standIns := [], harness := (true, "59696245ab35e40514d65dab2b0f08a569d85aff4db194c17b1de7a261d17afc"), looks := true }, kinds := [], alts := [], laidByText := true, laidKinds := [.data, .pinned], laidTests := true, laidLooks := .later }
def FnExactDepthOfCardSaid : Prop := Claim7.holds Tryd.pinned (.plain (OpenSpec.ofChange fnExactDepthOfSpec)) fnExactDepthOfCard

/-- THE SECOND FORM's CARD OF 'laws.FnOutcome'. -/
def fnOutcomeUptoCard : Claim7 := { stood := { row := fnOutcomeUptoRow, standIns := [], harness := (true, "59696245ab35e40514d65dab2b0f08a569d85aff4db194c17b1de7a261d17afc"), looks := true }, kinds := [], alts := [], laidByText := true, laidKinds := [.data, .data, .data], laidTests := true, laidLooks := .later }
def FnOutcomeUptoCardSaid : Prop := Claim7.holds Tryd.pinned (.plain (OpenSpec.upto fnOutcomeSpec)) fnOutcomeUptoCard

/-- THE SECOND FORM's CARD OF 'laws.FnExactDepthOf'. -/
def fnExactDepthOfUptoCard : Claim7 := { stood := { row := fnExactDepthOfUptoRow, standIns := [], harness := (true, "59696245ab35e40514d65dab2b0f08a569d85aff4db194c17b1de7a261d17afc"), looks := true }, kinds := [], alts := [], laidByText := true, laidKinds := [.data, .pinned], laidTests := true, laidLooks := .later }
def FnExactDepthOfUptoCardSaid : Prop := Claim7.holds Tryd.pinned (.plain (OpenSpec.upto fnExactDepthOfSpec)) fnExactDepthOfUptoCard
end Rows
end Go.Proofs.YthhlbcllhohcnaaDoor
