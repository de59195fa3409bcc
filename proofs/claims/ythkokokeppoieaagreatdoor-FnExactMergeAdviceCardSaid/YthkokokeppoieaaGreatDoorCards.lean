/-
  DERIVED. GIVEN WITH THE SEED: THE CARDS: each row of YthkokokeppoieaaGreatDoorRows.lean that lists a variable, with what it lists TIED to the program's text (the seventh form; the later family's looks); each row that meets fmt, with fmt's text TOLD by the authors' own Lean function (tested against real Go, not proved from fmt's source: count such statements apart). THE CARD IS WHAT COUNTS. Prove the row's statement (the work); the ties are given (YthkokokeppoieaaGreatDoorTie.lean); close each card by the builder's one call (the guide's Derived/Test/ToyasCard.lean, 'card_holds'). Laid BY PROGRAM, IN A SANDBOX (cutbox-door.mjs). By AI agents, Wed Nov 11 2026. No macro, syntax, notation, axiom, sorry.
-/
import Derived.Test.YthkokokeppoieaaGreatDoorRows
import GoSem.ClaimSeven
namespace Go.Proofs.YthkokokeppoieaaGreatDoor
namespace Rows

/-- THE TIED CARD OF 'laws.FnWithBody'. -/
def fnWithBodyCard : Claim7 := { stood := { row := fnWithBodyRow, standIns := [], harness := (true, "511cbe96855706bd7881c7b9ce134d452127e14c95ad588dcd9237a07f79ea42"), looks := true }, kinds := [], alts := [], laidByText := true, laidKinds := [.data, .pinned], laidTests := true, laidLooks := .later }
def FnWithBodyCardSaid : Prop := Claim7.holds Tryz.pinned (.plain (OpenSpec.ofChange fnWithBodySpec)) fnWithBodyCard

/-- THE TIED CARD OF 'laws.FnExactMergeAdvice'. -/
def fnExactMergeAdviceCard : Claim7 := { stood := { row := fnExactMergeAdviceRow, standIns := [], harness := (true, "511cbe96855706bd7881c7b9ce134d452127e14c95ad588dcd9237a07f79ea42"), looks := true }, kinds := [], alts := [], laidByText := true, laidKinds := [.data, .sentinel, .sentinel, .sentinel, .sentinel, .sentinel, .pinned], laidTests := true, laidLooks := .later }
def FnExactMergeAdviceCardSaid : Prop := Claim7.holds Tryz.pinned (.plain (OpenSpec.ofChange fnExactMergeAdviceSpec)) fnExactMergeAdviceCard

/-- THE SECOND FORM's CARD OF 'laws.FnWithBody'. -/
def fnWithBodyUptoCard : Claim7 := { stood := { row := fnWithBodyUptoRow, standIns := [], harness := (true, "511cbe96855706bd7881c7b9ce134d452127e14c95ad588dcd9237a07f79ea42"), looks := true }, kinds := [], alts := [], laidByText := true, laidKinds := [.data, .pinned], laidTests := true, laidLooks := .later }
def FnWithBodyUptoCardSaid : Prop := Claim7.holds Tryz.pinned (.plain (OpenSpec.upto fnWithBodySpec)) fnWithBodyUptoCard

/-- THE SECOND FORM's CARD OF 'laws.FnExactMergeAdvice'. -/
def fnExactMergeAdviceUptoCard : Claim7 := { stood := { row := fnExactMergeAdviceUptoRow, standIns := [], harness := (true, "511cbe96855706bd7881c7b9ce134d452127e14c95ad588dcd9237a07f79ea42"), looks := true }, kinds := [], alts := [], laidByText := true, laidKinds := [.data, .sentinel, .sentinel, .sentinel, .sentinel, .sentinel, .pinned], laidTests := true, laidLooks := .later }
def FnExactMergeAdviceUptoCardSaid : Prop := Claim7.holds Tryz.pinned (.plain (OpenSpec.upto fnExactMergeAdviceSpec)) fnExactMergeAdviceUptoCard
end Rows
end Go.Proofs.YthkokokeppoieaaGreatDoor
