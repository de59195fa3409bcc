/-
  DERIVED. GIVEN WITH THE SEED: THE CARDS: each row of YtpahbkjogljndaaGreatDoorRows.lean that lists a variable, with what it lists TIED to the program's text (the seventh form; the later family's looks); each row that meets fmt, with fmt's text TOLD by the authors' own Lean function (tested against real Go, not proved from fmt's source: count such statements apart). THE CARD IS WHAT COUNTS. Prove the row's statement (the work); the ties are given (YtpahbkjogljndaaGreatDoorTie.lean); close each card by the builder's one call (the guide's Derived/Test/ToyasCard.lean, 'card_holds'). Laid BY PROGRAM, IN A SANDBOX (cutbox-door.mjs). By AI agents, Wed Nov 11 2026. No macro, syntax, notation, axiom, sorry.
-/
import Derived.Test.YtpahbkjogljndaaGreatDoorRows
import GoSem.ClaimSeven
namespace Go.Proofs.YtpahbkjogljndaaGreatDoor
namespace Rows

/-- THE TIED CARD OF 'laws.FnExactAllAround'. -/
def fnExactAllAroundCard : Claim7 := { stood := { row := fnExactAllAroundRow, standIns := [], harness := (true, "2fd1f108afa3b05e367a265598b2993f137726f5922b0a3f93dca5ee77a5f084"), looks := true }, kinds := [], alts := [], laidByText := true, laidKinds := [.sentinel, .sentinel, .sentinel, .sentinel, .sentinel], laidTests := true, laidLooks := .later }
def FnExactAllAroundCardSaid : Prop := Claim7.holds Tryz.pinned (.plain (OpenSpec.ofChange fnExactAllAroundSpec)) fnExactAllAroundCard

/-- THE TIED CARD OF 'laws.FnExactMergeAdvice'. -/
def fnExactMergeAdviceCard : Claim7 := { stood := { row := fnExactMergeAdviceRow, standIns := [], harness := (true, "2fd1f108afa3b05e367a265598b2993f137726f5922b0a3f93dca5ee77a5f084"), looks := true }, kinds := [], alts := [], laidByText := true, laidKinds := [.data, .sentinel, .sentinel, .sentinel, .sentinel, .sentinel, .pinned], laidTests := true, laidLooks := .later }
def FnExactMergeAdviceCardSaid : Prop := Claim7.holds Tryz.pinned (.plain (OpenSpec.ofChange fnExactMergeAdviceSpec)) fnExactMergeAdviceCard

/-- THE TIED CARD OF 'laws.FnExactWatchedBy'. -/
def fnExactWatchedByCard : Claim7 := { stood := { row := fnExactWatchedByRow, standIns := [], harness := (true, "2fd1f108afa3b05e367a265598b2993f137726f5922b0a3f93dca5ee77a5f084"), looks := true }, kinds := [], alts := [], laidByText := true, laidKinds := [.sentinel, .sentinel, .sentinel, .sentinel, .sentinel], laidTests := true, laidLooks := .later }
def FnExactWatchedByCardSaid : Prop := Claim7.holds Tryz.pinned (.plain (OpenSpec.ofChange fnExactWatchedBySpec)) fnExactWatchedByCard

/-- THE SECOND FORM's CARD OF 'laws.FnExactAllAround'. -/
def fnExactAllAroundUptoCard : Claim7 := { stood := { row := fnExactAllAroundUptoRow, standIns := [], harness := (true, "2fd1f108afa3b05e367a265598b2993f137726f5922b0a3f93dca5ee77a5f084"), looks := true }, kinds := [], alts := [], laidByText := true, laidKinds := [.sentinel, .sentinel, .sentinel, .sentinel, .sentinel], laidTests := true, laidLooks := .later }
def FnExactAllAroundUptoCardSaid : Prop := Claim7.holds Tryz.pinned (.plain (OpenSpec.upto fnExactAllAroundSpec)) fnExactAllAroundUptoCard

/-- THE SECOND FORM's CARD OF 'laws.FnExactMergeAdvice'. -/
def fnExactMergeAdviceUptoCard : Claim7 := { stood := { row := fnExactMergeAdviceUptoRow, standIns := [], harness := (true, "2fd1f108afa3b05e367a265598b2993f137726f5922b0a3f93dca5ee77a5f084"), looks := true }, kinds := [], alts := [], laidByText := true, laidKinds := [.data, .sentinel, .sentinel, .sentinel, .sentinel, .sentinel, .pinned], laidTests := true, laidLooks := .later }
def FnExactMergeAdviceUptoCardSaid : Prop := Claim7.holds Tryz.pinned (.plain (OpenSpec.upto fnExactMergeAdviceSpec)) fnExactMergeAdviceUptoCard

/-- THE SECOND FORM's CARD OF 'laws.FnExactWatchedBy'. -/
def fnExactWatchedByUptoCard : Claim7 := { stood := { row := fnExactWatchedByUptoRow, standIns := [], harness := (true, "2fd1f108afa3b05e367a265598b2993f137726f5922b0a3f93dca5ee77a5f084"), looks := true }, kinds := [], alts := [], laidByText := true, laidKinds := [.sentinel, .sentinel, .sentinel, .sentinel, .sentinel], laidTests := true, laidLooks := .later }
def FnExactWatchedByUptoCardSaid : Prop := Claim7.holds Tryz.pinned (.plain (OpenSpec.upto fnExactWatchedBySpec)) fnExactWatchedByUptoCard
end Rows
end Go.Proofs.YtpahbkjogljndaaGreatDoor
