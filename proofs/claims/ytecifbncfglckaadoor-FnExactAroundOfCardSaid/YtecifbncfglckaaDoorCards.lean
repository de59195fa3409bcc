/-
  DERIVED. GIVEN WITH THE SEED: THE CARDS: each row of YtecifbncfglckaaDoorRows.lean that lists a variable, with what it lists TIED to the program's text (the seventh form; the later family's looks); each row that meets fmt, with fmt's text TOLD by the authors' own Lean function (tested against real Go, not proved from fmt's source: count such statements apart). THE CARD IS WHAT COUNTS. Prove the row's statement (the work); the ties are given (YtecifbncfglckaaDoorTie.lean); close each card by the builder's one call (the guide's Derived/Test/ToyasCard.lean, 'card_holds'). Laid BY PROGRAM, IN A SANDBOX (cutbox-door.mjs). By AI agents, Wed Nov 11 2026. No macro, syntax, notation, axiom, sorry.
-/
import Derived.Test.YtecifbncfglckaaDoorRows
import GoSem.ClaimSeven
namespace Go.Proofs.YtecifbncfglckaaDoor
namespace Rows

/-- THE TIED CARD OF 'laws.FnProceeds'. -/
def fnProceedsCard : Claim7 := { stood := { row := fnProceedsRow, standIns := [], harness := (true, "1fd457a4019a0d239034025e98488c0d1e20822de4d54364bc3e457226addb6d"), looks := true }, kinds := [], alts := [], laidByText := true, laidKinds := [.sentinel, .sentinel, .sentinel, .sentinel, .sentinel], laidTests := true, laidLooks := .later }
def FnProceedsCardSaid : Prop := Claim7.holds Tryd.pinned (.plain (OpenSpec.ofChange fnProceedsSpec)) fnProceedsCard

/-- THE TIED CARD OF 'laws.FnExactAroundOf'. -/
def fnExactAroundOfCard : Claim7 := { stood := { row := fnExactAroundOfRow, standIns := [], harness := (true, "1fd457a4019a0d239034025e98488c0d1e20822de4d54364bc3e457226addb6d"), looks := true }, kinds := [], alts := [], laidByText := true, laidKinds := [.sentinel, .sentinel, .sentinel, .sentinel, .sentinel], laidTests := true, laidLooks := .later }
def FnExactAroundOfCardSaid : Prop := Claim7.holds Tryd.pinned (.plain (OpenSpec.ofChange fnExactAroundOfSpec)) fnExactAroundOfCard

/-- THE SECOND FORM's CARD OF 'laws.FnProceeds'. -/
def fnProceedsUptoCard : Claim7 := { stood := { row := fnProceedsUptoRow, standIns := [], harness := (true, "1fd457a4019a0d239034025e98488c0d1e20822de4d54364bc3e457226addb6d"), looks := true }, kinds := [], alts := [], laidByText := true, laidKinds := [.sentinel, .sentinel, .sentinel, .sentinel, .sentinel], laidTests := true, laidLooks := .later }
def FnProceedsUptoCardSaid : Prop := Claim7.holds Tryd.pinned (.plain (OpenSpec.upto fnProceedsSpec)) fnProceedsUptoCard

/-- THE SECOND FORM's CARD OF 'laws.FnExactAroundOf'. -/
def fnExactAroundOfUptoCard : Claim7 := { stood := { row := fnExactAroundOfUptoRow, standIns := [], harness := (true, "1fd457a4019a0d239034025e98488c0d1e20822de4d54364bc3e457226addb6d"), looks := true }, kinds := [], alts := [], laidByText := true, laidKinds := [.sentinel, .sentinel, .sentinel, .sentinel, .sentinel], laidTests := true, laidLooks := .later }
def FnExactAroundOfUptoCardSaid : Prop := Claim7.holds Tryd.pinned (.plain (OpenSpec.upto fnExactAroundOfSpec)) fnExactAroundOfUptoCard
end Rows
end Go.Proofs.YtecifbncfglckaaDoor
