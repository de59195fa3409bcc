/-
  DERIVED. GIVEN WITH THE SEED: THE CARDS: each row of YtihjkkoaccmefaaDoorRows.lean that lists a variable, with what it lists TIED to the program's text (the seventh form; the later family's looks); each row that meets fmt, with fmt's text TOLD by the authors' own Lean function (tested against real Go, not proved from fmt's source: count such statements apart). THE CARD IS WHAT COUNTS. Prove the row's statement (the work); the ties are given (YtihjkkoaccmefaaDoorTie.lean); close each card by the builder's one call (the guide's Derived/Test/ToyasCard.lean, 'card_holds'). Laid BY PROGRAM, IN A SANDBOX (cutbox-door.mjs). By AI agents, Wed Nov 11 2026. No macro, syntax, notation, axiom, sorry.
-/
import Derived.Test.YtihjkkoaccmefaaDoorRows
import GoSem.ClaimSeven
namespace Go.Proofs.YtihjkkoaccmefaaDoor
namespace Rows

/-- THE TIED CARD OF 'laws.FnExactShadowsOf'. -/
def fnExactShadowsOfCard : Claim7 := { stood := { row := fnExactShadowsOfRow, standIns := [], harness := (true, "92f624a48ac0b080d7a6fe6d0b3c59d8886c6a2274f9391bd9168eb30e7a1cdd"), looks := true }, kinds := [], alts := [], laidByText := true, laidKinds := [.data, .pinned], laidTests := true, laidLooks := .later }
def FnExactShadowsOfCardSaid : Prop := Claim7.holds Tryd.pinned (.plain (OpenSpec.ofChange fnExactShadowsOfSpec)) fnExactShadowsOfCard

/-- THE TIED CARD OF 'laws.FnExactMayBeActive'. -/
def fnExactMayBeActiveCard : Claim7 := { stood := { row := fnExactMayBeActiveRow, standIns := [], harness := (true, "92f624a48ac0b080d7a6fe6d0b3c59d8886c6a2274f9391bd9168eb30e7a1cdd"), looks := true }, kinds := [], alts := [], laidByText := true, laidKinds := [.data, .pinned], laidTests := true, laidLooks := .later }
def FnExactMayBeActiveCardSaid : Prop := Claim7.holds Tryd.pinned (.plain (OpenSpec.ofChange fnExactMayBeActiveSpec)) fnExactMayBeActiveCard

/-- THE TIED CARD OF 'laws.FnExactMustBeActive'. -/
def fnExactMustBeActiveCard : Claim7 := { stood := { row := fnExactMustBeActiveRow, standIns := [], harness := (true, "92f624a48ac0b080d7a6fe6d0b3c59d8886c6a2274f9391bd9168eb30e7a1cdd"), looks := true }, kinds := [], alts := [], laidByText := true, laidKinds := [.data, .pinned], laidTests := true, laidLooks := .later }
def FnExactMustBeActiveCardSaid : Prop := Claim7.holds Tryd.pinned (.plain (OpenSpec.ofChange fnExactMustBeActiveSpec)) fnExactMustBeActiveCard

/-- THE SECOND FORM's CARD OF 'laws.FnExactShadowsOf'. -/
def fnExactShadowsOfUptoCard : Claim7 := { stood := { row := fnExactShadowsOfUptoRow, standIns := [], harness := (true, "92f624a48ac0b080d7a6fe6d0b3c59d8886c6a2274f9391bd9168eb30e7a1cdd"), looks := true }, kinds := [], alts := [], laidByText := true, laidKinds := [.data, .pinned], laidTests := true, laidLooks := .later }
def FnExactShadowsOfUptoCardSaid : Prop := Claim7.holds Tryd.pinned (.plain (OpenSpec.upto fnExactShadowsOfSpec)) fnExactShadowsOfUptoCard

/-- THE SECOND FORM's CARD OF 'laws.FnExactMayBeActive'. -/
def fnExactMayBeActiveUptoCard : Claim7 := { stood := { row := fnExactMayBeActiveUptoRow, standIns := [], harness := (true, "92f624a48ac0b080d7a6fe6d0b3c59d8886c6a2274f9391bd9168eb30e7a1cdd"), looks := true }, kinds := [], alts := [], laidByText := true, laidKinds := [.data, .pinned], laidTests := true, laidLooks := .later }
def FnExactMayBeActiveUptoCardSaid : Prop := Claim7.holds Tryd.pinned (.plain (OpenSpec.upto fnExactMayBeActiveSpec)) fnExactMayBeActiveUptoCard

/-- THE SECOND FORM's CARD OF 'laws.FnExactMustBeActive'. -/
def fnExactMustBeActiveUptoCard : Claim7 := { stood := { row := fnExactMustBeActiveUptoRow, standIns := [], harness := (true, "92f624a48ac0b080d7a6fe6d0b3c59d8886c6a2274f9391bd9168eb30e7a1cdd"), looks := true }, kinds := [], alts := [], laidByText := true, laidKinds := [.data, .pinned], laidTests := true, laidLooks := .later }
def FnExactMustBeActiveUptoCardSaid : Prop := Claim7.holds Tryd.pinned (.plain (OpenSpec.upto fnExactMustBeActiveSpec)) fnExactMustBeActiveUptoCard
end Rows
end Go.Proofs.YtihjkkoaccmefaaDoor
