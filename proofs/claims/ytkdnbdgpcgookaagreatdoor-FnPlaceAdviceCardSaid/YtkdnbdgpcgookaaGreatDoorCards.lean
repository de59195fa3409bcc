/-
  DERIVED. GIVEN WITH THE SEED: THE CARDS: each row of YtkdnbdgpcgookaaGreatDoorRows.lean that lists a variable, with what it lists TIED to the program's text (the seventh form; the later family's looks); each row that meets fmt, with fmt's text TOLD by the authors' own Lean function (tested against real Go, not proved from fmt's source: count such statements apart). THE CARD IS WHAT COUNTS. Prove the row's statement (the work); the ties are given (YtkdnbdgpcgookaaGreatDoorTie.lean); close each card by the builder's one call (the guide's Derived/Test/ToyasCard.lean, 'card_holds'). Laid BY PROGRAM, IN A SANDBOX (cutbox-door.mjs). By AI agents, Wed Nov 11 2026. No macro, syntax, notation, axiom, sorry.
-/
import Derived.Test.YtkdnbdgpcgookaaGreatDoorRows
import GoSem.ClaimSeven
namespace Go.Proofs.YtkdnbdgpcgookaaGreatDoor
namespace Rows

/-- THE TIED CARD OF 'laws.FnAspectText'. -/
def fnAspectTextCard : Claim7 := { stood := { row := fnAspectTextRow, standIns := [], harness := (true, "79fe697b6461639f270667e2d2e5e7c3d0d31b222bf7800dcdf6571fb6ca4018"), looks := true }, kinds := [], alts := [], laidByText := true, laidKinds := [.sentinel, .sentinel, .sentinel, .sentinel, .sentinel], laidTests := true, laidLooks := .later }
def FnAspectTextCardSaid : Prop := Claim7.holds Tryz.pinned (.plain (OpenSpec.ofChange fnAspectTextSpec)) fnAspectTextCard

/-- THE TIED CARD OF 'laws.FnPlaceAdvice'. -/
def fnPlaceAdviceCard : Claim7 := { stood := { row := fnPlaceAdviceRow, standIns := [], harness := (true, "79fe697b6461639f270667e2d2e5e7c3d0d31b222bf7800dcdf6571fb6ca4018"), looks := true }, kinds := [], alts := [], laidByText := true, laidKinds := [.sentinel, .sentinel, .sentinel, .sentinel, .sentinel], laidTests := true, laidLooks := .later }
def FnPlaceAdviceCardSaid : Prop := Claim7.holds Tryz.pinned (.plain (OpenSpec.ofChange fnPlaceAdviceSpec)) fnPlaceAdviceCard

/-- THE TIED CARD OF 'laws.FnExactPlaceAdvice'. -/
def fnExactPlaceAdviceCard : Claim7 := { stood := { row := fnExactPlaceAdviceRow, standIns := [], harness := (true, "79fe697b6461639f270667e2d2e5e7c3d0d31b222bf7800dcdf6571fb6ca4018"), looks := true }, kinds := [], alts := [], laidByText := true, laidKinds := [.sentinel, .sentinel, .sentinel, .sentinel, .sentinel], laidTests := true, laidLooks := .later }
def FnExactPlaceAdviceCardSaid : Prop := Claim7.holds Tryz.pinned (.plain (OpenSpec.ofChange fnExactPlaceAdviceSpec)) fnExactPlaceAdviceCard

/-- THE SECOND FORM's CARD OF 'laws.FnAspectText'. -/
def fnAspectTextUptoCard : Claim7 := { stood := { row := fnAspectTextUptoRow, standIns := [], harness := (true, "79fe697b6461639f270667e2d2e5e7c3d0d31b222bf7800dcdf6571fb6ca4018"), looks := true }, kinds := [], alts := [], laidByText := true, laidKinds := [.sentinel, .sentinel, .sentinel, .sentinel, .sentinel], laidTests := true, laidLooks := .later }
def FnAspectTextUptoCardSaid : Prop := Claim7.holds Tryz.pinned (.plain (OpenSpec.upto fnAspectTextSpec)) fnAspectTextUptoCard

/-- THE SECOND FORM's CARD OF 'laws.FnPlaceAdvice'. -/
def fnPlaceAdviceUptoCard : Claim7 := { stood := { row := fnPlaceAdviceUptoRow, standIns := [], harness := (true, "79fe697b6461639f270667e2d2e5e7c3d0d31b222bf7800dcdf6571fb6ca4018"), looks := true }, kinds := [], alts := [], laidByText := true, laidKinds := [.sentinel, .sentinel, .sentinel, .sentinel, .sentinel], laidTests := true, laidLooks := .later }
def FnPlaceAdviceUptoCardSaid : Prop := Claim7.holds Tryz.pinned (.plain (OpenSpec.upto fnPlaceAdviceSpec)) fnPlaceAdviceUptoCard

/-- THE SECOND FORM's CARD OF 'laws.FnExactPlaceAdvice'. -/
def fnExactPlaceAdviceUptoCard : Claim7 := { stood := { row := fnExactPlaceAdviceUptoRow, standIns := [], harness := (true, "79fe697b6461639f270667e2d2e5e7c3d0d31b222bf7800dcdf6571fb6ca4018"), looks := true }, kinds := [], alts := [], laidByText := true, laidKinds := [.sentinel, .sentinel, .sentinel, .sentinel, .sentinel], laidTests := true, laidLooks := .later }
def FnExactPlaceAdviceUptoCardSaid : Prop := Claim7.holds Tryz.pinned (.plain (OpenSpec.upto fnExactPlaceAdviceSpec)) fnExactPlaceAdviceUptoCard
end Rows
end Go.Proofs.YtkdnbdgpcgookaaGreatDoor
