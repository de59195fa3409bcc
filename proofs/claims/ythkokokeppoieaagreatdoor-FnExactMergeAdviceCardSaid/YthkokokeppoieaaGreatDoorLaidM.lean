/- A world for the witnesses of the cards whose rows lay the five errors and the two tables of unicode/utf8. -/
import Derived.Test.YthkokokeppoieaaGreatDoorLaidE
import Derived.Test.YthkokokeppoieaaGreatDoorMgb
import Derived.Lib.LaidTab
namespace Go.Proofs.YthkokokeppoieaaGreatDoor
open Go.ChangeShapes Go.WideShapes Go.ChangeAt Go.RowKit Go.ChangeMaps Go.Stop

/-- the library's own number can be read in every world that a call may begin in -/
theorem max_shaped {W : World} (h : W.ShapedOpen Tryz.prog) : MaxCell W := Tryz.laysM145.s1_3 W h
def numV (n : Nat) : Value := .int .u8 n
def setTab (l : List Nat) : Obj → Obj
  | .cells _ t frozen => .cells (l.map numV).toArray t frozen
  | o => o
noncomputable def laidWorldM (os : Os) : World :=
  { laidWorld os with
    heap := ((laidWorld os).heap.modify 6 (setTab Pinned.utf8FirstZ)).modify 7 (setTab [128, 191, 160, 191, 128, 159, 144, 191, 128, 143, 0, 0, 0, 0, 0, 0, 0, 0, 0, 0, 0, 0, 0, 0, 0, 0, 0, 0, 0, 0, 0, 0]) }
theorem five_of {W : World} (h : laidMet Tryz.prog Rows.fnExactMergeAdviceRow.laid W) : laidMet Tryz.prog fiveLaid W := by
  have h2 := h.filter fun x => x.1 != "unicode/utf8.first" && x.1 != "unicode/utf8.acceptRanges"
  rw [show Rows.fnExactMergeAdviceRow.laid.filter (fun x => x.1 != "unicode/utf8.first" && x.1 != "unicode/utf8.acceptRanges") = fiveLaid by kernel_rfl] at h2
  exact h2
end Go.Proofs.YthkokokeppoieaaGreatDoor
