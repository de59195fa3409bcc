/- A world for the witnesses of the cards: the settled one, with the two tables of unicode/utf8 as their initialisers lay them. -/
import Derived.Test.YtomodlllmbkndaaGreatDoorCards
import Derived.Test.YtomodlllmbkndaaGreatDoorTie
import Derived.Test.YtomodlllmbkndaaGreatDoorA3
import Derived.ProofKit
import Derived.OpenShut
import Derived.Deep.DeepHandedRow
import Derived.Lib.LaidTab
namespace Go.Proofs.YtomodlllmbkndaaGreatDoor
open Go.ChangeShapes Go.WideShapes Go.ChangeAt Go.RowKit Go.ChangeMaps

theorem own : ownKnob Tryz.prog.godebug = none := by kernel_rfl
/-- the library's own number can be read in every world that a call may begin in -/
theorem max_shaped {W : World} (h : W.ShapedOpen Tryz.prog) : MaxCell W := Tryz.laysM145.s1_3 W h

def numV (n : Nat) : Value := .int .u8 n
def setTab (l : List Nat) : Obj → Obj
  | .cells _ t frozen => .cells (l.map numV).toArray t frozen
  | o => o
noncomputable def laidWorld (os : Os) : World :=
  { World.holding Tryz.prog os ⟨#[], #[], []⟩ with
    heap := ((World.holding Tryz.prog os ⟨#[], #[], []⟩).heap.modify 1 (setTab Pinned.utf8FirstZ)).modify 2 (setTab [128, 191, 160, 191, 128, 159, 144, 191, 128, 143, 0, 0, 0, 0, 0, 0, 0, 0, 0, 0, 0, 0, 0, 0, 0, 0, 0, 0, 0, 0, 0, 0]) }
end Go.Proofs.YtomodlllmbkndaaGreatDoor
