/- onlyValid of the program; an aspect in a block of its own. Conditions: texts of at most 2^30 bytes; the errors lie where start-up laid them. -/
import Derived.Test.YtcahnffgpmanpaaDoorIasp
import Derived.BigRegion
namespace Go.Proofs.YtcahnffgpmanpaaDoor
open Go.RowKit Gram

/-- the aspect if it is valid, else the zero value -/
def onlyV (k c b : ByteArray) : Value := if (aspOf k c b).isSome = true then aspV k c b else aspV ⟨#[]⟩ ⟨#[]⟩ ⟨#[]⟩

/-- a block of an aspect -/
def Cell3 (w : World) (B : Nat) (x y z : Value) : Prop := w.heap[B]? = some (.cells #[x, y, z] 35 (0, 0))
theorem Cell3.read {w : World} {B : Nat} {x y z : Value} (h : Cell3 w B x y z) :
    w.cell? ⟨B, 0, none⟩ = some x ∧ w.cell? ⟨B, 1, none⟩ = some y ∧ w.cell? ⟨B, 2, none⟩ = some z ∧ w.frozen? ⟨B, 0, none⟩ = false ∧ w.frozen? ⟨B, 1, none⟩ = false ∧ w.frozen? ⟨B, 2, none⟩ = false := by
  refine ⟨?_, ?_, ?_, Lib.frozen_of_heap h 0, Lib.frozen_of_heap h 1, Lib.frozen_of_heap h 2⟩
  all_goals (rw [Lib.cell_of_heap h]; rfl)
theorem Cell3.later {w w' : World} {B : Nat} {x y z : Value} (h : Cell3 w B x y z) (hb : Below w.heap.size w w') : Cell3 w' B x y z := (hb.block _ (heap_lt h)).trans h
theorem Cell3.new (w : World) (x y z : Value) : Cell3 (w.alloc (.cells #[x, y, z] 35)) w.heap.size x y z := heap_alloc_new _ _
theorem Cell3.put {w : World} {B : Nat} {x y z : Value} (h : Cell3 w B x y z) (x' y' z' : Value) : Cell3 (((w.setCell ⟨B, 0, none⟩ x').setCell ⟨B, 1, none⟩ y').setCell ⟨B, 2, none⟩ z') B x' y' z' :=
  heap_set_same (heap_set_same (heap_set_same (k := 0) h x') (k := 1) y') (k := 2) z'

def strL (l : List UInt8) : ByteArray := ⟨l.toArray⟩
theorem strL_data (l : List UInt8) : (strL l).data.toList = l := rfl
theorem strL_size (l : List UInt8) : (strL l).size = l.length := rfl
def parV (o : Option (ByteArray × ByteArray × ByteArray)) : Value := match o with
  | some (k, c, b) => .tuple #[aspV k c b, .bool true]
  | none => .tuple #[aspV ⟨#[]⟩ ⟨#[]⟩ ⟨#[]⟩, .bool false]

theorem cell3_beside (w : World) (B : Nat) (hB : B < w.heap.size) (x y z : Value) (v v' v'' : Value) :
    ((w.alloc (.cells #[x, y, z] 35)).setCell ⟨B, 0, none⟩ v).cell? ⟨w.heap.size, 0, none⟩ = some x ∧
    (((w.alloc (.cells #[x, y, z] 35)).setCell ⟨B, 0, none⟩ v).setCell ⟨B, 1, none⟩ v').cell? ⟨w.heap.size, 1, none⟩ = some y ∧
    ((((w.alloc (.cells #[x, y, z] 35)).setCell ⟨B, 0, none⟩ v).setCell ⟨B, 1, none⟩ v').setCell ⟨B, 2, none⟩ v'').cell? ⟨w.heap.size, 2, none⟩ = some z := by
  obtain ⟨h0, h1, h2, _⟩ := (Cell3.new w x y z).read
  have hne : w.heap.size ≠ B := by omega
  refine ⟨?_, ?_, ?_⟩
  · exact (World.cell?_of_block (a := ⟨w.heap.size, 0, none⟩) (heap_set_other hne v)).trans h0
  · exact (World.cell?_of_block (a := ⟨w.heap.size, 1, none⟩) ((heap_set_other hne v').trans (heap_set_other hne v))).trans h1
  · exact (World.cell?_of_block (a := ⟨w.heap.size, 2, none⟩) ((heap_set_other hne v'').trans ((heap_set_other hne v').trans (heap_set_other hne v)))).trans h2
end Go.Proofs.YtcahnffgpmanpaaDoor
