/- Texts as lists of bytes; sums of texts; blocks laid. Plain lemmas. -/
import Derived.Test.YtkdnbdgpcgookaaGreatDoorLow
namespace Go.Proofs.YtkdnbdgpcgookaaGreatDoor
open Go.RowKit Gram

def txtOf (l : List UInt8) : ByteArray := ⟨l.toArray⟩
theorem txtOf_size (l : List UInt8) : (txtOf l).size = l.length := rfl
theorem txtOf_data (l : List UInt8) : (txtOf l).data.toList = l := rfl
theorem str_sum (x y : ByteArray) (h : x.size + y.size ≤ 9223372036854775807) (w : World) : (Op.stringOp .add x y).run Tryz.prog w = .ok (.string (x ++ y)) w := run_string_add_sum w x y h
theorem alloc_more (w : World) (o : Obj) : w.heap.size < (w.alloc o).heap.size := by
  show _ < (w.heap.push o).size
  rw [Array.size_push]; omega
theorem alloc_size (w : World) (o : Obj) : (w.alloc o).heap.size = w.heap.size + 1 := by
  show (w.heap.push o).size = _
  rw [Array.size_push]
theorem text_none {s : ByteArray} (h : s.size = 0) : s.toList.isEmpty = true := by
  rw [ByteArray.toList_eq]
  have : s.data.toList.length = 0 := by simpa using h
  rw [List.length_eq_zero_iff.1 this]; rfl
theorem text_some {s : ByteArray} (h : 0 < s.size) : s.toList.isEmpty = false := by
  rw [ByteArray.toList_eq]
  have : 0 < s.data.toList.length := by simpa using h
  cases hl : s.data.toList with
  | nil => rw [hl] at this; simp at this
  | cons x t => rfl
end Go.Proofs.YtkdnbdgpcgookaaGreatDoor
