/- The texts of the program's statements as they lie in memory, and bodyText. Condition: texts of at most 2^20 bytes. -/
import Derived.Test.YtihjkkoaccmefaaDoorRead
import Derived.Test.YtihjkkoaccmefaaDoorBuild
import Derived.Deep.RegionHeld3
import Derived.Deep.RegionWith
namespace Go.Proofs.YtihjkkoaccmefaaDoor
open Go.RowKit Gram

theorem bytes_cells {w : World} {b : Nat} {l : List UInt8} {e : TypeId} (hb : w.heap[b]? = some (.cells (l.map fun c => Value.int .u8 (c.toNat : Int)).toArray e (0, 0))) :
    ∀ j (hj : j < l.length), w.cell? ((⟨b, 0, none⟩ : Addr).add j) = some (.int .u8 (l[j].toNat : Int)) := fun j hj => by
  have hadd : (⟨b, 0, none⟩ : Addr).add j = ⟨b, j, none⟩ := by unfold Addr.add; split <;> simp_all
  rw [hadd, Lib.cell_of_heap hb]
  simp [hj]

theorem str2 (g d : UInt8) (w : World) (b : Nat) (hb : b = w.heap.size) :
    (convert 35 9 (.slice (some ⟨b, 0, none⟩) 2 2)).run Tryd.prog (w.alloc (Obj.cells #[.int .u8 (g.toNat : Int), .int .u8 (d.toNat : Int)] 5)) =
      .ok (strV [g, d]) (w.alloc (Obj.cells #[.int .u8 (g.toNat : Int), .int .u8 (d.toNat : Int)] 5)) := by
  subst hb
  exact run_convert_bytes_back (P := Tryd.prog) _ 35 9 5 ⟨w.heap.size, 0, none⟩ 2 [g, d] Tryd.underlying35 Tryd.underlying5 Tryd.underlying9 (bytes_cells (e := 5) (heap_alloc_new _ _))

theorem str_add (x y : ByteArray) (h : x.size + y.size ≤ 9223372036854775807) (w : World) : (Op.stringOp .add x y).run Tryd.prog w = .ok (.string (x ++ y)) w := run_string_add_sum w x y h
end Go.Proofs.YtihjkkoaccmefaaDoor
