/- The texts of the program's statements as they lie in memory, and bodyText. Condition: texts of at most 2^20 bytes. The law FnExactBodyOf answers true at every pair of texts. Condition: the library's own number can be read. The law FnExactCallsOf answers true at every pair of texts. Condition: the library's own number can be read. -/
import Derived.Test.YtomodlllmbkndaaGreatDoorA2
import Derived.Test.YtomodlllmbkndaaGreatDoorBx
import Derived.Deep.RegionHeld3
import Derived.Deep.RegionWith
import Derived.Test.YtomodlllmbkndaaGreatDoorSbod
import Derived.Test.YtomodlllmbkndaaGreatDoorCx
namespace Go.Proofs.YtomodlllmbkndaaGreatDoor
open Go.RowKit Gram

theorem bytes_cells {w : World} {b : Nat} {l : List UInt8} {e : TypeId} (hb : w.heap[b]? = some (.cells (l.map fun c => Value.int .u8 (c.toNat : Int)).toArray e (0, 0))) :
    ∀ j (hj : j < l.length), w.cell? ((⟨b, 0, none⟩ : Addr).add j) = some (.int .u8 (l[j].toNat : Int)) := fun j hj => by
  have hadd : (⟨b, 0, none⟩ : Addr).add j = ⟨b, j, none⟩ := by unfold Addr.add; split <;> simp_all
  rw [hadd, Lib.cell_of_heap hb]
  simp [hj]

theorem str2 (g d : UInt8) (w : World) (b : Nat) (hb : b = w.heap.size) :
    (convert 22 9 (.slice (some ⟨b, 0, none⟩) 2 2)).run Tryz.prog (w.alloc (Obj.cells #[.int .u8 (g.toNat : Int), .int .u8 (d.toNat : Int)] 5)) =
      .ok (strV [g, d]) (w.alloc (Obj.cells #[.int .u8 (g.toNat : Int), .int .u8 (d.toNat : Int)] 5)) := by
  subst hb
  exact run_convert_bytes_back (P := Tryz.prog) _ 22 9 5 ⟨w.heap.size, 0, none⟩ 2 [g, d] Tryz.underlying22 Tryz.underlying5 Tryz.underlying9 (bytes_cells (e := 5) (heap_alloc_new _ _))

theorem str_add (x y : ByteArray) (h : x.size + y.size ≤ 9223372036854775807) (w : World) : (Op.stringOp .add x y).run Tryz.prog w = .ok (.string (x ++ y)) w := run_string_add_sum w x y h
end Go.Proofs.YtomodlllmbkndaaGreatDoor
namespace Go.Proofs.YtomodlllmbkndaaGreatDoor
open Go.RowKit Gram


end Go.Proofs.YtomodlllmbkndaaGreatDoor
namespace Go.Proofs.YtomodlllmbkndaaGreatDoor
open Go.RowKit Gram

def callsT (o : Option Pr) : ByteArray := match o with | some p => txtOf (setText (callsIn p.2)) | none => ⟨#[]⟩

theorem calls_text (o : Option Pr) (h : ∀ p, o = some p → Good p) : ∃ b : List Stm, bodyT o = txtOf (txts b) ∧ wfs b = true ∧ callsT o = txtOf (setText (callsIn b)) := by
  cases o with
  | none => exact ⟨[], rfl, rfl, rfl⟩
  | some p => exact ⟨p.2, rfl, (h p rfl).1, rfl⟩
theorem look_good {s nm : ByteArray} : ∀ p, lookP s nm = some p → Good p := by
  intro p h
  unfold lookP at h
  split at h
  · rename_i ps c hp _
    exact (prog_facts hp).2.1 p (List.mem_of_find?_eq_some h)
  · cases h

end Go.Proofs.YtomodlllmbkndaaGreatDoor
