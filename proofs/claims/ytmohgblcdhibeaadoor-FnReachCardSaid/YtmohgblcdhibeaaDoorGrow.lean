/- What a law on growth leaves, step behind step; a byte as a text. Plain lemmas; no walk. -/
import Derived.Test.YtmohgblcdhibeaaDoorText
namespace Go.Proofs.YtmohgblcdhibeaaDoor
open Go.RowKit

theorem str1 (c : UInt8) (w : World) (b : Nat) (hb : b = w.heap.size) (n : Int) (hn : (c.toNat : Int) = n) :
    (convert 22 9 (.slice (some ⟨b, 0, none⟩) 1 1)).run Tryd.prog (w.alloc (Obj.cells #[.int .u8 n] 5)) =
      .ok (.string ⟨#[c]⟩) (w.alloc (Obj.cells #[.int .u8 n] 5)) := by
  subst hb; subst hn
  exact run_convert_bytes_back (P := Tryd.prog) _ 22 9 5 ⟨w.heap.size, 0, none⟩ 1 [c] Tryd.underlying22 Tryd.underlying5 Tryd.underlying9 (bytes_cells (e := 5) (heap_alloc_new _ _))

theorem grownBy_trans {w w1 w2 : World} {row : Option Nat} (h : w.grownBy w1 row) (k : w1.grownBy w2 row) : w.grownBy w2 row :=
  ⟨k.os.trans h.os, k.tape.trans h.tape, k.output.trans h.output, Nat.le_trans h.size k.size, fun j hj hne => (k.block j (Nat.lt_of_lt_of_le hj h.size) hne).trans (h.block j hj hne)⟩
theorem grownBy_below {w w1 : World} {row : Option Nat} (h : Below w.heap.size w w1) : w.grownBy w1 row := ⟨h.os, h.tape, h.output, h.size, fun j hj _ => h.block j hj⟩
theorem grownBy_set {w : World} {g k : Nat} (u : Value) : w.grownBy (w.setCell ⟨g, k, none⟩ u) (some g) :=
  ⟨rfl, rfl, rfl, by simp [World.setCell], fun j _ hne => heap_set_other (fun e => hne (by rw [e])) u⟩
end Go.Proofs.YtmohgblcdhibeaaDoor
