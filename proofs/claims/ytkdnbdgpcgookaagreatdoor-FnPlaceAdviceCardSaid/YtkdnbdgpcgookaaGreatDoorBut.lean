/- Worlds that are the same outside one block. Plain lemmas. -/
import Derived.Test.YtkdnbdgpcgookaaGreatDoorLow
namespace Go.Proofs.YtkdnbdgpcgookaaGreatDoor
open Go.RowKit Gram

theorem heap_set_same {w : World} {g k : Nat} {cur : Array Value} {e : TypeId} {fz : Nat × Nat} (h : w.heap[g]? = some (.cells cur e fz)) (u : Value) :
    (w.setCell ⟨g, k, none⟩ u).heap[g]? = some (.cells (cur.setIfInBounds k u) e fz) := by
  simp [World.setCell, Array.getElem?_modify, h]
theorem heap_set_other {w : World} {g k j : Nat} (h : j ≠ g) (u : Value) : (w.setCell ⟨g, k, none⟩ u).heap[j]? = w.heap[j]? :=
  Below.heap_setCell _ _ _ _ h
theorem heap_lt {w : World} {g : Nat} {o : Obj} (h : w.heap[g]? = some o) : g < w.heap.size := (Array.getElem?_eq_some_iff.1 h).1

theorem alloc_size' (w : World) (o : Obj) : (w.alloc o).heap.size = w.heap.size + 1 := by
  show (w.heap.push o).size = _
  rw [Array.size_push]

/-- outside block c the world w' is as w was -/
structure But (c : Nat) (w w' : World) : Prop where
  os : w'.os = w.os
  tape : w'.tape = w.tape
  output : w'.output = w.output
  size : w.heap.size ≤ w'.heap.size
  block : ∀ k, k < w.heap.size → k ≠ c → w'.heap[k]? = w.heap[k]?
theorem But.refl (c : Nat) (w : World) : But c w w := ⟨rfl, rfl, rfl, Nat.le_refl _, fun _ _ _ => rfl⟩
theorem But.trans {c : Nat} {a b d : World} (h : But c a b) (k : But c b d) : But c a d :=
  ⟨k.os.trans h.os, k.tape.trans h.tape, k.output.trans h.output, Nat.le_trans h.size k.size, fun i hi hc => (k.block i (Nat.lt_of_lt_of_le hi h.size) hc).trans (h.block i hi hc)⟩
theorem But.of_below {c : Nat} {a b : World} (h : Below a.heap.size a b) : But c a b := ⟨h.os, h.tape, h.output, h.size, fun k hk _ => h.block k hk⟩
theorem But.setCell {c : Nat} {a b : World} (h : But c a b) (k : Nat) (u : Value) : But c a (b.setCell ⟨c, k, none⟩ u) :=
  h.trans ⟨rfl, rfl, rfl, by simp [World.setCell], fun i _ hc => Below.heap_setCell _ _ _ _ hc⟩
theorem But.below {c B : Nat} {a b : World} (h : But c a b) (hB : B ≤ a.heap.size) (hc : B ≤ c) : Below B a b :=
  ⟨h.os, h.tape, h.output, h.size, fun k hk => h.block k (by omega) (by omega)⟩

theorem cell_get {w : World} {g : Nat} {cs : Array Value} {t : TypeId} (h : w.heap[g]? = some (.cells cs t (0, 0))) (k : Nat) : w.cell? ⟨g, k, none⟩ = cs[k]? := Lib.cell_of_heap h k

theorem call_end {w : World} {c : Nat} {x : Value} {T : TypeId} (hc : w.heap[c]? = some (.cells #[x] T (0, 0))) (v : Value) (o : Obj) :
    ((w.setCell ⟨c, 0, none⟩ v).alloc o).drew.heap[c]? = some (.cells #[v] T (0, 0)) ∧ But c w ((w.setCell ⟨c, 0, none⟩ v).alloc o).drew := by
  have h1 : (w.setCell ⟨c, 0, none⟩ v).heap[c]? = some (.cells #[v] T (0, 0)) := heap_set_same (k := 0) hc v
  have hz : (w.setCell ⟨c, 0, none⟩ v).heap.size = w.heap.size := by simp [World.setCell]
  constructor
  · show ((w.setCell ⟨c, 0, none⟩ v).alloc o).heap[c]? = _
    rw [Lib.alloc_old _ _ _ (by rw [hz]; exact heap_lt hc)]; exact h1
  · exact ((But.refl c w).setCell 0 v).trans ⟨rfl, rfl, rfl, by show _ ≤ (Array.push _ _).size; simp, fun k hk _ => Lib.alloc_old _ _ _ hk⟩
theorem but_alloc (c : Nat) (w : World) (o : Obj) : But c w (w.alloc o) := But.of_below ((Below.refl _ _).alloc (Nat.le_refl _) _)
theorem alloc_heap {w : World} (o : Obj) : ∀ k, k < w.heap.size → (w.alloc o).heap[k]? = w.heap[k]? := fun k hk => Lib.alloc_old w o k hk
end Go.Proofs.YtkdnbdgpcgookaaGreatDoor
