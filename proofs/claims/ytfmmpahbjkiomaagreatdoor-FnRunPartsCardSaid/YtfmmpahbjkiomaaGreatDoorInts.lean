/- Lists of numbers: copies and comparisons. Condition: lists of at most 2^40 numbers. -/
import Derived.Test.YtfmmpahbjkiomaaGreatDoorBut
import Derived.WalkKit
import Derived.WalkSpells
import Derived.WalkLawsBesides
import Derived.Lib.Hide
import Derived.Deep.OwnRows
import Derived.Deep.RegionHeld3
import Derived.Deep.RegionWith
import Derived.Deep.QuietTactic
import Derived.BigQuiet
namespace Go.Proofs.YtfmmpahbjkiomaaGreatDoor
open Go.RowKit

/-- the numbers of a slice -/
structure Ints (w : World) (a : Option Addr) (n : Nat) (zs : List Int) : Prop where
  len : zs.length = n
  at_ : ∀ i (h : i < zs.length), ∃ g off, a = some ⟨g, off, none⟩ ∧ w.cell? ⟨g, off + i, none⟩ = some (.int .i64 zs[i])
theorem Ints.later {w w' : World} {a : Option Addr} {n : Nat} {zs : List Int} (h : Ints w a n zs) (hb : Below w.heap.size w w') : Ints w' a n zs :=
  ⟨h.len, fun i hi => by
    obtain ⟨g, off, ha, hc⟩ := h.at_ i hi
    exact ⟨g, off, ha, by rw [hb.cell (p := ⟨g, off + i, none⟩) (World.block_lt_of_cell? w _ hc)]; exact hc⟩⟩

theorem Ints.set {w : World} {g n b j : Nat} {zs : List Int} {u : Value} (h : Ints w (some ⟨g, 0, none⟩) n zs) (hne : b < g) : Ints (w.setCell ⟨b, j, none⟩ u) (some ⟨g, 0, none⟩) n zs :=
  ⟨h.len, fun i hi => by
    obtain ⟨g', off, ha, hc⟩ := h.at_ i hi
    injection ha with ha; injection ha with e1 e2; subst e1; subst e2
    exact ⟨_, _, rfl, by rw [World.cell?_of_block (a := ⟨g, 0 + i, none⟩) (heap_set_other (show g ≠ b by omega) u)]; exact hc⟩⟩
def intVs (zs : List Int) : List Value := zs.map (.int .i64)
theorem intVs_len (zs : List Int) : (intVs zs).length = zs.length := by simp [intVs]

theorem take_eq (zs ws : List Int) (k : Nat) (h1 : k < zs.length) (h2 : k < ws.length) : (zs.take (k + 1) = ws.take (k + 1)) ↔ (zs.take k = ws.take k ∧ zs[k] = ws[k]) := by
  rw [List.take_succ_eq_append_getElem h1, List.take_succ_eq_append_getElem h2]
  constructor
  · intro h
    have hl : (zs.take k).length = (ws.take k).length := by simp; omega
    obtain ⟨a, b⟩ := List.append_inj h hl
    exact ⟨a, by simpa using b⟩
  · rintro ⟨a, b⟩; rw [a, b]


theorem info_int : (Tryz.prog.info? 3).map (fun i => (i.zero, i.size, i.bytes)) = some (some (.int .i64 0), 1, 8) := by kernel_rfl

/-- the copy so far -/
def Copied (w : World) (g n k : Nat) (zs : List Int) (wr : World) : Prop := ∃ arr : Array Value, wr.heap[g]? = some (.cells arr 3 (0, 0)) ∧ arr.size = n ∧ (∀ i (h : i < zs.length), i < k → arr[i]? = some (.int .i64 zs[i])) ∧ Below w.heap.size w wr

theorem copied_step {w wr : World} {n k : Nat} {zs : List Int} {arr : Array Value} (harr : wr.heap[w.heap.size]? = some (.cells arr 3 (0, 0))) (hsz : arr.size = n) (hin : ∀ i (h : i < zs.length), i < k → arr[i]? = some (.int .i64 zs[i])) (hB : Below w.heap.size w wr) (hz : k < zs.length) (hk : k < n) :
    Copied w w.heap.size n (k + 1) zs (wr.setCell ⟨w.heap.size, k, none⟩ (.int .i64 zs[k])) := by
  refine ⟨_, heap_set_same harr _, by simp [hsz], fun i h hi => ?_, hB.setCell (p := ⟨w.heap.size, k, none⟩) (Nat.le_refl _) _⟩
  by_cases he : i = k
  · subst he
    rw [Array.getElem?_setIfInBounds, if_pos rfl, if_pos (by omega)]
  · rw [Array.getElem?_setIfInBounds, if_neg (by omega)]
    exact hin i h (by omega)

end Go.Proofs.YtfmmpahbjkiomaaGreatDoor
