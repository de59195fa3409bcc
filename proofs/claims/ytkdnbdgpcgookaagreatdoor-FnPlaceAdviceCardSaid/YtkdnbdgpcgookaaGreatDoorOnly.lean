/- onlyValid of the program; an aspect in a block of its own. Conditions: texts of at most 2^30 bytes; the errors lie where start-up laid them. -/
import Derived.Test.YtkdnbdgpcgookaaGreatDoorHx
import Derived.BigRegion
namespace Go.Proofs.YtkdnbdgpcgookaaGreatDoor
open Go.RowKit Gram

/-- the aspect if it is valid, else the zero value -/
def onlyV (k c b : ByteArray) : Value := if (aspOf k c b).isSome = true then aspV k c b else aspV ⟨#[]⟩ ⟨#[]⟩ ⟨#[]⟩

/-- a block of an aspect -/
def Cell3 (w : World) (B : Nat) (x y z : Value) : Prop := w.heap[B]? = some (.cells #[x, y, z] 24 (0, 0))
theorem Cell3.read {w : World} {B : Nat} {x y z : Value} (h : Cell3 w B x y z) :
    w.cell? ⟨B, 0, none⟩ = some x ∧ w.cell? ⟨B, 1, none⟩ = some y ∧ w.cell? ⟨B, 2, none⟩ = some z ∧ w.frozen? ⟨B, 0, none⟩ = false ∧ w.frozen? ⟨B, 1, none⟩ = false ∧ w.frozen? ⟨B, 2, none⟩ = false := by
  refine ⟨?_, ?_, ?_, Lib.frozen_of_heap h 0, Lib.frozen_of_heap h 1, Lib.frozen_of_heap h 2⟩
  all_goals (rw [Lib.cell_of_heap h]; rfl)
theorem Cell3.later {w w' : World} {B : Nat} {x y z : Value} (h : Cell3 w B x y z) (hb : Below w.heap.size w w') : Cell3 w' B x y z := (hb.block _ (heap_lt h)).trans h
theorem Cell3.new (w : World) (x y z : Value) : Cell3 (w.alloc (.cells #[x, y, z] 24)) w.heap.size x y z := heap_alloc_new _ _
theorem Cell3.put {w : World} {B : Nat} {x y z : Value} (h : Cell3 w B x y z) (x' y' z' : Value) : Cell3 (((w.setCell ⟨B, 0, none⟩ x').setCell ⟨B, 1, none⟩ y').setCell ⟨B, 2, none⟩ z') B x' y' z' :=
  heap_set_same (heap_set_same (heap_set_same (k := 0) h x') (k := 1) y') (k := 2) z'

set_option maxHeartbeats 1000000 in
set_option maxRecDepth 100000 in
theorem only_any (k c b : ByteArray) (w : World) (ek ec eb el ep : Addr) (h : Errs w ek ec eb el ep) (hc : c.size ≤ 1073741824) (hb : b.size ≤ 1073741824) :
    Calls Tryz.prog 33 #[aspV k c b] w fun e w' => e = .returned (onlyV k c b) ∧ Below w.heap.size w w' := by
  have HA := Lib.hid (fun w' (hw : Below w.heap.size w w') => impl_asp k c b w' ek ec eb el ep (h.later hw) hc hb)
  have HB0 := Lib.hid (((Below.refl _ w).alloc (Nat.le_refl _) (.cells #[.string k, .string c, .string b] 24)).alloc (by simp) (.cells #[.string ⟨#[]⟩, .string ⟨#[]⟩, .string ⟨#[]⟩] 24))
  have HX := Lib.hid ((Cell3.new w (.string k) (.string c) (.string b)).later ((Below.refl _ _).alloc (Nat.le_refl _) (.cells #[.string ⟨#[]⟩, .string ⟨#[]⟩, .string ⟨#[]⟩] 24)))
  have hy := Cell3.new (w.alloc (.cells #[.string k, .string c, .string b] 24)) (.string ⟨#[]⟩) (.string ⟨#[]⟩) (.string ⟨#[]⟩)
  rw [alloc_size'] at hy
  have HY := Lib.hid hy
  unfold onlyV aspV at *
  clear h hc hb hy
  generalize (aspOf k c b).isSome = t at *
  cases t with
  | false =>
    rw [if_neg (by decide)]
    go_enter Tryz.func33, Tryz.ntmps33
    go_wp2_with fail
    refine (HA.out _ HB0.out).mono ?_
    rintro e w1 ⟨rfl, hb1⟩
    have HB := Lib.hid (HB0.out.trans (hb1.mono HB0.out.size))
    have HY1 := Lib.hid (HY.out.later hb1)
    obtain ⟨q0, q1, q2, f0, f1, f2⟩ := HY1.out.read
    clear hb1
    go_wp2_with fail
    obtain ⟨r0, r1, r2, _⟩ := (HY1.out.put (.string ⟨#[]⟩) (.string ⟨#[]⟩) (.string ⟨#[]⟩)).read
    refine bodyPost_ret (v := .agg #[.string ⟨#[]⟩, .string ⟨#[]⟩, .string ⟨#[]⟩]) ?_ rfl ⟨rfl, ((HB.out.setCell (by simp) _).setCell (by simp) _).setCell (by simp) _⟩
    simp [results, Tryz.results33, go_sem, r0, r1, r2]
  | true =>
    rw [if_pos rfl]
    go_enter Tryz.func33, Tryz.ntmps33
    go_wp2_with fail
    refine (HA.out _ HB0.out).mono ?_
    rintro e w1 ⟨rfl, hb1⟩
    have HB := Lib.hid (HB0.out.trans (hb1.mono HB0.out.size))
    have HY1 := Lib.hid (HY.out.later hb1)
    obtain ⟨q0, q1, q2, f0, f1, f2⟩ := HY1.out.read
    obtain ⟨x0, x1, x2, _⟩ := (HX.out.later hb1).read
    clear hb1
    go_wp2_with fail
    obtain ⟨r0, r1, r2, _⟩ := (HY1.out.put (.string k) (.string c) (.string b)).read
    refine bodyPost_ret (v := .agg #[.string k, .string c, .string b]) ?_ rfl ⟨rfl, ((HB.out.setCell (by simp) _).setCell (by simp) _).setCell (by simp) _⟩
    simp [results, Tryz.results33, go_sem, r0, r1, r2]

def strL (l : List UInt8) : ByteArray := ⟨l.toArray⟩
theorem strL_data (l : List UInt8) : (strL l).data.toList = l := rfl
theorem strL_size (l : List UInt8) : (strL l).size = l.length := rfl
def parV (o : Option (ByteArray × ByteArray × ByteArray)) : Value := match o with
  | some (k, c, b) => .tuple #[aspV k c b, .bool true]
  | none => .tuple #[aspV ⟨#[]⟩ ⟨#[]⟩ ⟨#[]⟩, .bool false]

theorem cell3_beside (w : World) (B : Nat) (hB : B < w.heap.size) (x y z : Value) (v v' v'' : Value) :
    ((w.alloc (.cells #[x, y, z] 24)).setCell ⟨B, 0, none⟩ v).cell? ⟨w.heap.size, 0, none⟩ = some x ∧
    (((w.alloc (.cells #[x, y, z] 24)).setCell ⟨B, 0, none⟩ v).setCell ⟨B, 1, none⟩ v').cell? ⟨w.heap.size, 1, none⟩ = some y ∧
    ((((w.alloc (.cells #[x, y, z] 24)).setCell ⟨B, 0, none⟩ v).setCell ⟨B, 1, none⟩ v').setCell ⟨B, 2, none⟩ v'').cell? ⟨w.heap.size, 2, none⟩ = some z := by
  obtain ⟨h0, h1, h2, _⟩ := (Cell3.new w x y z).read
  have hne : w.heap.size ≠ B := by omega
  refine ⟨?_, ?_, ?_⟩
  · exact (World.cell?_of_block (a := ⟨w.heap.size, 0, none⟩) (heap_set_other hne v)).trans h0
  · exact (World.cell?_of_block (a := ⟨w.heap.size, 1, none⟩) ((heap_set_other hne v').trans (heap_set_other hne v))).trans h1
  · exact (World.cell?_of_block (a := ⟨w.heap.size, 2, none⟩) ((heap_set_other hne v'').trans ((heap_set_other hne v').trans (heap_set_other hne v)))).trans h2
end Go.Proofs.YtkdnbdgpcgookaaGreatDoor
