/- RunProgram of the program and of the model. Conditions: texts of at most 2^30 bytes, and the library's own number can be read. -/
import Derived.Test.YtdalffpjfoaijaaGreatDoorRx
import Derived.Test.YtdalffpjfoaijaaGreatDoorMx
import Derived.Test.YtdalffpjfoaijaaGreatDoorEqo
namespace Go.Proofs.YtdalffpjfoaijaaGreatDoor
open Go.RowKit Gram

/-- the outcome of a run, if there is one -/
def outP (o : Option (Mst × Option Fin)) : Int × List Int × ByteArray × Int := match o with
  | some r => (r.1.val, r.1.out, txtOf (Fin.word r.2), (r.1.steps : Int))
  | none => (0, [], ⟨#[]⟩, 0)
/-- what RunProgram hands back -/
def OutTo (o : Option (Mst × Option Fin)) (w : World) (e : Ending) (w' : World) : Prop :=
  (∃ a c, e = .returned (.tuple #[oV (outP o).1 a (outP o).2.1.length c (outP o).2.2.1 (outP o).2.2.2, .bool o.isSome]) ∧ w'.ownsRow w.heap.size 3 1 (.slice a (outP o).2.1.length c) (outP o).2.1.length (intVs (outP o).2.1)) ∧ Below w.heap.size w w'
theorem outTo_none {w w' : World} (hb : Below w.heap.size w w') : OutTo none w (.returned (.tuple #[oV 0 none 0 0 ⟨#[]⟩ 0, .bool false])) w' := ⟨⟨none, 0, rfl, World.ownsRow_nil _ _ _ _⟩, hb⟩

/-- an outcome in a block of its own -/
structure OAt (w : World) (g : Nat) (v : Int) (o : Value) (e : ByteArray) (st : Int) : Prop where
  own : w.heap[g]? = some (Obj.cells #[.int .i64 v, o, .string e, .int .i64 st] 24 (0, 0))
theorem OAt.read {w : World} {g : Nat} {v : Int} {o : Value} {e : ByteArray} {st : Int} (h : OAt w g v o e st) : w.cell? ⟨g, 0, none⟩ = some (.int .i64 v) ∧ w.cell? ⟨g, 1, none⟩ = some o ∧ w.cell? ⟨g, 2, none⟩ = some (.string e) ∧ w.cell? ⟨g, 3, none⟩ = some (.int .i64 st) ∧
    w.frozen? ⟨g, 0, none⟩ = false ∧ w.frozen? ⟨g, 1, none⟩ = false ∧ w.frozen? ⟨g, 2, none⟩ = false ∧ w.frozen? ⟨g, 3, none⟩ = false :=
  ⟨Lib.cell_of_heap h.own 0, Lib.cell_of_heap h.own 1, Lib.cell_of_heap h.own 2, Lib.cell_of_heap h.own 3, Lib.frozen_of_heap h.own 0, Lib.frozen_of_heap h.own 1, Lib.frozen_of_heap h.own 2, Lib.frozen_of_heap h.own 3⟩
/-- its four cells put anew -/
abbrev oPut (w : World) (g : Nat) (v : Int) (o : Value) (e : ByteArray) (st : Int) : World := (((w.setCell ⟨g, 0, none⟩ (.int .i64 v)).setCell ⟨g, 1, none⟩ o).setCell ⟨g, 2, none⟩ (.string e)).setCell ⟨g, 3, none⟩ (.int .i64 st)
theorem OAt.put {w : World} {g : Nat} {v : Int} {o : Value} {e : ByteArray} {st : Int} (h : OAt w g v o e st) (v' : Int) (o' : Value) (e' : ByteArray) (st' : Int) : OAt (oPut w g v' o' e' st') g v' o' e' st' :=
  ⟨by unfold oPut; rw [heap_set_same (heap_set_same (heap_set_same (heap_set_same h.own _) _) _) _]; rfl⟩
theorem OAt.later {w w' : World} {g : Nat} {v : Int} {o : Value} {e : ByteArray} {st : Int} (h : OAt w g v o e st) (hb : Below w.heap.size w w') : OAt w' g v o e st := ⟨by rw [hb.block g (heap_lt h.own)]; exact h.own⟩
theorem oPut_below {w w1 : World} (hb : Below w.heap.size w w1) (v : Int) (o : Value) (e : ByteArray) (st : Int) : Below w.heap.size w (oPut w1 w.heap.size v o e st) :=
  (((hb.setCell (p := ⟨w.heap.size, 0, none⟩) (Nat.le_refl _) _).setCell (p := ⟨w.heap.size, 1, none⟩) (Nat.le_refl _) _).setCell (p := ⟨w.heap.size, 2, none⟩) (Nat.le_refl _) _).setCell (p := ⟨w.heap.size, 3, none⟩) (Nat.le_refl _) _
theorem oPut_other {w : World} {g j : Nat} (hj : j ≠ g) (v : Int) (o : Value) (e : ByteArray) (st : Int) : (oPut w g v o e st).heap[j]? = w.heap[j]? := by
  unfold oPut
  rw [heap_set_other hj, heap_set_other hj, heap_set_other hj, heap_set_other hj]

set_option maxHeartbeats 1000000 in
set_option maxRecDepth 100000 in
theorem impl_run (s nm : ByteArray) (v : Int) (w : World) (hs : s.size ≤ 1073741824) (hm : MaxCell w) :
    Calls Tryz.prog 6 #[.string s, .string nm, .int .i64 v] w (OutTo (runP s nm v) w) := by
  have hba : Below w.heap.size w (w.alloc (Obj.cells #[.int .i64 0, .slice none 0 0, .string ⟨#[]⟩, .int .i64 0] 24)) := (Below.refl _ _).alloc (Nat.le_refl _) _
  have HF := Lib.hid (run_of s nm v (w.alloc (Obj.cells #[.int .i64 0, .slice none 0 0, .string ⟨#[]⟩, .int .i64 0] 24)) hs (hm.later hba))
  have HA := Lib.hid (⟨heap_alloc_new w _⟩ : OAt (w.alloc (Obj.cells #[.int .i64 0, .slice none 0 0, .string ⟨#[]⟩, .int .i64 0] 24)) w.heap.size 0 (.slice none 0 0) ⟨#[]⟩ 0)
  have HZ := Lib.hid (alloc_size' w (Obj.cells #[.int .i64 0, .slice none 0 0, .string ⟨#[]⟩, .int .i64 0] 24))
  have HB := Lib.hid hba
  clear hm hs hba
  cases hr : runP s nm v with
  | none =>
    go_enter Tryz.func6, Tryz.ntmps6
    go_wp2_with fail
    refine HF.out.mono ?_
    rintro e w1 ⟨hx, hb⟩
    rw [hr] at hx
    subst hx
    have H1 := Lib.hid (⟨HB.out.trans (hb.mono HB.out.size), HA.out.later hb⟩ : _ ∧ _)
    obtain ⟨_, _, _, _, f0, f1, f2, f3⟩ := H1.out.2.read
    clear hb hr
    go_wp2_with fail
    obtain ⟨r0, r1, r2, r3, _⟩ := (H1.out.2.put 0 (.slice none 0 0) ⟨#[]⟩ 0).read
    unfold oPut at r0 r1 r2 r3
    refine bodyPost_ret (v := .tuple #[oV 0 none 0 0 ⟨#[]⟩ 0, .bool false]) ?_ rfl (outTo_none (oPut_below H1.out.1 0 (.slice none 0 0) ⟨#[]⟩ 0))
    simp [results, Tryz.results6, go_sem, r0, r1, r2, r3, oV]
  | some r =>
    go_enter Tryz.func6, Tryz.ntmps6
    go_wp2_with fail
    refine HF.out.mono ?_
    rintro e w1 ⟨hx, hb⟩
    rw [hr] at hx
    obtain ⟨B, rb, S, qs, pv, oa, ja, oc, jc, rfl, hB, hD, hPw, hpr⟩ := hx
    have H1 := Lib.hid (⟨HB.out.trans (hb.mono HB.out.size), HA.out.later hb⟩ : _ ∧ _)
    obtain ⟨_, _, _, _, f0, f1, f2, f3⟩ := H1.out.2.read
    have HD := Lib.hid (⟨hD, hB⟩ : _ ∧ _)
    have c0 : w1.cell? ⟨rb, 0, none⟩ = some (.int .i64 r.1.val) := hD.cell 0
    have c1 : w1.cell? ⟨rb, 1, none⟩ = some (.slice oa r.1.out.length oc) := hD.cell 1
    have c2 : w1.cell? ⟨rb, 2, none⟩ = some (.string (txtOf (Fin.word r.2))) := hD.cell 2
    have c3 : w1.cell? ⟨rb, 3, none⟩ = some (.int .i64 r.1.steps) := hD.cell 3
    clear hb hr hB hD hPw hpr
    go_wp2_with fail
    obtain ⟨r0, r1, r2, r3, _⟩ := (H1.out.2.put r.1.val (.slice oa r.1.out.length oc) (txtOf (Fin.word r.2)) r.1.steps).read
    unfold oPut at r0 r1 r2 r3
    refine bodyPost_ret (v := .tuple #[oV r.1.val oa r.1.out.length oc (txtOf (Fin.word r.2)) r.1.steps, .bool true]) ?_ rfl ?_
    · simp [results, Tryz.results6, go_sem, r0, r1, r2, r3, oV]
    · refine ⟨⟨oa, oc, rfl, ?_⟩, oPut_below H1.out.1 r.1.val (.slice oa r.1.out.length oc) (txtOf (Fin.word r.2)) r.1.steps⟩
      have hz := HD.out.2
      rw [HZ.out] at hz
      have hge : ∀ g, Value.ownBlock (.slice oa r.1.out.length oc) = some g → w.heap.size + 1 ≤ g := fun g hg => by have := (row_block HD.out.1.out hg).1; omega
      exact ownsRow_base (ownsRow_of HD.out.1.out fun g hg => oPut_other (by have := hge g hg; omega) _ _ _ _) (fun g hg => by have := hge g hg; omega)

set_option maxHeartbeats 1000000 in
set_option maxRecDepth 100000 in
theorem spec_run (s nm : ByteArray) (v : Int) (w : World) (hs : s.size ≤ 1073741824) :
    Calls Tryz.prog 5 #[.string s, .string nm, .int .i64 v] w (OutTo (runP s nm v) w) := by
  have hba : Below w.heap.size w ((w.alloc (Obj.cells #[.int .i64 0, .slice none 0 0, .string ⟨#[]⟩, .int .i64 0] 24)).alloc (Obj.cells #[] 100)) := ((Below.refl _ _).alloc (Nat.le_refl _) _).alloc (by rw [alloc_size']; omega) _
  have HF := Lib.hid (start_any s nm v (some ⟨w.heap.size + 1, 0, none⟩) 0 ((w.alloc (Obj.cells #[.int .i64 0, .slice none 0 0, .string ⟨#[]⟩, .int .i64 0] 24)).alloc (Obj.cells #[] 100)) hs)
  have HA := Lib.hid (⟨(Lib.alloc_old _ _ _ (by rw [alloc_size']; omega)).trans (heap_alloc_new w _)⟩ : OAt ((w.alloc (Obj.cells #[.int .i64 0, .slice none 0 0, .string ⟨#[]⟩, .int .i64 0] 24)).alloc (Obj.cells #[] 100)) w.heap.size 0 (.slice none 0 0) ⟨#[]⟩ 0)
  have HZ := Lib.hid (show ((w.alloc (Obj.cells #[.int .i64 0, .slice none 0 0, .string ⟨#[]⟩, .int .i64 0] 24)).alloc (Obj.cells #[] 100)).heap.size = w.heap.size + 1 + 1 by rw [alloc_size', alloc_size'])
  have HB := Lib.hid hba
  clear hs hba
  cases hr : runP s nm v with
  | none =>
    go_enter Tryz.func5, Tryz.ntmps5
    go_wp2_with fail
    refine HF.out.mono ?_
    rintro e w1 ⟨hx, hb⟩
    rw [hr] at hx
    obtain ⟨rb, rfl⟩ := hx
    have H1 := Lib.hid (⟨HB.out.trans (hb.mono HB.out.size), HA.out.later hb⟩ : _ ∧ _)
    obtain ⟨_, _, _, _, f0, f1, f2, f3⟩ := H1.out.2.read
    clear hb hr
    go_wp2_with fail
    obtain ⟨r0, r1, r2, r3, _⟩ := (H1.out.2.put 0 (.slice none 0 0) ⟨#[]⟩ 0).read
    unfold oPut at r0 r1 r2 r3
    refine bodyPost_ret (v := .tuple #[oV 0 none 0 0 ⟨#[]⟩ 0, .bool false]) ?_ rfl (outTo_none (oPut_below H1.out.1 0 (.slice none 0 0) ⟨#[]⟩ 0))
    simp [results, Tryz.results5, go_sem, r0, r1, r2, r3, oV]
  | some r =>
    go_enter Tryz.func5, Tryz.ntmps5
    go_wp2_with fail
    refine HF.out.mono ?_
    rintro e w1 ⟨hx, hb⟩
    rw [hr] at hx
    obtain ⟨B, rb, pv, av, cv, oa, ja, oc, jc, rfl, hB, hD⟩ := hx
    have H1 := Lib.hid (⟨HB.out.trans (hb.mono HB.out.size), HA.out.later hb⟩ : _ ∧ _)
    obtain ⟨_, _, _, _, f0, f1, f2, f3⟩ := H1.out.2.read
    have HD := Lib.hid (⟨hD, hB⟩ : _ ∧ _)
    have c0 : w1.cell? ⟨rb, 0, none⟩ = some (.int .i64 r.1.val) := hD.cell 0
    have c1 : w1.cell? ⟨rb, 1, none⟩ = some (.slice oa r.1.out.length oc) := hD.cell 1
    have c2 : w1.cell? ⟨rb, 2, none⟩ = some (.string (txtOf (Fin.word r.2))) := hD.cell 2
    have c3 : w1.cell? ⟨rb, 3, none⟩ = some (.int .i64 r.1.steps) := hD.cell 3
    clear hb hr hB hD
    go_wp2_with fail
    obtain ⟨r0, r1, r2, r3, _⟩ := (H1.out.2.put r.1.val (.slice oa r.1.out.length oc) (txtOf (Fin.word r.2)) r.1.steps).read
    unfold oPut at r0 r1 r2 r3
    refine bodyPost_ret (v := .tuple #[oV r.1.val oa r.1.out.length oc (txtOf (Fin.word r.2)) r.1.steps, .bool true]) ?_ rfl ?_
    · simp [results, Tryz.results5, go_sem, r0, r1, r2, r3, oV]
    · refine ⟨⟨oa, oc, rfl, ?_⟩, oPut_below H1.out.1 r.1.val (.slice oa r.1.out.length oc) (txtOf (Fin.word r.2)) r.1.steps⟩
      have hz := HD.out.2
      rw [HZ.out] at hz
      have hge : ∀ g, Value.ownBlock (.slice oa r.1.out.length oc) = some g → w.heap.size + 1 ≤ g := fun g hg => by have := (row_block HD.out.1.out hg).1; omega
      exact ownsRow_base (ownsRow_of HD.out.1.out fun g hg => oPut_other (by have := hge g hg; omega) _ _ _ _) (fun g hg => by have := hge g hg; omega)
end Go.Proofs.YtdalffpjfoaijaaGreatDoor
