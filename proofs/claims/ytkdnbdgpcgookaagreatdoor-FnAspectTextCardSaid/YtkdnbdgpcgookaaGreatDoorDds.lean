/- deedsOf: what statements of advice do, as the plain dds says. Condition: texts of at most 400 bytes. -/
import Derived.Test.YtkdnbdgpcgookaaGreatDoorRead
import Derived.Test.YtkdnbdgpcgookaaGreatDoorDeed
import Derived.StillTailTactics
namespace Go.Proofs.YtkdnbdgpcgookaaGreatDoor
open Go.RowKit Gram

def ddC (d : Dd) : Array Value := #[.int .i64 d.least, .int .i64 d.most, .bool d.chg, .bool d.prt, .bool d.call]
/-- what is done, in a block -/
def DdAt (w : World) (b : Nat) (d : Dd) : Prop := w.heap[b]? = some (.cells (ddC d) 86 (0, 0))

theorem DdAt.cells {w : World} {b : Nat} {d : Dd} (h : DdAt w b d) :
    w.cell? ⟨b, 0, none⟩ = some (.int .i64 d.least) ∧ w.cell? ⟨b, 1, none⟩ = some (.int .i64 d.most) ∧ w.cell? ⟨b, 2, none⟩ = some (.bool d.chg) ∧ w.cell? ⟨b, 3, none⟩ = some (.bool d.prt) ∧ w.cell? ⟨b, 4, none⟩ = some (.bool d.call) ∧
    w.frozen? ⟨b, 0, none⟩ = false ∧ w.frozen? ⟨b, 1, none⟩ = false ∧ w.frozen? ⟨b, 2, none⟩ = false ∧ w.frozen? ⟨b, 3, none⟩ = false ∧ w.frozen? ⟨b, 4, none⟩ = false := by
  refine ⟨?_, ?_, ?_, ?_, ?_, Lib.frozen_of_heap h 0, Lib.frozen_of_heap h 1, Lib.frozen_of_heap h 2, Lib.frozen_of_heap h 3, Lib.frozen_of_heap h 4⟩ <;> (rw [Lib.cell_of_heap h]; rfl)

theorem DdAt.lt {w : World} {b : Nat} {d : Dd} (h : DdAt w b d) : b < w.heap.size := heap_lt h
theorem DdAt.alloc {w : World} {b : Nat} {d : Dd} (h : DdAt w b d) (o : Obj) : DdAt (w.alloc o) b d := by
  unfold DdAt; rw [Lib.alloc_old _ _ _ h.lt]; exact h
theorem DdAt.put {w : World} {b : Nat} {d d' : Dd} (h : DdAt w b d) (i : Nat) (u : Value) (hs : (ddC d).setIfInBounds i u = ddC d') : DdAt (w.setCell ⟨b, i, none⟩ u) b d' := by
  unfold DdAt; rw [heap_set_same h, hs]

theorem sw_chg_chg (pv : Value) (w : World) : (Instr.typeAssert (.iface 162 pv) 72 162 true).run Tryz.prog w = .ok (.tuple #[pv, .bool true]) w := by kernel_rfl
theorem sw_prt_chg (pv : Value) (w : World) : (Instr.typeAssert (.iface 151 pv) 72 162 true).run Tryz.prog w = .ok (.tuple #[.agg #[.int .u8 0, .int .u8 0], .bool false]) w := by kernel_rfl
theorem sw_prt_prt (pv : Value) (w : World) : (Instr.typeAssert (.iface 151 pv) 72 151 true).run Tryz.prog w = .ok (.tuple #[pv, .bool true]) w := by kernel_rfl
theorem sw_call_chg (pv : Value) (w : World) : (Instr.typeAssert (.iface 150 pv) 72 162 true).run Tryz.prog w = .ok (.tuple #[.agg #[.int .u8 0, .int .u8 0], .bool false]) w := by kernel_rfl
theorem sw_call_prt (pv : Value) (w : World) : (Instr.typeAssert (.iface 150 pv) 72 151 true).run Tryz.prog w = .ok (.tuple #[.agg #[], .bool false]) w := by kernel_rfl
theorem sw_call_call (pv : Value) (w : World) : (Instr.typeAssert (.iface 150 pv) 72 150 true).run Tryz.prog w = .ok (.tuple #[pv, .bool true]) w := by kernel_rfl
theorem sw_pro_chg (pv : Value) (w : World) : (Instr.typeAssert (.iface 134 pv) 72 162 true).run Tryz.prog w = .ok (.tuple #[.agg #[.int .u8 0, .int .u8 0], .bool false]) w := by kernel_rfl
theorem sw_pro_prt (pv : Value) (w : World) : (Instr.typeAssert (.iface 134 pv) 72 151 true).run Tryz.prog w = .ok (.tuple #[.agg #[], .bool false]) w := by kernel_rfl
theorem sw_pro_call (pv : Value) (w : World) : (Instr.typeAssert (.iface 134 pv) 72 150 true).run Tryz.prog w = .ok (.tuple #[.agg #[.int .u8 0], .bool false]) w := by kernel_rfl
theorem sw_pro_pro (pv : Value) (w : World) : (Instr.typeAssert (.iface 134 pv) 72 134 true).run Tryz.prog w = .ok (.tuple #[pv, .bool true]) w := by kernel_rfl
theorem sw_cho_chg (pv : Value) (w : World) : (Instr.typeAssert (.iface 164 pv) 72 162 true).run Tryz.prog w = .ok (.tuple #[.agg #[.int .u8 0, .int .u8 0], .bool false]) w := by kernel_rfl
theorem sw_cho_prt (pv : Value) (w : World) : (Instr.typeAssert (.iface 164 pv) 72 151 true).run Tryz.prog w = .ok (.tuple #[.agg #[], .bool false]) w := by kernel_rfl
theorem sw_cho_call (pv : Value) (w : World) : (Instr.typeAssert (.iface 164 pv) 72 150 true).run Tryz.prog w = .ok (.tuple #[.agg #[.int .u8 0], .bool false]) w := by kernel_rfl
theorem sw_cho_pro (pv : Value) (w : World) : (Instr.typeAssert (.iface 164 pv) 72 134 true).run Tryz.prog w = .ok (.tuple #[.agg #[], .bool false]) w := by kernel_rfl
theorem sw_cho_cho (pv : Value) (w : World) : (Instr.typeAssert (.iface 164 pv) 72 164 true).run Tryz.prog w = .ok (.tuple #[pv, .bool true]) w := by kernel_rfl

set_option maxHeartbeats 400000 in
set_option maxRecDepth 100000 in
theorem visit_chg (w : World) (b : Nat) (d : Dd) (g e : UInt8) (h : DdAt w b d) :
    Calls Tryz.prog 79 #[.pointer (some ⟨b, 0, none⟩), .iface 162 (.agg #[.int .u8 g.toNat, .int .u8 e.toNat])] w fun r w' => r = .returned (.tuple #[]) ∧ DdAt w' b (d.plus (Stm.chg g e).dd) ∧ But b w w' := by
  have c := fun o => (h.alloc o).cells.2.2.1
  have f := fun o => Lib.frozen_of_heap (h.alloc o) 2
  have HH := Lib.hid h
  clear h
  have t0 := sw_chg_chg
  go_enter Tryz.func79, Tryz.ntmps79
  go_wp2_with fail
  go_end0
  exact ⟨rfl, (HH.out.alloc _).put 2 _ (by simp [ddC, Dd.plus, Stm.dd]), (but_alloc b w _).setCell 2 _⟩

set_option maxHeartbeats 400000 in
set_option maxRecDepth 100000 in
theorem visit_prt (w : World) (b : Nat) (d : Dd) (h : DdAt w b d) :
    Calls Tryz.prog 79 #[.pointer (some ⟨b, 0, none⟩), .iface 151 (.agg #[])] w fun r w' => r = .returned (.tuple #[]) ∧ DdAt w' b (d.plus (Stm.prt).dd) ∧ But b w w' := by
  have c := fun o => (h.alloc o).cells.2.2.2.1
  have f := fun o => Lib.frozen_of_heap (h.alloc o) 3
  have HH := Lib.hid h
  clear h
  have t0 := sw_prt_chg
  have t1 := sw_prt_prt
  go_enter Tryz.func79, Tryz.ntmps79
  go_wp2_with fail
  go_end0
  exact ⟨rfl, (HH.out.alloc _).put 3 _ (by simp [ddC, Dd.plus, Stm.dd]), (but_alloc b w _).setCell 3 _⟩

set_option maxHeartbeats 400000 in
set_option maxRecDepth 100000 in
theorem visit_call (w : World) (b : Nat) (d : Dd) (e : UInt8) (h : DdAt w b d) :
    Calls Tryz.prog 79 #[.pointer (some ⟨b, 0, none⟩), .iface 150 (.agg #[.int .u8 e.toNat])] w fun r w' => r = .returned (.tuple #[]) ∧ DdAt w' b (d.plus (Stm.call e).dd) ∧ But b w w' := by
  have c := fun o => (h.alloc o).cells.2.2.2.2.1
  have f := fun o => Lib.frozen_of_heap (h.alloc o) 4
  have HH := Lib.hid h
  clear h
  have t0 := sw_call_chg
  have t1 := sw_call_prt
  have t2 := sw_call_call
  go_enter Tryz.func79, Tryz.ntmps79
  go_wp2_with fail
  go_end0
  exact ⟨rfl, (HH.out.alloc _).put 4 _ (by simp [ddC, Dd.plus, Stm.dd]), (but_alloc b w _).setCell 4 _⟩

set_option maxHeartbeats 400000 in
set_option maxRecDepth 100000 in
theorem visit_pro (w : World) (b : Nat) (d : Dd) (h : DdAt w b d) (hl : d.least ≤ 1000) (hm : d.most ≤ 1000) :
    Calls Tryz.prog 79 #[.pointer (some ⟨b, 0, none⟩), .iface 134 (.agg #[])] w fun r w' => r = .returned (.tuple #[]) ∧ DdAt w' b (d.plus Stm.pro.dd) ∧ But b w w' := by
  have c0 := fun o => (h.alloc o).cells.1
  have c1 := fun o => (h.alloc o).cells.2.1
  have f0 := fun o => Lib.frozen_of_heap (h.alloc o) 0
  have f1 := fun o => Lib.frozen_of_heap (h.alloc o) 1
  have HH := Lib.hid h
  clear h
  have t0 := sw_pro_chg
  have t1 := sw_pro_prt
  have t2 := sw_pro_call
  have t3 := sw_pro_pro
  go_enter Tryz.func79, Tryz.ntmps79
  go_wp2_with fail
  go_end0
  exact ⟨rfl, ((HH.out.alloc _).put (d' := ⟨d.least + 1, d.most, d.chg, d.prt, d.call⟩) 0 _ (by simp [ddC])).put 1 _ (by simp [ddC, Dd.plus, Stm.dd]), ((but_alloc b w _).setCell 0 _).setCell 1 _⟩

/-- deeds as a value -/
def ddV (d : Dd) : Value := .agg (ddC d)

/-- deeds in block b, and two others in blocks bx and by -/
structure Three (w1 : World) (b bx bY : Nat) (d x y : Dd) : Prop where
  own : DdAt w1 b d
  fx : DdAt w1 bx x
  fy : DdAt w1 bY y
  nx : bx ≠ b
  ny : bY ≠ b
theorem Three.put {w1 : World} {b bx bY : Nat} {d x y : Dd} (h : Three w1 b bx bY d x y) (i : Nat) (u : Value) (d' : Dd) (hs : (ddC d).setIfInBounds i u = ddC d') :
    Three (w1.setCell ⟨b, i, none⟩ u).drew b bx bY d' x y :=
  ⟨h.own.put i u hs, (heap_set_other h.nx u).trans h.fx, (heap_set_other h.ny u).trans h.fy, h.nx, h.ny⟩
theorem but_put (b : Nat) (w1 : World) (i : Nat) (u : Value) : But b w1 (w1.setCell ⟨b, i, none⟩ u).drew :=
  ((But.refl b w1).setCell i u).trans ⟨rfl, rfl, rfl, Nat.le_refl _, fun _ _ _ => rfl⟩

theorem or_t1 {d x y : Bool} (h : d = true) : true = (d || (x || y)) := by rw [h]; rfl
theorem or_t2 {d x y : Bool} (_h : ¬ d = true) (k : x = true) : true = (d || (x || y)) := by rw [k]; simp
theorem or_t3 {d x y : Bool} (h : ¬ d = true) (k : ¬ x = true) : y = (d || (x || y)) := by
  rw [Bool.not_eq_true] at h k; rw [h, k]; rfl
theorem DdAt.cast {w : World} {b : Nat} {d d' : Dd} (h : DdAt w b d) (e : d = d') : DdAt w b d' := e ▸ h
theorem DdAt.puts {w : World} {b : Nat} {d : Dd} (h : DdAt w b d) (m : Int) (m' : Nat) (hm : m = m') (p q r : Bool) :
    DdAt ((((w.setCell ⟨b, 1, none⟩ (.int .i64 m)).setCell ⟨b, 2, none⟩ (.bool p)).setCell ⟨b, 3, none⟩ (.bool q)).setCell ⟨b, 4, none⟩ (.bool r)).drew b ⟨d.least, m', p, q, r⟩ := by
  subst hm
  exact (((h.put 1 _ (d' := ⟨d.least, m', d.chg, d.prt, d.call⟩) rfl).put 2 _ (d' := ⟨d.least, m', p, d.prt, d.call⟩) rfl).put 3 _ (d' := ⟨d.least, m', p, q, d.call⟩) rfl).put 4 _ (d' := ⟨d.least, m', p, q, r⟩) rfl

theorem either_end {w w2 : World} {b bx bY : Nat} {d x y : Dd} (hT : Three w2 b bx bY ⟨d.least + min x.least y.least, d.most, d.chg, d.prt, d.call⟩ x y) (hB : But b w w2) (p q r : Bool)
    (hp : p = (d.chg || (x.chg || y.chg))) (hq : q = (d.prt || (x.prt || y.prt))) (hr : r = (d.call || (x.call || y.call))) :
    Ending.returned (Value.tuple #[]) = Ending.returned (Value.tuple #[]) ∧
    DdAt ((((w2.setCell ⟨b, 1, none⟩ (.int .i64 ((d.most : Int) + ((max x.most y.most : Nat) : Int)))).setCell ⟨b, 2, none⟩ (.bool p)).setCell ⟨b, 3, none⟩ (.bool q)).setCell ⟨b, 4, none⟩ (.bool r)).drew b (d.plus (x.either y)) ∧
    But b w ((((w2.setCell ⟨b, 1, none⟩ (.int .i64 ((d.most : Int) + ((max x.most y.most : Nat) : Int)))).setCell ⟨b, 2, none⟩ (.bool p)).setCell ⟨b, 3, none⟩ (.bool q)).setCell ⟨b, 4, none⟩ (.bool r)).drew := by
  refine ⟨rfl, ?_, ?_⟩
  · have h := hT.own.puts _ (d.most + max x.most y.most) (Int.natCast_add _ _).symm p q r
    refine h.cast (Dd.ext' rfl rfl hp hq hr)
  · have h := ((((But.refl b w2).setCell 1 (.int .i64 ((d.most : Int) + ((max x.most y.most : Nat) : Int)))).setCell 2 (.bool p)).setCell 3 (.bool q)).setCell 4 (.bool r)
    exact hB.trans (h.trans ⟨rfl, rfl, rfl, Nat.le_refl _, fun _ _ _ => rfl⟩)

set_option maxHeartbeats 4000000 in
set_option maxRecDepth 100000 in
theorem either_any (w : World) (b : Nat) (d x y : Dd) (h : DdAt w b d) (hl : d.least ≤ 1000) (hm : d.most ≤ 1000) (hx : x.least ≤ 1000 ∧ x.most ≤ 1000) (hy : y.least ≤ 1000 ∧ y.most ≤ 1000) :
    Calls Tryz.prog 98 #[.pointer (some ⟨b, 0, none⟩), ddV x, ddV y] w fun r w' => r = .returned (.tuple #[]) ∧ DdAt w' b (d.plus (x.either y)) ∧ But b w w' := by
  have e0 : IntKind.i64.wrap ((d.least : Int) + min (x.least : Int) (y.least : Int)) = ((d.least + min x.least y.least : Nat) : Int) := by
    rw [IntKind.wrap_i64]; omega
  have e1 : IntKind.i64.wrap ((d.most : Int) + max (x.most : Int) (y.most : Int)) = ((d.most + max x.most y.most : Nat) : Int) := by
    rw [IntKind.wrap_i64]; omega
  have hlt := h.lt
  obtain ⟨w1, hw1⟩ : ∃ w1, w1 = (w.alloc (.cells (ddC x) 86)).alloc (.cells (ddC y) 86) := ⟨_, rfl⟩
  have hT : Three w1 b w.heap.size (w.heap.size + 1) d x y := by
    refine ⟨?_, ?_, ?_, by omega, by omega⟩
    · rw [hw1]; exact (h.alloc _).alloc _
    · rw [hw1]; exact DdAt.alloc (heap_alloc_new _ _) _
    · have := heap_alloc_new (w.alloc (.cells (ddC x) 86)) (.cells (ddC y) 86)
      rw [alloc_size'] at this
      rw [hw1]; exact this
  have HB := Lib.hid (show But b w w1 by rw [hw1]; exact (but_alloc b w _).trans (but_alloc b _ _))
  unfold ddC at hw1
  unfold ddV ddC
  clear h hl hm hx hy hlt
  obtain ⟨c0, c1, c2, c3, c4, f0, f1, f2, f3, f4⟩ := hT.own.cells
  obtain ⟨x0, x1, x2, x3, x4, _⟩ := hT.fx.cells
  obtain ⟨y0, y1, y2, y3, y4, _⟩ := hT.fy.cells
  have HT := Lib.hid hT
  clear hT
  go_enter Tryz.func98, Tryz.ntmps98
  go_wp2_with fail
  rw [← hw1]
  clear hw1
  go_still_tail 10, (by kernel_rfl)
  change wpList _ _ _ _ _ w1.drew
  go_wp2_with fail
  have hT := HT.out.put 0 (.int .i64 ((d.least : Int) + ((min x.least y.least : Nat) : Int))) ⟨d.least + min x.least y.least, d.most, d.chg, d.prt, d.call⟩ (by simp [ddC])
  have HB2 := Lib.hid (HB.out.trans (but_put b w1 0 (.int .i64 ((d.least : Int) + ((min x.least y.least : Nat) : Int)))))
  clear c0 c1 c2 c3 c4 f0 f1 f2 f3 f4 x0 x1 x2 x3 x4 y0 y1 y2 y3 y4
  generalize (w1.setCell ⟨b, 0, none⟩ (.int .i64 ((d.least : Int) + ((min x.least y.least : Nat) : Int)))).drew = w2 at *
  obtain ⟨c0, c1, c2, c3, c4, f0, f1, f2, f3, f4⟩ := hT.own.cells
  obtain ⟨x0, x1, x2, x3, x4, _⟩ := hT.fx.cells
  obtain ⟨y0, y1, y2, y3, y4, _⟩ := hT.fy.cells
  clear HT HB
  have HT := Lib.hid hT
  have HB := HB2
  clear hT HB2
  go_still_tail 10, (by kernel_rfl)
  change wpList _ _ _ _ _ w2.drew
  clear x0 x1 y0 y1
  go_wp2_with fail
  all_goals
    go_end0
    refine either_end HT.out HB.out _ _ _ ?_ ?_ ?_
    all_goals first | exact or_t1 (by assumption) | exact or_t2 (by assumption) (by assumption) | exact or_t3 (by assumption) (by assumption)
end Go.Proofs.YtkdnbdgpcgookaaGreatDoor
