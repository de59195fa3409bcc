/- Plain mathematics, no program: what statements of advice do: how often they proceed at least and at most, whether they change the value, print, call; and which signs of a text say so. No condition. deedsOf: what statements of advice do, as the plain dds says. Condition: texts of at most 400 bytes. deedsOf: a choice, and lists: what statements of advice do, as the plain dds says. Condition: texts of at most 400 bytes. -/
import Derived.Test.YtkdnbdgpcgookaaGreatDoorMach
import Derived.Test.YtkdnbdgpcgookaaGreatDoorTx
import Derived.StillTailTactics
import Derived.Deep.RegionHeld3
namespace Go.Proofs.YtkdnbdgpcgookaaGreatDoor.Gram

structure Dd where
  least : Nat
  most : Nat
  chg : Bool
  prt : Bool
  call : Bool

def Dd.plus (a b : Dd) : Dd := ⟨a.least + b.least, a.most + b.most, a.chg || b.chg, a.prt || b.prt, a.call || b.call⟩
def Dd.either (a b : Dd) : Dd := ⟨min a.least b.least, max a.most b.most, a.chg || b.chg, a.prt || b.prt, a.call || b.call⟩
def Dd.zero : Dd := ⟨0, 0, false, false, false⟩

mutual
def Stm.dd : Stm → Dd
  | .chg _ _ => ⟨0, 0, true, false, false⟩
  | .prt => ⟨0, 0, false, true, false⟩
  | .pro => ⟨1, 1, false, false, false⟩
  | .call _ => ⟨0, 0, false, false, true⟩
  | .cho a b => (dds a).either (dds b)
def dds : List Stm → Dd
  | [] => Dd.zero
  | x :: xs => x.dd.plus (dds xs)
end

theorem Dd.ext' {a b : Dd} (h1 : a.least = b.least) (h2 : a.most = b.most) (h3 : a.chg = b.chg) (h4 : a.prt = b.prt) (h5 : a.call = b.call) : a = b := by
  cases a; cases b; simp_all
theorem Dd.zero_plus (a : Dd) : Dd.zero.plus a = a := Dd.ext' (by simp [Dd.plus, Dd.zero]) (by simp [Dd.plus, Dd.zero]) rfl rfl rfl
theorem Dd.plus_zero (a : Dd) : a.plus Dd.zero = a := Dd.ext' (by simp [Dd.plus, Dd.zero]) (by simp [Dd.plus, Dd.zero]) (by simp [Dd.plus, Dd.zero]) (by simp [Dd.plus, Dd.zero]) (by simp [Dd.plus, Dd.zero])
theorem Dd.plus_assoc (a b c : Dd) : (a.plus b).plus c = a.plus (b.plus c) :=
  Dd.ext' (by simp [Dd.plus]; omega) (by simp [Dd.plus]; omega) (by simp [Dd.plus, Bool.or_assoc]) (by simp [Dd.plus, Bool.or_assoc]) (by simp [Dd.plus, Bool.or_assoc])
theorem dds_append (a b : List Stm) : dds (a ++ b) = (dds a).plus (dds b) := by
  induction a with
  | nil => simp [dds, Dd.zero_plus]
  | cons x t ih => simp [dds, ih, Dd.plus_assoc]
theorem dds_snoc (a : List Stm) (x : Stm) : dds (a ++ [x]) = (dds a).plus x.dd := by rw [dds_append]; simp [dds, Dd.plus_zero]

/-- what a text says of the deeds -/
structure Tells (d : Dd) (l : List UInt8) : Prop where
  call : d.call = l.contains 67
  prt : d.prt = l.contains 80
  chg : d.chg = (l.contains 43 || l.contains 45 || l.contains 42)
  most : decide (0 < d.most) = l.contains 75
  le : d.most ≤ l.length
  least : d.least ≤ d.most

theorem sgn_cases {g : UInt8} (h : isSgn g = true) : g = 43 ∨ g = 45 ∨ g = 42 := by
  simp [isSgn] at h; rcases h with (h | h) | h <;> simp [h]
theorem dig_ne {d : UInt8} (h : isDig d = true) : d ≠ 67 ∧ d ≠ 80 ∧ d ≠ 43 ∧ d ≠ 45 ∧ d ≠ 42 ∧ d ≠ 75 := by
  refine ⟨?_, ?_, ?_, ?_, ?_, ?_⟩ <;> (rintro rfl; revert h; decide)
theorem let_ne {d : UInt8} (h : isLet d = true) : d ≠ 67 ∧ d ≠ 80 ∧ d ≠ 43 ∧ d ≠ 45 ∧ d ≠ 42 ∧ d ≠ 75 := by
  refine ⟨?_, ?_, ?_, ?_, ?_, ?_⟩ <;> (rintro rfl; revert h; decide)

theorem tells_append {a b : Dd} {l m : List UInt8} (h : Tells a l) (k : Tells b m) : Tells (a.plus b) (l ++ m) := by
  refine ⟨?_, ?_, ?_, ?_, ?_, ?_⟩
  · simp [Dd.plus, h.call, k.call]
  · simp [Dd.plus, h.prt, k.prt]
  · simp only [Dd.plus, h.chg, k.chg, List.contains_append]
    cases l.contains 43 <;> cases l.contains 45 <;> cases l.contains 42 <;> cases m.contains 43 <;> cases m.contains 45 <;> cases m.contains 42 <;> rfl
  · rw [List.contains_append, ← h.most, ← k.most, ← Bool.decide_or]
    exact decide_eq_decide.2 (by show 0 < a.most + b.most ↔ _; omega)
  · have := h.le; have := k.le; simp only [Dd.plus, List.length_append]; omega
  · have := h.least; have := k.least; simp only [Dd.plus]; omega

theorem tells_either {a b : Dd} {l m : List UInt8} (h : Tells a l) (k : Tells b m) : Tells (a.either b) (63 :: 91 :: (l ++ 93 :: 91 :: (m ++ [93]))) := by
  have hc : ∀ c : UInt8, c ≠ 63 → c ≠ 91 → c ≠ 93 → (63 :: 91 :: (l ++ 93 :: 91 :: (m ++ [93]))).contains c = (l.contains c || m.contains c) := fun c h1 h2 h3 => by
    have e1 : (c == 63) = false := by simpa using h1
    have e2 : (c == 91) = false := by simpa using h2
    have e3 : (c == 93) = false := by simpa using h3
    simp only [List.contains_cons, List.contains_append, List.contains_nil, e1, e2, e3, Bool.false_or, Bool.or_false]
  refine ⟨?_, ?_, ?_, ?_, ?_, ?_⟩
  · rw [hc _ (by decide) (by decide) (by decide), ← h.call, ← k.call]; rfl
  · rw [hc _ (by decide) (by decide) (by decide), ← h.prt, ← k.prt]; rfl
  · rw [hc _ (by decide) (by decide) (by decide), hc _ (by decide) (by decide) (by decide), hc _ (by decide) (by decide) (by decide)]
    simp only [Dd.either, h.chg, k.chg]
    cases l.contains 43 <;> cases l.contains 45 <;> cases l.contains 42 <;> cases m.contains 43 <;> cases m.contains 45 <;> cases m.contains 42 <;> rfl
  · rw [hc _ (by decide) (by decide) (by decide), ← h.most, ← k.most, ← Bool.decide_or]
    exact decide_eq_decide.2 (by show 0 < max a.most b.most ↔ _; omega)
  · have := h.le; have := k.le; simp only [Dd.either, List.length_cons, List.length_append, List.length_nil]; omega
  · have := h.least; have := k.least; simp only [Dd.either]; omega

mutual
theorem Stm.tells (x : Stm) (h : x.wf = true) : Tells x.dd x.txt := by
  match x with
  | .chg g d =>
    simp only [Stm.wf, Bool.and_eq_true] at h
    obtain ⟨h1, h2, h3, h4, h5, h6⟩ := dig_ne h.2
    rcases sgn_cases h.1 with rfl | rfl | rfl <;> refine ⟨?_, ?_, ?_, ?_, ?_, ?_⟩ <;> simp [Stm.dd, Stm.txt, h1.symm, h2.symm, h3.symm, h4.symm, h5.symm, h6.symm]
  | .prt => exact ⟨rfl, rfl, rfl, rfl, Nat.zero_le _, Nat.le_refl _⟩
  | .pro => exact ⟨rfl, rfl, rfl, rfl, Nat.le_refl _, Nat.le_refl _⟩
  | .call c =>
    simp only [Stm.wf] at h
    obtain ⟨h1, h2, h3, h4, h5, h6⟩ := let_ne h
    refine ⟨?_, ?_, ?_, ?_, ?_, ?_⟩ <;> simp [Stm.dd, Stm.txt, h1.symm, h2.symm, h3.symm, h4.symm, h5.symm, h6.symm]
  | .cho a b =>
    simp only [Stm.wf, Bool.and_eq_true] at h
    simp only [Stm.dd, Stm.txt]
    exact tells_either (tells_all a h.1) (tells_all b h.2)
theorem tells_all (xs : List Stm) (h : wfs xs = true) : Tells (dds xs) (txts xs) := by
  match xs with
  | [] => exact ⟨rfl, rfl, rfl, rfl, Nat.le_refl _, Nat.le_refl _⟩
  | x :: xs =>
    simp only [wfs, Bool.and_eq_true] at h
    simp only [dds, txts]
    exact tells_append (Stm.tells x h.1) (tells_all xs h.2)
end
end Go.Proofs.YtkdnbdgpcgookaaGreatDoor.Gram
namespace Go.Proofs.YtkdnbdgpcgookaaGreatDoor
open Go.RowKit Gram

def ddC (d : Dd) : Array Value := #[.int .i64 d.least, .int .i64 d.most, .bool d.chg, .bool d.prt, .bool d.call]
/-- what is done, in a block -/
def DdAt (w : World) (b : Nat) (d : Dd) : Prop := w.heap[b]? = some (.cells (ddC d) 86 (0, 0))

theorem DdAt.cells {w : World} {b : Nat} {d : Dd} (h : DdAt w b d) :
    w.cell? ⟨b, 0, none⟩ = some (.int .i64 d.least) ∧ w.cell? ⟨b, 1, none⟩ = some (.int .i64 d.most) ∧ w.cell? ⟨b, 2, none⟩ = some (.bool d.chg) ∧ w.cell? ⟨b, 3, none⟩ = some (.bool d.prt) ∧ w.cell? ⟨b, 4, none⟩ = some (.bool d.call) ∧
    w.frozen? ⟨b, 0, none⟩ = false ∧ w.frozen? ⟨b, 1, none⟩ = false ∧ w.frozen? ⟨b, 2, none⟩ = false ∧ w.frozen? ⟨b, 3, none⟩ = false ∧ w.frozen? ⟨b, 4, none⟩ = false := by
  refine ⟨?_, ?_, ?_, ?_, ?_, Lib.frozen_of_heap h 0, Lib.frozen_of_heap h 1, Lib.frozen_of_heap h 2, Lib.frozen_of_heap h 3, Lib.frozen_of_heap h 4⟩ <;> (rw [Lib.cell_of_heap h]; rfl)

theorem DdAt.lt {w : World} {b : Nat} {d : Dd} (h : DdAt w b d) : b < w.heap.size := heap_lt h
theorem DdAt.alloc {w : World} {b : Nat} {d : Dd} (h : DdAt w b d) (o : Obj) : DdAt (w.alloc o) b d := by
  unfold DdAt; rw [Lib.alloc_old _ _ _ h.lt]; exact h
theorem DdAt.put {w : World} {b : Nat} {d d' : Dd} (h : DdAt w b d) (i : Nat) (u : Value) (hs : (ddC d).setIfInBounds i u = ddC d') : DdAt (w.setCell ⟨b, i, none⟩ u) b d' := by
  unfold DdAt; rw [heap_set_same h, hs]

theorem sw_chg_chg (pv : Value) (w : World) : (Instr.typeAssert (.iface 162 pv) 72 162 true).run Tryz.prog w = .ok (.tuple #[pv, .bool true]) w := by kernel_rfl
theorem sw_prt_chg (pv : Value) (w : World) : (Instr.typeAssert (.iface 151 pv) 72 162 true).run Tryz.prog w = .ok (.tuple #[.agg #[.int .u8 0, .int .u8 0], .bool false]) w := by kernel_rfl
theorem sw_prt_prt (pv : Value) (w : World) : (Instr.typeAssert (.iface 151 pv) 72 151 true).run Tryz.prog w = .ok (.tuple #[pv, .bool true]) w := by kernel_rfl
theorem sw_call_chg (pv : Value) (w : World) : (Instr.typeAssert (.iface 150 pv) 72 162 true).run Tryz.prog w = .ok (.tuple #[.agg #[.int .u8 0, .int .u8 0], .bool false]) w := by kernel_rfl
theorem sw_call_prt (pv : Value) (w : World) : (Instr.typeAssert (.iface 150 pv) 72 151 true).run Tryz.prog w = .ok (.tuple #[.agg #[], .bool false]) w := by kernel_rfl
theorem sw_call_call (pv : Value) (w : World) : (Instr.typeAssert (.iface 150 pv) 72 150 true).run Tryz.prog w = .ok (.tuple #[pv, .bool true]) w := by kernel_rfl
theorem sw_pro_chg (pv : Value) (w : World) : (Instr.typeAssert (.iface 134 pv) 72 162 true).run Tryz.prog w = .ok (.tuple #[.agg #[.int .u8 0, .int .u8 0], .bool false]) w := by kernel_rfl
theorem sw_pro_prt (pv : Value) (w : World) : (Instr.typeAssert (.iface 134 pv) 72 151 true).run Tryz.prog w = .ok (.tuple #[.agg #[], .bool false]) w := by kernel_rfl
theorem sw_pro_call (pv : Value) (w : World) : (Instr.typeAssert (.iface 134 pv) 72 150 true).run Tryz.prog w = .ok (.tuple #[.agg #[.int .u8 0], .bool false]) w := by kernel_rfl
theorem sw_pro_pro (pv : Value) (w : World) : (Instr.typeAssert (.iface 134 pv) 72 134 true).run Tryz.prog w = .ok (.tuple #[pv, .bool true]) w := by kernel_rfl
theorem sw_cho_chg (pv : Value) (w : World) : (Instr.typeAssert (.iface 164 pv) 72 162 true).run Tryz.prog w = .ok (.tuple #[.agg #[.int .u8 0, .int .u8 0], .bool false]) w := by kernel_rfl
theorem sw_cho_prt (pv : Value) (w : World) : (Instr.typeAssert (.iface 164 pv) 72 151 true).run Tryz.prog w = .ok (.tuple #[.agg #[], .bool false]) w := by kernel_rfl
theorem sw_cho_call (pv : Value) (w : World) : (Instr.typeAssert (.iface 164 pv) 72 150 true).run Tryz.prog w = .ok (.tuple #[.agg #[.int .u8 0], .bool false]) w := by kernel_rfl
theorem sw_cho_pro (pv : Value) (w : World) : (Instr.typeAssert (.iface 164 pv) 72 134 true).run Tryz.prog w = .ok (.tuple #[.agg #[], .bool false]) w := by kernel_rfl
theorem sw_cho_cho (pv : Value) (w : World) : (Instr.typeAssert (.iface 164 pv) 72 164 true).run Tryz.prog w = .ok (.tuple #[pv, .bool true]) w := by kernel_rfl

set_option maxHeartbeats 400000 in
set_option maxRecDepth 100000 in
theorem visit_chg (w : World) (b : Nat) (d : Dd) (g e : UInt8) (h : DdAt w b d) :
    Calls Tryz.prog 79 #[.pointer (some ⟨b, 0, none⟩), .iface 162 (.agg #[.int .u8 g.toNat, .int .u8 e.toNat])] w fun r w' => r = .returned (.tuple #[]) ∧ DdAt w' b (d.plus (Stm.chg g e).dd) ∧ But b w w' := by
  have c := fun o => (h.alloc o).cells.2.2.1
  have f := fun o => Lib.frozen_of_heap (h.alloc o) 2
  have HH := Lib.hid h
  clear h
  have t0 := sw_chg_chg
  go_enter Tryz.func79, Tryz.ntmps79
  go_wp2_with fail
  go_end0
  exact ⟨rfl, (HH.out.alloc _).put 2 _ (by simp [ddC, Dd.plus, Stm.dd]), (but_alloc b w _).setCell 2 _⟩

set_option maxHeartbeats 400000 in
set_option maxRecDepth 100000 in
theorem visit_prt (w : World) (b : Nat) (d : Dd) (h : DdAt w b d) :
    Calls Tryz.prog 79 #[.pointer (some ⟨b, 0, none⟩), .iface 151 (.agg #[])] w fun r w' => r = .returned (.tuple #[]) ∧ DdAt w' b (d.plus (Stm.prt).dd) ∧ But b w w' := by
  have c := fun o => (h.alloc o).cells.2.2.2.1
  have f := fun o => Lib.frozen_of_heap (h.alloc o) 3
  have HH := Lib.hid h
  clear h
  have t0 := sw_prt_chg
  have t1 := sw_prt_prt
  go_enter Tryz.func79, Tryz.ntmps79
  go_wp2_with fail
  go_end0
  exact ⟨rfl, (HH.out.alloc _).put 3 _ (by simp [ddC, Dd.plus, Stm.dd]), (but_alloc b w _).setCell 3 _⟩

set_option maxHeartbeats 400000 in
set_option maxRecDepth 100000 in
theorem visit_call (w : World) (b : Nat) (d : Dd) (e : UInt8) (h : DdAt w b d) :
    Calls Tryz.prog 79 #[.pointer (some ⟨b, 0, none⟩), .iface 150 (.agg #[.int .u8 e.toNat])] w fun r w' => r = .returned (.tuple #[]) ∧ DdAt w' b (d.plus (Stm.call e).dd) ∧ But b w w' := by
  have c := fun o => (h.alloc o).cells.2.2.2.2.1
  have f := fun o => Lib.frozen_of_heap (h.alloc o) 4
  have HH := Lib.hid h
  clear h
  have t0 := sw_call_chg
  have t1 := sw_call_prt
  have t2 := sw_call_call
  go_enter Tryz.func79, Tryz.ntmps79
  go_wp2_with fail
  go_end0
  exact ⟨rfl, (HH.out.alloc _).put 4 _ (by simp [ddC, Dd.plus, Stm.dd]), (but_alloc b w _).setCell 4 _⟩

set_option maxHeartbeats 400000 in
set_option maxRecDepth 100000 in
theorem visit_pro (w : World) (b : Nat) (d : Dd) (h : DdAt w b d) (hl : d.least ≤ 1000) (hm : d.most ≤ 1000) :
    Calls Tryz.prog 79 #[.pointer (some ⟨b, 0, none⟩), .iface 134 (.agg #[])] w fun r w' => r = .returned (.tuple #[]) ∧ DdAt w' b (d.plus Stm.pro.dd) ∧ But b w w' := by
  have c0 := fun o => (h.alloc o).cells.1
  have c1 := fun o => (h.alloc o).cells.2.1
  have f0 := fun o => Lib.frozen_of_heap (h.alloc o) 0
  have f1 := fun o => Lib.frozen_of_heap (h.alloc o) 1
  have HH := Lib.hid h
  clear h
  have t0 := sw_pro_chg
  have t1 := sw_pro_prt
  have t2 := sw_pro_call
  have t3 := sw_pro_pro
  go_enter Tryz.func79, Tryz.ntmps79
  go_wp2_with fail
  go_end0
  exact ⟨rfl, ((HH.out.alloc _).put (d' := ⟨d.least + 1, d.most, d.chg, d.prt, d.call⟩) 0 _ (by simp [ddC])).put 1 _ (by simp [ddC, Dd.plus, Stm.dd]), ((but_alloc b w _).setCell 0 _).setCell 1 _⟩

/-- deeds as a value -/
def ddV (d : Dd) : Value := .agg (ddC d)

/-- deeds in block b, and two others in blocks bx and by -/
structure Three (w1 : World) (b bx bY : Nat) (d x y : Dd) : Prop where
  own : DdAt w1 b d
  fx : DdAt w1 bx x
  fy : DdAt w1 bY y
  nx : bx ≠ b
  ny : bY ≠ b
theorem Three.put {w1 : World} {b bx bY : Nat} {d x y : Dd} (h : Three w1 b bx bY d x y) (i : Nat) (u : Value) (d' : Dd) (hs : (ddC d).setIfInBounds i u = ddC d') :
    Three (w1.setCell ⟨b, i, none⟩ u).drew b bx bY d' x y :=
  ⟨h.own.put i u hs, (heap_set_other h.nx u).trans h.fx, (heap_set_other h.ny u).trans h.fy, h.nx, h.ny⟩
theorem but_put (b : Nat) (w1 : World) (i : Nat) (u : Value) : But b w1 (w1.setCell ⟨b, i, none⟩ u).drew :=
  ((But.refl b w1).setCell i u).trans ⟨rfl, rfl, rfl, Nat.le_refl _, fun _ _ _ => rfl⟩

theorem or_t1 {d x y : Bool} (h : d = true) : true = (d || (x || y)) := by rw [h]; rfl
theorem or_t2 {d x y : Bool} (_h : ¬ d = true) (k : x = true) : true = (d || (x || y)) := by rw [k]; simp
theorem or_t3 {d x y : Bool} (h : ¬ d = true) (k : ¬ x = true) : y = (d || (x || y)) := by
  rw [Bool.not_eq_true] at h k; rw [h, k]; rfl
theorem DdAt.cast {w : World} {b : Nat} {d d' : Dd} (h : DdAt w b d) (e : d = d') : DdAt w b d' := e ▸ h
theorem DdAt.puts {w : World} {b : Nat} {d : Dd} (h : DdAt w b d) (m : Int) (m' : Nat) (hm : m = m') (p q r : Bool) :
    DdAt ((((w.setCell ⟨b, 1, none⟩ (.int .i64 m)).setCell ⟨b, 2, none⟩ (.bool p)).setCell ⟨b, 3, none⟩ (.bool q)).setCell ⟨b, 4, none⟩ (.bool r)).drew b ⟨d.least, m', p, q, r⟩ := by
  subst hm
  exact (((h.put 1 _ (d' := ⟨d.least, m', d.chg, d.prt, d.call⟩) rfl).put 2 _ (d' := ⟨d.least, m', p, d.prt, d.call⟩) rfl).put 3 _ (d' := ⟨d.least, m', p, q, d.call⟩) rfl).put 4 _ (d' := ⟨d.least, m', p, q, r⟩) rfl

theorem either_end {w w2 : World} {b bx bY : Nat} {d x y : Dd} (hT : Three w2 b bx bY ⟨d.least + min x.least y.least, d.most, d.chg, d.prt, d.call⟩ x y) (hB : But b w w2) (p q r : Bool)
    (hp : p = (d.chg || (x.chg || y.chg))) (hq : q = (d.prt || (x.prt || y.prt))) (hr : r = (d.call || (x.call || y.call))) :
    Ending.returned (Value.tuple #[]) = Ending.returned (Value.tuple #[]) ∧
    DdAt ((((w2.setCell ⟨b, 1, none⟩ (.int .i64 ((d.most : Int) + ((max x.most y.most : Nat) : Int)))).setCell ⟨b, 2, none⟩ (.bool p)).setCell ⟨b, 3, none⟩ (.bool q)).setCell ⟨b, 4, none⟩ (.bool r)).drew b (d.plus (x.either y)) ∧
    But b w ((((w2.setCell ⟨b, 1, none⟩ (.int .i64 ((d.most : Int) + ((max x.most y.most : Nat) : Int)))).setCell ⟨b, 2, none⟩ (.bool p)).setCell ⟨b, 3, none⟩ (.bool q)).setCell ⟨b, 4, none⟩ (.bool r)).drew := by
  refine ⟨rfl, ?_, ?_⟩
  · have h := hT.own.puts _ (d.most + max x.most y.most) (Int.natCast_add _ _).symm p q r
    refine h.cast (Dd.ext' rfl rfl hp hq hr)
  · have h := ((((But.refl b w2).setCell 1 (.int .i64 ((d.most : Int) + ((max x.most y.most : Nat) : Int)))).setCell 2 (.bool p)).setCell 3 (.bool q)).setCell 4 (.bool r)
    exact hB.trans (h.trans ⟨rfl, rfl, rfl, Nat.le_refl _, fun _ _ _ => rfl⟩)

set_option maxHeartbeats 4000000 in
set_option maxRecDepth 100000 in
theorem either_any (w : World) (b : Nat) (d x y : Dd) (h : DdAt w b d) (hl : d.least ≤ 1000) (hm : d.most ≤ 1000) (hx : x.least ≤ 1000 ∧ x.most ≤ 1000) (hy : y.least ≤ 1000 ∧ y.most ≤ 1000) :
    Calls Tryz.prog 98 #[.pointer (some ⟨b, 0, none⟩), ddV x, ddV y] w fun r w' => r = .returned (.tuple #[]) ∧ DdAt w' b (d.plus (x.either y)) ∧ But b w w' := by
  have e0 : IntKind.i64.wrap ((d.least : Int) + min (x.least : Int) (y.least : Int)) = ((d.least + min x.least y.least : Nat) : Int) := by
    rw [IntKind.wrap_i64]; omega
  have e1 : IntKind.i64.wrap ((d.most : Int) + max (x.most : Int) (y.most : Int)) = ((d.most + max x.most y.most : Nat) : Int) := by
    rw [IntKind.wrap_i64]; omega
  have hlt := h.lt
  obtain ⟨w1, hw1⟩ : ∃ w1, w1 = (w.alloc (.cells (ddC x) 86)).alloc (.cells (ddC y) 86) := ⟨_, rfl⟩
  have hT : Three w1 b w.heap.size (w.heap.size + 1) d x y := by
    refine ⟨?_, ?_, ?_, by omega, by omega⟩
    · rw [hw1]; exact (h.alloc _).alloc _
    · rw [hw1]; exact DdAt.alloc (heap_alloc_new _ _) _
    · have := heap_alloc_new (w.alloc (.cells (ddC x) 86)) (.cells (ddC y) 86)
      rw [alloc_size'] at this
      rw [hw1]; exact this
  have HB := Lib.hid (show But b w w1 by rw [hw1]; exact (but_alloc b w _).trans (but_alloc b _ _))
  unfold ddC at hw1
  unfold ddV ddC
  clear h hl hm hx hy hlt
  obtain ⟨c0, c1, c2, c3, c4, f0, f1, f2, f3, f4⟩ := hT.own.cells
  obtain ⟨x0, x1, x2, x3, x4, _⟩ := hT.fx.cells
  obtain ⟨y0, y1, y2, y3, y4, _⟩ := hT.fy.cells
  have HT := Lib.hid hT
  clear hT
  go_enter Tryz.func98, Tryz.ntmps98
  go_wp2_with fail
  rw [← hw1]
  clear hw1
  go_still_tail 10, (by kernel_rfl)
  change wpList _ _ _ _ _ w1.drew
  go_wp2_with fail
  have hT := HT.out.put 0 (.int .i64 ((d.least : Int) + ((min x.least y.least : Nat) : Int))) ⟨d.least + min x.least y.least, d.most, d.chg, d.prt, d.call⟩ (by simp [ddC])
  have HB2 := Lib.hid (HB.out.trans (but_put b w1 0 (.int .i64 ((d.least : Int) + ((min x.least y.least : Nat) : Int)))))
  clear c0 c1 c2 c3 c4 f0 f1 f2 f3 f4 x0 x1 x2 x3 x4 y0 y1 y2 y3 y4
  generalize (w1.setCell ⟨b, 0, none⟩ (.int .i64 ((d.least : Int) + ((min x.least y.least : Nat) : Int)))).drew = w2 at *
  obtain ⟨c0, c1, c2, c3, c4, f0, f1, f2, f3, f4⟩ := hT.own.cells
  obtain ⟨x0, x1, x2, x3, x4, _⟩ := hT.fx.cells
  obtain ⟨y0, y1, y2, y3, y4, _⟩ := hT.fy.cells
  clear HT HB
  have HT := Lib.hid hT
  have HB := HB2
  clear hT HB2
  go_still_tail 10, (by kernel_rfl)
  change wpList _ _ _ _ _ w2.drew
  clear x0 x1 y0 y1
  go_wp2_with fail
  all_goals
    go_end0
    refine either_end HT.out HB.out _ _ _ ?_ ?_ ?_
    all_goals first | exact or_t1 (by assumption) | exact or_t2 (by assumption) (by assumption) | exact or_t3 (by assumption) (by assumption)
end Go.Proofs.YtkdnbdgpcgookaaGreatDoor
namespace Go.Proofs.YtkdnbdgpcgookaaGreatDoor
open Go.RowKit Gram

def SaidDeeds (n : Nat) : Prop := ∀ (xs : List Stm) (w : World) (S : Nat → Prop) (v : Value), (txts xs).length ≤ n → n ≤ 400 → wfs xs = true → (∀ k, S k → k < w.heap.size) → IsBody w S xs v →
  Calls Tryz.prog 49 #[v] w fun e w' => e = .returned (ddV (dds xs)) ∧ Below w.heap.size w w'

/-- a choice's two bodies in a block of their own -/
theorem cho_start (w : World) (va vb : Value) : let o := Obj.cells #[va, vb] 164
    (w.alloc o).drew.cell? ⟨w.heap.size, 0, none⟩ = some va ∧ (w.alloc o).drew.cell? ⟨w.heap.size, 1, none⟩ = some vb ∧ Below (w.heap.size + 1) (w.alloc o) (w.alloc o).drew := by
  have h := heap_alloc_new w (Obj.cells #[va, vb] 164)
  refine ⟨?_, ?_, (Below.refl _ _).drew⟩
  · show (w.alloc _).cell? _ = _
    rw [Lib.cell_of_heap h]; rfl
  · show (w.alloc _).cell? _ = _
    rw [Lib.cell_of_heap h]; rfl
theorem cho_later {w w1 w2 : World} {va vb : Value} {o : Obj} (h : w1.cell? ⟨w.heap.size, 0, none⟩ = some va ∧ w1.cell? ⟨w.heap.size, 1, none⟩ = some vb ∧ Below (w.heap.size + 1) (w.alloc o) w1) (hb : Below w1.heap.size w1 w2) :
    w2.cell? ⟨w.heap.size, 0, none⟩ = some va ∧ w2.cell? ⟨w.heap.size, 1, none⟩ = some vb ∧ Below (w.heap.size + 1) (w.alloc o) w2 := by
  obtain ⟨h0, h1, h2⟩ := h
  have hs := h2.size
  rw [alloc_size'] at hs
  have hk : w2.heap[w.heap.size]? = w1.heap[w.heap.size]? := hb.block _ (by omega)
  exact ⟨(World.cell?_of_block (a := ⟨w.heap.size, 0, none⟩) hk).trans h0, (World.cell?_of_block (a := ⟨w.heap.size, 1, none⟩) hk).trans h1, h2.trans (hb.mono (by omega))⟩
theorem cho_below {w w1 : World} {o : Obj} (h : Below (w.heap.size + 1) (w.alloc o) w1) : Below w.heap.size w w1 := ((Below.refl _ w).alloc (Nat.le_refl _) o).trans (h.mono (by omega))

theorem cho_but {w w1 w2 : World} {va vb : Value} {o : Obj} {b : Nat} (hl : b < w.heap.size) (h : w1.cell? ⟨w.heap.size, 0, none⟩ = some va ∧ w1.cell? ⟨w.heap.size, 1, none⟩ = some vb ∧ Below (w.heap.size + 1) (w.alloc o) w1) (hb : But b w1 w2) :
    w2.cell? ⟨w.heap.size, 0, none⟩ = some va ∧ w2.cell? ⟨w.heap.size, 1, none⟩ = some vb := by
  obtain ⟨h0, h1, h2⟩ := h
  have hs := h2.size
  rw [alloc_size'] at hs
  have hk : w2.heap[w.heap.size]? = w1.heap[w.heap.size]? := hb.block _ (by omega) (by omega)
  exact ⟨(World.cell?_of_block (a := ⟨w.heap.size, 0, none⟩) hk).trans h0, (World.cell?_of_block (a := ⟨w.heap.size, 1, none⟩) hk).trans h1⟩

set_option maxHeartbeats 4000000 in
set_option maxRecDepth 100000 in
theorem visit_cho (w : World) (b : Nat) (d x y : Dd) (va vb : Value) (h : DdAt w b d) (hl : d.least ≤ 1000) (hm : d.most ≤ 1000) (hx : x.least ≤ 1000 ∧ x.most ≤ 1000) (hy : y.least ≤ 1000 ∧ y.most ≤ 1000)
    (ha : ∀ w', Below w.heap.size w w' → Calls Tryz.prog 49 #[va] w' fun e w'' => e = .returned (ddV x) ∧ Below w'.heap.size w' w'')
    (hb : ∀ w', Below w.heap.size w w' → Calls Tryz.prog 49 #[vb] w' fun e w'' => e = .returned (ddV y) ∧ Below w'.heap.size w' w'') (hva : ∃ a n c, va = .slice a n c) (hvb : ∃ a n c, vb = .slice a n c) :
    Calls Tryz.prog 79 #[.pointer (some ⟨b, 0, none⟩), .iface 164 (.agg #[va, vb])] w fun r w' => r = .returned (.tuple #[]) ∧ DdAt w' b (d.plus (x.either y)) ∧ But b w w' := by
  have HA := Lib.hid ha
  have HB := Lib.hid hb
  have HE := Lib.hid (fun w' (hw : Below w.heap.size w w') => either_any w' b d x y ((hw.block b h.lt).trans h) hl hm hx hy)
  have HL := Lib.hid h.lt
  clear ha hb h hl hm hx hy
  have t0 := sw_cho_chg
  have t1 := sw_cho_prt
  have t2 := sw_cho_call
  have t3 := sw_cho_pro
  have t4 := sw_cho_cho
  obtain ⟨la, ln, lc, rfl⟩ := hva
  obtain ⟨fa, fn, fc, rfl⟩ := hvb
  go_enter Tryz.func79, Tryz.ntmps79
  go_wp2_with fail
  have S0 := Lib.hid (cho_start w (.slice la ln lc) (.slice fa fn fc))
  go_region_held3 (fun w' => w'.cell? ⟨w.heap.size, 0, none⟩ = some (.slice la ln lc) ∧ w'.cell? ⟨w.heap.size, 1, none⟩ = some (.slice fa fn fc))
    ((first | assumption | exact ⟨S0.out.1, S0.out.2.1⟩ | exact ⟨S2.out.1, S2.out.2.1⟩ | exact ⟨S3.out.1, S3.out.2.1⟩ | exact cho_but HL.out S3.out hB4))
    ((first
    | (go_at_call_of 49 (Value.slice la ln lc); refine (HA.out _ (cho_below S0.out.2.2)).mono ?_
       rintro r w2 ⟨rfl, hb2⟩
       have S2 := Lib.hid (cho_later S0.out hb2))
    | (go_at_call_of 49 (Value.slice fa fn fc); refine (HB.out _ (cho_below S2.out.2.2)).mono ?_
       rintro r w3 ⟨rfl, hb3⟩
       have S3 := Lib.hid (cho_later S2.out hb3))
    | (go_at_call 98; refine (HE.out _ (cho_below S3.out.2.2)).mono ?_
       rintro r w4 ⟨rfl, hD, hB4⟩)))
  go_end0
  exact ⟨rfl, hD, (But.of_below (cho_below S3.out.2.2)).trans hB4⟩

theorem dd_bound (xs : List Stm) (h : wfs xs = true) (hl : (txts xs).length ≤ 400) : (dds xs).least ≤ 1000 ∧ (dds xs).most ≤ 1000 := by
  have := (tells_all xs h).le
  have := (tells_all xs h).least
  omega

theorem txts_take (xs : List Stm) (k : Nat) (x : Stm) (h : xs[k]? = some x) : (txts (xs.take k)).length + x.txt.length ≤ (txts xs).length ∧ xs.take (k + 1) = xs.take k ++ [x] := by
  obtain ⟨hk, rfl⟩ := List.getElem?_eq_some_iff.1 h
  refine ⟨?_, List.take_succ_eq_append_getElem hk⟩
  have h1 := congrArg (fun l => (txts l).length) (List.take_append_drop (k + 1) xs)
  rw [List.take_succ_eq_append_getElem hk] at h1
  have h2 : txts [xs[k]] = xs[k].txt := by simp [txts]
  simp only [txts_append, List.length_append, h2] at h1
  omega
theorem wfs_get {xs : List Stm} (h : wfs xs = true) {k : Nat} {x : Stm} (hx : xs[k]? = some x) : x.wf = true ∧ wfs (xs.take k) = true := by
  obtain ⟨hk, rfl⟩ := List.getElem?_eq_some_iff.1 hx
  have h1 : wfs (xs.take k ++ [xs[k]] ++ xs.drop (k + 1)) = true := by
    rw [← List.take_succ_eq_append_getElem hk, List.take_append_drop]; exact h
  rw [wfs_append, wfs_snoc] at h1
  simp only [Bool.and_eq_true] at h1
  exact ⟨h1.1.2, h1.1.1⟩

/-- a visit of any statement -/
theorem visit_any (n : Nat) (ih : ∀ m, m < n → SaidDeeds m) (x : Stm) (w : World) (S : Nat → Prop) (b : Nat) (d : Dd) (v : Value) (hx : x.txt.length ≤ n) (hn : n ≤ 400) (hw : x.wf = true) (hS : ∀ k, S k → k < w.heap.size) (hst : IsStm w S x v)
    (hD : DdAt w b d) (hl : d.least ≤ 1000) (hm : d.most ≤ 1000) :
    Calls Tryz.prog 79 #[.pointer (some ⟨b, 0, none⟩), v] w fun r w' => r = .returned (.tuple #[]) ∧ DdAt w' b (d.plus x.dd) ∧ But b w w' := by
  cases x with
  | chg g e => simp only [IsStm] at hst; subst hst; exact visit_chg w b d g e hD
  | prt => simp only [IsStm] at hst; subst hst; exact visit_prt w b d hD
  | pro => simp only [IsStm] at hst; subst hst; exact visit_pro w b d hD hl hm
  | call e => simp only [IsStm] at hst; subst hst; exact visit_call w b d e hD
  | cho p q =>
    simp only [Stm.wf, Bool.and_eq_true] at hw
    simp only [Stm.txt, List.length_cons, List.length_append, List.length_nil] at hx
    simp only [IsStm] at hst
    obtain ⟨va, vb, vas, vbs, rfl, r1, s1, r2, s2⟩ := hst
    have hk : ∀ w', Below w.heap.size w w' → (∀ k, S k → k < w'.heap.size) ∧ ∀ k, S k → w'.heap[k]? = w.heap[k]? := fun w' hb =>
      ⟨fun k h => Nat.lt_of_lt_of_le (hS k h) hb.size, fun k h => hb.block k (hS k h)⟩
    exact visit_cho w b d (dds p) (dds q) va vb hD hl hm (dd_bound p hw.1 (by omega)) (dd_bound q hw.2 (by omega))
      (fun w' hb => ih (txts p).length (by omega) p w' S va (Nat.le_refl _) (by omega) hw.1 (hk w' hb).1 (IsBody.kept (hk w' hb).2 (fun _ h => h) ⟨vas, r1, s1⟩))
      (fun w' hb => ih (txts q).length (by omega) q w' S vb (Nat.le_refl _) (by omega) hw.2 (hk w' hb).1 (IsBody.kept (hk w' hb).2 (fun _ h => h) ⟨vbs, r2, s2⟩))
      (slice_form r1.1) (slice_form r2.1)

theorem stms_at {w : World} {S : Nat → Prop} : ∀ (xs : List Stm) (vs : List Value), IsStms w S xs vs → ∀ k, k < xs.length → ∃ x v, xs[k]? = some x ∧ vs[k]? = some v ∧ IsStm w S x v
  | [], _, _, k, hk => by simp at hk
  | x :: xs, vs, h, k, hk => by
    simp only [IsStms] at h
    obtain ⟨v, t, rfl, h1, h2⟩ := h
    cases k with
    | zero => exact ⟨x, v, rfl, rfl, h1⟩
    | succ k =>
      obtain ⟨y, u, a, b, c⟩ := stms_at xs t h2 k (by simpa using hk)
      exact ⟨y, u, by simpa using a, by simpa using b, c⟩

theorem full_dd {w : World} {b : Nat} {d : Dd} (h : DdAt w b d) (e : Dd) :
    DdAt (((((w.setCell ⟨b, 0, none⟩ (.int .i64 e.least)).setCell ⟨b, 1, none⟩ (.int .i64 e.most)).setCell ⟨b, 2, none⟩ (.bool e.chg)).setCell ⟨b, 3, none⟩ (.bool e.prt)).setCell ⟨b, 4, none⟩ (.bool e.call)) b e :=
  ((((h.put 0 _ (d' := ⟨e.least, d.most, d.chg, d.prt, d.call⟩) rfl).put 1 _ (d' := ⟨e.least, e.most, d.chg, d.prt, d.call⟩) rfl).put 2 _ (d' := ⟨e.least, e.most, e.chg, d.prt, d.call⟩) rfl).put 3 _ (d' := ⟨e.least, e.most, e.chg, e.prt, d.call⟩) rfl).put 4 _ rfl

set_option maxHeartbeats 2000000 in
set_option maxRecDepth 100000 in
theorem deeds_loop (n : Nat) (ih : ∀ m, m < n → SaidDeeds m) (xs : List Stm) (w : World) (S : Nat → Prop) (ad : Option Addr) (ln cp : Nat) (vs : List Value) (hx : (txts xs).length ≤ n) (hn : n ≤ 400) (hw : wfs xs = true)
    (hS : ∀ k, S k → k < w.heap.size) (hr : Row w S (.slice ad ln cp) vs) (hs : IsStms w S xs vs) (hln : ln = xs.length) :
    Calls Tryz.prog 49 #[.slice ad ln cp] w fun e w' => e = .returned (ddV (dds xs)) ∧ Below w.heap.size w w' := by
  have hle := txts_ge xs
  have hlb : ln ≤ 400 := by omega
  have H := Lib.hid ih
  have HR := Lib.hid hr
  have HS := Lib.hid hs
  have HL := Lib.hid hln
  have HSS := Lib.hid hS
  have HX := Lib.hid hx
  have HW := Lib.hid hw
  clear ih hr hs hS hln hx hle hw
  go_enter Tryz.func49, Tryz.ntmps49
  go_wp2_with fail
  go_loopw [8] (fun i wr => ∃ k : Nat, k ≤ ln ∧ i = .int .i64 k ∧ Hid (DdAt wr (w.heap.size + 1) (dds (xs.take k))) ∧ Hid (wr.heap[w.heap.size]? = some (.cells (ddC Dd.zero) 86 (0, 0))) ∧ Hid (Below w.heap.size w wr)) (fun i _ => ln - (intOf i).toNat)
  case atStart =>
    have h1 := heap_alloc_new w (Obj.cells (ddC Dd.zero) 86)
    have h2 := heap_alloc_new (w.alloc (Obj.cells (ddC Dd.zero) 86)) (Obj.cells (ddC Dd.zero) 86)
    rw [alloc_size'] at h2
    refine ⟨0, Nat.zero_le _, by go_num, h2, ?_, ((Below.refl _ _).alloc (Nat.le_refl _) _).alloc (by simp) _⟩
    exact (Lib.alloc_old _ _ _ (by simp)).trans h1
  case round =>
    obtain ⟨k, hk, rfl, hD, hR0, hb⟩ := hrel
    by_cases hlt : k < ln
    · obtain ⟨x, v, hxk, hvk, hst⟩ := stms_at xs vs HS.out k (by rw [← HL.out]; exact hlt)
      obtain ⟨g, hga, hc1⟩ : ∃ g, ad = some ⟨g, 0, none⟩ ∧ wr.cell? ⟨g, k, none⟩ = some v := by
        rcases HR.out.1.2 with ⟨h1, h2⟩ | ⟨g, cap, cur, h1, _, _⟩
        · injection h1 with h3 h4; omega
        · injection h1 with h3 h4 h5
          subst h3; subst h4; subst h5
          have hg := HSS.out g (HR.out.2 g rfl)
          have := row_cell HR.out.1 k v hvk
          exact ⟨g, rfl, by rw [← this]; exact World.cell?_of_block (a := ⟨g, k, none⟩) (hb.out.block g hg)⟩
      subst hga
      obtain ⟨hb1, hb2⟩ := txts_take xs k x hxk
      obtain ⟨hw1, hw2⟩ := wfs_get HW.out hxk
      have hx2 := HX.out
      obtain ⟨hl1, hl2⟩ := dd_bound (xs.take k) hw2 (by omega)
      have HV := Lib.hid (visit_any n H.out x wr S (w.heap.size + 1) _ v (by omega) hn hw1 (fun k hk => Nat.lt_of_lt_of_le (HSS.out k hk) hb.out.size) (IsStm.kept (fun j hj => hb.out.block j (HSS.out j hj)) (fun _ h => h) _ _ hst) hD.out hl1 hl2)
      have HT := Lib.hid hb2
      obtain ⟨ty, pv, rfl⟩ := hst.iface
      have HDl := Lib.hid hD.out.lt
      clear hb1 hb2 hw1 hw2 hx2 hl1 hl2 hst hxk hvk
      go_wp2_with fail
      refine HV.out.mono ?_
      rintro e w2 ⟨rfl, hD2, hB2⟩
      have HD2 := Lib.hid hD2
      have HB2 := Lib.hid hB2
      clear hD2 hB2
      go_wp2_with fail
      go_roundw
      case rel =>
        refine ⟨k + 1, by omega, by go_num, ?_, ?_, hb.out.trans (HB2.out.below hb.out.size (by omega))⟩
        · show DdAt _ _ _
          rw [HT.out, dds_snoc]; exact HD2.out
        · exact (HB2.out.block _ (by have := HDl.out; omega) (by omega)).trans hR0.out
      case measure => simp [intOf]; omega
    · have hall : xs.take k = xs := List.take_of_length_le (by rw [← HL.out]; omega)
      rw [hall] at hD
      obtain ⟨c0, c1, c2, c3, c4, f0, f1, f2, f3, f4⟩ := hD.out.cells
      obtain ⟨z0, z1, z2, z3, z4, y0, y1, y2, y3, y4⟩ := (show DdAt wr w.heap.size Dd.zero from hR0.out).cells
      have HF := Lib.hid (full_dd (show DdAt wr w.heap.size Dd.zero from hR0.out) (dds xs))
      go_wp2_with fail
      obtain ⟨e0, e1, e2, e3, e4, _⟩ := HF.out.cells
      refine bodyPost_ret (v := ddV (dds xs)) ?_ rfl ⟨rfl, ((((hb.out.setCell (Nat.le_refl _) _).setCell (Nat.le_refl _) _).setCell (Nat.le_refl _) _).setCell (Nat.le_refl _) _).setCell (Nat.le_refl _) _⟩
      simp [results, Tryz.results49, go_sem, e0, e1, e2, e3, e4, ddV, ddC]

theorem deeds_all (n : Nat) : SaidDeeds n := by
  induction n using Nat.strongRecOn with
  | _ n ih =>
    intro xs w S v hx hn hw hS hB
    obtain ⟨vs, hr, hs⟩ := hB
    obtain ⟨ad, ln, cp, rfl⟩ := slice_form hr.1
    have hl := IsStms.len _ _ hs
    refine deeds_loop n ih xs w S ad ln cp vs hx hn hw hS hr hs ?_
    rcases hr.1.2 with ⟨h1, h2⟩ | ⟨g, cap, cur, h1, _⟩
    · injection h1 with _ h3; omega
    · injection h1 with _ h3; omega

theorem deeds_any (xs : List Stm) (w : World) (S : Nat → Prop) (v : Value) (hx : (txts xs).length ≤ 400) (hw : wfs xs = true) (hS : ∀ k, S k → k < w.heap.size) (hB : IsBody w S xs v) :
    Calls Tryz.prog 49 #[v] w fun e w' => e = .returned (ddV (dds xs)) ∧ Below w.heap.size w w' :=
  deeds_all 400 xs w S v hx (Nat.le_refl _) hw hS hB
end Go.Proofs.YtkdnbdgpcgookaaGreatDoor
