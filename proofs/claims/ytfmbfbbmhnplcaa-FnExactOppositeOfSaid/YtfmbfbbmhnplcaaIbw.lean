/- inBothWays: what fromInside makes of a cut and of its parts in both ways. Condition: cuts that are well formed. -/
import Derived.Test.YtfmbfbbmhnplcaaIsd
import Derived.Deep.RegionHeld3
namespace Go.Proofs.Ytfmbfbbmhnplcaa
open Go.RowKit Gram

theorem tf_prt (pv : Value) (w : World) : (Instr.typeAssert (.iface 82 pv) 29 85 true).run Try.prog w = .ok (.tuple #[.agg #[.bool false], .bool false]) w := by kernel_rfl
theorem tf_lt (pv : Value) (w : World) : (Instr.typeAssert (.iface 66 pv) 29 85 true).run Try.prog w = .ok (.tuple #[.agg #[.bool false], .bool false]) w := by kernel_rfl
theorem tf_fix (pv : Value) (w : World) : (Instr.typeAssert (.iface 85 pv) 29 85 true).run Try.prog w = .ok (.tuple #[pv, .bool true]) w := by kernel_rfl
theorem to_prt (pv : Value) (w : World) : (Instr.typeAssert (.iface 82 pv) 29 60 true).run Try.prog w = .ok (.tuple #[.agg #[.nilIface], .bool false]) w := by kernel_rfl
theorem to_lt (pv : Value) (w : World) : (Instr.typeAssert (.iface 66 pv) 29 60 true).run Try.prog w = .ok (.tuple #[.agg #[.nilIface], .bool false]) w := by kernel_rfl
theorem to_fix (pv : Value) (w : World) : (Instr.typeAssert (.iface 85 pv) 29 60 true).run Try.prog w = .ok (.tuple #[.agg #[.nilIface], .bool false]) w := by kernel_rfl
theorem to_two (pv : Value) (w : World) : (Instr.typeAssert (.iface 31 pv) 29 60 true).run Try.prog w = .ok (.tuple #[.agg #[.nilIface], .bool false]) w := by kernel_rfl
theorem to_opp (pv : Value) (w : World) : (Instr.typeAssert (.iface 60 pv) 29 60 true).run Try.prog w = .ok (.tuple #[pv, .bool true]) w := by kernel_rfl
theorem tp_two (pv : Value) (w : World) : (Instr.typeAssert (.iface 31 pv) 29 31 true).run Try.prog w = .ok (.tuple #[pv, .bool true]) w := by kernel_rfl
theorem tp_prt (pv : Value) (w : World) : (Instr.typeAssert (.iface 82 pv) 29 31 true).run Try.prog w = .ok (.tuple #[.agg #[.int .u8 0, .nilIface, .nilIface], .bool false]) w := by kernel_rfl
theorem tp_lt (pv : Value) (w : World) : (Instr.typeAssert (.iface 66 pv) 29 31 true).run Try.prog w = .ok (.tuple #[.agg #[.int .u8 0, .nilIface, .nilIface], .bool false]) w := by kernel_rfl
theorem tp_fix (pv : Value) (w : World) : (Instr.typeAssert (.iface 85 pv) 29 31 true).run Try.prog w = .ok (.tuple #[.agg #[.int .u8 0, .nilIface, .nilIface], .bool false]) w := by kernel_rfl

set_option maxHeartbeats 400000 in
theorem so_fix (b : Bool) (w : World) : Calls Try.prog 31 #[.iface 85 (.agg #[.bool b])] w fun e w' => e = .returned (.iface 85 (.agg #[.bool (!b)])) ∧ Below w.heap.size w w' := by
  have h := tf_fix
  go_enter Try.func31, Try.ntmps31
  go_wp2_with fail
  go_ret
  exact ⟨rfl, (Below.refl _ _).alloc (Nat.le_refl _) _⟩
set_option maxHeartbeats 400000 in
theorem so_leaf (ty : TypeId) (pv : Value) (h : ∀ w, (Instr.typeAssert (.iface ty pv) 29 85 true).run Try.prog w = .ok (.tuple #[.agg #[.bool false], .bool false]) w)
    (h2 : ∀ w, (Instr.typeAssert (.iface ty pv) 29 60 true).run Try.prog w = .ok (.tuple #[.agg #[.nilIface], .bool false]) w) (w : World) :
    Calls Try.prog 31 #[.iface ty pv] w fun e w' => e = .returned (.iface 60 (.agg #[.iface ty pv])) ∧ Below w.heap.size w w' := by
  go_enter Try.func31, Try.ntmps31
  go_wp2_with fail
  go_ret
  exact ⟨rfl, ((Below.refl _ _).alloc (Nat.le_refl _) _).alloc (by simp) _⟩

theorem ex_sign (g : UInt8) (hg : g = 38 ∨ g = 124) (w : World) : Calls Try.prog 30 #[.int .u8 g.toNat] w fun e w' => e = .returned (.int .u8 (162 - g).toNat) ∧ w = w' := by
  rcases hg with rfl | rfl
  all_goals
    go_enter Try.func30, Try.ntmps30
    go_wp2_with fail
    go_ret
    exact ⟨rfl, rfl⟩

/-- a cut in both ways -/
def bwV (x : Ct) : Value := .agg #[(nnf false x).val, (nnf true x).val]
def bwC (l : List Ct) : List Value := l.flatMap fun x => [(nnf false x).val, (nnf true x).val]

/-- a result in both ways in a block of its own -/
structure BAt (w : World) (g : Nat) (x y : Value) : Prop where
  own : w.heap[g]? = some (Obj.cells #[x, y] 40 (0, 0))
theorem BAt.read {w : World} {g : Nat} {x y : Value} (h : BAt w g x y) : w.cell? ⟨g, 0, none⟩ = some x ∧ w.cell? ⟨g, 1, none⟩ = some y ∧ w.frozen? ⟨g, 0, none⟩ = false ∧ w.frozen? ⟨g, 1, none⟩ = false :=
  ⟨Lib.cell_of_heap h.own 0, Lib.cell_of_heap h.own 1, Lib.frozen_of_heap h.own 0, Lib.frozen_of_heap h.own 1⟩
theorem BAt.put {w : World} {g : Nat} {x y : Value} (h : BAt w g x y) (x' y' : Value) : BAt ((w.setCell ⟨g, 0, none⟩ x').setCell ⟨g, 1, none⟩ y') g x' y' :=
  ⟨by rw [heap_set_same (heap_set_same h.own _) _]; rfl⟩
theorem BAt.later {w w' : World} {g : Nat} {x y : Value} (h : BAt w g x y) (hb : Below w.heap.size w w') : BAt w' g x y := ⟨by rw [hb.block g (heap_lt h.own)]; exact h.own⟩
theorem bput_below {w w1 : World} (hb : Below w.heap.size w w1) (x y : Value) : Below w.heap.size w ((w1.setCell ⟨w.heap.size, 0, none⟩ x).setCell ⟨w.heap.size, 1, none⟩ y) :=
  (hb.setCell (p := ⟨w.heap.size, 0, none⟩) (Nat.le_refl _) _).setCell (p := ⟨w.heap.size, 1, none⟩) (Nat.le_refl _) _
theorem bw_start (w : World) : Below w.heap.size w (w.alloc (Obj.cells #[.nilIface, .nilIface] 40)) ∧ BAt (w.alloc (Obj.cells #[.nilIface, .nilIface] 40)) w.heap.size .nilIface .nilIface :=
  ⟨(Below.refl _ _).alloc (Nat.le_refl _) _, ⟨heap_alloc_new w _⟩⟩

set_option maxHeartbeats 400000 in
set_option maxRecDepth 100000 in
theorem bw_fix (b : Bool) (v : Value) (w : World) : Calls Try.prog 19 #[.iface 85 (.agg #[.bool b]), v] w fun e w' => e = .returned (.agg #[.iface 85 (.agg #[.bool b]), .iface 85 (.agg #[.bool (!b)])]) ∧ Below w.heap.size w w' := by
  have h1 := to_fix
  have h2 := tp_fix
  have HS := Lib.hid (so_fix b)
  have H0 := Lib.hid (bw_start w)
  go_enter Try.func19, Try.ntmps19
  go_wp2_with fail
  refine (HS.out _).mono ?_
  rintro e w2 ⟨rfl, hb⟩
  have H2 := Lib.hid (⟨H0.out.1.trans (hb.mono H0.out.1.size), H0.out.2.later hb⟩ : Below w.heap.size w w2 ∧ BAt w2 w.heap.size _ _)
  obtain ⟨_, _, f0, f1⟩ := H2.out.2.read
  clear hb
  go_wp2_with fail
  obtain ⟨r0, r1, _, _⟩ := (H2.out.2.put (.iface 85 (.agg #[.bool b])) (.iface 85 (.agg #[.bool (!b)]))).read
  refine bodyPost_ret (v := .agg #[.iface 85 (.agg #[.bool b]), .iface 85 (.agg #[.bool (!b)])]) ?_ rfl ⟨rfl, bput_below H2.out.1 _ _⟩
  simp [results, Try.results19, go_sem, r0, r1]
set_option maxHeartbeats 400000 in
set_option maxRecDepth 100000 in
theorem bw_leaf (ty : TypeId) (pv : Value) (h : ∀ w, (Instr.typeAssert (.iface ty pv) 29 85 true).run Try.prog w = .ok (.tuple #[.agg #[.bool false], .bool false]) w)
    (h2 : ∀ w, (Instr.typeAssert (.iface ty pv) 29 60 true).run Try.prog w = .ok (.tuple #[.agg #[.nilIface], .bool false]) w)
    (h3 : ∀ w, (Instr.typeAssert (.iface ty pv) 29 31 true).run Try.prog w = .ok (.tuple #[.agg #[.int .u8 0, .nilIface, .nilIface], .bool false]) w) (v : Value) (w : World) :
    Calls Try.prog 19 #[.iface ty pv, v] w fun e w' => e = .returned (.agg #[.iface ty pv, .iface 60 (.agg #[.iface ty pv])]) ∧ Below w.heap.size w w' := by
  have HS := Lib.hid (so_leaf ty pv h h2)
  have H0 := Lib.hid (bw_start w)
  go_enter Try.func19, Try.ntmps19
  go_wp2_with fail
  refine (HS.out _).mono ?_
  rintro e w2 ⟨rfl, hb⟩
  have H2 := Lib.hid (⟨H0.out.1.trans (hb.mono H0.out.1.size), H0.out.2.later hb⟩ : Below w.heap.size w w2 ∧ BAt w2 w.heap.size _ _)
  obtain ⟨_, _, f0, f1⟩ := H2.out.2.read
  clear hb
  go_wp2_with fail
  obtain ⟨r0, r1, _, _⟩ := (H2.out.2.put (.iface ty pv) (.iface 60 (.agg #[.iface ty pv]))).read
  refine bodyPost_ret (v := .agg #[.iface ty pv, .iface 60 (.agg #[.iface ty pv])]) ?_ rfl ⟨rfl, bput_below H2.out.1 _ _⟩
  simp [results, Try.results19, go_sem, r0, r1]

theorem cell_below {w w' : World} {g k : Nat} {v : Value} (hb : Below w.heap.size w w') (h : w.cell? ⟨g, k, none⟩ = some v) : w'.cell? ⟨g, k, none⟩ = some v := by
  rw [hb.cell (World.block_lt_of_cell? w _ h)]; exact h
theorem two_allocs (w : World) (o : Obj) : Below w.heap.size w ((w.alloc (Obj.cells #[.nilIface, .nilIface] 40)).alloc o) ∧ BAt ((w.alloc (Obj.cells #[.nilIface, .nilIface] 40)).alloc o) w.heap.size .nilIface .nilIface :=
  ⟨(bw_start w).1.alloc (bw_start w).1.size o, ⟨by rw [Lib.alloc_old _ _ _ (by rw [alloc_size']; omega)]; exact (bw_start w).2.own⟩⟩
theorem BAt.drew {w : World} {g : Nat} {x y : Value} (h : BAt w g x y) (n : Nat) : BAt (w.drewN n) g x y := ⟨h.own⟩

/-- what a cell holds, whatever it is -/
def curOf (w : World) (p : Addr) : Value := (w.cell? p).getD .nilIface
theorem cur_of {w : World} {p : Addr} {v : Value} (h : w.cell? p = some v) : w.cell? p = some (curOf w p) := by rw [curOf, h]; rfl
theorem cell_put {w : World} {g j k l : Nat} (hne : j ≠ g) (u : Value) : (w.setCell ⟨g, k, none⟩ u).cell? ⟨j, l, none⟩ = w.cell? ⟨j, l, none⟩ :=
  World.cell?_of_block (a := ⟨j, l, none⟩) (heap_set_other (g := g) (j := j) hne u)
theorem cell_puts {w : World} {g j l : Nat} (hne : j ≠ g) (u v : Value) : ((w.setCell ⟨g, 0, none⟩ u).setCell ⟨g, 1, none⟩ v).cell? ⟨j, l, none⟩ = w.cell? ⟨j, l, none⟩ := by
  rw [cell_put hne, cell_put hne]
theorem keep_put {w W : World} {g s1 : Nat} {t0 t1 t2 t3 : TypeId} {a0 a1 a2 a3 : Value} (hg : g < w.heap.size) (X Y : Value) (h : (W.cell? ⟨g, 0, none⟩ = some (.iface t0 a0) ∧ W.cell? ⟨g, 1, none⟩ = some (.iface t1 a1) ∧ W.cell? ⟨g, 2, none⟩ = some (.iface t2 a2) ∧ W.cell? ⟨g, 3, none⟩ = some (.iface t3 a3) ∧ W.cell? ⟨w.heap.size + 1, 0, none⟩ = some (.int .u8 s1) ∧ W.frozen? ⟨w.heap.size, 0, none⟩ = false ∧ W.frozen? ⟨w.heap.size, 1, none⟩ = false ∧ W.cell? ⟨w.heap.size, 0, none⟩ = some (curOf W ⟨w.heap.size, 0, none⟩) ∧ W.cell? ⟨w.heap.size, 1, none⟩ = some (curOf W ⟨w.heap.size, 1, none⟩) ∧ (∃ x y, BAt W w.heap.size x y))) :
    (((W.setCell ⟨w.heap.size, 0, none⟩ X).setCell ⟨w.heap.size, 1, none⟩ Y).cell? ⟨g, 0, none⟩ = some (.iface t0 a0) ∧ ((W.setCell ⟨w.heap.size, 0, none⟩ X).setCell ⟨w.heap.size, 1, none⟩ Y).cell? ⟨g, 1, none⟩ = some (.iface t1 a1) ∧ ((W.setCell ⟨w.heap.size, 0, none⟩ X).setCell ⟨w.heap.size, 1, none⟩ Y).cell? ⟨g, 2, none⟩ = some (.iface t2 a2) ∧ ((W.setCell ⟨w.heap.size, 0, none⟩ X).setCell ⟨w.heap.size, 1, none⟩ Y).cell? ⟨g, 3, none⟩ = some (.iface t3 a3) ∧ ((W.setCell ⟨w.heap.size, 0, none⟩ X).setCell ⟨w.heap.size, 1, none⟩ Y).cell? ⟨w.heap.size + 1, 0, none⟩ = some (.int .u8 s1) ∧ ((W.setCell ⟨w.heap.size, 0, none⟩ X).setCell ⟨w.heap.size, 1, none⟩ Y).frozen? ⟨w.heap.size, 0, none⟩ = false ∧ ((W.setCell ⟨w.heap.size, 0, none⟩ X).setCell ⟨w.heap.size, 1, none⟩ Y).frozen? ⟨w.heap.size, 1, none⟩ = false ∧ ((W.setCell ⟨w.heap.size, 0, none⟩ X).setCell ⟨w.heap.size, 1, none⟩ Y).cell? ⟨w.heap.size, 0, none⟩ = some (curOf ((W.setCell ⟨w.heap.size, 0, none⟩ X).setCell ⟨w.heap.size, 1, none⟩ Y) ⟨w.heap.size, 0, none⟩) ∧ ((W.setCell ⟨w.heap.size, 0, none⟩ X).setCell ⟨w.heap.size, 1, none⟩ Y).cell? ⟨w.heap.size, 1, none⟩ = some (curOf ((W.setCell ⟨w.heap.size, 0, none⟩ X).setCell ⟨w.heap.size, 1, none⟩ Y) ⟨w.heap.size, 1, none⟩) ∧ (∃ x y, BAt ((W.setCell ⟨w.heap.size, 0, none⟩ X).setCell ⟨w.heap.size, 1, none⟩ Y) w.heap.size x y)) := by
  obtain ⟨d0, d1, d2, d3, c0, _, _, _, _, x, y, hB⟩ := h
  have hP := hB.put X Y
  obtain ⟨r0, r1, f0, f1⟩ := hP.read
  exact ⟨by rw [cell_puts (by omega)]; exact d0, by rw [cell_puts (by omega)]; exact d1, by rw [cell_puts (by omega)]; exact d2, by rw [cell_puts (by omega)]; exact d3, by rw [cell_puts (by omega)]; exact c0, f0, f1, cur_of r0, cur_of r1, X, Y, hP⟩

set_option maxHeartbeats 1000000 in
set_option maxRecDepth 100000 in
theorem bw_opp (tz : TypeId) (az : Value) (g c : Nat) (t0 t1 : TypeId) (a0 a1 : Value) (w : World) (h0 : w.cell? ⟨g, 0, none⟩ = some (.iface t0 a0)) (h1 : w.cell? ⟨g, 1, none⟩ = some (.iface t1 a1)) (_hc : 1 ≤ c) :
    Calls Try.prog 19 #[.iface 60 (.agg #[.iface tz az]), .slice (some ⟨g, 0, none⟩) 1 c] w fun e w' => e = .returned (.agg #[.iface t1 a1, .iface t0 a0]) ∧ Below w.heap.size w w' := by
  have h2 := to_opp
  have H0 := Lib.hid (two_allocs w (Obj.cells #[.iface tz az] 60))
  have d0 := cell_below H0.out.1 h0
  have d1 := cell_below H0.out.1 h1
  clear h0 h1
  go_enter Try.func19, Try.ntmps19
  go_wp2_with fail
  generalize (w.alloc (Obj.cells #[.nilIface, .nilIface] 40)).alloc (Obj.cells #[.iface tz az] 60) = w5 at *
  obtain ⟨e0, e1, f0, f1⟩ := H0.out.2.read
  go_region_with (fail)
  all_goals go_wp2_with fail
  all_goals
    obtain ⟨r0, r1, _, _⟩ := (H0.out.2.put (.iface t1 a1) (.iface t0 a0)).read
    refine bodyPost_ret (v := .agg #[.iface t1 a1, .iface t0 a0]) ?_ rfl ⟨rfl, (bput_below H0.out.1 _ _).drew⟩
    simp [results, Try.results19, go_sem, r0, r1]
set_option maxHeartbeats 1000000 in
set_option maxRecDepth 100000 in
theorem bw_two (s1 s2 : Nat) (hs : ∀ w, Calls Try.prog 30 #[.int .u8 s1] w fun e w' => e = .returned (.int .u8 s2) ∧ w = w') (ty ty2 : TypeId) (av av2 : Value) (g c : Nat) (t0 t1 t2 t3 : TypeId) (a0 a1 a2 a3 : Value) (w : World) (h0 : w.cell? ⟨g, 0, none⟩ = some (.iface t0 a0)) (h1 : w.cell? ⟨g, 1, none⟩ = some (.iface t1 a1)) (h2 : w.cell? ⟨g, 2, none⟩ = some (.iface t2 a2)) (h3 : w.cell? ⟨g, 3, none⟩ = some (.iface t3 a3)) (hc : 2 ≤ c) :
    Calls Try.prog 19 #[.iface 31 (.agg #[.int .u8 s1, .iface ty av, .iface ty2 av2]), .slice (some ⟨g, 0, none⟩) 2 c] w fun e w' => e = .returned (.agg #[.iface 31 (.agg #[.int .u8 s1, .iface t0 a0, .iface t2 a2]), .iface 31 (.agg #[.int .u8 s2, .iface t1 a1, .iface t3 a3])]) ∧ Below w.heap.size w w' := by
  have h5 := to_two
  have h6 := tp_two
  have HS := Lib.hid hs
  have H0 := Lib.hid (two_allocs w (Obj.cells #[.int .u8 s1, .iface ty av, .iface ty2 av2] 31))
  have hgl := World.block_lt_of_cell? w _ h0
  have d0 := cell_below H0.out.1 h0
  have d1 := cell_below H0.out.1 h1
  have d2 := cell_below H0.out.1 h2
  have d3 := cell_below H0.out.1 h3
  have hC := heap_alloc_new (w.alloc (Obj.cells #[.nilIface, .nilIface] 40)) (Obj.cells #[.int .u8 s1, .iface ty av, .iface ty2 av2] 31)
  rw [alloc_size'] at hC
  have c0 := Lib.cell_of_heap hC 0
  simp only [List.getElem?_toArray, List.getElem?_cons_zero] at c0
  clear h0 h1 h2 h3 hC
  go_enter Try.func19, Try.ntmps19
  go_wp2_with fail
  generalize (w.alloc (Obj.cells #[.nilIface, .nilIface] 40)).alloc (Obj.cells #[.int .u8 s1, .iface ty av, .iface ty2 av2] 31) = w5 at *
  obtain ⟨e0, e1, f0, f1⟩ := H0.out.2.read
  clear hs
  have hH : w5.drew.cell? ⟨g, 0, none⟩ = some (.iface t0 a0) ∧ w5.drew.cell? ⟨g, 1, none⟩ = some (.iface t1 a1) ∧ w5.drew.cell? ⟨g, 2, none⟩ = some (.iface t2 a2) ∧ w5.drew.cell? ⟨g, 3, none⟩ = some (.iface t3 a3) ∧ w5.drew.cell? ⟨w.heap.size + 1, 0, none⟩ = some (.int .u8 s1) ∧ w5.drew.frozen? ⟨w.heap.size, 0, none⟩ = false ∧ w5.drew.frozen? ⟨w.heap.size, 1, none⟩ = false ∧ w5.drew.cell? ⟨w.heap.size, 0, none⟩ = some (curOf w5.drew ⟨w.heap.size, 0, none⟩) ∧ w5.drew.cell? ⟨w.heap.size, 1, none⟩ = some (curOf w5.drew ⟨w.heap.size, 1, none⟩) ∧ (∃ x y, BAt w5.drew w.heap.size x y) := ⟨d0, d1, d2, d3, c0, f0, f1, cur_of (p := ⟨w.heap.size, 0, none⟩) (w := w5.drew) e0, cur_of (p := ⟨w.heap.size, 1, none⟩) (w := w5.drew) e1, _, _, ⟨H0.out.2.own⟩⟩
  have HG := Lib.hid hgl
  have HH := Lib.hid H0.out
  clear d0 d1 d2 d3 c0 hgl H0
  go_region_held3 (fun w' => w'.cell? ⟨g, 0, none⟩ = some (.iface t0 a0) ∧ w'.cell? ⟨g, 1, none⟩ = some (.iface t1 a1) ∧ w'.cell? ⟨g, 2, none⟩ = some (.iface t2 a2) ∧ w'.cell? ⟨g, 3, none⟩ = some (.iface t3 a3) ∧ w'.cell? ⟨w.heap.size + 1, 0, none⟩ = some (.int .u8 s1) ∧ w'.frozen? ⟨w.heap.size, 0, none⟩ = false ∧ w'.frozen? ⟨w.heap.size, 1, none⟩ = false ∧ w'.cell? ⟨w.heap.size, 0, none⟩ = some (curOf w' ⟨w.heap.size, 0, none⟩) ∧ w'.cell? ⟨w.heap.size, 1, none⟩ = some (curOf w' ⟨w.heap.size, 1, none⟩) ∧ (∃ x y, BAt w' w.heap.size x y)) ((first | assumption | exact hH | exact keep_put HG.out _ _ (by assumption))) ((with_reducible refine (HS.out _).mono ?_; rintro e w' ⟨rfl, rfl⟩))
  all_goals go_wp2_with fail
  all_goals
    obtain ⟨r0, r1, _, _⟩ := (HH.out.2.put (.iface 31 (.agg #[.int .u8 s1, .iface t0 a0, .iface t2 a2])) (.iface 31 (.agg #[.int .u8 s2, .iface t1 a1, .iface t3 a3]))).read
    refine bodyPost_ret (v := .agg #[.iface 31 (.agg #[.int .u8 s1, .iface t0 a0, .iface t2 a2]), .iface 31 (.agg #[.int .u8 s2, .iface t1 a1, .iface t3 a3])]) ?_ rfl ⟨rfl, (bput_below HH.out.1 _ _).drew⟩
    simp [results, Try.results19, go_sem, r0, r1]

theorem nth_cell {g : Nat} (j : Nat) : (⟨g, 0, none⟩ : Addr).add j = ⟨g, j, none⟩ := by unfold Addr.add; split <;> simp_all

theorem bw_row (l : List Ct) (w : World) (B : Nat) (v : Value) (h : w.ownsRow B 40 2 v l.length (bwC l)) (h0 : 0 < l.length) :
    ∃ g c, v = .slice (some ⟨g, 0, none⟩) l.length c ∧ l.length ≤ c ∧ ∀ j u, (bwC l)[j]? = some u → w.cell? ⟨g, j, none⟩ = some u := by
  rcases h.2 with ⟨h1, h2⟩ | ⟨g, cap, cur, h1, _, hc, hle, _⟩
  · omega
  · subst h1
    refine ⟨g, cap, rfl, hle, fun j u hj => ?_⟩
    have := h.cells (g := g) rfl j u hj
    rw [nth_cell] at this; exact this

/-- what inBothWays makes of a cut and of its parts in both ways -/
theorem bw_all (x : Ct) (hw : x.wf = true) (w : World) (B : Nat) (v : Value) (h : w.ownsRow B 40 2 v (kids x).length (bwC (kids x))) :
    Calls Try.prog 19 #[x.val, v] w fun e w' => e = .returned (bwV x) ∧ Below w.heap.size w w' := by
  cases x with
  | prt => exact bw_leaf _ _ (tf_prt _) (to_prt _) (tp_prt _) v w
  | lt g c => exact bw_leaf _ _ (tf_lt _) (to_lt _) (tp_lt _) v w
  | fix b =>
    have := bw_fix b v w
    refine this.mono ?_
    rintro e w' ⟨rfl, hb⟩
    exact ⟨by cases b <;> rfl, hb⟩
  | opp y =>
    obtain ⟨g, c, rfl, hc, hcl⟩ := bw_row _ w B v h (by simp [kids])
    exact bw_opp y.ty y.arg g c _ _ _ _ w (hcl 0 (nnf false y).val rfl) (hcl 1 (nnf true y).val rfl) hc
  | two s y z =>
    simp only [Ct.wf, Bool.and_eq_true] at hw
    have hs : s = 38 ∨ s = 124 := by simpa only [isAO, Bool.or_eq_true, beq_iff_eq] using hw.1
    obtain ⟨g, c, rfl, hc, hcl⟩ := bw_row _ w B v h (by simp [kids])
    exact bw_two s.toNat (162 - s).toNat (ex_sign s hs) y.ty z.ty y.arg z.arg g c _ _ _ _ _ _ _ _ w (hcl 0 (nnf false y).val rfl) (hcl 1 (nnf true y).val rfl) (hcl 2 (nnf false z).val rfl) (hcl 3 (nnf true z).val rfl) hc
end Go.Proofs.Ytfmbfbbmhnplcaa
