/- How the program's runner lies in memory: its nine cells, the rows of what it printed and of its join points; the program that it runs stays. Plain lemmas; no walk. The program's runner: step, change, joinPointAt, comeTo. Conditions: a runner in memory, within the limits of runs. The program's runner: activate, call, choose, doStep, do, for a way of doing bodies. Conditions: a runner in memory, within the limits of runs; the bodies call only procedures of the program. The program's runner: doStep and do, for a way of doing bodies. Conditions: as before. The program's runner: doAll does what the plain exec does. Conditions: as before; enough left of the plain run's fuel. The program's (*runner).run: a whole run, whose end its deferred literal tells. Conditions: as before. The program's runnerOf and runOf: a run of a procedure of a program from a value. Conditions: texts of at most 2^30 bytes, and the library's own number can be read. -/
import Derived.Test.YtomodlllmbkndaaGreatDoorRun
import Derived.Test.YtomodlllmbkndaaGreatDoorAx
import Derived.Test.YtomodlllmbkndaaGreatDoorA5
import Derived.Deep.AppendLies
import Derived.Deep.Upon
import Derived.Lib.AppendZeros
import Derived.Deep.RegionHeldLaw
import Derived.Deep.QuietTactic
import Derived.BigQuiet
import Derived.Lib.OthersKept
import Derived.Laws.EntriesVeiled
namespace Go.Proofs.YtomodlllmbkndaaGreatDoor
open Go.RowKit Gram

/-- an append of elements at a step of a region: there is an answer so that R -/
theorem step_append_at {t : TypeId} {ops : Array Oper} {o : Oper} {a : Act} {w : World} {K : Act → World → Prop} {Q : Exit → Act → World → Prop} {E : Prop} (hgd : o.guard = none) (s x : Operand)
    (ho : o.op = .call { callee := .builtin .append, args := #[s, x], argTypes := #[t, t] }) (hty : o.type = t) (vs vx : Value) (hs : a.eval s = vs) (hx : a.eval x = vx) (n : Nat) (R : Nat → Nat → World → Prop)
    (hr : ∃ g c w', (Builtin.append_ #[t, t] t #[vs, vx]).run Tryz.prog w = .ok (.slice (some ⟨g, 0, none⟩) n c) w' ∧ R g c w')
    (h : ∀ g c w', R g c w' → K (a.put o.dst (.slice (some ⟨g, 0, none⟩) n c)) w') :
    if Region.wanted o (yielded ops a.tmps) = true then Oper.wp Tryz.prog o a w K Q else E := by
  have hw : Region.wanted o (yielded ops a.tmps) = true := by simp [Region.wanted, hgd]
  rw [if_pos hw]
  obtain ⟨g, c, w', hrun, hR⟩ := hr
  exact Lib.wp_append_run w s x _ _ ho vs vx hs hx _ w' (by rw [hty]; exact hrun) (h _ _ _ hR)

/-- below block B all is as it was, and so is everything but runs, numbers and join points -/
structure Kp (B : Nat) (w w' : World) : Prop where
  below : Below B w w'
  rest : ∀ (k : Nat) (cur : Array Value) (e : TypeId) (fz : Nat × Nat), w.heap[k]? = some (.cells cur e fz) → (e ≠ 66 ∧ e ≠ 96 ∧ e ≠ 3 ∧ e ≠ 49) → w'.heap[k]? = some (.cells cur e fz)
theorem Kp.refl (B : Nat) (w : World) : Kp B w w := ⟨Below.refl B w, fun _ _ _ _ h _ => h⟩
theorem Kp.trans {B : Nat} {a b c : World} (h : Kp B a b) (k : Kp B b c) : Kp B a c := ⟨h.below.trans k.below, fun i cur e fz hi he => k.rest i cur e fz (h.rest i cur e fz hi he) he⟩
theorem Kp.of {B : Nat} {w w' : World} (h : Below w.heap.size w w') (hB : B ≤ w.heap.size) : Kp B w w' := ⟨h.mono hB, fun k cur e fz hk _ => by rw [h.block k (heap_lt hk)]; exact hk⟩
theorem Kp.drew {B : Nat} {a w : World} (h : Kp B a w) : Kp B a w.drew := ⟨h.below.drew, h.rest⟩
theorem Kp.block {B : Nat} {w w' : World} (h : Kp B w w') (k : Nat) (hk : k < B) : w'.heap[k]? = w.heap[k]? := h.below.block k hk
theorem Kp.size {B : Nat} {w w' : World} (h : Kp B w w') : w.heap.size ≤ w'.heap.size := h.below.size
theorem Kp.setAt {B g : Nat} {a w : World} {cur : Array Value} {e : TypeId} {fz : Nat × Nat} (h : Kp B a w) (hg : w.heap[g]? = some (.cells cur e fz)) (he : ¬ (e ≠ 66 ∧ e ≠ 96 ∧ e ≠ 3 ∧ e ≠ 49)) (hB : B ≤ g) (k : Nat) (u : Value) : Kp B a (w.setCell ⟨g, k, none⟩ u) :=
  ⟨h.below.setCell (p := ⟨g, k, none⟩) hB u, fun i cur' e' fz' hi he' => by
    have h1 := h.rest i cur' e' fz' hi he'
    rw [heap_set_other (by
      rintro rfl
      rw [hg] at h1
      injection h1 with h1
      injection h1 with _ h2 _
      subst h2
      exact he he')]
    exact h1⟩

/-- the cells of a runner -/
def rnC (m : Mst) (ov pv jv fv : Value) : Array Value := #[.int .i64 m.val, ov, .string (txtOf []), .int .i64 m.steps, pv, jv, .string (txtOf m.stk), .int .i64 m.deep, fv]

/-- a runner in memory, its rows from block B on -/
structure RnE (w : World) (B rb : Nat) (pv fv ov jv : Value) (m : Mst) : Prop where
  own : w.heap[rb]? = some (.cells (rnC m ov pv jv fv) 66 (0, 0))
  low : B ≤ rb
  out : w.ownsRow B 3 1 ov m.out.length (intVs m.out)
  pts : w.ownsRow B 49 3 jv m.pts.length (jpC m.pts)

section
variable {w : World} {B rb : Nat} {pv fv ov jv : Value} {m : Mst}

theorem RnE.out_ne (h : RnE w B rb pv fv ov jv m) {g : Nat} (hg : ov.ownBlock = some g) : g ≠ rb ∧ jv.ownBlock ≠ some g ∧ g < w.heap.size ∧ B ≤ g := by
  obtain ⟨hb, cur, hc⟩ := row_block h.out hg
  refine ⟨?_, row_apart h.out h.pts (by decide) hg, heap_lt hc, hb⟩
  rintro rfl
  rw [h.own] at hc
  injection hc with hc
  injection hc with _ ht _
  exact absurd ht (by decide)
theorem RnE.pts_ne (h : RnE w B rb pv fv ov jv m) {g : Nat} (hg : jv.ownBlock = some g) : g ≠ rb ∧ ov.ownBlock ≠ some g ∧ g < w.heap.size ∧ B ≤ g := by
  obtain ⟨hb, cur, hc⟩ := row_block h.pts hg
  refine ⟨?_, row_apart h.pts h.out (by decide) hg, heap_lt hc, hb⟩
  rintro rfl
  rw [h.own] at hc
  injection hc with hc
  injection hc with _ ht _
  exact absurd ht (by decide)
theorem RnE.lt (h : RnE w B rb pv fv ov jv m) : rb < w.heap.size := heap_lt h.own
theorem RnE.big (h : RnE w B rb pv fv ov jv m) : B ≤ w.heap.size := by have := h.lt; have := h.low; omega
theorem RnE.later (h : RnE w B rb pv fv ov jv m) {w' : World} (hb : ∀ k, k < w.heap.size → w'.heap[k]? = w.heap[k]?) : RnE w' B rb pv fv ov jv m :=
  ⟨by rw [hb rb h.lt]; exact h.own, h.low, ownsRow_of h.out fun g hg => hb g (h.out_ne hg).2.2.1, ownsRow_of h.pts fun g hg => hb g (h.pts_ne hg).2.2.1⟩
theorem RnE.cell (h : RnE w B rb pv fv ov jv m) (k : Nat) : w.cell? ⟨rb, k, none⟩ = (rnC m ov pv jv fv)[k]? := Lib.cell_of_heap h.own k
theorem RnE.free (h : RnE w B rb pv fv ov jv m) (k : Nat) : w.frozen? ⟨rb, k, none⟩ = false := Lib.frozen_of_heap h.own k

/-- a cell is another one now -/
theorem RnE.setc (h : RnE w B rb pv fv ov jv m) (k : Nat) (u : Value) (m' : Mst) (hc : (rnC m ov pv jv fv).setIfInBounds k u = rnC m' ov pv jv fv) (ho : m'.out = m.out) (hp : m'.pts = m.pts) :
    RnE (w.setCell ⟨rb, k, none⟩ u) B rb pv fv ov jv m' ∧ Kp B w (w.setCell ⟨rb, k, none⟩ u) := by
  refine ⟨⟨by rw [← hc]; exact heap_set_same h.own u, h.low, ?_, ?_⟩, (Kp.refl _ _).setAt h.own (by decide) h.low _ _⟩
  · rw [ho]; exact ownsRow_of h.out fun g hg => heap_set_other (h.out_ne hg).1 u
  · rw [hp]; exact ownsRow_of h.pts fun g hg => heap_set_other (h.pts_ne hg).1 u

/-- a cell of another block is another one now -/
theorem RnE.setf (h : RnE w B rb pv fv ov jv m) (c k : Nat) (u : Value) (hc : c ≠ rb) (ho : ov.ownBlock ≠ some c) (hj : jv.ownBlock ≠ some c) : RnE (w.setCell ⟨c, k, none⟩ u) B rb pv fv ov jv m :=
  ⟨by rw [heap_set_other (fun e => hc e.symm)]; exact h.own, h.low, ownsRow_of h.out fun g hg => heap_set_other (fun (e : g = c) => ho (by rw [← e]; exact hg)) u, ownsRow_of h.pts fun g hg => heap_set_other (fun (e : g = c) => hj (by rw [← e]; exact hg)) u⟩

/-- what was printed is longer now -/
theorem RnE.more_out (h : RnE w B rb pv fv ov jv m) {W w1 : World} {g' cap' : Nat} {x : Int} (ho : w1.ownsRow B 3 1 (.slice (some ⟨g', 0, none⟩) (m.out.length + 1) cap') (m.out.length + 1) (intVs m.out ++ [.int .i64 x]))
    (hW : Below w.heap.size w W) (hg : W.grownBy w1 ov.ownBlock) :
    w1.heap[rb]? = w.heap[rb]? ∧ RnE (w1.setCell ⟨rb, 1, none⟩ (.slice (some ⟨g', 0, none⟩) (m.out.length + 1) cap')) B rb pv fv (.slice (some ⟨g', 0, none⟩) (m.out.length + 1) cap') jv { m with out := m.out ++ [x] } ∧
      Kp B w (w1.setCell ⟨rb, 1, none⟩ (.slice (some ⟨g', 0, none⟩) (m.out.length + 1) cap')) ∧
      ∀ k, k < w.heap.size → ov.ownBlock ≠ some k → w1.heap[k]? = w.heap[k]? := by
  have hold : ∀ k, k < w.heap.size → ov.ownBlock ≠ some k → w1.heap[k]? = w.heap[k]? := fun k hk hk' =>
    (hg.block k (by have := hW.size; omega) (fun e' => hk' e'.symm)).trans (hW.block k hk)
  have h1 : w1.heap[rb]? = w.heap[rb]? := hold rb h.lt (fun e => (h.out_ne e).1 rfl)
  have hne : ∀ g, (Value.slice (some ⟨g', 0, none⟩) (m.out.length + 1) cap').ownBlock = some g → g ≠ rb := by
    intro g hgg he
    subst he
    obtain ⟨_, cur, hc⟩ := row_block ho hgg
    rw [h1, h.own] at hc
    injection hc with hc
    injection hc with _ ht _
    exact absurd ht (by decide)
  refine ⟨h1, ⟨?_, h.low, ?_, ?_⟩, ?_, hold⟩
  · rw [heap_set_same (h1.trans h.own)]; rfl
  · have := ownsRow_of (w' := w1.setCell ⟨rb, 1, none⟩ (.slice (some ⟨g', 0, none⟩) (m.out.length + 1) cap')) ho (fun g hgg => heap_set_other (hne g hgg) _)
    simpa [intVs] using this
  · exact ownsRow_of h.pts fun g hgg => by
      obtain ⟨a, b, c, _⟩ := h.pts_ne hgg
      rw [heap_set_other a, hold g c b]
  · refine ⟨((hW.mono h.big).grown hg (by have := h.big; have := hW.size; omega) (fun k hk => (h.out_ne hk).2.2.2)).setCell h.low _, fun k cur e fz hk he => ?_⟩
    rw [heap_set_other (by
      rintro rfl
      rw [h.own] at hk
      injection hk with hk
      injection hk with _ h2 _
      subst h2
      revert he; decide)]
    rw [hold k (heap_lt hk) (fun e' => by
      obtain ⟨_, cur', hc'⟩ := row_block h.out e'
      rw [hk] at hc'
      injection hc' with hc'
      injection hc' with _ h2 _
      subst h2
      revert he; decide)]
    exact hk

/-- there is a join point more now -/
theorem RnE.more_pts (h : RnE w B rb pv fv ov jv m) {W w1 : World} {g' cap' : Nat} {j : Jpt} (ho : w1.ownsRow B 49 3 (.slice (some ⟨g', 0, none⟩) (m.pts.length + 1) cap') (m.pts.length + 1) (jpC m.pts ++ jpC [j]))
    (hW : Below w.heap.size w W) (hg : W.grownBy w1 jv.ownBlock) :
    w1.heap[rb]? = w.heap[rb]? ∧ RnE (w1.setCell ⟨rb, 5, none⟩ (.slice (some ⟨g', 0, none⟩) (m.pts.length + 1) cap')) B rb pv fv ov (.slice (some ⟨g', 0, none⟩) (m.pts.length + 1) cap') { m with pts := m.pts ++ [j] } ∧
      Kp B w (w1.setCell ⟨rb, 5, none⟩ (.slice (some ⟨g', 0, none⟩) (m.pts.length + 1) cap')) ∧
      ∀ k, k < w.heap.size → jv.ownBlock ≠ some k → w1.heap[k]? = w.heap[k]? := by
  have hold : ∀ k, k < w.heap.size → jv.ownBlock ≠ some k → w1.heap[k]? = w.heap[k]? := fun k hk hk' =>
    (hg.block k (by have := hW.size; omega) (fun e' => hk' e'.symm)).trans (hW.block k hk)
  have h1 : w1.heap[rb]? = w.heap[rb]? := hold rb h.lt (fun e => (h.pts_ne e).1 rfl)
  have hne : ∀ g, (Value.slice (some ⟨g', 0, none⟩) (m.pts.length + 1) cap').ownBlock = some g → g ≠ rb := by
    intro g hgg he
    subst he
    obtain ⟨_, cur, hc⟩ := row_block ho hgg
    rw [h1, h.own] at hc
    injection hc with hc
    injection hc with _ ht _
    exact absurd ht (by decide)
  refine ⟨h1, ⟨?_, h.low, ?_, ?_⟩, ?_, hold⟩
  · rw [heap_set_same (h1.trans h.own)]; rfl
  · exact ownsRow_of h.out fun g hgg => by
      obtain ⟨a, b, c, _⟩ := h.out_ne hgg
      rw [heap_set_other a, hold g c b]
  · have := ownsRow_of (w' := w1.setCell ⟨rb, 5, none⟩ (.slice (some ⟨g', 0, none⟩) (m.pts.length + 1) cap')) ho (fun g hgg => heap_set_other (hne g hgg) _)
    simpa [jpC] using this
  · refine ⟨((hW.mono h.big).grown hg (by have := h.big; have := hW.size; omega) (fun k hk => (h.pts_ne hk).2.2.2)).setCell h.low _, fun k cur e fz hk he => ?_⟩
    rw [heap_set_other (by
      rintro rfl
      rw [h.own] at hk
      injection hk with hk
      injection hk with _ h2 _
      subst h2
      revert he; decide)]
    rw [hold k (heap_lt hk) (fun e' => by
      obtain ⟨_, cur', hc'⟩ := row_block h.pts e'
      rw [hk] at hc'
      injection hc' with hc'
      injection hc' with _ h2 _
      subst h2
      revert he; decide)]
    exact hk

/-- the world behind an append to the join points -/
structure MoreP (w : World) (B rb : Nat) (pv fv ov jv : Value) (m : Mst) (j : Jpt) (g c : Nat) (w' : World) : Prop where
  c5 : w'.cell? ⟨rb, 5, none⟩ = some jv
  f5 : w'.frozen? ⟨rb, 5, none⟩ = false
  rn : RnE (w'.setCell ⟨rb, 5, none⟩ (.slice (some ⟨g, 0, none⟩) (m.pts.length + 1) c)) B rb pv fv ov (.slice (some ⟨g, 0, none⟩) (m.pts.length + 1) c) { m with pts := m.pts ++ [j] }
  bel : Kp B w (w'.setCell ⟨rb, 5, none⟩ (.slice (some ⟨g, 0, none⟩) (m.pts.length + 1) c))
  far : ∀ k, k < w.heap.size → jv.ownBlock ≠ some k → w'.heap[k]? = w.heap[k]?
  size : w.heap.size ≤ w'.heap.size
  at_ : jv.ownBlock = some g ∨ w.heap.size ≤ g
theorem RnE.app_pts (h : RnE w B rb pv fv ov jv m) (hl : m.pts.length ≤ 1000) (j : Jpt) (X Y Z : ByteArray) (hj : jpC [j] = [.string X, .string Y, .string Z]) (W : World) (hW : Below w.heap.size w W) (ab : Nat) (hA : W.heap[ab]? = some (.cells #[.string X, .string Y, .string Z] 49 (0, 0))) :
    ∃ g c w', (Builtin.append_ #[44, 44] 44 #[jv, .slice (some ⟨ab, 0, none⟩) 1 1]).run Tryz.prog W = .ok (.slice (some ⟨g, 0, none⟩) (m.pts.length + 1) c) w' ∧ MoreP w B rb pv fv ov jv m j g c w' := by
  obtain ⟨i0, hi, hz0, hz1, hz2⟩ := info_parts info_jp
  have hpts : W.ownsRow B 49 3 jv m.pts.length (jpC m.pts) := ownsRow_of h.pts fun g hg => hW.block g (h.pts_ne hg).2.2.1
  obtain ⟨g', c', w', hrun, h2, h3, hat, _⟩ := run_append_lies (P := Tryz.prog) W 44 44 B 49 i0 (.agg #[.string ⟨#[]⟩, .string ⟨#[]⟩, .string ⟨#[]⟩]) 3 48 Tryz.underlying44 hi hz0 hz1 hz2 rfl (by decide) jv m.pts.length (jpC m.pts) hpts ⟨ab, 0, none⟩ 1 1 [.string X, .string Y, .string Z] rfl
    (World.news_of_block (cs := #[.string X, .string Y, .string Z]) hA) (by intro u hu; simp at hu; rcases hu with rfl | rfl | rfl <;> rfl) (by decide) (by unfold maxLen; omega) (by omega) (by have := h.big; have := hW.size; omega) W.heap.size rfl
  obtain ⟨k1, k2, k3, k4⟩ := h.more_pts (j := j) (by rw [hj]; exact h2) hW h3
  exact ⟨g', c', w', hrun, (World.cell?_of_block (a := ⟨rb, 5, none⟩) k1).trans (h.cell 5), (World.frozen?_of_block (a := ⟨rb, 5, none⟩) k1).trans (h.free 5), k2, k3, k4, Nat.le_trans hW.size h3.size, hat.imp id (fun e => by have := hW.size; omega)⟩

/-- the world behind an append to what was printed -/
structure MoreO (w : World) (B rb : Nat) (pv fv ov jv : Value) (m : Mst) (x : Int) (g c : Nat) (w' : World) : Prop where
  c1 : w'.cell? ⟨rb, 1, none⟩ = some ov
  f1 : w'.frozen? ⟨rb, 1, none⟩ = false
  rn : RnE (w'.setCell ⟨rb, 1, none⟩ (.slice (some ⟨g, 0, none⟩) (m.out.length + 1) c)) B rb pv fv (.slice (some ⟨g, 0, none⟩) (m.out.length + 1) c) jv { m with out := m.out ++ [x] }
  bel : Kp B w (w'.setCell ⟨rb, 1, none⟩ (.slice (some ⟨g, 0, none⟩) (m.out.length + 1) c))
  far : ∀ k, k < w.heap.size → ov.ownBlock ≠ some k → w'.heap[k]? = w.heap[k]?
  size : w.heap.size ≤ w'.heap.size
  at_ : ov.ownBlock = some g ∨ w.heap.size ≤ g
theorem RnE.app_out (h : RnE w B rb pv fv ov jv m) (hl : m.out.length ≤ 1000) (x : Int) (W : World) (hW : Below w.heap.size w W) (ab : Nat) (hA : W.heap[ab]? = some (.cells #[.int .i64 x] 3 (0, 0))) :
    ∃ g c w', (Builtin.append_ #[27, 27] 27 #[ov, .slice (some ⟨ab, 0, none⟩) 1 1]).run Tryz.prog W = .ok (.slice (some ⟨g, 0, none⟩) (m.out.length + 1) c) w' ∧ MoreO w B rb pv fv ov jv m x g c w' := by
  obtain ⟨i0, hi, hz0, hz1, hz2⟩ := info_parts info_int
  have hout : W.ownsRow B 3 1 ov m.out.length (intVs m.out) := ownsRow_of h.out fun g hg => hW.block g (h.out_ne hg).2.2.1
  obtain ⟨g', c', w', hrun, h2, h3, hat, _⟩ := run_append_lies (P := Tryz.prog) W 27 27 B 3 i0 (.int .i64 0) 1 8 Tryz.underlying27 hi hz0 hz1 hz2 rfl (by decide) ov m.out.length (intVs m.out) hout ⟨ab, 0, none⟩ 1 1 [.int .i64 x] rfl
    (World.news_of_block (cs := #[.int .i64 x]) hA) (by intro u hu; simp at hu; subst hu; rfl) (by decide) (by unfold maxLen; omega) (by omega) (by have := h.big; have := hW.size; omega) W.heap.size rfl
  obtain ⟨k1, k2, k3, k4⟩ := h.more_out (x := x) h2 hW h3
  exact ⟨g', c', w', hrun, (World.cell?_of_block (a := ⟨rb, 1, none⟩) k1).trans (h.cell 1), (World.frozen?_of_block (a := ⟨rb, 1, none⟩) k1).trans (h.free 1), k2, k3, k4, Nat.le_trans hW.size h3.size, hat.imp id (fun e => by have := hW.size; omega)⟩
end

/-- a runner in memory, wherever its rows are -/
def Rn (w : World) (B rb : Nat) (pv fv : Value) (m : Mst) : Prop := ∃ oa oc ja jc, RnE w B rb pv fv (.slice oa m.out.length oc) (.slice ja m.pts.length jc) m
theorem Rn.of {w : World} {B rb : Nat} {pv fv ov jv : Value} {m : Mst} (h : RnE w B rb pv fv ov jv m) : Rn w B rb pv fv m := by
  obtain ⟨oa, on, oc, rfl⟩ := slice_form h.out
  obtain ⟨ja, jn, jc, rfl⟩ := slice_form h.pts
  have h1 : on = m.out.length := by
    rcases h.out.2 with ⟨h1, h2⟩ | ⟨g, cap, cur, h1, _⟩
    · injection h1 with _ h3; rw [h3, h2]
    · injection h1
  have h2 : jn = m.pts.length := by
    rcases h.pts.2 with ⟨h1, h2⟩ | ⟨g, cap, cur, h1, _⟩
    · injection h1 with _ h3; rw [h3, h2]
    · injection h1
  subst h1; subst h2
  exact ⟨oa, oc, ja, jc, h⟩
theorem Rn.later {w w' : World} {B rb : Nat} {pv fv : Value} {m : Mst} (h : Rn w B rb pv fv m) (hb : ∀ k, k < w.heap.size → w'.heap[k]? = w.heap[k]?) : Rn w' B rb pv fv m := by
  obtain ⟨oa, oc, ja, jc, h⟩ := h
  exact ⟨oa, oc, ja, jc, h.later hb⟩

/-- a body that only calls these procedures -/
def Fits (ns : List UInt8) (xs : List Stm) : Prop := wfs xs = true ∧ nks xs = true ∧ (∀ c ∈ callsIn xs, c ∈ ns) ∧ (txts xs).length ≤ 400
theorem Fits.tail {ns : List UInt8} {x : Stm} {xs : List Stm} (h : Fits ns (x :: xs)) : Fits ns xs := by
  obtain ⟨h1, h2, h3, h4⟩ := h
  simp only [wfs, nks, Bool.and_eq_true] at h1 h2
  exact ⟨h1.2, h2.2, fun c hc => h3 c (by rw [callsIn, List.mem_append]; exact .inr hc), by simp [txts] at h4; omega⟩
theorem Fits.cho {ns : List UInt8} {a b : List Stm} {xs : List Stm} (h : Fits ns (.cho a b :: xs)) : Fits ns a ∧ Fits ns b := by
  obtain ⟨h1, h2, h3, h4⟩ := h
  simp only [wfs, nks, Stm.wf, Stm.nk, Bool.and_eq_true] at h1 h2
  simp [txts, Stm.txt] at h4
  exact ⟨⟨h1.1.1, h2.1.1, fun c hc => h3 c (by simp [callsIn, Stm.calls, hc]), by omega⟩, ⟨h1.1.2, h2.1.2, fun c hc => h3 c (by simp [callsIn, Stm.calls, hc]), by omega⟩⟩
theorem Fits.drop {ns : List UInt8} {xs : List Stm} (h : Fits ns xs) (k : Nat) : Fits ns (xs.drop k) := by
  induction k generalizing xs with
  | zero => exact h
  | succ k ih =>
    cases xs with
    | nil => exact h
    | cons x xs => exact ih h.tail
theorem Fits.one {ns : List UInt8} {x : Stm} {xs : List Stm} (h : Fits ns (x :: xs)) : Fits ns [x] := by
  obtain ⟨h1, h2, h3, h4⟩ := h
  simp only [wfs, nks, Bool.and_eq_true] at h1 h2
  exact ⟨by simp [wfs, h1.1], by simp [nks, h2.1], fun c hc => h3 c (by simp [callsIn] at hc ⊢; exact .inl hc), by simp [txts] at h4 ⊢; omega⟩
theorem Fits.len {ns : List UInt8} {xs : List Stm} (h : Fits ns xs) : xs.length ≤ 400 := by
  obtain ⟨_, _, _, h4⟩ := h
  have : ∀ ys : List Stm, ys.length ≤ (txts ys).length := fun ys => by
    induction ys with
    | nil => simp [txts]
    | cons x xs ih => have := x.txt_len; simp [txts]; omega
  exact Nat.le_trans (this xs) h4

/-- the program that is run: it lies below block B -/
structure Pw (w : World) (B : Nat) (S : Nat → Prop) (qs : List Qr) (pv : Value) : Prop where
  prog : IsProg w 0 S qs pv
  lt : ∀ k, S k → k < B
  row : ∀ g, pv.ownBlock = some g → g < B
  asc_ : asc (namesQ qs)
  le : qs.length ≤ 401
  fits : ∀ q ∈ qs, Fits (namesQ qs) q.1.2
theorem Pw.later {w w' : World} {B : Nat} {S : Nat → Prop} {qs : List Qr} {pv : Value} (h : Pw w B S qs pv) (hb : Kp B w w') : Pw w' B S qs pv :=
  ⟨⟨ownsRow_of h.prog.row fun g hg => hb.block g (h.row g hg), fun q hq => (h.prog.body q hq).kept (fun k hk => hb.block k (h.lt k hk)) (fun _ h => h),
    fun k hk => by obtain ⟨h1, cur, fz, hc⟩ := h.prog.set k hk; exact ⟨h1, cur, fz, by rw [hb.block k (h.lt k hk)]; exact hc⟩⟩, h.lt, h.row, h.asc_, h.le, h.fits⟩

/-- the body of a procedure -/
def bodyQ (qs : List Qr) (c : UInt8) : List Stm := match (qs.map (·.1)).find? (fun p => p.1 == c) with | some p => p.2 | none => []
theorem Pw.find {w : World} {B : Nat} {S : Nat → Prop} {qs : List Qr} {pv : Value} (h : Pw w B S qs pv) {c : UInt8} (hc : c ∈ namesQ qs) :
    ∃ hr : rank (namesQ qs) c < qs.length, qs[rank (namesQ qs) c].1.1 = c ∧ bodyQ qs c = qs[rank (namesQ qs) c].1.2 := by
  have hcb : (namesQ qs).contains c = true := List.contains_iff_mem.2 hc
  obtain ⟨hr, hre⟩ := (rank_has _ _ h.asc_).1 hcb
  have hrq : rank (namesQ qs) c < qs.length := by simpa [namesQ] using hr
  refine ⟨hrq, ?_, ?_⟩
  · have : (namesQ qs)[rank (namesQ qs) c] = qs[rank (namesQ qs) c].1.1 := by simp [namesQ]
    rw [← this]; exact hre
  · have := find_q qs c h.asc_
    rw [dif_pos hcb] at this
    rw [bodyQ, this]
theorem Pw.bodies {w : World} {B : Nat} {S : Nat → Prop} {qs : List Qr} {pv : Value} (h : Pw w B S qs pv) (c : UInt8) : wfs (bodyQ qs c) = true := by
  unfold bodyQ
  split
  · rename_i p hp
    have := List.mem_of_find?_eq_some hp
    obtain ⟨q, hq, rfl⟩ := List.mem_map.1 this
    exact (h.fits q hq).1
  · rfl
end Go.Proofs.YtomodlllmbkndaaGreatDoor
namespace Go.Proofs.YtomodlllmbkndaaGreatDoor
open Go.RowKit Gram

/-- the runner's own panic -/
def Ends (f : Fin) (e : Ending) : Prop := e = .panicked [{ v := .iface 116 (.string (txtOf (Fin.word (some f)))), recovered := false }]

section
variable {w : World} {B rb : Nat} {pv fv ov jv : Value} {m : Mst} {oa ja : Option Addr} {on oc jn jc : Nat}

theorem RnE.c0 (h : RnE w B rb pv fv ov jv m) : w.cell? ⟨rb, 0, none⟩ = some (.int .i64 m.val) := h.cell 0
theorem RnE.c1 (h : RnE w B rb pv fv ov jv m) : w.cell? ⟨rb, 1, none⟩ = some ov := h.cell 1
theorem RnE.c3 (h : RnE w B rb pv fv ov jv m) : w.cell? ⟨rb, 3, none⟩ = some (.int .i64 m.steps) := h.cell 3
theorem RnE.c4 (h : RnE w B rb pv fv ov jv m) : w.cell? ⟨rb, 4, none⟩ = some pv := h.cell 4
theorem RnE.c5 (h : RnE w B rb pv fv ov jv m) : w.cell? ⟨rb, 5, none⟩ = some jv := h.cell 5
theorem RnE.c6 (h : RnE w B rb pv fv ov jv m) : w.cell? ⟨rb, 6, none⟩ = some (.string (txtOf m.stk)) := h.cell 6
theorem RnE.c7 (h : RnE w B rb pv fv ov jv m) : w.cell? ⟨rb, 7, none⟩ = some (.int .i64 m.deep) := h.cell 7
theorem RnE.c8 (h : RnE w B rb pv fv ov jv m) : w.cell? ⟨rb, 8, none⟩ = some fv := h.cell 8

set_option maxHeartbeats 400000 in
theorem step_long (h : RnE w B rb pv fv ov jv m) (hs : m.steps = 500) :
    Calls Tryz.prog 107 #[.pointer (some ⟨rb, 0, none⟩)] w fun e w' => Ends .long e ∧ w = w' := by
  have c3 := h.c3
  rw [hs] at c3
  clear h hs
  go_enter Tryz.func107, Tryz.ntmps107
  go_wp2_with fail
  exact ⟨rfl, rfl, rfl⟩

set_option maxHeartbeats 400000 in
theorem step_more (h : RnE w B rb pv fv ov jv m) (hs : m.steps ≠ 500) (hl : m.steps ≤ 500) :
    Calls Tryz.prog 107 #[.pointer (some ⟨rb, 0, none⟩)] w fun e w' => e = .returned (.tuple #[]) ∧ RnE w' B rb pv fv ov jv m.tick ∧ Kp B w w' := by
  have c3 := h.c3
  have f3 := h.free 3
  have hne : ((m.steps : Int) == 500) = false := by rw [beq_eq_false_iff_ne]; omega
  have HS := Lib.hid (h.setc 3 (.int .i64 ((m.steps + 1 : Nat) : Int)) m.tick rfl rfl rfl)
  clear h hs
  generalize m.steps = k at *
  go_enter Tryz.func107, Tryz.ntmps107
  go_wp2_with fail
  go_end0
  exact ⟨rfl, HS.out⟩

theorem prod_in (v z : Int) (h1 : -9999 ≤ v) (h2 : v ≤ 9999) (h3 : 0 ≤ z) (h4 : z ≤ 9) : -89991 ≤ v * z ∧ v * z ≤ 89991 := by
  have a1 := Int.mul_le_mul_of_nonneg_right h1 h3
  have a2 := Int.mul_le_mul_of_nonneg_right h2 h3
  omega

theorem set_twice (h : RnE w B rb pv fv ov jv m) (o : Obj) (x : Int) :
    (w.alloc o).cell? ⟨rb, 0, none⟩ = some (.int .i64 m.val) ∧ (w.alloc o).frozen? ⟨rb, 0, none⟩ = false ∧
    ((w.alloc o).setCell ⟨rb, 0, none⟩ (.int .i64 x)).cell? ⟨rb, 0, none⟩ = some (.int .i64 x) ∧ ((w.alloc o).setCell ⟨rb, 0, none⟩ (.int .i64 x)).frozen? ⟨rb, 0, none⟩ = false ∧
    RnE (((w.alloc o).setCell ⟨rb, 0, none⟩ (.int .i64 x)).setCell ⟨rb, 0, none⟩ (.int .i64 (x.tmod 10000))) B rb pv fv ov jv { m with val := x.tmod 10000 } ∧
    Kp B w (((w.alloc o).setCell ⟨rb, 0, none⟩ (.int .i64 x)).setCell ⟨rb, 0, none⟩ (.int .i64 (x.tmod 10000))) := by
  have hA := h.later (alloc_heap (w := w) o)
  have a := hA.setc 0 (.int .i64 x) { m with val := x } rfl rfl rfl
  have b := a.1.setc 0 (.int .i64 (x.tmod 10000)) { m with val := x.tmod 10000 } rfl rfl rfl
  exact ⟨hA.c0, hA.free 0, a.1.c0, a.1.free 0, b.1, (Kp.of ((Below.refl _ _).alloc (Nat.le_refl _) _) h.big).trans (a.2.trans b.2)⟩

set_option maxHeartbeats 400000 in
theorem change_any (h : RnE w B rb pv fv ov jv m) (g d : UInt8) (hg : isSgn g = true) (hd : isDig d = true) (h1 : -9999 ≤ m.val) (h2 : m.val ≤ 9999) :
    Calls Tryz.prog 108 #[.pointer (some ⟨rb, 0, none⟩), .agg #[.int .u8 g.toNat, .int .u8 d.toNat]] w fun e w' => e = .returned (.tuple #[]) ∧ RnE w' B rb pv fv ov jv (m.chg g d) ∧ Kp B w w' := by
  rw [isDig_int, Bool.and_eq_true, decide_eq_true_eq, decide_eq_true_eq] at hd
  have hp := prod_in m.val ((d.toNat : Int) - 48) h1 h2 (by omega) (by omega)
  rcases sgn3 hg with rfl | rfl | rfl
  · have HV := Lib.hid (by unfold chgV; rw [if_neg (by decide), if_neg (by decide)] : chgV m.val 43 d = (m.val + ((d.toNat : Int) - 48)).tmod 10000)
    obtain ⟨q0, q1, q2, q3, q4⟩ := set_twice h (Obj.cells #[.int .u8 43, .int .u8 (d.toNat : Int)] 157) (m.val + ((d.toNat : Int) - 48))
    have hq : m.chg 43 d = { m with val := (m.val + ((d.toNat : Int) - 48)).tmod 10000 } := by rw [Mst.chg, HV.out]
    rw [← hq] at q4
    have HQ := Lib.hid q4
    clear h q4 hq HV
    generalize m.val = v at *
    generalize (d.toNat : Int) = z at *
    go_enter Tryz.func108, Tryz.ntmps108
    go_wp2_with fail
    go_end0
    exact ⟨rfl, HQ.out⟩
  · have HV := Lib.hid (by unfold chgV; rw [if_neg (by decide), if_pos rfl] : chgV m.val 45 d = (m.val + -((d.toNat : Int) - 48)).tmod 10000)
    obtain ⟨q0, q1, q2, q3, q4⟩ := set_twice h (Obj.cells #[.int .u8 45, .int .u8 (d.toNat : Int)] 157) (m.val + -((d.toNat : Int) - 48))
    have hq : m.chg 45 d = { m with val := (m.val + -((d.toNat : Int) - 48)).tmod 10000 } := by rw [Mst.chg, HV.out]
    rw [← hq] at q4
    have HQ := Lib.hid q4
    clear h q4 hq HV
    generalize m.val = v at *
    generalize (d.toNat : Int) = z at *
    go_enter Tryz.func108, Tryz.ntmps108
    go_wp2_with fail
    go_end0
    exact ⟨rfl, HQ.out⟩
  · have HV := Lib.hid (by unfold chgV; rw [if_pos rfl] : chgV m.val 42 d = (m.val * ((d.toNat : Int) - 48)).tmod 10000)
    obtain ⟨q0, q1, q2, q3, q4⟩ := set_twice h (Obj.cells #[.int .u8 42, .int .u8 (d.toNat : Int)] 157) (m.val * ((d.toNat : Int) - 48))
    have hq : m.chg 42 d = { m with val := (m.val * ((d.toNat : Int) - 48)).tmod 10000 } := by rw [Mst.chg, HV.out]
    rw [← hq] at q4
    have HQ := Lib.hid q4
    clear h q4 hq HV
    generalize m.val = v at *
    generalize (d.toNat : Int) = z at *
    go_enter Tryz.func108, Tryz.ntmps108
    go_wp2_with fail
    go_end0
    exact ⟨rfl, HQ.out⟩

theorem come_eq (m : Mst) (x : Stm) : m.come x = { m with pts := m.pts ++ (jpOf x m.stk).toList } := by
  cases x <;> simp [Mst.come, jpOf]

theorem later_b (h : RnE w B rb pv fv ov jv m) {w' : World} (hb : Below w.heap.size w w') : RnE w' B rb pv fv ov jv m := h.later (fun k hk => hb.block k hk)

/-- the block of a join point -/
abbrev jBlk (a b c : ByteArray) : Obj := Obj.cells #[.string a, .string b, .string c] 49

/-- a join point in a block of its own -/
structure JAt (w : World) (g : Nat) (a b c : ByteArray) : Prop where
  own : w.heap[g]? = some (Obj.cells #[.string a, .string b, .string c] 49 (0, 0))
theorem JAt.read {w : World} {g : Nat} {a b c : ByteArray} (h : JAt w g a b c) : w.cell? ⟨g, 0, none⟩ = some (.string a) ∧ w.cell? ⟨g, 1, none⟩ = some (.string b) ∧ w.cell? ⟨g, 2, none⟩ = some (.string c) ∧
    w.frozen? ⟨g, 0, none⟩ = false ∧ w.frozen? ⟨g, 1, none⟩ = false ∧ w.frozen? ⟨g, 2, none⟩ = false :=
  ⟨Lib.cell_of_heap h.own 0, Lib.cell_of_heap h.own 1, Lib.cell_of_heap h.own 2, Lib.frozen_of_heap h.own 0, Lib.frozen_of_heap h.own 1, Lib.frozen_of_heap h.own 2⟩
theorem JAt.put {w : World} {g : Nat} {a b c : ByteArray} (h : JAt w g a b c) (x y z : ByteArray) : JAt (((w.setCell ⟨g, 0, none⟩ (.string x)).setCell ⟨g, 1, none⟩ (.string y)).setCell ⟨g, 2, none⟩ (.string z)) g x y z :=
  ⟨by rw [heap_set_same (heap_set_same (heap_set_same h.own _) _) _]; rfl⟩
theorem JAt.later {w w' : World} {g : Nat} {a b c : ByteArray} (h : JAt w g a b c) (hb : Below w.heap.size w w') : JAt w' g a b c := ⟨by rw [hb.block g (heap_lt h.own)]; exact h.own⟩
theorem JAt.made (w : World) (a b c : ByteArray) : JAt (w.alloc (Obj.cells #[.string a, .string b, .string c] 49)) w.heap.size a b c := ⟨heap_alloc_new w _⟩

set_option maxHeartbeats 400000 in
theorem come_no (h : RnE w B rb pv fv ov jv m) (v : Value) (X Y Z : ByteArray)
    (hJ : ∀ w', Below w.heap.size w w' → Calls Tryz.prog 106 #[v, .string (txtOf m.stk)] w' fun e w'' => e = .returned (.tuple #[.agg #[.string X, .string Y, .string Z], .bool false]) ∧ Below w'.heap.size w' w'') :
    Calls Tryz.prog 87 #[.pointer (some ⟨rb, 0, none⟩), v] w fun e w' => e = .returned (.tuple #[.agg #[.string X, .string Y, .string Z], .bool false]) ∧ RnE w' B rb pv fv ov jv m ∧ Kp B w w' := by
  have HJ := Lib.hid hJ
  have hba : Below w.heap.size w (w.alloc (Obj.cells #[.string ⟨#[]⟩, .string ⟨#[]⟩, .string ⟨#[]⟩] 49)) := (Below.refl _ _).alloc (Nat.le_refl _) _
  have c6 := (later_b h hba).c6
  have HBA := Lib.hid hba
  have HE := Lib.hid h
  have HN := Lib.hid (JAt.made w ⟨#[]⟩ ⟨#[]⟩ ⟨#[]⟩)
  clear hba h hJ
  go_enter Tryz.func87, Tryz.ntmps87
  go_wp2_with fail
  refine (HJ.out _ HBA.out).mono ?_
  rintro e w2 ⟨rfl, hb2⟩
  have HB2 := Lib.hid ((HBA.out.trans (hb2.mono HBA.out.size)).alloc (HBA.out.trans (hb2.mono HBA.out.size)).size (Obj.cells #[.string X, .string Y, .string Z] 49))
  have HJ2 := Lib.hid ((HN.out.later hb2).later ((Below.refl _ _).alloc (Nat.le_refl _) (Obj.cells #[.string X, .string Y, .string Z] 49)))
  obtain ⟨q0, q1, q2, f0, f1, f2⟩ := HJ2.out.read
  clear hb2
  go_wp2_with fail
  obtain ⟨r0, r1, r2, _⟩ := (HJ2.out.put X Y Z).read
  have hbe := ((HB2.out.setCell (p := ⟨w.heap.size, 0, none⟩) (Nat.le_refl _) (.string X)).setCell (p := ⟨w.heap.size, 1, none⟩) (Nat.le_refl _) (.string Y)).setCell (p := ⟨w.heap.size, 2, none⟩) (Nat.le_refl _) (.string Z)
  refine bodyPost_ret (v := .tuple #[.agg #[.string X, .string Y, .string Z], .bool false]) ?_ rfl ⟨rfl, later_b HE.out hbe, Kp.of hbe HE.out.big⟩
  simp [results, Tryz.results87, go_sem, r0, r1, r2]

set_option maxHeartbeats 1000000 in
set_option maxRecDepth 100000 in
theorem come_yes (h : RnE w B rb pv fv ov jv m) (hl : m.pts.length ≤ 1000) (v : Value) (j : Jpt)
    (hJ : ∀ w', Below w.heap.size w w' → Calls Tryz.prog 106 #[v, .string (txtOf m.stk)] w' fun e w'' => e = .returned (.tuple #[jpV j, .bool true]) ∧ Below w'.heap.size w' w'') :
    Calls Tryz.prog 87 #[.pointer (some ⟨rb, 0, none⟩), v] w fun e w' => e = .returned (.tuple #[jpV j, .bool true]) ∧ Rn w' B rb pv fv { m with pts := m.pts ++ [j] } ∧ Kp B w w' := by
  obtain ⟨X, hX⟩ : ∃ X, X = txtOf (if j.nm.isSome then [99, 97, 108, 108] else [112, 114, 105, 110, 116]) := ⟨_, rfl⟩
  obtain ⟨Y, hY⟩ : ∃ Y, Y = txtOf j.nm.toList := ⟨_, rfl⟩
  obtain ⟨Z, hZ⟩ : ∃ Z, Z = txtOf j.stk := ⟨_, rfl⟩
  have hV : jpV j = .agg #[.string X, .string Y, .string Z] := by rw [hX, hY, hZ]; rfl
  have hC : jpC [j] = [.string X, .string Y, .string Z] := by rw [hX, hY, hZ]; rfl
  rw [hV] at hJ ⊢
  obtain ⟨i0, hi, hz0, hz1, hz2⟩ := info_parts info_jp
  obtain ⟨ja, jn, jc, rfl⟩ := slice_form h.pts
  have HJ := Lib.hid hJ
  have hba : Below w.heap.size w (w.alloc (Obj.cells #[.string ⟨#[]⟩, .string ⟨#[]⟩, .string ⟨#[]⟩] 49)) := (Below.refl _ _).alloc (Nat.le_refl _) _
  have c6 := (later_b h hba).c6
  have HBA := Lib.hid hba
  have HE := Lib.hid h
  have HL := Lib.hid hl
  have HC := Lib.hid hC
  have HN := Lib.hid (JAt.made w ⟨#[]⟩ ⟨#[]⟩ ⟨#[]⟩)
  clear hba h hJ hX hY hZ hV hC hl
  go_enter Tryz.func87, Tryz.ntmps87
  go_wp2_with fail
  refine (HJ.out _ HBA.out).mono ?_
  rintro e w2 ⟨rfl, hb2⟩
  have HB2 := Lib.hid ((HBA.out.trans (hb2.mono HBA.out.size)).alloc (HBA.out.trans (hb2.mono HBA.out.size)).size (Obj.cells #[.string X, .string Y, .string Z] 49))
  have HJ2 := Lib.hid ((HN.out.later hb2).later ((Below.refl _ _).alloc (Nat.le_refl _) (Obj.cells #[.string X, .string Y, .string Z] 49)))
  have HK2 := Lib.hid (JAt.made w2 X Y Z)
  have HE2 := Lib.hid (later_b HE.out HB2.out)
  have HZ2 := Lib.hid (alloc_size' w2 (Obj.cells #[.string X, .string Y, .string Z] 49))
  have HW2 := Lib.hid hb2.size
  have HW1 := Lib.hid (alloc_size' w (Obj.cells #[.string ⟨#[]⟩, .string ⟨#[]⟩, .string ⟨#[]⟩] 49))
  have hjn : jn = m.pts.length := by
    rcases HE2.out.pts.2 with ⟨h1, h2⟩ | ⟨g, cap, cur, h1, _⟩
    · injection h1 with _ h3; rw [h3, h2]
    · injection h1
  subst hjn
  clear hb2
  go_wp2_with fail
  obtain ⟨wj, hwj⟩ : ∃ wj, wj = w2.alloc (Obj.cells #[.string X, .string Y, .string Z] 49) := ⟨_, rfl⟩
  rw [← hwj] at HK2 HE2 HZ2 HB2 HJ2 ⊢
  have BP := Lib.hid (fun o => (Below.refl wj.heap.size wj).alloc (Nat.le_refl _) o)
  obtain ⟨q0, q1, q2, _⟩ := HK2.out.read
  have c5 := HE2.out.c5
  have d5 := (later_b HE2.out (BP.out (Obj.cells #[.string X, .string Y, .string Z] 49))).c5
  clear hwj
  go_region_law
    ((refine step_append_at (t := 44) (by rfl) (.tmp 22) (.tmp 24) (by rfl) (by rfl) (.slice ja m.pts.length jc) (.slice (some ⟨wj.heap.size, 0, none⟩) 1 1) (by first | (simp [Act.eval]; done) | (simp [Act.eval, Act.put]; done) | rfl) (by first | (simp [Act.eval]; done) | (simp [Act.eval, Act.put]; done) | rfl) _ _ (HE2.out.app_pts HL.out j X Y Z HC.out _ (by first | exact BP.out _ | exact (BP.out _).drew) wj.heap.size (by exact heap_alloc_new _ _)) ?_
      intro g7 c7 w7 h7
      have s1 := h7.c5
      have s2 := h7.f5
      have H7 := Lib.hid h7
      clear h7))
  all_goals
    have hb7 : Kp B w (w7.setCell ⟨rb, 5, none⟩ (.slice (some ⟨g7, 0, none⟩) (m.pts.length + 1) c7)) := (Kp.of HB2.out HE.out.big).trans H7.out.bel
    have hE7 := H7.out.rn
    have hz : w.heap.size < rb ∨ rb < w.heap.size := .inr HE.out.lt
    have hf1 : ∀ k, k < wj.heap.size → k ≠ rb → Value.ownBlock (.slice ja m.pts.length jc) ≠ some k → (w7.setCell ⟨rb, 5, none⟩ (.slice (some ⟨g7, 0, none⟩) (m.pts.length + 1) c7)).heap[k]? = wj.heap[k]? := fun k hk hn ho => by
      rw [heap_set_other hn]; exact H7.out.far k hk ho
    have hJ7 : JAt (w7.setCell ⟨rb, 5, none⟩ (.slice (some ⟨g7, 0, none⟩) (m.pts.length + 1) c7)) w.heap.size ⟨#[]⟩ ⟨#[]⟩ ⟨#[]⟩ := ⟨by
      rw [hf1 w.heap.size (by have := HB2.out.size; have := heap_lt HJ2.out.own; omega) (by have := HE.out.lt; omega) (fun e => by have := (HE.out.pts_ne e).2.2.1; omega)]; exact HJ2.out.own⟩
    have hK7 : JAt (w7.setCell ⟨rb, 5, none⟩ (.slice (some ⟨g7, 0, none⟩) (m.pts.length + 1) c7)) w2.heap.size X Y Z := ⟨by
      rw [hf1 w2.heap.size (heap_lt HK2.out.own) (by have := HE.out.lt; have := HW2.out; rw [HW1.out] at this; omega) (fun e => by have := (HE.out.pts_ne e).2.2.1; have := HW2.out; rw [HW1.out] at this; omega)]; exact HK2.out.own⟩
    have hg7 : Value.ownBlock (.slice (some ⟨g7, 0, none⟩) (m.pts.length + 1) c7) ≠ some w.heap.size := by
      intro e
      have e' : g7 = w.heap.size := by simpa [Value.ownBlock] using e
      rcases H7.out.at_ with h | h
      · have := (HE.out.pts_ne h).2.2.1; omega
      · have := HB2.out.size; have := heap_lt HJ2.out.own; omega
    have ho7 : ov.ownBlock ≠ some w.heap.size := fun e => by have := (HE.out.out_ne e).2.2.1; omega
    have HX := Lib.hid (⟨hb7, hE7, hJ7, hg7, ho7, HE.out.lt, HE.out.big⟩ : _ ∧ _ ∧ _ ∧ _ ∧ _ ∧ _ ∧ _)
    obtain ⟨p0, p1, p2, _⟩ := hK7.read
    obtain ⟨_, _, _, f0, f1, f2⟩ := hJ7.read
    obtain ⟨e0, e1, e2, _, _, _⟩ := hJ7.read
    clear hb7 hE7 hJ7 hK7 hf1 hz hg7 ho7 H7 HE2 HJ2 HB2 HK2 BP HZ2 HW2 HW1 q0 q1 q2 c5 d5 s1 s2 HE
    generalize w7.setCell ⟨rb, 5, none⟩ (.slice (some ⟨g7, 0, none⟩) (m.pts.length + 1) c7) = w8 at *
    go_wp2_with fail
    obtain ⟨hb7, hE7, hJ7, hg7, ho7, hlt, hbig⟩ := HX.out
    obtain ⟨r0, r1, r2, _⟩ := (hJ7.put X Y Z).read
    have hne : w.heap.size ≠ rb := by omega
    refine bodyPost_ret (v := .tuple #[.agg #[.string X, .string Y, .string Z], .bool true]) ?_ rfl ⟨rfl, Rn.of (((hE7.setf _ 0 _ hne ho7 hg7).setf _ 1 _ hne ho7 hg7).setf _ 2 _ hne ho7 hg7), ((hb7.setAt hJ7.own (by decide) hbig 0 _).setAt (heap_set_same hJ7.own _) (by decide) hbig 1 _).setAt (heap_set_same (heap_set_same hJ7.own _) _) (by decide) hbig 2 _⟩
    simp [results, Tryz.results87, go_sem, r0, r1, r2]

/-- what comeTo does -/
theorem come_any (h : Rn w B rb pv fv m) (hl : m.pts.length ≤ 1000) (x : Stm) (hx : x.wf = true) (hk : x.nk = true) (S : Nat → Prop) (v : Value) (hv : IsStm w S x v) (hS : ∀ k, S k → k < B) :
    Calls Tryz.prog 87 #[.pointer (some ⟨rb, 0, none⟩), v] w fun e w' => e = .returned (.tuple #[jpO (jpOf x m.stk), .bool (jpOf x m.stk).isSome]) ∧ Rn w' B rb pv fv (m.come x) ∧ Kp B w w' := by
  obtain ⟨oa, oc, ja, jc, hE⟩ := h
  have hJ := fun w' (hb : Below w.heap.size w w') => jpat_any x hx hk S m.stk v w' (IsStm.kept (fun k hk => hb.block k (by have := hS k hk; have := hE.big; omega)) (fun _ h => h) _ _ hv)
  rw [come_eq]
  cases hj : jpOf x m.stk with
  | none =>
    rw [hj] at hJ
    refine (come_no hE v _ _ _ hJ).mono ?_
    rintro e w' ⟨rfl, h1, h2⟩
    refine ⟨rfl, ?_, h2⟩
    have : (none : Option Jpt).toList = [] := rfl
    rw [this, List.append_nil]
    exact Rn.of h1
  | some j =>
    rw [hj] at hJ
    refine (come_yes hE hl v j hJ).mono ?_
    rintro e w' ⟨rfl, h1, h2⟩
    exact ⟨rfl, h1, h2⟩
end
end Go.Proofs.YtomodlllmbkndaaGreatDoor
namespace Go.Proofs.YtomodlllmbkndaaGreatDoor
open Go.RowKit Gram

/-- what becomes of a runner -/
def RanTo (B rb : Nat) (pv fv : Value) (r : Mst × Option Fin) (w : World) (e : Ending) (w' : World) : Prop :=
  (match r.2 with | none => e = .returned (.tuple #[]) | some f => Ends f e) ∧ Rn w' B rb pv fv r.1 ∧ Kp B w w'

/-- bodies are done as ex does them -/
def DoesAll (B rb : Nat) (S : Nat → Prop) (qs : List Qr) (pv fv : Value) (ex : Mst → List Stm → Mst × Option Fin) (lo : Nat) : Prop :=
  ∀ (w : World) (m : Mst) (xs : List Stm) (v : Value), Rn w B rb pv fv m → Pw w B S qs pv → m.ok 0 → Fits (namesQ qs) xs → IsBody w S xs v → lo ≤ m.steps →
    Calls Tryz.prog 89 #[.pointer (some ⟨rb, 0, none⟩), v] w (RanTo B rb pv fv (ex m xs) w)

section
variable {B rb : Nat} {S : Nat → Prop} {qs : List Qr} {pv fv : Value} {ex : Mst → List Stm → Mst × Option Fin} {lo : Nat}

set_option maxHeartbeats 1000000 in
set_option maxRecDepth 100000 in
theorem act_by (hd : DoesAll B rb S qs pv fv ex lo) {w : World} {m : Mst} (h : Rn w B rb pv fv m) (hP : Pw w B S qs pv) (c : UInt8) (bv : Value) (hb : IsBody w S (bodyQ qs c) bv) (hf : Fits (namesQ qs) (bodyQ qs c)) (hc : isLet c = true)
    (hm : (m.enter c).ok 0) (hlo : lo ≤ m.steps) :
    Calls Tryz.prog 68 #[.pointer (some ⟨rb, 0, none⟩), .agg #[.int .u8 c.toNat, bv]] w (RanTo B rb pv fv (callBy ex (bodyQ qs) m c) w) := by
  obtain ⟨oa, oc, ja, jc, hE⟩ := h
  obtain ⟨ba, bn, bc, rfl⟩ := hb.form
  have hba : Below w.heap.size w (w.alloc (Obj.cells #[.int .u8 c.toNat, .slice ba bn bc] 76)) := (Below.refl _ _).alloc (Nat.le_refl _) _
  have hA := later_b hE hba
  have c6 := hA.c6
  have f6 := hA.free 6
  have he := enc_let32 c hc
  have hsum : txtOf m.stk ++ txtOf [c] = txtOf (m.stk ++ [c]) := by apply ByteArray.ext; simp [txtOf]
  have hs := str_sum (txtOf m.stk) (txtOf [c]) (by rw [txtOf_size, txtOf_size]; have := hm.stk; simp [Mst.enter] at this; simp; omega)
  rw [hsum] at hs
  have HM := Lib.hid hm
  have H1 := Lib.hid (show RnE (((w.alloc (Obj.cells #[.int .u8 c.toNat, .slice ba bn bc] 76)).setCell ⟨rb, 6, none⟩ (.string (txtOf (m.stk ++ [c])))).drew) B rb pv fv (.slice oa m.out.length oc) (.slice ja m.pts.length jc) { m with stk := m.stk ++ [c] } from
    (hA.setc 6 (.string (txtOf (m.stk ++ [c]))) { m with stk := m.stk ++ [c] } rfl rfl rfl).1.later (fun _ _ => rfl))
  have HB1 := Lib.hid (show Kp B w (((w.alloc (Obj.cells #[.int .u8 c.toNat, .slice ba bn bc] 76)).setCell ⟨rb, 6, none⟩ (.string (txtOf (m.stk ++ [c])))).drew) from ((Kp.of hba hE.big).trans (hA.setc 6 (.string (txtOf (m.stk ++ [c]))) { m with stk := m.stk ++ [c] } rfl rfl rfl).2).drew)
  have HP1 := Lib.hid (show (((w.alloc (Obj.cells #[.int .u8 c.toNat, .slice ba bn bc] 76)).setCell ⟨rb, 6, none⟩ (.string (txtOf (m.stk ++ [c])))).drew).heap[w.heap.size]? = some (Obj.cells #[.int .u8 c.toNat, .slice ba bn bc] 76 (0, 0)) from
    (heap_set_other (by have := hE.lt; omega) _).trans (heap_alloc_new w _))
  have HX := Lib.hid (⟨hd, hP, hb, hf, hE.lt, hE.big⟩ : _ ∧ _ ∧ _ ∧ _ ∧ _ ∧ _)
  have hdp := hm.deep
  have hsl : m.stk.length + 1 ≤ 20 := by have := hm.stk; simp [Mst.enter] at this; omega
  have hdl : m.deep ≤ 20 := by have := hm.deep; simp [Mst.enter] at this; omega
  clear hA hE hm hf hP hb hd hba hsum hdp hc
  go_enter Tryz.func68, Tryz.ntmps68
  go_wp2_with fail
  go_region
  have c6' := H1.out.c6
  have c7 := H1.out.c7
  have f7 := H1.out.free 7
  have hz1 : (txtOf (m.stk ++ [c])).size = m.stk.length + 1 := by rw [txtOf_size]; simp
  clear c6 f6 hs he
  generalize (((w.alloc (Obj.cells #[.int .u8 c.toNat, .slice ba bn bc] 76)).setCell ⟨rb, 6, none⟩ (.string (txtOf (m.stk ++ [c])))).drew) = w1 at *
  generalize txtOf (m.stk ++ [c]) = t at *
  have hmx : ((max m.deep (m.stk.length + 1) : Nat) : Int) = max (m.deep : Int) ((m.stk.length : Int) + 1) := by omega
  have h2 := H1.out.setc 7 (.int .i64 (max (m.deep : Int) ((m.stk.length : Int) + 1))) (m.enter c) (by rw [← hmx]; rfl) rfl rfl
  have H2 := Lib.hid (show RnE (w1.setCell ⟨rb, 7, none⟩ (.int .i64 (max (m.deep : Int) ((m.stk.length : Int) + 1)))).drew B rb pv fv (.slice oa m.out.length oc) (.slice ja m.pts.length jc) (m.enter c) from h2.1.later (fun _ _ => rfl))
  have HB2 := Lib.hid (show Kp B w (w1.setCell ⟨rb, 7, none⟩ (.int .i64 (max (m.deep : Int) ((m.stk.length : Int) + 1)))).drew from (HB1.out.trans h2.2).drew)
  have hP2 : (w1.setCell ⟨rb, 7, none⟩ (.int .i64 (max (m.deep : Int) ((m.stk.length : Int) + 1)))).drew.heap[w.heap.size]? = some (Obj.cells #[.int .u8 c.toNat, .slice ba bn bc] 76 (0, 0)) :=
    (heap_set_other (by have := HX.out.2.2.2.2.1; omega) _).trans HP1.out
  have p1 : (w1.setCell ⟨rb, 7, none⟩ (.int .i64 (max (m.deep : Int) ((m.stk.length : Int) + 1)))).drew.cell? ⟨w.heap.size, 1, none⟩ = some (.slice ba bn bc) := Lib.cell_of_heap hP2 1
  clear h2 hP2 hmx
  go_wp2_with fail
  go_region
  clear c6' c7 f7
  generalize (w1.setCell ⟨rb, 7, none⟩ (.int .i64 (max (m.deep : Int) ((m.stk.length : Int) + 1)))).drew = w2 at *
  obtain ⟨hd, hP, hb, hf, hlt, hbig⟩ := HX.out
  have HD := Lib.hid (hd w2 (m.enter c) (bodyQ qs c) (.slice ba bn bc) (Rn.of H2.out) (hP.later HB2.out) HM.out hf (hb.kept (fun k hk => HB2.out.block k (hP.lt k hk)) (fun _ h => h)) hlo)
  clear hd hP hb hf
  cases hr : ex (m.enter c) (bodyQ qs c) with
  | mk m' o =>
    rw [hr] at HD
    cases o with
    | some f =>
      have HC := Lib.hid (show callBy ex (bodyQ qs) m c = (m', some f) by rw [callBy, hr])
      clear hr
      go_wp2_with fail
      refine HD.out.mono ?_
      rintro e w3 ⟨rfl, hR, hb3⟩
      have HR := Lib.hid hR
      have HB3 := Lib.hid hb3
      clear hR hb3
      go_wp2_with fail
      exact ⟨rfl, by rw [HC.out]; exact ⟨rfl, HR.out, HB2.out.trans HB3.out⟩⟩
    | none =>
      have HC := Lib.hid (show callBy ex (bodyQ qs) m c = (m'.leave m.stk, none) by rw [callBy, hr])
      clear hr
      go_wp2_with fail
      refine HD.out.mono ?_
      rintro e w3 ⟨rfl, ⟨oa', oc', ja', jc', hR⟩, hb3⟩
      have h4 := hR.setc 6 (.string (txtOf m.stk)) (m'.leave m.stk) rfl rfl rfl
      have c6 := hR.c6
      have f6 := hR.free 6
      have H4 := Lib.hid (⟨Rn.of h4.1, (HB2.out.trans hb3).trans h4.2⟩ : _ ∧ _)
      clear hR hb3 h4
      go_wp2_with fail
      go_end0
      rw [HC.out]
      exact ⟨rfl, H4.out.1, H4.out.2⟩

set_option maxHeartbeats 1000000 in
set_option maxRecDepth 100000 in
theorem call_deep {w : World} {m : Mst} (h : Rn w B rb pv fv m) (c : UInt8) (hs : m.stk.length = 20) :
    Calls Tryz.prog 109 #[.pointer (some ⟨rb, 0, none⟩), .agg #[.int .u8 c.toNat]] w (RanTo B rb pv fv (m, some .deep) w) := by
  obtain ⟨oa, oc, ja, jc, hE⟩ := h
  have hba : Below w.heap.size w (w.alloc (Obj.cells #[.int .u8 c.toNat] 150)) := (Below.refl _ _).alloc (Nat.le_refl _) _
  have c6 := (later_b hE hba).c6
  have hz : (txtOf m.stk).size = 20 := by rw [txtOf_size]; exact hs
  have HX := Lib.hid (⟨Rn.of (later_b hE hba), Kp.of hba hE.big⟩ : _ ∧ _)
  clear hE hba hs
  generalize txtOf m.stk = t at *
  go_enter Tryz.func109, Tryz.ntmps109
  go_wp2_with fail
  exact ⟨rfl, rfl, HX.out.1, HX.out.2⟩

set_option maxHeartbeats 1000000 in
set_option maxRecDepth 100000 in
theorem call_by (hd : DoesAll B rb S qs pv fv ex lo) {w : World} {m : Mst} (h : Rn w B rb pv fv m) (hP : Pw w B S qs pv) (c : UInt8) (hc : c ∈ namesQ qs) (hl : isLet c = true) (hm : m.ok 0) (hs : m.stk.length ≠ 20) (hlo : lo ≤ m.steps) :
    Calls Tryz.prog 109 #[.pointer (some ⟨rb, 0, none⟩), .agg #[.int .u8 c.toNat]] w (RanTo B rb pv fv (callBy ex (bodyQ qs) m c) w) := by
  obtain ⟨oa, oc, ja, jc, hE⟩ := h
  obtain ⟨pa, pc, rfl⟩ := hP.prog.form
  have hba : Below w.heap.size w (w.alloc (Obj.cells #[.int .u8 c.toNat] 150)) := (Below.refl _ _).alloc (Nat.le_refl _) _
  have hA := later_b hE hba
  have c6 := hA.c6
  have c4 := hA.c4
  have hz : (txtOf m.stk).size = m.stk.length := txtOf_size _
  have hsl := hm.stk
  have hne : ((m.stk.length : Int) == 20) = false := by rw [beq_eq_false_iff_ne]; omega
  have hPA := hP.later (Kp.of hba hE.big)
  obtain ⟨hr, hr1, hr2⟩ := hPA.find hc
  obtain ⟨g, rfl, _, d0, d1⟩ := hPA.prog.get _ hr
  have hqm : qs[rank (namesQ qs) c] ∈ qs := List.getElem_mem hr
  have hbd := hPA.prog.body _ hqm
  have hfi := hPA.fits _ hqm
  rw [← hr2] at hbd hfi
  rw [hr1] at d0
  have HF := Lib.hid (fun w' (hb : Below (w.alloc (Obj.cells #[.int .u8 c.toNat] 150)).heap.size (w.alloc (Obj.cells #[.int .u8 c.toNat] 150)) w') =>
    (find_in (hPA.later (Kp.of hb hA.big)).prog rfl hPA.le hPA.asc_ c).mono (R' := fun e w'' => e = .returned (.tuple #[.int .i64 (rank (namesQ qs) c : Nat), .bool ((namesQ qs).contains c)]) ∧ Below (w.alloc (Obj.cells #[.int .u8 c.toNat] 150)).heap.size (w.alloc (Obj.cells #[.int .u8 c.toNat] 150)) w'') (fun _ _ h => ⟨h.1, hb.trans (h.2.mono hb.size)⟩))
  have hgl := World.block_lt_of_cell? _ _ d0
  obtain ⟨bv, hbv⟩ : ∃ bv, bv = qs[rank (namesQ qs) c].2 := ⟨_, rfl⟩
  rw [← hbv] at d1 hbd
  have hle := hPA.le
  obtain ⟨ba, bn, bc, rfl⟩ := hbd.form
  have HE := Lib.hid hA
  have HB := Lib.hid (Kp.of hba hE.big)
  have HA := Lib.hid (fun w1 (h1 : Below (w.alloc (Obj.cells #[.int .u8 c.toNat] 150)).heap.size (w.alloc (Obj.cells #[.int .u8 c.toNat] 150)) w1) =>
    act_by hd (w := w1) (m := m) (Rn.of (later_b hA h1)) (hPA.later (Kp.of h1 hA.big)) c _ (hbd.kept (fun k hk => h1.block k (by have := hP.lt k hk; have := hA.big; omega)) (fun _ h => h)) hfi hl
      ⟨hm.lo, hm.hi, hm.steps, hm.out, hm.pts, by simp [Mst.enter]; omega, by simp [Mst.enter], by
        intro d hd
        simp only [Mst.enter, List.mem_append, List.mem_singleton] at hd
        rcases hd with hd | rfl
        · exact hm.let_ d hd
        · exact hl, by
        have := hm.deep
        show max m.deep (m.stk.length + 1) ≤ 20
        omega, hm.each⟩ hlo)
  have HD := Lib.hid (⟨d0, d1⟩ : _ ∧ _)
  clear hd hP hE hPA hr1 hr2 hbd hfi hqm hbv hm hl hc hba hA d0 d1
  generalize rank (namesQ qs) c = k at *
  generalize (namesQ qs).contains c = cb at *
  generalize txtOf m.stk = t at *
  generalize hqn : qs.length = qn at *
  go_enter Tryz.func109, Tryz.ntmps109
  go_wp2_with fail
  go_region_with ((first | (go_at_call 86; refine (by first | exact HF.out _ (Below.refl _ _) | exact HF.out _ (Below.refl _ _).drew : Calls _ _ _ _ _).mono ?_; rintro e w1 ⟨rfl, hb1⟩)))
  all_goals
    have HB1 := Lib.hid hb1
    have c4' := (later_b HE.out hb1).c4
    have d0 : w1.cell? ⟨g, k * 2, none⟩ = some (.int .u8 c.toNat) := by rw [hb1.cell (p := ⟨g, k * 2, none⟩) hgl]; exact HD.out.1
    have d1 : w1.cell? ⟨g, k * 2 + 1, none⟩ = some (.slice ba bn bc) := by rw [hb1.cell (p := ⟨g, k * 2 + 1, none⟩) hgl]; exact HD.out.2
    have HA1 := Lib.hid (HA.out w1 hb1)
    clear hb1 c4 c6
    go_wp2_with fail
    cases hr : callBy ex (bodyQ qs) m c with
    | mk m' o =>
      rw [hr] at HA1
      cases o with
      | some f =>
        refine HA1.out.mono ?_
        rintro e w2 ⟨rfl, hR, hb2⟩
        have HR := Lib.hid (⟨hR, (HB.out.trans (Kp.of HB1.out HE.out.big)).trans hb2⟩ : _ ∧ _)
        clear hR hb2
        go_wp2_with fail
        exact ⟨rfl, rfl, HR.out.1, HR.out.2⟩
      | none =>
        refine HA1.out.mono ?_
        rintro e w2 ⟨rfl, hR, hb2⟩
        have HR := Lib.hid (⟨hR, (HB.out.trans (Kp.of HB1.out HE.out.big)).trans hb2⟩ : _ ∧ _)
        clear hR hb2
        go_wp2_with fail
        go_end0
        rw [hr]
        exact ⟨rfl, HR.out.1, HR.out.2⟩

set_option maxHeartbeats 1000000 in
set_option maxRecDepth 100000 in
theorem choose_by (hd : DoesAll B rb S qs pv fv ex lo) {w : World} {m : Mst} (h : Rn w B rb pv fv m) (hP : Pw w B S qs pv) (a b : List Stm) (va vb : Value) (ha : IsBody w S a va) (hb : IsBody w S b vb) (fa : Fits (namesQ qs) a) (fb : Fits (namesQ qs) b) (hm : m.ok 0) (hlo : lo ≤ m.steps) :
    Calls Tryz.prog 110 #[.pointer (some ⟨rb, 0, none⟩), .agg #[va, vb]] w (RanTo B rb pv fv (ex m (if 0 < m.val then a else b)) w) := by
  obtain ⟨oa, oc, ja, jc, hE⟩ := h
  obtain ⟨aa, an, ac, rfl⟩ := ha.form
  obtain ⟨ba, bn, bc, rfl⟩ := hb.form
  have hba : Below w.heap.size w (w.alloc (Obj.cells #[.slice aa an ac, .slice ba bn bc] 163)) := (Below.refl _ _).alloc (Nat.le_refl _) _
  have hA := later_b hE hba
  have c0 := hA.c0
  have HD := Lib.hid (fun (xs : List Stm) (v : Value) (hx : IsBody w S xs v) (hf : Fits (namesQ qs) xs) => hd (w.alloc (Obj.cells #[.slice aa an ac, .slice ba bn bc] 163)) m xs v (Rn.of hA) (hP.later (Kp.of hba hE.big)) hm hf (hx.kept (fun k hk => hba.block k (by have := hP.lt k hk; have := hE.big; omega)) (fun _ h => h)) hlo)
  have HB := Lib.hid (Kp.of hba hE.big)
  by_cases hv : 0 < m.val
  · have HA1 := Lib.hid (HD.out a _ ha fa)
    rw [if_pos hv]
    clear hd hP ha hb fa fb hm hE hA HD hba
    go_enter Tryz.func110, Tryz.ntmps110
    go_wp2_with fail
    cases hr : ex m a with
    | mk m' o =>
      rw [hr] at HA1
      cases o with
      | some f =>
        refine HA1.out.mono ?_
        rintro e w2 ⟨rfl, hR, hb2⟩
        have HR := Lib.hid (⟨hR, HB.out.trans hb2⟩ : _ ∧ _)
        clear hR hb2
        go_wp2_with fail
        exact ⟨rfl, rfl, HR.out.1, HR.out.2⟩
      | none =>
        refine HA1.out.mono ?_
        rintro e w2 ⟨rfl, hR, hb2⟩
        have HR := Lib.hid (⟨hR, HB.out.trans hb2⟩ : _ ∧ _)
        clear hR hb2
        go_wp2_with fail
        go_end0
        rw [hr]
        exact ⟨rfl, HR.out.1, HR.out.2⟩
  · have HA1 := Lib.hid (HD.out b _ hb fb)
    rw [if_neg hv]
    clear hd hP ha hb fa fb hm hE hA HD hba
    go_enter Tryz.func110, Tryz.ntmps110
    go_wp2_with fail
    cases hr : ex m b with
    | mk m' o =>
      rw [hr] at HA1
      cases o with
      | some f =>
        refine HA1.out.mono ?_
        rintro e w2 ⟨rfl, hR, hb2⟩
        have HR := Lib.hid (⟨hR, HB.out.trans hb2⟩ : _ ∧ _)
        clear hR hb2
        go_wp2_with fail
        exact ⟨rfl, rfl, HR.out.1, HR.out.2⟩
      | none =>
        refine HA1.out.mono ?_
        rintro e w2 ⟨rfl, hR, hb2⟩
        have HR := Lib.hid (⟨hR, HB.out.trans hb2⟩ : _ ∧ _)
        clear hR hb2
        go_wp2_with fail
        go_end0
        rw [hr]
        exact ⟨rfl, HR.out.1, HR.out.2⟩
end
end Go.Proofs.YtomodlllmbkndaaGreatDoor
namespace Go.Proofs.YtomodlllmbkndaaGreatDoor
open Go.RowKit Gram

section
variable {B rb : Nat} {S : Nat → Prop} {qs : List Qr} {pv fv : Value} {ex : Mst → List Stm → Mst × Option Fin} {lo : Nat}

set_option maxHeartbeats 1000000 in
theorem dostep_long {w : World} {m : Mst} (h : Rn w B rb pv fv m) (v : Value) (hv : ∃ ty q, v = .iface ty q) (hs : m.steps = 500) :
    Calls Tryz.prog 88 #[.pointer (some ⟨rb, 0, none⟩), v] w (RanTo B rb pv fv (m, some .long) w) := by
  obtain ⟨oa, oc, ja, jc, hE⟩ := h
  obtain ⟨ty, q, rfl⟩ := hv
  have HS := Lib.hid (step_long hE hs)
  have HE := Lib.hid hE
  clear hE hs
  go_enter Tryz.func88, Tryz.ntmps88
  go_wp2_with fail
  refine HS.out.mono ?_
  rintro e w2 ⟨rfl, rfl⟩
  go_wp2_with fail
  exact ⟨rfl, rfl, Rn.of HE.out, Kp.refl _ _⟩

set_option maxHeartbeats 1000000 in
set_option maxRecDepth 100000 in
theorem dostep_chg {w : World} {m : Mst} (h : Rn w B rb pv fv m) (g d : UInt8) (hx : (Stm.chg g d).wf = true) (hm : m.ok 1) (hs : m.steps ≠ 500) :
    Calls Tryz.prog 88 #[.pointer (some ⟨rb, 0, none⟩), .iface 157 (.agg #[.int .u8 g.toNat, .int .u8 d.toNat])] w (RanTo B rb pv fv (m.tick.chg g d, none) w) := by
  obtain ⟨oa, oc, ja, jc, hE⟩ := h
  simp only [Stm.wf, Bool.and_eq_true] at hx
  have HS := Lib.hid (step_more hE hs hm.steps)
  have HX := Lib.hid (⟨hx.1, hx.2, hm.lo, hm.hi⟩ : _ ∧ _ ∧ _ ∧ _)
  have t1 := sw_chg_chg
  clear hE hs hx hm
  go_enter Tryz.func88, Tryz.ntmps88
  go_wp2_with fail
  refine HS.out.mono ?_
  rintro e w2 ⟨rfl, hR, hb2⟩
  have HR := Lib.hid hR
  have HB := Lib.hid hb2
  clear hR hb2
  go_wp2_with fail
  have hba : Below w2.heap.size w2 (w2.alloc (Obj.cells #[.int .u8 g.toNat, .int .u8 d.toNat] 157)) := (Below.refl _ _).alloc (Nat.le_refl _) _
  refine (change_any (later_b HR.out hba) g d HX.out.1 HX.out.2.1 HX.out.2.2.1 HX.out.2.2.2).mono ?_
  rintro e w3 ⟨rfl, hR3, hb3⟩
  have H3 := Lib.hid (⟨Rn.of hR3, (HB.out.trans (Kp.of hba HR.out.big)).trans hb3⟩ : _ ∧ _)
  clear hR3 hb3 hba
  go_wp2_with fail
  go_end0
  exact ⟨rfl, H3.out.1, H3.out.2⟩

set_option maxHeartbeats 1000000 in
set_option maxRecDepth 100000 in
theorem dostep_prt {w : World} {m : Mst} (h : Rn w B rb pv fv m) (hm : m.ok 1) (hs : m.steps ≠ 500) :
    Calls Tryz.prog 88 #[.pointer (some ⟨rb, 0, none⟩), .iface 160 (.agg #[])] w (RanTo B rb pv fv (m.tick.prt, none) w) := by
  obtain ⟨oa, oc, ja, jc, hE⟩ := h
  have HS := Lib.hid (step_more hE hs hm.steps)
  have HL := Lib.hid (show m.tick.out.length ≤ 1000 from by have := hm.out; have := hm.steps; show m.out.length ≤ 1000; omega)
  have t1 := sw_prt_chg
  have t2 := sw_prt_prt
  clear hE hs hm
  go_enter Tryz.func88, Tryz.ntmps88
  go_wp2_with fail
  refine HS.out.mono ?_
  rintro e w2 ⟨rfl, hR, hb2⟩
  have HR := Lib.hid hR
  have HB := Lib.hid hb2
  clear hR hb2
  go_wp2_with fail
  have hba : Below w2.heap.size w2 (w2.alloc (Obj.cells #[] 160)) := (Below.refl _ _).alloc (Nat.le_refl _) _
  obtain ⟨wj, hwj⟩ : ∃ wj, wj = w2.alloc (Obj.cells #[] 160) := ⟨_, rfl⟩
  have HE2 := Lib.hid (later_b HR.out hba)
  have HB2 := Lib.hid (HB.out.trans (Kp.of hba HR.out.big))
  rw [← hwj] at HE2 HB2 ⊢
  have BP := Lib.hid (fun o => (Below.refl wj.heap.size wj).alloc (Nat.le_refl _) o)
  have c1 := HE2.out.c1
  have c0 := HE2.out.c0
  have d1 := (later_b HE2.out (BP.out (Obj.cells #[.int .i64 m.tick.val] 3))).c1
  clear hwj hba
  go_region_law
    ((refine step_append_at (t := 27) (by rfl) (.tmp 25) (.tmp 31) (by rfl) (by rfl) (.slice oa m.out.length oc) (.slice (some ⟨wj.heap.size, 0, none⟩) 1 1) (by first | (simp [Act.eval]; done) | (simp [Act.eval, Act.put]; done) | rfl) (by first | (simp [Act.eval]; done) | (simp [Act.eval, Act.put]; done) | rfl) _ _ (HE2.out.app_out HL.out m.tick.val _ (by first | exact BP.out _ | exact (BP.out _).drew) wj.heap.size (by exact heap_alloc_new _ _)) ?_
      intro g7 c7 w7 h7
      have s1 := h7.c1
      have s2 := h7.f1
      have H7 := Lib.hid h7
      clear h7))
  all_goals
    go_wp2_with fail
    go_end0
    exact ⟨rfl, Rn.of H7.out.rn, HB2.out.trans H7.out.bel⟩

set_option maxHeartbeats 1000000 in
set_option maxRecDepth 100000 in
theorem dostep_call (hd : DoesAll B rb S qs pv fv ex lo) {w : World} {m : Mst} (h : Rn w B rb pv fv m) (hP : Pw w B S qs pv) (c : UInt8) (hc : c ∈ namesQ qs) (hl : isLet c = true) (hm : m.ok 1) (hs : m.steps ≠ 500) (hlo : lo ≤ m.steps + 1) :
    Calls Tryz.prog 88 #[.pointer (some ⟨rb, 0, none⟩), .iface 150 (.agg #[.int .u8 c.toNat])] w (RanTo B rb pv fv (if m.stk.length = 20 then (m.tick, some .deep) else callBy ex (bodyQ qs) m.tick c) w) := by
  obtain ⟨oa, oc, ja, jc, hE⟩ := h
  have HS := Lib.hid (step_more hE hs hm.steps)
  have HC := Lib.hid (fun w2 (hR : RnE w2 B rb pv fv (.slice oa m.tick.out.length oc) (.slice ja m.tick.pts.length jc) m.tick) (hb : Kp B w w2) => show Calls Tryz.prog 109 #[.pointer (some ⟨rb, 0, none⟩), .agg #[.int .u8 c.toNat]] w2 (RanTo B rb pv fv (if m.stk.length = 20 then (m.tick, some .deep) else callBy ex (bodyQ qs) m.tick c) w2) from by
    by_cases h20 : m.stk.length = 20
    · rw [if_pos h20]; exact call_deep (Rn.of hR) c h20
    · rw [if_neg h20]; exact call_by hd (Rn.of hR) (hP.later hb) c hc hl (hm.tick hs) h20 hlo)
  have t1 := sw_call_chg
  have t2 := sw_call_prt
  have t3 := sw_call_call
  clear hE hs hm hd hP hc hl
  generalize (if m.stk.length = 20 then (m.tick, some .deep) else callBy ex (bodyQ qs) m.tick c : Mst × Option Fin) = r at *
  go_enter Tryz.func88, Tryz.ntmps88
  go_wp2_with fail
  refine HS.out.mono ?_
  rintro e w2 ⟨rfl, hR, hb2⟩
  have HR := Lib.hid hR
  have HB := Lib.hid hb2
  clear hR hb2
  go_wp2_with fail
  have hba : Below w2.heap.size w2 (w2.alloc (Obj.cells #[.int .u8 c.toNat] 150)) := (Below.refl _ _).alloc (Nat.le_refl _) _
  have HA := Lib.hid (HC.out _ (later_b HR.out hba) (HB.out.trans (Kp.of hba HR.out.big)))
  have HB2 := Lib.hid (HB.out.trans (Kp.of hba HR.out.big))
  clear hba
  obtain ⟨m', o⟩ := r
  cases o with
  | some f =>
    refine HA.out.mono ?_
    rintro e w3 ⟨rfl, hR3, hb3⟩
    have H3 := Lib.hid (⟨hR3, HB2.out.trans hb3⟩ : _ ∧ _)
    clear hR3 hb3
    go_wp2_with fail
    exact ⟨rfl, rfl, H3.out.1, H3.out.2⟩
  | none =>
    refine HA.out.mono ?_
    rintro e w3 ⟨rfl, hR3, hb3⟩
    have H3 := Lib.hid (⟨hR3, HB2.out.trans hb3⟩ : _ ∧ _)
    clear hR3 hb3
    go_wp2_with fail
    go_end0
    exact ⟨rfl, H3.out.1, H3.out.2⟩

set_option maxHeartbeats 1000000 in
set_option maxRecDepth 100000 in
theorem dostep_cho (hd : DoesAll B rb S qs pv fv ex lo) {w : World} {m : Mst} (h : Rn w B rb pv fv m) (hP : Pw w B S qs pv) (a b : List Stm) (va vb : Value) (ha : IsBody w S a va) (hb : IsBody w S b vb) (fa : Fits (namesQ qs) a) (fb : Fits (namesQ qs) b) (hm : m.ok 1) (hs : m.steps ≠ 500) (hlo : lo ≤ m.steps + 1) :
    Calls Tryz.prog 88 #[.pointer (some ⟨rb, 0, none⟩), .iface 163 (.agg #[va, vb])] w (RanTo B rb pv fv (ex m.tick (if 0 < m.val then a else b)) w) := by
  obtain ⟨oa, oc, ja, jc, hE⟩ := h
  have HS := Lib.hid (step_more hE hs hm.steps)
  have HC := Lib.hid (fun w2 (hR : RnE w2 B rb pv fv (.slice oa m.tick.out.length oc) (.slice ja m.tick.pts.length jc) m.tick) (hb' : Kp B w w2) =>
    choose_by hd (Rn.of hR) (hP.later hb') a b va vb (ha.kept (fun k hk => hb'.block k (hP.lt k hk)) (fun _ h => h)) (hb.kept (fun k hk => hb'.block k (hP.lt k hk)) (fun _ h => h)) fa fb (hm.tick hs) hlo)
  have t1 := sw_cho_chg
  have t2 := sw_cho_prt
  have t3 := sw_cho_call
  have t4 := sw_cho_cho
  obtain ⟨aa, an, ac, rfl⟩ := ha.form
  obtain ⟨ba, bn, bc, rfl⟩ := hb.form
  have hr0 : ex m.tick (if 0 < m.tick.val then a else b) = ex m.tick (if 0 < m.val then a else b) := rfl
  rw [hr0] at HC
  clear hE hs hm hd hP ha hb fa fb hr0
  generalize (ex m.tick (if 0 < m.val then a else b) : Mst × Option Fin) = r at *
  go_enter Tryz.func88, Tryz.ntmps88
  go_wp2_with fail
  refine HS.out.mono ?_
  rintro e w2 ⟨rfl, hR, hb2⟩
  have HR := Lib.hid hR
  have HB := Lib.hid hb2
  clear hR hb2
  go_wp2_with fail
  have hba : Below w2.heap.size w2 (w2.alloc (Obj.cells #[.slice aa an ac, .slice ba bn bc] 163)) := (Below.refl _ _).alloc (Nat.le_refl _) _
  have HA := Lib.hid (HC.out _ (later_b HR.out hba) (HB.out.trans (Kp.of hba HR.out.big)))
  have HB2 := Lib.hid (HB.out.trans (Kp.of hba HR.out.big))
  clear hba
  obtain ⟨m', o⟩ := r
  cases o with
  | some f =>
    refine HA.out.mono ?_
    rintro e w3 ⟨rfl, hR3, hb3⟩
    have H3 := Lib.hid (⟨hR3, HB2.out.trans hb3⟩ : _ ∧ _)
    clear hR3 hb3
    go_wp2_with fail
    exact ⟨rfl, rfl, H3.out.1, H3.out.2⟩
  | none =>
    refine HA.out.mono ?_
    rintro e w3 ⟨rfl, hR3, hb3⟩
    have H3 := Lib.hid (⟨hR3, HB2.out.trans hb3⟩ : _ ∧ _)
    clear hR3 hb3
    go_wp2_with fail
    go_end0
    exact ⟨rfl, H3.out.1, H3.out.2⟩

theorem dostep_any (hd : DoesAll B rb S qs pv fv ex lo) {w : World} {m : Mst} (h : Rn w B rb pv fv m) (hP : Pw w B S qs pv) (x : Stm) (v : Value) (hv : IsStm w S x v) (hf : Fits (namesQ qs) [x]) (hm : m.ok 1) (hlo : lo ≤ m.steps + 1) :
    Calls Tryz.prog 88 #[.pointer (some ⟨rb, 0, none⟩), v] w (RanTo B rb pv fv (stepBy ex (bodyQ qs) m x) w) := by
  unfold stepBy
  by_cases hs : m.steps = 500
  · rw [if_pos hs]; exact dostep_long h v hv.iface hs
  · rw [if_neg hs]
    obtain ⟨f1, f2, f3, f4⟩ := hf
    simp only [wfs, nks, Bool.and_true] at f1 f2
    cases x with
    | pro => simp [Stm.nk] at f2
    | chg g d =>
      simp only [IsStm] at hv
      subst hv
      exact dostep_chg h g d f1 hm hs
    | prt =>
      simp only [IsStm] at hv
      subst hv
      exact dostep_prt h hm hs
    | call c =>
      simp only [IsStm] at hv
      subst hv
      exact dostep_call hd h hP c (f3 c (by simp [callsIn, Stm.calls])) (wf_call f1) hm hs hlo
    | cho a b =>
      simp only [IsStm] at hv
      obtain ⟨va, vb, vas, vbs, rfl, r1, s1, r2, s2⟩ := hv
      have hff : Fits (namesQ qs) [.cho a b] := ⟨by simp [wfs, f1], by simp [nks, f2], f3, f4⟩
      exact dostep_cho hd h hP a b va vb ⟨vas, r1, s1⟩ ⟨vbs, r2, s2⟩ hff.cho.1 hff.cho.2 hm hs hlo

set_option maxHeartbeats 1000000 in
set_option maxRecDepth 100000 in
theorem do_by (hd : DoesAll B rb S qs pv fv ex lo) {w : World} {m : Mst} (h : Rn w B rb pv fv m) (hP : Pw w B S qs pv) (x : Stm) (v : Value) (hv : IsStm w S x v) (hf : Fits (namesQ qs) [x]) (hm : m.ok 0) (hlo : lo ≤ m.steps + 1) :
    Calls Tryz.prog 66 #[.pointer (some ⟨rb, 0, none⟩), v] w (RanTo B rb pv fv (stepBy ex (bodyQ qs) (m.come x) x) w) := by
  have hf' := hf
  obtain ⟨f1, f2, _⟩ := hf'
  simp only [wfs, nks, Bool.and_true] at f1 f2
  have HC := Lib.hid (come_any h (by have := hm.pts; have := hm.steps; omega) x f1 f2 S v hv hP.lt)
  obtain ⟨c1, c2, c3, c4⟩ := hm.come x
  have HD := Lib.hid (fun w2 (hR : Rn w2 B rb pv fv (m.come x)) (hb : Kp B w w2) => dostep_any hd hR (hP.later hb) x v (IsStm.kept (fun k hk => hb.block k (hP.lt k hk)) (fun _ h => h) _ _ hv) hf c1 (by rw [c3]; exact hlo))
  obtain ⟨ty, q, rfl⟩ := hv.iface
  have hjv : ∃ jv, jv = jpO (jpOf x m.stk) := ⟨_, rfl⟩
  obtain ⟨jv, hjv⟩ := hjv
  rw [← hjv] at HC
  generalize (jpOf x m.stk).isSome = jb at *
  generalize stepBy ex (bodyQ qs) (m.come x) x = r at *
  clear hd h hP hf hm f1 f2 hv c1 c2 c3 c4 hjv
  go_enter Tryz.func66, Tryz.ntmps66
  go_wp2_with fail
  refine HC.out.mono ?_
  rintro e w2 ⟨rfl, hR, hb2⟩
  have HA := Lib.hid (HD.out w2 hR hb2)
  have HB := Lib.hid hb2
  clear hR hb2
  go_wp2_with fail
  obtain ⟨m', o⟩ := r
  cases o with
  | some f =>
    refine HA.out.mono ?_
    rintro e w3 ⟨rfl, hR3, hb3⟩
    have H3 := Lib.hid (⟨hR3, HB.out.trans hb3⟩ : _ ∧ _)
    clear hR3 hb3
    go_wp2_with fail
    exact ⟨rfl, rfl, H3.out.1, H3.out.2⟩
  | none =>
    refine HA.out.mono ?_
    rintro e w3 ⟨rfl, hR3, hb3⟩
    have H3 := Lib.hid (⟨hR3, HB.out.trans hb3⟩ : _ ∧ _)
    clear hR3 hb3
    go_wp2_with fail
    go_end0
    exact ⟨rfl, H3.out.1, H3.out.2⟩
end
end Go.Proofs.YtomodlllmbkndaaGreatDoor
namespace Go.Proofs.YtomodlllmbkndaaGreatDoor
open Go.RowKit Gram

/-- the runner's own way of doing a statement -/
def ownDo (rb : Nat) : Value := .func (.func 66) #[.pointer (some ⟨rb, 0, none⟩)] #[]

section
variable {B rb : Nat} {S : Nat → Prop} {qs : List Qr} {pv : Value}

set_option maxHeartbeats 2000000 in
set_option maxRecDepth 100000 in
theorem doall_loop (n : Nat) (ih : ∀ j, j < n → DoesAll B rb S qs pv (ownDo rb) (exec (bodyQ qs) j) (501 - j)) (w : World) (m : Mst) (xs : List Stm) (ad : Option Addr) (ln cp : Nat) (vs : List Value) (h : Rn w B rb pv (ownDo rb) m) (hP : Pw w B S qs pv) (hm : m.ok 0) (hf : Fits (namesQ qs) xs)
    (hr : Row w S (.slice ad ln cp) vs) (hs : IsStms w S xs vs) (hln : ln = xs.length) (hle : ln ≤ 1048576) (hlo : 501 - n ≤ m.steps) :
    Calls Tryz.prog 89 #[.pointer (some ⟨rb, 0, none⟩), .slice ad ln cp] w (RanTo B rb pv (ownDo rb) (exec (bodyQ qs) n m xs) w) := by
  have H := Lib.hid ih
  have HR := Lib.hid hr
  have HS := Lib.hid hs
  have HL := Lib.hid hln
  have HP := Lib.hid hP
  have HF := Lib.hid hf
  have HRn := Lib.hid h
  have HM := Lib.hid hm
  have HLo := Lib.hid (show 501 ≤ m.steps + n by omega)
  have hbig : B ≤ w.heap.size := by obtain ⟨_, _, _, _, hE⟩ := h; exact hE.big
  clear h hr hs hP hln hf hm hlo ih
  go_enter Tryz.func89, Tryz.ntmps89
  go_wp2_with fail
  go_loopw [8] (fun i wr => ∃ (k n' : Nat) (m' : Mst), k ≤ ln ∧ i = .int .i64 k ∧ n' ≤ n ∧ Hid (Rn wr B rb pv (ownDo rb) m') ∧ Hid (m'.ok 0) ∧ Hid (501 ≤ m'.steps + n') ∧ Hid (Kp B w wr) ∧ Hid (exec (bodyQ qs) n m xs = exec (bodyQ qs) n' m' (xs.drop k))) (fun i _ => ln - (intOf i).toNat)
  case atStart => exact ⟨0, n, m, Nat.zero_le _, by go_num, Nat.le_refl _, HRn.out, HM.out, HLo.out, Kp.refl _ _, rfl⟩
  case round =>
    obtain ⟨k, n', m', hk, rfl, hn', hR, hM, hLo, hB, hE⟩ := hrel
    by_cases hlt : k < ln
    · have hkx : k < xs.length := by rw [← HL.out]; exact hlt
      obtain ⟨x, v, hxk, hvk, hst⟩ := stms_get xs vs HS.out k hkx
      obtain ⟨g, hga, hc1⟩ : ∃ g, ad = some ⟨g, 0, none⟩ ∧ wr.cell? ⟨g, k, none⟩ = some v := by
        rcases HR.out.1.2 with ⟨h1, h2⟩ | ⟨g, cap, cur, h1, _, _⟩
        · injection h1 with h3 h4; omega
        · injection h1 with h3 h4 h5
          subst h3; subst h4; subst h5
          have hg := HP.out.lt g (HR.out.2 g rfl)
          have := row_cell HR.out.1 k v hvk
          exact ⟨g, rfl, by rw [← this]; exact World.cell?_of_block (a := ⟨g, k, none⟩) (hB.out.block g hg)⟩
      subst hga
      have hdr : xs.drop k = x :: xs.drop (k + 1) := by
        rw [List.drop_eq_getElem_cons hkx]
        congr 1
        rw [List.getElem?_eq_getElem hkx] at hxk
        exact Option.some.inj hxk
      have hst2 : IsStm wr S x v := IsStm.kept (fun j hj => hB.out.block j (HP.out.lt j hj)) (fun _ h => h) _ _ hst
      obtain ⟨j, hj⟩ : ∃ j, n' = j + 1 := ⟨n' - 1, by have := hM.out.steps; have := hLo.out; omega⟩
      subst hj
      have hfd := HF.out.drop k
      rw [hdr] at hfd
      have HD := do_by (H.out j (by omega)) hR.out (HP.out.later hB.out) x v hst2 hfd.one hM.out (by have := hLo.out; omega)
      have hwx : x.wf = true := by have := hfd.1; simp only [wfs, Bool.and_eq_true] at this; exact this.1
      have hkeep := stepBy_keeps HP.out.bodies (exec_keeps HP.out.bodies j) (hM.out.come x).1 hwx
      have hex : exec (bodyQ qs) (j + 1) m' (xs.drop k) = andBy (stepBy (exec (bodyQ qs) j) (bodyQ qs) (m'.come x) x) (fun m'' => exec (bodyQ qs) j m'' (xs.drop (k + 1))) := by rw [hdr, exec_cons]
      have hE2 := hE.out.trans hex
      have hcs := (hM.out.come x).2.2.1
      obtain ⟨ty, q, rfl⟩ := hst2.iface
      obtain ⟨oa, oc, ja, jc, hEn⟩ := hR.out
      have c8 := hEn.c8
      rw [ownDo] at c8
      cases hr : stepBy (exec (bodyQ qs) j) (bodyQ qs) (m'.come x) x with
      | mk m'' o =>
        rw [hr] at HD hkeep hE2
        cases o with
        | some f =>
          have HD := Lib.hid HD
          have HE2 := Lib.hid (show exec (bodyQ qs) n m xs = (m'', some f) from hE2)
          clear hE2 hex hkeep hst2 hfd hdr hvk hst hxk hr hwx hEn hE
          go_wp2_with fail
          refine HD.out.mono ?_
          rintro e w2 ⟨rfl, hR2, hb2⟩
          have H2 := Lib.hid (⟨hR2, hB.out.trans hb2⟩ : _ ∧ _)
          clear hR2 hb2
          go_wp2_with fail
          rw [HE2.out]
          exact ⟨rfl, rfl, H2.out.1, H2.out.2⟩
        | none =>
          have HD := Lib.hid HD
          have HE2 := Lib.hid (show exec (bodyQ qs) n m xs = exec (bodyQ qs) j m'' (xs.drop (k + 1)) from hE2)
          have HK := Lib.hid (hkeep.2.1 rfl)
          clear hE2 hex hkeep hst2 hfd hdr hvk hst hxk hr hwx hEn hE
          go_wp2_with fail
          refine HD.out.mono ?_
          rintro e w2 ⟨rfl, hR2, hb2⟩
          have H2 := Lib.hid (⟨hR2, hB.out.trans hb2⟩ : _ ∧ _)
          clear hR2 hb2
          go_wp2_with fail
          go_roundw
          case rel =>
            obtain ⟨k1, k2, k3⟩ := HK.out
            exact ⟨k + 1, j, m'', by omega, by go_num, by omega, H2.out.1, k1, by show 501 ≤ m''.steps + j; have := hLo.out; rw [hcs] at k3; omega, H2.out.2, HE2.out⟩
          case measure => simp [intOf]; omega
    · have hall : xs.drop k = [] := List.drop_of_length_le (by rw [← HL.out]; omega)
      rw [hall] at hE
      have HE2 := Lib.hid (show exec (bodyQ qs) n m xs = (m', none) by rw [hE.out]; cases n' <;> rfl)
      clear hE
      go_wp2_with fail
      go_end0
      rw [HE2.out]
      exact ⟨rfl, hR.out, hB.out⟩

theorem doall_all (n : Nat) : DoesAll B rb S qs pv (ownDo rb) (exec (bodyQ qs) n) (501 - n) := by
  induction n using Nat.strongRecOn with
  | _ n ih =>
    intro w m xs v h hP hm hf hb hlo
    obtain ⟨vs, hr, hs⟩ := hb
    obtain ⟨ad, ln, cp, rfl⟩ := slice_form hr.1
    have hl := IsStms.len _ _ hs
    have hln : ln = xs.length := by
      rcases hr.1.2 with ⟨h1, h2⟩ | ⟨g, cap, cur, h1, _⟩
      · injection h1 with _ h3; omega
      · injection h1 with _ h3; omega
    exact doall_loop n ih w m xs ad ln cp vs h hP hm hf hr hs hln (by rw [hln]; have := hf.len; omega) hlo
end
end Go.Proofs.YtomodlllmbkndaaGreatDoor
namespace Go.Proofs.YtomodlllmbkndaaGreatDoor
open Go.RowKit Gram

/-- the cells of a runner at its end -/
def rnD (m : Mst) (en : List UInt8) (ov pv jv fv : Value) : Array Value := #[.int .i64 m.val, ov, .string (txtOf en), .int .i64 m.steps, pv, jv, .string (txtOf m.stk), .int .i64 m.deep, fv]
/-- a runner at its end -/
structure RnD (w : World) (B rb : Nat) (pv fv ov jv : Value) (m : Mst) (en : List UInt8) : Prop where
  own : w.heap[rb]? = some (.cells (rnD m en ov pv jv fv) 66 (0, 0))
  low : B ≤ rb
  out : w.ownsRow B 3 1 ov m.out.length (intVs m.out)
  pts : w.ownsRow B 49 3 jv m.pts.length (jpC m.pts)
theorem RnE.ends {w : World} {B rb : Nat} {pv fv ov jv : Value} {m : Mst} (h : RnE w B rb pv fv ov jv m) (en : List UInt8) : RnD (w.setCell ⟨rb, 2, none⟩ (.string (txtOf en))) B rb pv fv ov jv m en ∧ Kp B w (w.setCell ⟨rb, 2, none⟩ (.string (txtOf en))) :=
  ⟨⟨by rw [heap_set_same h.own]; rfl, h.low, ownsRow_of h.out fun g hg => heap_set_other (h.out_ne hg).1 _, ownsRow_of h.pts fun g hg => heap_set_other (h.pts_ne hg).1 _⟩, (Kp.refl _ _).setAt h.own (by decide) h.low _ _⟩

theorem ta_end (s : ByteArray) (w : World) : (Instr.typeAssert (.iface 116 (.string s)) 20 116 true).run Tryz.prog w = .ok (.tuple #[.string s, .bool true]) w := by kernel_rfl
theorem ta_nil (w : World) : (Instr.typeAssert .nilIface 20 116 true).run Tryz.prog w = .ok (.tuple #[.string ⟨#[]⟩, .bool false]) w := by kernel_rfl

set_option maxHeartbeats 1000000 in
set_option maxRecDepth 100000 in
theorem end_idle (c : Nat) (w : World) : CallsD Tryz.prog 67 #[.pointer (some ⟨c, 0, none⟩)] .returning w fun e u' w' => e = .returned (.tuple #[]) ∧ u' = .returning ∧ w' = w := by
  refine callsD_of_wpS Tryz.func67 rfl fun c₀ cs hu => ?_
  apply wpS_seq
  apply wpS_region
  simp [wpOpsS, go_sem, recoverD, hu, Tryz.ntmps67, Exit.thenS, ta_nil]
  apply wpS_seq
  apply wpS_region
  simp [wpOpsS, go_sem, Exit.thenS]
  refine wpS_cond (t := false) (by simp [Act.eval, Array.replicate]) ?_
  simp only [Bool.false_eq_true, if_false]
  refine wpS_of_wp (wp_skip ?_)
  cases c₀
  simp_all [bodyPostS, results, Tryz.results67]

set_option maxHeartbeats 1000000 in
set_option maxRecDepth 100000 in
theorem end_panicking (c rb : Nat) (s : ByteArray) (x : Value) (older : List PanicEntry) (w : World) (hc : w.cell? ⟨c, 0, none⟩ = some (.pointer (some ⟨rb, 0, none⟩))) (h2 : w.cell? ⟨rb, 2, none⟩ = some x) (hz : w.frozen? ⟨rb, 2, none⟩ = false) :
    CallsD Tryz.prog 67 #[.pointer (some ⟨c, 0, none⟩)] (.panicking ({ v := .iface 116 (.string s), recovered := false } :: older)) w fun e u' w' =>
      e = .returned (.tuple #[]) ∧ u' = .panicking ({ v := .iface 116 (.string s), recovered := true } :: older) ∧ w' = w.setCell ⟨rb, 2, none⟩ (.string s) := by
  refine callsD_of_wpS Tryz.func67 rfl fun c₀ cs hu => ?_
  apply wpS_seq
  apply wpS_region
  simp [wpOpsS, go_sem, recoverD, hu, Tryz.ntmps67, Exit.thenS, ta_end]
  apply wpS_seq
  apply wpS_region
  simp [wpOpsS, go_sem, Exit.thenS]
  refine wpS_cond (t := true) (by simp [Act.eval, Array.replicate]) ?_
  simp only [if_true]
  apply wpS_region
  simp [wpOpsS, go_sem, hc, h2, hz, bodyPostS, results, Tryz.results67]

theorem start_ok {v : Int} (h1 : -9999 ≤ v) (h2 : v ≤ 9999) {c : UInt8} (hc : isLet c = true) : ((Mst.start v).enter c).ok 0 :=
  ⟨h1, h2, by simp [Mst.start, Mst.enter], by simp [Mst.start, Mst.enter], by simp [Mst.start, Mst.enter], by simp [Mst.start, Mst.enter], by simp [Mst.start, Mst.enter], by
    intro d hd
    simp [Mst.start, Mst.enter] at hd
    subst hd
    exact hc, by simp [Mst.start, Mst.enter], by simp [Mst.start, Mst.enter]⟩

/-- what run does -/
def RunTo (B rb : Nat) (pv fv : Value) (r : Mst × Option Fin) (w : World) (e : Ending) (w' : World) : Prop :=
  e = .returned (.tuple #[]) ∧ (∃ oa oc ja jc, RnD w' B rb pv fv (.slice oa r.1.out.length oc) (.slice ja r.1.pts.length jc) r.1 (Fin.word r.2)) ∧ Kp B w w'

set_option maxHeartbeats 2000000 in
set_option maxRecDepth 100000 in
theorem run_by {B rb : Nat} {S : Nat → Prop} {qs : List Qr} {pv : Value} {w : World} {v : Int} (h : Rn w B rb pv (ownDo rb) (Mst.start v)) (hP : Pw w B S qs pv) (c : UInt8) (bv : Value) (hb : IsBody w S (bodyQ qs c) bv) (hf : Fits (namesQ qs) (bodyQ qs c)) (hc : isLet c = true) (h1 : -9999 ≤ v) (h2 : v ≤ 9999) :
    Calls Tryz.prog 46 #[.pointer (some ⟨rb, 0, none⟩), .agg #[.int .u8 c.toNat, bv]] w (RunTo B rb pv (ownDo rb) (runOf (bodyQ qs) c v) w) := by
  have hmf : ∀ (fn : Fn) (first cap : Array Value) (w : World), (Instr.makeFunc fn first cap).run Tryz.prog w = .ok (.func fn first cap) w := fun _ _ _ _ => rfl
  obtain ⟨oa, oc, ja, jc, hE⟩ := h
  obtain ⟨ba, bn, bc, rfl⟩ := hb.form
  have HA := Lib.hid (fun w1 (h1' : Below w.heap.size w w1) => act_by (doall_all 501) (w := w1) (m := Mst.start v) (Rn.of (later_b hE h1')) (hP.later (Kp.of h1' hE.big)) c (.slice ba bn bc) (hb.kept (fun k hk => h1'.block k (by have := hP.lt k hk; have := hE.big; omega)) (fun _ h => h)) hf hc (start_ok h1 h2 hc) (Nat.zero_le _))
  have HE := Lib.hid hE
  clear hE hP hb hf hc h1 h2
  go_enter_defers Tryz.func46, Tryz.ntmps46
  go_wp2_with fail
  have hb1 : Below w.heap.size w ((w.alloc (Obj.cells #[.pointer (some ⟨rb, 0, none⟩)] 40)).alloc (Obj.cells #[.int .u8 c.toNat, .slice ba bn bc] 76)) := ((Below.refl _ _).alloc (Nat.le_refl _) _).alloc (by rw [alloc_size']; omega) _
  have hp1 : ((w.alloc (Obj.cells #[.pointer (some ⟨rb, 0, none⟩)] 40)).alloc (Obj.cells #[.int .u8 c.toNat, .slice ba bn bc] 76)).heap[w.heap.size]? = some (Obj.cells #[.pointer (some ⟨rb, 0, none⟩)] 40 (0, 0)) :=
    (Lib.alloc_old _ _ _ (by rw [alloc_size']; omega)).trans (heap_alloc_new _ _)
  have HA1 := HA.out _ hb1
  have HB1 := Lib.hid (Kp.of hb1 HE.out.big)
  have HP1 := Lib.hid hp1
  clear hb1 hp1 HA
  generalize ((w.alloc (Obj.cells #[.pointer (some ⟨rb, 0, none⟩)] 40)).alloc (Obj.cells #[.int .u8 c.toNat, .slice ba bn bc] 76)) = w1 at *
  cases hr : callBy (exec (bodyQ qs) 501) (bodyQ qs) (Mst.start v) c with
  | mk m' o =>
    have HO := Lib.hid (show runOf (bodyQ qs) c v = (m', o) from hr)
    rw [hr] at HA1
    clear hr
    cases o with
    | some f =>
      refine HA1.mono ?_
      rintro e w2 ⟨rfl, ⟨oa', oc', ja', jc', hR⟩, hb2⟩
      have hc := Lib.cell_of_heap (hb2.rest _ _ _ _ HP1.out (by decide)) 0
      have h2 := hR.cell 2
      have hz := hR.free 2
      have hcatch := end_panicking w.heap.size rb (txtOf (Fin.word (some f))) _ [] w2 hc h2 hz
      have HC := Lib.hid hcatch
      have HR := Lib.hid (hR.ends (Fin.word (some f)))
      have HB2 := Lib.hid (HB1.out.trans hb2)
      clear hR hb2 hcatch hc h2 hz
      go_wp2_with fail
      refine leaves_cons (f := 67) (args := #[.pointer (some ⟨w.heap.size, 0, none⟩)]) (by simp) (by simp [go_sem]) ?_
      refine HC.out.mono ?_
      rintro e u' w'' ⟨rfl, rfl, rfl⟩
      simp [Leaves, settle, results, Tryz.results46, go_sem]
      rw [HO.out]
      exact ⟨rfl, ⟨oa', oc', ja', jc', HR.out.1⟩, HB2.out.trans HR.out.2⟩
    | none =>
      refine HA1.mono ?_
      rintro e w2 ⟨rfl, ⟨oa', oc', ja', jc', hR⟩, hb2⟩
      have hc := Lib.cell_of_heap (hb2.rest _ _ _ _ HP1.out (by decide)) 0
      have h2 := hR.cell 2
      have hz := hR.free 2
      have HR := Lib.hid (hR.ends (Fin.word none))
      have HB2 := Lib.hid (HB1.out.trans hb2)
      clear hR hb2
      go_wp2_with fail
      refine leaves_cons (f := 67) (args := #[.pointer (some ⟨w.heap.size, 0, none⟩)]) (by simp) (by simp [go_sem]) ?_
      refine (end_idle _ _).mono ?_
      rintro e u' w'' ⟨rfl, rfl, rfl⟩
      refine ⟨.tuple #[], ?_, rfl, ?_⟩
      · simp [results, Tryz.results46, go_sem]
      · rw [HO.out]
        exact ⟨⟨oa', oc', ja', jc', HR.out.1⟩, HB2.out.trans HR.out.2⟩
end Go.Proofs.YtomodlllmbkndaaGreatDoor
namespace Go.Proofs.YtomodlllmbkndaaGreatDoor
open Go.RowKit Gram

/-- the bodies of a program's procedures -/
def bodyP (ps : List Pr) (c : UInt8) : List Stm := match ps.find? (fun p => p.1 == c) with | some p => p.2 | none => []
theorem bodyP_q (qs : List Qr) : bodyP (qs.map (·.1)) = bodyQ qs := rfl

/-- a run of a procedure from a value, if there is one -/
def runP (s nm : ByteArray) (v : Int) : Option (Mst × Option Fin) := match progOf s, lookP s nm with
  | some ps, some p => if -9999 ≤ v ∧ v ≤ 9999 then some (runOf (bodyP ps) p.1 v) else none
  | _, _ => none
theorem runP_none {s nm : ByteArray} (v : Int) (h : lookP s nm = none) : runP s nm v = none := by
  unfold runP
  rw [h]
  cases progOf s <;> rfl
theorem runP_far {s nm : ByteArray} {v : Int} (h : ¬ (-9999 ≤ v ∧ v ≤ 9999)) : runP s nm v = none := by
  unfold runP
  cases progOf s with
  | none => rfl
  | some ps =>
    cases lookP s nm with
    | none => rfl
    | some p => exact if_neg h
theorem runP_some {s nm : ByteArray} {v : Int} {ps : List Pr} {p : Pr} (h1 : progOf s = some ps) (h2 : lookP s nm = some p) (h : -9999 ≤ v ∧ v ≤ 9999) : runP s nm v = some (runOf (bodyP ps) p.1 v) := by
  unfold runP
  rw [h1, h2]
  exact if_pos h

theorem look_mem {s nm : ByteArray} {ps : List Pr} {p : Pr} (h : progOf s = some ps) (hl : lookP s nm = some p) : p ∈ ps ∧ ps.find? (fun q => q.1 == p.1) = some p := by
  unfold lookP at hl
  rw [h] at hl
  cases hn : nameOf nm.data.toList with
  | none => rw [hn] at hl; cases hl
  | some c =>
    rw [hn] at hl
    have hl' : ps.find? (fun q => q.1 == c) = some p := hl
    have he := List.find?_some hl'
    have hc : p.1 = c := by simpa using he
    exact ⟨List.mem_of_find?_eq_some hl', by rw [hc]; exact hl'⟩

theorem fits_of {s : ByteArray} {qs : List Qr} (h : progOf s = some (qs.map (·.1))) : asc (namesQ qs) ∧ qs.length ≤ 401 ∧ ∀ q ∈ qs, Fits (namesQ qs) q.1.2 := by
  have hf := prog_facts h
  have hnm : namesQ qs = namesOf (qs.map (·.1)) := by rw [namesOf, List.map_map]; rfl
  refine ⟨by rw [hnm]; exact procs_asc _ _ _ hf.2.2.2 (by simp [asc, namesOf]), by have := hf.1; simpa using this, fun q hq => ?_⟩
  have hg := hf.2.1 q.1 (List.mem_map.2 ⟨q, hq, rfl⟩)
  refine ⟨hg.1, hg.2.1, fun c hc => ?_, hg.2.2.1⟩
  have h2 := h
  rw [progOf, if_pos hf.2.2.1, hf.2.2.2] at h2
  simp only [Option.bind_some] at h2
  split at h2
  · rename_i hown
    unfold ownCalls at hown
    rw [List.all_eq_true] at hown
    have h3 := hown q.1 (List.mem_map.2 ⟨q, hq, rfl⟩)
    rw [List.all_eq_true] at h3
    have h4 := h3 c hc
    rw [hnm]
    simpa using h4
  · cases h2
theorem fits_ps {s : ByteArray} {ps : List Pr} (h : progOf s = some ps) : ∀ p ∈ ps, Fits (namesOf ps) p.2 := by
  have hq : (ps.map (fun p => ((p, Value.nilIface) : Qr))).map (·.1) = ps := by rw [List.map_map]; exact List.map_id _
  have hf := (fits_of (s := s) (qs := ps.map (fun p => ((p, Value.nilIface) : Qr))) (by rw [hq]; exact h)).2.2
  intro p hp
  have := hf (p, Value.nilIface) (List.mem_map.2 ⟨p, hp, rfl⟩)
  have hn : namesQ (ps.map (fun p => ((p, Value.nilIface) : Qr))) = namesOf ps := by rw [namesQ, List.map_map]; rfl
  rw [hn] at this
  exact this

/-- what runnerOf hands back -/
def RnrTo (s nm : ByteArray) (v : Int) (w : World) (e : Ending) (w' : World) : Prop :=
  (match runP s nm v with
    | none => ∃ (n : UInt8) (a : Option Addr) (k c : Nat), e = .returned (.tuple #[.pointer none, .agg #[.int .u8 n.toNat, .slice a k c], .bool false])
    | some r => ∃ (B rb : Nat) (S : Nat → Prop) (qs : List Qr) (pv bv : Value) (c : UInt8), e = .returned (.tuple #[.pointer (some ⟨rb, 0, none⟩), .agg #[.int .u8 c.toNat, bv], .bool true]) ∧ w.heap.size ≤ B ∧ Rn w' B rb pv (ownDo rb) (Mst.start v) ∧ Pw w' B S qs pv ∧ IsBody w' S (bodyQ qs c) bv ∧ Fits (namesQ qs) (bodyQ qs c) ∧ isLet c = true ∧ -9999 ≤ v ∧ v ≤ 9999 ∧ runOf (bodyQ qs) c v = r ∧ progOf s = some (qs.map (·.1))) ∧ Below w.heap.size w w'

/-- a procedure in a block of its own -/
structure PAt (w : World) (g : Nat) (c : Int) (bv : Value) : Prop where
  own : w.heap[g]? = some (Obj.cells #[.int .u8 c, bv] 76 (0, 0))
theorem PAt.read {w : World} {g : Nat} {c : Int} {bv : Value} (h : PAt w g c bv) : w.cell? ⟨g, 0, none⟩ = some (.int .u8 c) ∧ w.cell? ⟨g, 1, none⟩ = some bv ∧ w.frozen? ⟨g, 0, none⟩ = false ∧ w.frozen? ⟨g, 1, none⟩ = false :=
  ⟨Lib.cell_of_heap h.own 0, Lib.cell_of_heap h.own 1, Lib.frozen_of_heap h.own 0, Lib.frozen_of_heap h.own 1⟩
theorem PAt.put {w : World} {g : Nat} {c : Int} {bv : Value} (h : PAt w g c bv) (c' : Int) (bv' : Value) : PAt ((w.setCell ⟨g, 0, none⟩ (.int .u8 c')).setCell ⟨g, 1, none⟩ bv') g c' bv' :=
  ⟨by rw [heap_set_same (heap_set_same h.own _) _]; rfl⟩
theorem PAt.later {w w' : World} {g : Nat} {c : Int} {bv : Value} (h : PAt w g c bv) (hb : Below w.heap.size w w') : PAt w' g c bv := ⟨by rw [hb.block g (heap_lt h.own)]; exact h.own⟩

set_option maxHeartbeats 2000000 in
set_option maxRecDepth 100000 in
theorem runner_no (s nm : ByteArray) (v : Int) (w : World) (hs : s.size ≤ 1073741824) (hm : MaxCell w) (hl : lookP s nm = none ∨ ¬ (-9999 ≤ v ∧ v ≤ 9999)) :
    Calls Tryz.prog 45 #[.string s, .string nm, .int .i64 v] w (RnrTo s nm v w) := by
  have hba : Below w.heap.size w (w.alloc (Obj.cells #[.int .u8 0, .slice none 0 0] 76)) := (Below.refl _ _).alloc (Nat.le_refl _) _
  have HF := Lib.hid (find_proc s nm (w.alloc (Obj.cells #[.int .u8 0, .slice none 0 0] 76)) hs (hm.later hba))
  have HA := Lib.hid (⟨heap_alloc_new w _⟩ : PAt (w.alloc (Obj.cells #[.int .u8 0, .slice none 0 0] 76)) w.heap.size 0 (.slice none 0 0))
  have HB := Lib.hid hba
  have HN := Lib.hid (show runP s nm v = none from by
    rcases hl with h | h
    · exact runP_none v h
    · exact runP_far h)
  clear hm hs hba
  have hend : ∀ (w1 : World), Below w.heap.size w w1 → PAt w1 w.heap.size 0 (.slice none 0 0) → RnrTo s nm v w (.returned (.tuple #[.pointer none, .agg #[.int .u8 0, .slice none 0 0], .bool false])) ((w1.setCell ⟨w.heap.size, 0, none⟩ (.int .u8 0)).setCell ⟨w.heap.size, 1, none⟩ (.slice none 0 0)) := fun w1 h1 h2 => by
    refine ⟨?_, (h1.setCell (p := ⟨w.heap.size, 0, none⟩) (Nat.le_refl _) _).setCell (p := ⟨w.heap.size, 1, none⟩) (Nat.le_refl _) _⟩
    rw [HN.out]
    exact ⟨0, none, 0, 0, rfl⟩
  have HE := Lib.hid hend
  clear hend
  cases hlk : lookP s nm with
  | none =>
    go_enter Tryz.func45, Tryz.ntmps45
    go_wp2_with fail
    refine HF.out.mono ?_
    rintro e w1 ⟨hx, hb⟩
    rw [hlk] at hx
    obtain ⟨a, n, c, k, rfl⟩ := hx
    have HB1 := Lib.hid (⟨HB.out.trans (hb.mono HB.out.size), HA.out.later hb⟩ : _ ∧ _)
    obtain ⟨_, _, f0, f1⟩ := HB1.out.2.read
    clear hb hl hlk
    go_wp2_with fail
    obtain ⟨r0, r1, _⟩ := (HB1.out.2.put 0 (.slice none 0 0)).read
    refine bodyPost_ret (v := .tuple #[.pointer none, .agg #[.int .u8 0, .slice none 0 0], .bool false]) ?_ rfl (HE.out _ HB1.out.1 HB1.out.2)
    simp [results, Tryz.results45, go_sem, r0, r1]
  | some p =>
    have hv : v < -9999 ∨ 9999 < v := by
      rcases hl with h | h
      · rw [hlk] at h; cases h
      · omega
    go_enter Tryz.func45, Tryz.ntmps45
    go_wp2_with fail
    refine HF.out.mono ?_
    rintro e w1 ⟨hx, hb⟩
    rw [hlk] at hx
    obtain ⟨a, n, c, k, S, qs, hk, rfl, _⟩ := hx
    have HB1 := Lib.hid (⟨HB.out.trans (hb.mono HB.out.size), HA.out.later hb⟩ : _ ∧ _)
    obtain ⟨_, _, f0, f1⟩ := HB1.out.2.read
    clear hb hl hlk
    rcases hv with hv | hv
    · go_wp2_with fail
      obtain ⟨r0, r1, _⟩ := (HB1.out.2.put 0 (.slice none 0 0)).read
      refine bodyPost_ret (v := .tuple #[.pointer none, .agg #[.int .u8 0, .slice none 0 0], .bool false]) ?_ rfl (HE.out _ HB1.out.1 HB1.out.2)
      simp [results, Tryz.results45, go_sem, r0, r1]
    · go_wp2_with fail
      obtain ⟨r0, r1, _⟩ := (HB1.out.2.put 0 (.slice none 0 0)).read
      refine bodyPost_ret (v := .tuple #[.pointer none, .agg #[.int .u8 0, .slice none 0 0], .bool false]) ?_ rfl (HE.out _ HB1.out.1 HB1.out.2)
      simp [results, Tryz.results45, go_sem, r0, r1]

set_option maxHeartbeats 2000000 in
set_option maxRecDepth 100000 in
theorem runner_yes (s nm : ByteArray) (v : Int) (w : World) (hs : s.size ≤ 1073741824) (hm : MaxCell w) (p : Pr) (hl : lookP s nm = some p) (hv1 : -9999 ≤ v) (hv2 : v ≤ 9999) :
    Calls Tryz.prog 45 #[.string s, .string nm, .int .i64 v] w (RnrTo s nm v w) := by
  have hmf : ∀ (fn : Fn) (first cap : Array Value) (w : World), (Instr.makeFunc fn first cap).run Tryz.prog w = .ok (.func fn first cap) w := fun _ _ _ _ => rfl
  have hba : Below w.heap.size w (w.alloc (Obj.cells #[.int .u8 0, .slice none 0 0] 76)) := (Below.refl _ _).alloc (Nat.le_refl _) _
  have HF := Lib.hid (find_proc s nm (w.alloc (Obj.cells #[.int .u8 0, .slice none 0 0] 76)) hs (hm.later hba))
  have HA := Lib.hid (⟨heap_alloc_new w _⟩ : PAt (w.alloc (Obj.cells #[.int .u8 0, .slice none 0 0] 76)) w.heap.size 0 (.slice none 0 0))
  have HZ := Lib.hid (alloc_size' w (Obj.cells #[.int .u8 0, .slice none 0 0] 76))
  have HB := Lib.hid hba
  have HL := Lib.hid hl
  clear hm hs hba
  go_enter Tryz.func45, Tryz.ntmps45
  go_wp2_with fail
  refine HF.out.mono ?_
  rintro e w1 ⟨hx, hb⟩
  rw [hl] at hx
  obtain ⟨a, n, c, k, S, qs, hk, rfl, hp, hIP, hG, hqk, hqn, hn, hnm⟩ := hx
  have HB1 := Lib.hid (⟨HB.out.trans (hb.mono HB.out.size), HA.out.later hb⟩ : _ ∧ _)
  have HI := Lib.hid hIP
  have HP := Lib.hid hp
  have HQ := Lib.hid hqk
  have HQn := Lib.hid hqn
  have HNm := Lib.hid hnm
  have HSz := Lib.hid hb.size
  obtain ⟨_, _, f0, f1⟩ := HB1.out.2.read
  clear hb hl hp hIP hG hqk hqn hnm
  have hnew := heap_alloc_new w1 (Obj.cells #[.int .i64 v, .slice none 0 0, .string ⟨#[]⟩, .int .i64 0, .slice a n c, .slice none 0 0, .string ⟨#[]⟩, .int .i64 0, .nilFunc] 66 (0, 0))
  have q8 : (w1.alloc (Obj.cells #[.int .i64 v, .slice none 0 0, .string ⟨#[]⟩, .int .i64 0, .slice a n c, .slice none 0 0, .string ⟨#[]⟩, .int .i64 0, .nilFunc] 66)).cell? ⟨w1.heap.size, 8, none⟩ = some .nilFunc := Lib.cell_of_heap hnew 8
  have z8 : (w1.alloc (Obj.cells #[.int .i64 v, .slice none 0 0, .string ⟨#[]⟩, .int .i64 0, .slice a n c, .slice none 0 0, .string ⟨#[]⟩, .int .i64 0, .nilFunc] 66)).frozen? ⟨w1.heap.size, 8, none⟩ = false := Lib.frozen_of_heap hnew 8
  clear hnew
  have hkq : k < qs.length := hk
  obtain ⟨g, hga, hg0, d0, d1⟩ := by
    have h := HI.out
    rw [← HQn.out] at h
    exact h.get k hkq
  subst hga
  have hbd := HI.out.body qs[k] (List.getElem_mem hkq)
  obtain ⟨bv, hbv⟩ : ∃ bv, bv = qs[k].2 := ⟨_, rfl⟩
  rw [← hbv] at d1 hbd
  obtain ⟨ba, bn, bc, rfl⟩ := hbd.form
  obtain ⟨c1, hc1⟩ : ∃ c1, c1 = qs[k].1.1 := ⟨_, rfl⟩
  rw [← hc1] at d0
  have HBd := Lib.hid hbd
  have HC1 := Lib.hid hc1
  have hgl := World.block_lt_of_cell? _ _ d0
  have hkn : k < n := by rw [← HQn.out]; exact hkq
  clear hbd hbv hc1
  have D0 := Lib.hid d0
  have D1 := Lib.hid d1
  clear d0 d1 f0 f1
  obtain ⟨wr, hwr⟩ : ∃ wr, wr = w1.alloc (Obj.cells (rnC (Mst.start v) (.slice none 0 0) (.slice (some ⟨g, 0, none⟩) n c) (.slice none 0 0) (ownDo w1.heap.size)) 66) := ⟨_, rfl⟩
  have hbr : Below w1.heap.size w1 wr := by rw [hwr]; exact (Below.refl _ _).alloc (Nat.le_refl _) _
  have d0 : wr.cell? ⟨g, k * 2, none⟩ = some (.int .u8 c1.toNat) := by rw [hbr.cell (p := ⟨g, k * 2, none⟩) hgl]; exact D0.out
  have d1 : wr.cell? ⟨g, k * 2 + 1, none⟩ = some (.slice ba bn bc) := by rw [hbr.cell (p := ⟨g, k * 2 + 1, none⟩) hgl]; exact D1.out
  obtain ⟨_, _, f0, f1⟩ := (HB1.out.2.later hbr).read
  have HPt := Lib.hid (HB1.out.2.later hbr)
  have HBr := Lib.hid hbr
  have HRn := Lib.hid (show RnE wr w1.heap.size w1.heap.size (.slice (some ⟨g, 0, none⟩) n c) (ownDo w1.heap.size) (.slice none 0 0) (.slice none 0 0) (Mst.start v) from
    ⟨by rw [hwr]; exact heap_alloc_new _ _, Nat.le_refl _, World.ownsRow_nil _ _ _ _, World.ownsRow_nil _ _ _ _⟩)
  have hwr' : wr = w1.alloc (Obj.cells #[.int .i64 v, .slice none 0 0, .string ⟨#[]⟩, .int .i64 0, .slice (some ⟨g, 0, none⟩) n c, .slice none 0 0, .string ⟨#[]⟩, .int .i64 0, .func (.func 66) #[.pointer (some ⟨w1.heap.size, 0, none⟩)] #[]] 66) := hwr
  clear hbr hwr D0 D1
  go_wp2_with fail
  rw [← hwr']
  clear hwr' q8 z8
  go_region
  all_goals
    go_wp2_with fail
    obtain ⟨r0, r1, _⟩ := (HPt.out.put c1.toNat (.slice ba bn bc)).read
    refine bodyPost_ret (v := .tuple #[.pointer (some ⟨w1.heap.size, 0, none⟩), .agg #[.int .u8 c1.toNat, .slice ba bn bc], .bool true]) ?_ rfl ?_
    · simp [results, Tryz.results45, go_sem, r0, r1]
    · have hza : w.heap.size + 1 ≤ w1.heap.size := by have := HSz.out; rw [HZ.out] at this; exact this
      have hlt : w.heap.size < w1.heap.size := hza
      have hW : ∀ j, j ≠ w.heap.size → (((wr.setCell ⟨w.heap.size, 0, none⟩ (.int .u8 c1.toNat)).setCell ⟨w.heap.size, 1, none⟩ (.slice ba bn bc)).drew).heap[j]? = wr.heap[j]? := fun j hj => by
        show ((wr.setCell ⟨w.heap.size, 0, none⟩ (.int .u8 c1.toNat)).setCell ⟨w.heap.size, 1, none⟩ (.slice ba bn bc)).heap[j]? = _
        rw [heap_set_other hj, heap_set_other hj]
      have hW1 : ∀ j, w.heap.size + 1 ≤ j → j < w1.heap.size → (((wr.setCell ⟨w.heap.size, 0, none⟩ (.int .u8 c1.toNat)).setCell ⟨w.heap.size, 1, none⟩ (.slice ba bn bc)).drew).heap[j]? = w1.heap[j]? := fun j hj hj' => by
        rw [hW j (by omega), HBr.out.block j hj']
      have hS : ∀ j, S j → w.heap.size + 1 ≤ j ∧ j < w1.heap.size := fun j hj => ⟨by have := (HI.out.set j hj).1; rw [HZ.out] at this; exact this, HI.out.lt j hj⟩
      have hR : ∀ g', Value.ownBlock (.slice (some ⟨g, 0, none⟩) n c) = some g' → w.heap.size + 1 ≤ g' ∧ g' < w1.heap.size := fun g' hg' => by
        obtain ⟨h1, cur, h2⟩ := HI.out.row_block hg'
        exact ⟨by rw [HZ.out] at h1; exact h1, heap_lt h2⟩
      have hff := fits_of HP.out
      have hasc := hff.1
      have hne : w.heap.size ≠ w1.heap.size := by omega
      have hPw : Pw (((wr.setCell ⟨w.heap.size, 0, none⟩ (.int .u8 c1.toNat)).setCell ⟨w.heap.size, 1, none⟩ (.slice ba bn bc)).drew) w1.heap.size S qs (.slice (some ⟨g, 0, none⟩) n c) :=
        ⟨⟨ownsRow_of (ownsRow_base HI.out.row (fun _ _ => Nat.zero_le _)) (fun g' hg' => hW1 g' (hR g' hg').1 (hR g' hg').2), fun q hq => (HI.out.body q hq).kept (fun j hj => hW1 j (hS j hj).1 (hS j hj).2) (fun _ h => h),
          fun j hj => by obtain ⟨_, cur, fz, hc⟩ := HI.out.set j hj; exact ⟨Nat.zero_le _, cur, fz, by rw [hW1 j (hS j hj).1 (hS j hj).2]; exact hc⟩⟩,
        fun j hj => (hS j hj).2, fun g' hg' => (hR g' hg').2, hasc, hff.2.1, hff.2.2⟩
      have hcm : c1 ∈ namesQ qs := by rw [HC1.out]; exact List.mem_map.2 ⟨qs[k], List.getElem_mem hkq, rfl⟩
      have hbq : bodyQ qs c1 = qs[k].1.2 := by
        have hf := (look_mem HP.out HL.out).2
        rw [HC1.out, bodyQ]
        rw [HQ.out, hf]
      refine ⟨?_, ?_⟩
      · rw [runP_some HP.out HL.out ⟨hv1, hv2⟩]
        refine ⟨w1.heap.size, w1.heap.size, S, qs, _, _, c1, rfl, by omega, Rn.of (((HRn.out.setf w.heap.size 0 _ hne (fun e => by cases e) (fun e => by cases e)).setf w.heap.size 1 _ hne (fun e => by cases e) (fun e => by cases e)).later (fun _ _ => rfl)), hPw, ?_, ?_, ?_, hv1, hv2, ?_, HP.out⟩
        · rw [hbq]; exact HBd.out.kept (fun j hj => hW1 j (hS j hj).1 (hS j hj).2) (fun _ h => h)
        · rw [hbq]; exact hff.2.2 _ (List.getElem_mem hkq)
        · rw [HC1.out, HQ.out]; exact ((prog_facts HP.out).2.1 p (look_mem HP.out HL.out).1).2.2.2
        · rw [HC1.out, HQ.out]; rfl
      · exact (((HB1.out.1.trans (HBr.out.mono (by omega))).setCell (p := ⟨w.heap.size, 0, none⟩) (Nat.le_refl _) _).setCell (p := ⟨w.heap.size, 1, none⟩) (Nat.le_refl _) _).drew

theorem runner_of (s nm : ByteArray) (v : Int) (w : World) (hs : s.size ≤ 1073741824) (hm : MaxCell w) :
    Calls Tryz.prog 45 #[.string s, .string nm, .int .i64 v] w (RnrTo s nm v w) := by
  cases hl : lookP s nm with
  | none => exact runner_no s nm v w hs hm (.inl hl)
  | some p =>
    by_cases hv : -9999 ≤ v ∧ v ≤ 9999
    · exact runner_yes s nm v w hs hm p hl hv.1 hv.2
    · exact runner_no s nm v w hs hm (.inr hv)

/-- what runOf hands back -/
def RunsTo (s nm : ByteArray) (v : Int) (w : World) (e : Ending) (w' : World) : Prop :=
  (match runP s nm v with
    | none => e = .returned (.tuple #[.pointer none, .bool false])
    | some r => ∃ (B rb : Nat) (S : Nat → Prop) (qs : List Qr) (pv : Value) (oa ja : Option Addr) (oc jc : Nat), e = .returned (.tuple #[.pointer (some ⟨rb, 0, none⟩), .bool true]) ∧ w.heap.size ≤ B ∧
        RnD w' B rb pv (ownDo rb) (.slice oa r.1.out.length oc) (.slice ja r.1.pts.length jc) r.1 (Fin.word r.2) ∧ Pw w' B S qs pv ∧ progOf s = some (qs.map (·.1))) ∧ Below w.heap.size w w'

set_option maxHeartbeats 2000000 in
set_option maxRecDepth 100000 in
theorem run_of (s nm : ByteArray) (v : Int) (w : World) (hs : s.size ≤ 1073741824) (hm : MaxCell w) :
    Calls Tryz.prog 26 #[.string s, .string nm, .int .i64 v] w (RunsTo s nm v w) := by
  have HF := Lib.hid (runner_of s nm v w hs hm)
  clear hm hs
  cases hr : runP s nm v with
  | none =>
    have HR := Lib.hid hr
    go_enter Tryz.func26, Tryz.ntmps26
    go_wp2_with fail
    refine HF.out.mono ?_
    rintro e w1 ⟨hx, hb⟩
    rw [hr] at hx
    obtain ⟨n, a, k, c, rfl⟩ := hx
    have HB := Lib.hid hb
    clear hb hr
    go_wp2_with fail
    go_ret2
    exact ⟨by rw [HR.out]; exact rfl, HB.out.alloc HB.out.size _⟩
  | some r =>
    have HR := Lib.hid hr
    go_enter Tryz.func26, Tryz.ntmps26
    go_wp2_with fail
    refine HF.out.mono ?_
    rintro e w1 ⟨hx, hb⟩
    rw [hr] at hx
    obtain ⟨B, rb, S, qs, pv, bv, c, rfl, hB, hRn, hPw, hbd, hfi, hc, h1, h2, hro, hpr⟩ := hx
    obtain ⟨ba, bn, bc, rfl⟩ := hbd.form
    have hba : Below w1.heap.size w1 (w1.alloc (Obj.cells #[.int .u8 c.toNat, .slice ba bn bc] 76)) := (Below.refl _ _).alloc (Nat.le_refl _) _
    have hbig : B ≤ w1.heap.size := by obtain ⟨_, _, _, _, hE⟩ := hRn; exact hE.big
    have HX := Lib.hid (run_by (hRn.later (fun k hk => hba.block k hk)) (hPw.later (Kp.of hba hbig)) c _ (hbd.kept (fun k hk => hba.block k (by have := hPw.lt k hk; omega)) (fun _ h => h)) hfi hc h1 h2)
    have HB := Lib.hid (⟨hb.trans (hba.mono hb.size), hB, hPw.later (Kp.of hba hbig), hro, hpr⟩ : _ ∧ _ ∧ _ ∧ _ ∧ _)
    clear hb hr hB hRn hPw hbd hfi hc h1 h2 hro hpr hba hbig
    go_wp2_with fail
    refine HX.out.mono ?_
    rintro e w2 ⟨rfl, hD, hk⟩
    have HD := Lib.hid (⟨hD, hk⟩ : _ ∧ _)
    clear hD hk
    go_wp2_with fail
    go_ret2
    obtain ⟨⟨oa, oc, ja, jc, hD⟩, hk⟩ := HD.out
    obtain ⟨hb, hB, hPw, hro, hpr⟩ := HB.out
    rw [hro] at hD
    exact ⟨by rw [HR.out]; exact ⟨B, rb, S, qs, pv, oa, ja, oc, jc, rfl, hB, hD, hPw.later hk, hpr⟩, hb.trans (hk.below.mono hB)⟩

theorem RnD.cell {w : World} {B rb : Nat} {pv fv ov jv : Value} {m : Mst} {en : List UInt8} (h : RnD w B rb pv fv ov jv m en) (k : Nat) : w.cell? ⟨rb, k, none⟩ = (rnD m en ov pv jv fv)[k]? := Lib.cell_of_heap h.own k
end Go.Proofs.YtomodlllmbkndaaGreatDoor
