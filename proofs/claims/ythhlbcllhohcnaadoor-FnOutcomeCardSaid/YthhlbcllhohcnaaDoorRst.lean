/- How the program's runner lies in memory: its nine cells, the rows of what it printed and of its join points; the program that it runs stays. Plain lemmas; no walk. -/
import Derived.Test.YthhlbcllhohcnaaDoorRun
import Derived.Test.YthhlbcllhohcnaaDoorBody
import Derived.Test.YthhlbcllhohcnaaDoorInts
import Derived.Deep.AppendLies
import Derived.Deep.Upon
import Derived.Lib.AppendZeros
import Derived.Deep.RegionHeldLaw
namespace Go.Proofs.YthhlbcllhohcnaaDoor
open Go.RowKit Gram

theorem row_block {w : World} {B : Nat} {e : TypeId} {sz n : Nat} {v : Value} {xs : List Value} (h : w.ownsRow B e sz v n xs) {g : Nat} (hg : v.ownBlock = some g) : B ≤ g ∧ ∃ cur, w.heap[g]? = some (.cells cur e (0, 0)) := by
  rcases h.2 with ⟨h1, h2⟩ | ⟨g', cap, cur, h1, hb, hc, _⟩
  · rw [h1] at hg; cases hg
  · rw [h1] at hg
    have : g' = g := by simpa [Value.ownBlock] using hg
    subst this
    exact ⟨hb, cur, hc⟩
theorem row_apart {w : World} {B B' : Nat} {e e' : TypeId} {sz n sz' n' : Nat} {v v' : Value} {xs xs' : List Value} (h : w.ownsRow B e sz v n xs) (h' : w.ownsRow B' e' sz' v' n' xs') (hne : e ≠ e') {g : Nat} (hg : v.ownBlock = some g) : v'.ownBlock ≠ some g := by
  intro hg'
  obtain ⟨_, cur, hc⟩ := row_block h hg
  obtain ⟨_, cur', hc'⟩ := row_block h' hg'
  rw [hc] at hc'
  injection hc' with hc'
  injection hc' with _ ht _
  exact hne ht

/-- an append of elements at a step of a region: there is an answer so that R -/
theorem step_append_at {t : TypeId} {ops : Array Oper} {o : Oper} {a : Act} {w : World} {K : Act → World → Prop} {Q : Exit → Act → World → Prop} {E : Prop} (hgd : o.guard = none) (s x : Operand)
    (ho : o.op = .call { callee := .builtin .append, args := #[s, x], argTypes := #[t, t] }) (hty : o.type = t) (vs vx : Value) (hs : a.eval s = vs) (hx : a.eval x = vx) (n : Nat) (R : Nat → Nat → World → Prop)
    (hr : ∃ g c w', (Builtin.append_ #[t, t] t #[vs, vx]).run Tryd.prog w = .ok (.slice (some ⟨g, 0, none⟩) n c) w' ∧ R g c w')
    (h : ∀ g c w', R g c w' → K (a.put o.dst (.slice (some ⟨g, 0, none⟩) n c)) w') :
    if Region.wanted o (yielded ops a.tmps) = true then Oper.wp Tryd.prog o a w K Q else E := by
  have hw : Region.wanted o (yielded ops a.tmps) = true := by simp [Region.wanted, hgd]
  rw [if_pos hw]
  obtain ⟨g, c, w', hrun, hR⟩ := hr
  exact Lib.wp_append_run w s x _ _ ho vs vx hs hx _ w' (by rw [hty]; exact hrun) (h _ _ _ hR)
theorem info_jp : (Tryd.prog.info? 116).map (fun i => (i.zero, i.size, i.bytes)) = some (some (.agg #[.string ⟨#[]⟩, .string ⟨#[]⟩, .string ⟨#[]⟩]), 3, 48) := by kernel_rfl

/-- the cells of join points -/
def jpC (js : List Jpt) : List Value := js.flatMap fun j => [.string (txtOf (if j.nm.isSome then [99, 97, 108, 108] else [112, 114, 105, 110, 116])), .string (txtOf j.nm.toList), .string (txtOf j.stk)]
theorem jpC_len (js : List Jpt) : (jpC js).length = js.length * 3 := by
  induction js with
  | nil => rfl
  | cons p t ih => simp [jpC] at ih ⊢; omega
theorem jpC_snoc (js : List Jpt) (j : Jpt) : jpC (js ++ [j]) = jpC js ++ [.string (txtOf (if j.nm.isSome then [99, 97, 108, 108] else [112, 114, 105, 110, 116])), .string (txtOf j.nm.toList), .string (txtOf j.stk)] := by simp [jpC]

/-- below block B all is as it was, and so is everything but runs, numbers and join points -/
structure Kp (B : Nat) (w w' : World) : Prop where
  below : Below B w w'
  rest : ∀ (k : Nat) (cur : Array Value) (e : TypeId) (fz : Nat × Nat), w.heap[k]? = some (.cells cur e fz) → (e ≠ 64 ∧ e ≠ 56 ∧ e ≠ 3 ∧ e ≠ 116) → w'.heap[k]? = some (.cells cur e fz)
theorem Kp.refl (B : Nat) (w : World) : Kp B w w := ⟨Below.refl B w, fun _ _ _ _ h _ => h⟩
theorem Kp.trans {B : Nat} {a b c : World} (h : Kp B a b) (k : Kp B b c) : Kp B a c := ⟨h.below.trans k.below, fun i cur e fz hi he => k.rest i cur e fz (h.rest i cur e fz hi he) he⟩
theorem Kp.of {B : Nat} {w w' : World} (h : Below w.heap.size w w') (hB : B ≤ w.heap.size) : Kp B w w' := ⟨h.mono hB, fun k cur e fz hk _ => by rw [h.block k (heap_lt hk)]; exact hk⟩
theorem Kp.drew {B : Nat} {a w : World} (h : Kp B a w) : Kp B a w.drew := ⟨h.below.drew, h.rest⟩
theorem Kp.block {B : Nat} {w w' : World} (h : Kp B w w') (k : Nat) (hk : k < B) : w'.heap[k]? = w.heap[k]? := h.below.block k hk
theorem Kp.size {B : Nat} {w w' : World} (h : Kp B w w') : w.heap.size ≤ w'.heap.size := h.below.size
theorem Kp.setAt {B g : Nat} {a w : World} {cur : Array Value} {e : TypeId} {fz : Nat × Nat} (h : Kp B a w) (hg : w.heap[g]? = some (.cells cur e fz)) (he : ¬ (e ≠ 64 ∧ e ≠ 56 ∧ e ≠ 3 ∧ e ≠ 116)) (hB : B ≤ g) (k : Nat) (u : Value) : Kp B a (w.setCell ⟨g, k, none⟩ u) :=
  ⟨h.below.setCell (p := ⟨g, k, none⟩) hB u, fun i cur' e' fz' hi he' => by
    have h1 := h.rest i cur' e' fz' hi he'
    rw [heap_set_other (by
      rintro rfl
      rw [hg] at h1
      injection h1 with h1
      injection h1 with _ h2 _
      subst h2
      exact he he')]
    exact h1⟩

/-- the cells of a runner -/
def rnC (m : Mst) (ov pv jv fv : Value) : Array Value := #[.int .i64 m.val, ov, .string (txtOf []), .int .i64 m.steps, pv, jv, .string (txtOf m.stk), .int .i64 m.deep, fv]

/-- a runner in memory, its rows from block B on -/
structure RnE (w : World) (B rb : Nat) (pv fv ov jv : Value) (m : Mst) : Prop where
  own : w.heap[rb]? = some (.cells (rnC m ov pv jv fv) 64 (0, 0))
  low : B ≤ rb
  out : w.ownsRow B 3 1 ov m.out.length (intVs m.out)
  pts : w.ownsRow B 116 3 jv m.pts.length (jpC m.pts)

section
variable {w : World} {B rb : Nat} {pv fv ov jv : Value} {m : Mst}

theorem RnE.out_ne (h : RnE w B rb pv fv ov jv m) {g : Nat} (hg : ov.ownBlock = some g) : g ≠ rb ∧ jv.ownBlock ≠ some g ∧ g < w.heap.size ∧ B ≤ g := by
  obtain ⟨hb, cur, hc⟩ := row_block h.out hg
  refine ⟨?_, row_apart h.out h.pts (by decide) hg, heap_lt hc, hb⟩
  rintro rfl
  rw [h.own] at hc
  injection hc with hc
  injection hc with _ ht _
  exact absurd ht (by decide)
theorem RnE.pts_ne (h : RnE w B rb pv fv ov jv m) {g : Nat} (hg : jv.ownBlock = some g) : g ≠ rb ∧ ov.ownBlock ≠ some g ∧ g < w.heap.size ∧ B ≤ g := by
  obtain ⟨hb, cur, hc⟩ := row_block h.pts hg
  refine ⟨?_, row_apart h.pts h.out (by decide) hg, heap_lt hc, hb⟩
  rintro rfl
  rw [h.own] at hc
  injection hc with hc
  injection hc with _ ht _
  exact absurd ht (by decide)
theorem RnE.lt (h : RnE w B rb pv fv ov jv m) : rb < w.heap.size := heap_lt h.own
theorem RnE.big (h : RnE w B rb pv fv ov jv m) : B ≤ w.heap.size := by have := h.lt; have := h.low; omega
theorem RnE.later (h : RnE w B rb pv fv ov jv m) {w' : World} (hb : ∀ k, k < w.heap.size → w'.heap[k]? = w.heap[k]?) : RnE w' B rb pv fv ov jv m :=
  ⟨by rw [hb rb h.lt]; exact h.own, h.low, ownsRow_of h.out fun g hg => hb g (h.out_ne hg).2.2.1, ownsRow_of h.pts fun g hg => hb g (h.pts_ne hg).2.2.1⟩
theorem RnE.cell (h : RnE w B rb pv fv ov jv m) (k : Nat) : w.cell? ⟨rb, k, none⟩ = (rnC m ov pv jv fv)[k]? := Lib.cell_of_heap h.own k
theorem RnE.free (h : RnE w B rb pv fv ov jv m) (k : Nat) : w.frozen? ⟨rb, k, none⟩ = false := Lib.frozen_of_heap h.own k

/-- a cell is another one now -/
theorem RnE.setc (h : RnE w B rb pv fv ov jv m) (k : Nat) (u : Value) (m' : Mst) (hc : (rnC m ov pv jv fv).setIfInBounds k u = rnC m' ov pv jv fv) (ho : m'.out = m.out) (hp : m'.pts = m.pts) :
    RnE (w.setCell ⟨rb, k, none⟩ u) B rb pv fv ov jv m' ∧ Kp B w (w.setCell ⟨rb, k, none⟩ u) := by
  refine ⟨⟨by rw [← hc]; exact heap_set_same h.own u, h.low, ?_, ?_⟩, (Kp.refl _ _).setAt h.own (by decide) h.low _ _⟩
  · rw [ho]; exact ownsRow_of h.out fun g hg => heap_set_other (h.out_ne hg).1 u
  · rw [hp]; exact ownsRow_of h.pts fun g hg => heap_set_other (h.pts_ne hg).1 u

/-- a cell of another block is another one now -/
theorem RnE.setf (h : RnE w B rb pv fv ov jv m) (c k : Nat) (u : Value) (hc : c ≠ rb) (ho : ov.ownBlock ≠ some c) (hj : jv.ownBlock ≠ some c) : RnE (w.setCell ⟨c, k, none⟩ u) B rb pv fv ov jv m :=
  ⟨by rw [heap_set_other (fun e => hc e.symm)]; exact h.own, h.low, ownsRow_of h.out fun g hg => heap_set_other (fun (e : g = c) => ho (by rw [← e]; exact hg)) u, ownsRow_of h.pts fun g hg => heap_set_other (fun (e : g = c) => hj (by rw [← e]; exact hg)) u⟩

/-- what was printed is longer now -/
theorem RnE.more_out (h : RnE w B rb pv fv ov jv m) {W w1 : World} {g' cap' : Nat} {x : Int} (ho : w1.ownsRow B 3 1 (.slice (some ⟨g', 0, none⟩) (m.out.length + 1) cap') (m.out.length + 1) (intVs m.out ++ [.int .i64 x]))
    (hW : Below w.heap.size w W) (hg : W.grownBy w1 ov.ownBlock) :
    w1.heap[rb]? = w.heap[rb]? ∧ RnE (w1.setCell ⟨rb, 1, none⟩ (.slice (some ⟨g', 0, none⟩) (m.out.length + 1) cap')) B rb pv fv (.slice (some ⟨g', 0, none⟩) (m.out.length + 1) cap') jv { m with out := m.out ++ [x] } ∧
      Kp B w (w1.setCell ⟨rb, 1, none⟩ (.slice (some ⟨g', 0, none⟩) (m.out.length + 1) cap')) ∧
      ∀ k, k < w.heap.size → ov.ownBlock ≠ some k → w1.heap[k]? = w.heap[k]? := by
  have hold : ∀ k, k < w.heap.size → ov.ownBlock ≠ some k → w1.heap[k]? = w.heap[k]? := fun k hk hk' =>
    (hg.block k (by have := hW.size; omega) (fun e' => hk' e'.symm)).trans (hW.block k hk)
  have h1 : w1.heap[rb]? = w.heap[rb]? := hold rb h.lt (fun e => (h.out_ne e).1 rfl)
  have hne : ∀ g, (Value.slice (some ⟨g', 0, none⟩) (m.out.length + 1) cap').ownBlock = some g → g ≠ rb := by
    intro g hgg he
    subst he
    obtain ⟨_, cur, hc⟩ := row_block ho hgg
    rw [h1, h.own] at hc
    injection hc with hc
    injection hc with _ ht _
    exact absurd ht (by decide)
  refine ⟨h1, ⟨?_, h.low, ?_, ?_⟩, ?_, hold⟩
  · rw [heap_set_same (h1.trans h.own)]; rfl
  · have := ownsRow_of (w' := w1.setCell ⟨rb, 1, none⟩ (.slice (some ⟨g', 0, none⟩) (m.out.length + 1) cap')) ho (fun g hgg => heap_set_other (hne g hgg) _)
    simpa [intVs] using this
  · exact ownsRow_of h.pts fun g hgg => by
      obtain ⟨a, b, c, _⟩ := h.pts_ne hgg
      rw [heap_set_other a, hold g c b]
  · refine ⟨((hW.mono h.big).grown hg (by have := h.big; have := hW.size; omega) (fun k hk => (h.out_ne hk).2.2.2)).setCell h.low _, fun k cur e fz hk he => ?_⟩
    rw [heap_set_other (by
      rintro rfl
      rw [h.own] at hk
      injection hk with hk
      injection hk with _ h2 _
      subst h2
      revert he; decide)]
    rw [hold k (heap_lt hk) (fun e' => by
      obtain ⟨_, cur', hc'⟩ := row_block h.out e'
      rw [hk] at hc'
      injection hc' with hc'
      injection hc' with _ h2 _
      subst h2
      revert he; decide)]
    exact hk

/-- there is a join point more now -/
theorem RnE.more_pts (h : RnE w B rb pv fv ov jv m) {W w1 : World} {g' cap' : Nat} {j : Jpt} (ho : w1.ownsRow B 116 3 (.slice (some ⟨g', 0, none⟩) (m.pts.length + 1) cap') (m.pts.length + 1) (jpC m.pts ++ jpC [j]))
    (hW : Below w.heap.size w W) (hg : W.grownBy w1 jv.ownBlock) :
    w1.heap[rb]? = w.heap[rb]? ∧ RnE (w1.setCell ⟨rb, 5, none⟩ (.slice (some ⟨g', 0, none⟩) (m.pts.length + 1) cap')) B rb pv fv ov (.slice (some ⟨g', 0, none⟩) (m.pts.length + 1) cap') { m with pts := m.pts ++ [j] } ∧
      Kp B w (w1.setCell ⟨rb, 5, none⟩ (.slice (some ⟨g', 0, none⟩) (m.pts.length + 1) cap')) ∧
      ∀ k, k < w.heap.size → jv.ownBlock ≠ some k → w1.heap[k]? = w.heap[k]? := by
  have hold : ∀ k, k < w.heap.size → jv.ownBlock ≠ some k → w1.heap[k]? = w.heap[k]? := fun k hk hk' =>
    (hg.block k (by have := hW.size; omega) (fun e' => hk' e'.symm)).trans (hW.block k hk)
  have h1 : w1.heap[rb]? = w.heap[rb]? := hold rb h.lt (fun e => (h.pts_ne e).1 rfl)
  have hne : ∀ g, (Value.slice (some ⟨g', 0, none⟩) (m.pts.length + 1) cap').ownBlock = some g → g ≠ rb := by
    intro g hgg he
    subst he
    obtain ⟨_, cur, hc⟩ := row_block ho hgg
    rw [h1, h.own] at hc
    injection hc with hc
    injection hc with _ ht _
    exact absurd ht (by decide)
  refine ⟨h1, ⟨?_, h.low, ?_, ?_⟩, ?_, hold⟩
  · rw [heap_set_same (h1.trans h.own)]; rfl
  · exact ownsRow_of h.out fun g hgg => by
      obtain ⟨a, b, c, _⟩ := h.out_ne hgg
      rw [heap_set_other a, hold g c b]
  · have := ownsRow_of (w' := w1.setCell ⟨rb, 5, none⟩ (.slice (some ⟨g', 0, none⟩) (m.pts.length + 1) cap')) ho (fun g hgg => heap_set_other (hne g hgg) _)
    simpa [jpC] using this
  · refine ⟨((hW.mono h.big).grown hg (by have := h.big; have := hW.size; omega) (fun k hk => (h.pts_ne hk).2.2.2)).setCell h.low _, fun k cur e fz hk he => ?_⟩
    rw [heap_set_other (by
      rintro rfl
      rw [h.own] at hk
      injection hk with hk
      injection hk with _ h2 _
      subst h2
      revert he; decide)]
    rw [hold k (heap_lt hk) (fun e' => by
      obtain ⟨_, cur', hc'⟩ := row_block h.pts e'
      rw [hk] at hc'
      injection hc' with hc'
      injection hc' with _ h2 _
      subst h2
      revert he; decide)]
    exact hk

/-- the world behind an append to the join points -/
structure MoreP (w : World) (B rb : Nat) (pv fv ov jv : Value) (m : Mst) (j : Jpt) (g c : Nat) (w' : World) : Prop where
  c5 : w'.cell? ⟨rb, 5, none⟩ = some jv
  f5 : w'.frozen? ⟨rb, 5, none⟩ = false
  rn : RnE (w'.setCell ⟨rb, 5, none⟩ (.slice (some ⟨g, 0, none⟩) (m.pts.length + 1) c)) B rb pv fv ov (.slice (some ⟨g, 0, none⟩) (m.pts.length + 1) c) { m with pts := m.pts ++ [j] }
  bel : Kp B w (w'.setCell ⟨rb, 5, none⟩ (.slice (some ⟨g, 0, none⟩) (m.pts.length + 1) c))
  far : ∀ k, k < w.heap.size → jv.ownBlock ≠ some k → w'.heap[k]? = w.heap[k]?
  size : w.heap.size ≤ w'.heap.size
  at_ : jv.ownBlock = some g ∨ w.heap.size ≤ g
theorem RnE.app_pts (h : RnE w B rb pv fv ov jv m) (hl : m.pts.length ≤ 1000) (j : Jpt) (X Y Z : ByteArray) (hj : jpC [j] = [.string X, .string Y, .string Z]) (W : World) (hW : Below w.heap.size w W) (ab : Nat) (hA : W.heap[ab]? = some (.cells #[.string X, .string Y, .string Z] 116 (0, 0))) :
    ∃ g c w', (Builtin.append_ #[54, 54] 54 #[jv, .slice (some ⟨ab, 0, none⟩) 1 1]).run Tryd.prog W = .ok (.slice (some ⟨g, 0, none⟩) (m.pts.length + 1) c) w' ∧ MoreP w B rb pv fv ov jv m j g c w' := by
  obtain ⟨i0, hi, hz0, hz1, hz2⟩ := info_parts info_jp
  have hpts : W.ownsRow B 116 3 jv m.pts.length (jpC m.pts) := ownsRow_of h.pts fun g hg => hW.block g (h.pts_ne hg).2.2.1
  obtain ⟨g', c', w', hrun, h2, h3, hat, _⟩ := run_append_lies (P := Tryd.prog) W 54 54 B 116 i0 (.agg #[.string ⟨#[]⟩, .string ⟨#[]⟩, .string ⟨#[]⟩]) 3 48 Tryd.underlying54 hi hz0 hz1 hz2 rfl (by decide) jv m.pts.length (jpC m.pts) hpts ⟨ab, 0, none⟩ 1 1 [.string X, .string Y, .string Z] rfl
    (World.news_of_block (cs := #[.string X, .string Y, .string Z]) hA) (by intro u hu; simp at hu; rcases hu with rfl | rfl | rfl <;> rfl) (by decide) (by unfold maxLen; omega) (by omega) (by have := h.big; have := hW.size; omega) W.heap.size rfl
  obtain ⟨k1, k2, k3, k4⟩ := h.more_pts (j := j) (by rw [hj]; exact h2) hW h3
  exact ⟨g', c', w', hrun, (World.cell?_of_block (a := ⟨rb, 5, none⟩) k1).trans (h.cell 5), (World.frozen?_of_block (a := ⟨rb, 5, none⟩) k1).trans (h.free 5), k2, k3, k4, Nat.le_trans hW.size h3.size, hat.imp id (fun e => by have := hW.size; omega)⟩

/-- the world behind an append to what was printed -/
structure MoreO (w : World) (B rb : Nat) (pv fv ov jv : Value) (m : Mst) (x : Int) (g c : Nat) (w' : World) : Prop where
  c1 : w'.cell? ⟨rb, 1, none⟩ = some ov
  f1 : w'.frozen? ⟨rb, 1, none⟩ = false
  rn : RnE (w'.setCell ⟨rb, 1, none⟩ (.slice (some ⟨g, 0, none⟩) (m.out.length + 1) c)) B rb pv fv (.slice (some ⟨g, 0, none⟩) (m.out.length + 1) c) jv { m with out := m.out ++ [x] }
  bel : Kp B w (w'.setCell ⟨rb, 1, none⟩ (.slice (some ⟨g, 0, none⟩) (m.out.length + 1) c))
  far : ∀ k, k < w.heap.size → ov.ownBlock ≠ some k → w'.heap[k]? = w.heap[k]?
  size : w.heap.size ≤ w'.heap.size
  at_ : ov.ownBlock = some g ∨ w.heap.size ≤ g
theorem RnE.app_out (h : RnE w B rb pv fv ov jv m) (hl : m.out.length ≤ 1000) (x : Int) (W : World) (hW : Below w.heap.size w W) (ab : Nat) (hA : W.heap[ab]? = some (.cells #[.int .i64 x] 3 (0, 0))) :
    ∃ g c w', (Builtin.append_ #[23, 23] 23 #[ov, .slice (some ⟨ab, 0, none⟩) 1 1]).run Tryd.prog W = .ok (.slice (some ⟨g, 0, none⟩) (m.out.length + 1) c) w' ∧ MoreO w B rb pv fv ov jv m x g c w' := by
  obtain ⟨i0, hi, hz0, hz1, hz2⟩ := info_parts info_int
  have hout : W.ownsRow B 3 1 ov m.out.length (intVs m.out) := ownsRow_of h.out fun g hg => hW.block g (h.out_ne hg).2.2.1
  obtain ⟨g', c', w', hrun, h2, h3, hat, _⟩ := run_append_lies (P := Tryd.prog) W 23 23 B 3 i0 (.int .i64 0) 1 8 Tryd.underlying23 hi hz0 hz1 hz2 rfl (by decide) ov m.out.length (intVs m.out) hout ⟨ab, 0, none⟩ 1 1 [.int .i64 x] rfl
    (World.news_of_block (cs := #[.int .i64 x]) hA) (by intro u hu; simp at hu; subst hu; rfl) (by decide) (by unfold maxLen; omega) (by omega) (by have := h.big; have := hW.size; omega) W.heap.size rfl
  obtain ⟨k1, k2, k3, k4⟩ := h.more_out (x := x) h2 hW h3
  exact ⟨g', c', w', hrun, (World.cell?_of_block (a := ⟨rb, 1, none⟩) k1).trans (h.cell 1), (World.frozen?_of_block (a := ⟨rb, 1, none⟩) k1).trans (h.free 1), k2, k3, k4, Nat.le_trans hW.size h3.size, hat.imp id (fun e => by have := hW.size; omega)⟩
end

/-- a runner in memory, wherever its rows are -/
def Rn (w : World) (B rb : Nat) (pv fv : Value) (m : Mst) : Prop := ∃ oa oc ja jc, RnE w B rb pv fv (.slice oa m.out.length oc) (.slice ja m.pts.length jc) m
theorem Rn.of {w : World} {B rb : Nat} {pv fv ov jv : Value} {m : Mst} (h : RnE w B rb pv fv ov jv m) : Rn w B rb pv fv m := by
  obtain ⟨oa, on, oc, rfl⟩ := slice_form h.out
  obtain ⟨ja, jn, jc, rfl⟩ := slice_form h.pts
  have h1 : on = m.out.length := by
    rcases h.out.2 with ⟨h1, h2⟩ | ⟨g, cap, cur, h1, _⟩
    · injection h1 with _ h3; rw [h3, h2]
    · injection h1
  have h2 : jn = m.pts.length := by
    rcases h.pts.2 with ⟨h1, h2⟩ | ⟨g, cap, cur, h1, _⟩
    · injection h1 with _ h3; rw [h3, h2]
    · injection h1
  subst h1; subst h2
  exact ⟨oa, oc, ja, jc, h⟩
theorem Rn.later {w w' : World} {B rb : Nat} {pv fv : Value} {m : Mst} (h : Rn w B rb pv fv m) (hb : ∀ k, k < w.heap.size → w'.heap[k]? = w.heap[k]?) : Rn w' B rb pv fv m := by
  obtain ⟨oa, oc, ja, jc, h⟩ := h
  exact ⟨oa, oc, ja, jc, h.later hb⟩

/-- a body that only calls these procedures -/
def Fits (ns : List UInt8) (xs : List Stm) : Prop := wfs xs = true ∧ nks xs = true ∧ (∀ c ∈ callsIn xs, c ∈ ns) ∧ (txts xs).length ≤ 400
theorem Fits.tail {ns : List UInt8} {x : Stm} {xs : List Stm} (h : Fits ns (x :: xs)) : Fits ns xs := by
  obtain ⟨h1, h2, h3, h4⟩ := h
  simp only [wfs, nks, Bool.and_eq_true] at h1 h2
  exact ⟨h1.2, h2.2, fun c hc => h3 c (by rw [callsIn, List.mem_append]; exact .inr hc), by simp [txts] at h4; omega⟩
theorem Fits.cho {ns : List UInt8} {a b : List Stm} {xs : List Stm} (h : Fits ns (.cho a b :: xs)) : Fits ns a ∧ Fits ns b := by
  obtain ⟨h1, h2, h3, h4⟩ := h
  simp only [wfs, nks, Stm.wf, Stm.nk, Bool.and_eq_true] at h1 h2
  simp [txts, Stm.txt] at h4
  exact ⟨⟨h1.1.1, h2.1.1, fun c hc => h3 c (by simp [callsIn, Stm.calls, hc]), by omega⟩, ⟨h1.1.2, h2.1.2, fun c hc => h3 c (by simp [callsIn, Stm.calls, hc]), by omega⟩⟩
theorem Fits.drop {ns : List UInt8} {xs : List Stm} (h : Fits ns xs) (k : Nat) : Fits ns (xs.drop k) := by
  induction k generalizing xs with
  | zero => exact h
  | succ k ih =>
    cases xs with
    | nil => exact h
    | cons x xs => exact ih h.tail
theorem Fits.one {ns : List UInt8} {x : Stm} {xs : List Stm} (h : Fits ns (x :: xs)) : Fits ns [x] := by
  obtain ⟨h1, h2, h3, h4⟩ := h
  simp only [wfs, nks, Bool.and_eq_true] at h1 h2
  exact ⟨by simp [wfs, h1.1], by simp [nks, h2.1], fun c hc => h3 c (by simp [callsIn] at hc ⊢; exact .inl hc), by simp [txts] at h4 ⊢; omega⟩
theorem Fits.len {ns : List UInt8} {xs : List Stm} (h : Fits ns xs) : xs.length ≤ 400 := by
  obtain ⟨_, _, _, h4⟩ := h
  have : ∀ ys : List Stm, ys.length ≤ (txts ys).length := fun ys => by
    induction ys with
    | nil => simp [txts]
    | cons x xs ih => have := x.txt_len; simp [txts]; omega
  exact Nat.le_trans (this xs) h4

/-- the program that is run: it lies below block B -/
structure Pw (w : World) (B : Nat) (S : Nat → Prop) (qs : List Qr) (pv : Value) : Prop where
  prog : IsProg w 0 S qs pv
  lt : ∀ k, S k → k < B
  row : ∀ g, pv.ownBlock = some g → g < B
  asc_ : asc (namesQ qs)
  le : qs.length ≤ 401
  fits : ∀ q ∈ qs, Fits (namesQ qs) q.1.2
theorem Pw.later {w w' : World} {B : Nat} {S : Nat → Prop} {qs : List Qr} {pv : Value} (h : Pw w B S qs pv) (hb : Kp B w w') : Pw w' B S qs pv :=
  ⟨⟨ownsRow_of h.prog.row fun g hg => hb.block g (h.row g hg), fun q hq => (h.prog.body q hq).kept (fun k hk => hb.block k (h.lt k hk)) (fun _ h => h),
    fun k hk => by obtain ⟨h1, cur, fz, hc⟩ := h.prog.set k hk; exact ⟨h1, cur, fz, by rw [hb.block k (h.lt k hk)]; exact hc⟩⟩, h.lt, h.row, h.asc_, h.le, h.fits⟩

/-- the body of a procedure -/
def bodyQ (qs : List Qr) (c : UInt8) : List Stm := match (qs.map (·.1)).find? (fun p => p.1 == c) with | some p => p.2 | none => []
theorem Pw.find {w : World} {B : Nat} {S : Nat → Prop} {qs : List Qr} {pv : Value} (h : Pw w B S qs pv) {c : UInt8} (hc : c ∈ namesQ qs) :
    ∃ hr : rank (namesQ qs) c < qs.length, qs[rank (namesQ qs) c].1.1 = c ∧ bodyQ qs c = qs[rank (namesQ qs) c].1.2 := by
  have hcb : (namesQ qs).contains c = true := List.contains_iff_mem.2 hc
  obtain ⟨hr, hre⟩ := (rank_has _ _ h.asc_).1 hcb
  have hrq : rank (namesQ qs) c < qs.length := by simpa [namesQ] using hr
  refine ⟨hrq, ?_, ?_⟩
  · have : (namesQ qs)[rank (namesQ qs) c] = qs[rank (namesQ qs) c].1.1 := by simp [namesQ]
    rw [← this]; exact hre
  · have := find_q qs c h.asc_
    rw [dif_pos hcb] at this
    rw [bodyQ, this]
theorem Pw.bodies {w : World} {B : Nat} {S : Nat → Prop} {qs : List Qr} {pv : Value} (h : Pw w B S qs pv) (c : UInt8) : wfs (bodyQ qs c) = true := by
  unfold bodyQ
  split
  · rename_i p hp
    have := List.mem_of_find?_eq_some hp
    obtain ⟨q, hq, rfl⟩ := List.mem_map.1 this
    exact (h.fits q hq).1
  · rfl
end Go.Proofs.YthhlbcllhohcnaaDoor
