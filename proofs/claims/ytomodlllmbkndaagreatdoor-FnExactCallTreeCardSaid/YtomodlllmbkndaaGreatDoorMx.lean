/- How the model's machine lies in memory: its ten cells, the rows of what it printed and of its join points. Plain lemmas; no walk. The model's l2Parts: both bodies of a statement that asks. Condition: texts of at most 400 bytes. The model's machine: count, compute, print. Conditions: a machine in memory, within the limits of runs. The model's machine: chosen, enter, act, chain, join, for a way of doing bodies and without advice. Conditions: a machine in memory, within the limits of runs; the bodies call only procedures of the program. The model's machine: chain and join without advice. Conditions: as before; no aspects. The model's machine: body does what the plain exec does. Conditions: as before; enough left of the plain run's fuel. The model's l2Start without advice: a machine behind a run. Conditions: texts of at most 2^30 bytes. -/
import Derived.Test.YtomodlllmbkndaaGreatDoorRx
import Derived.Test.YtomodlllmbkndaaGreatDoorA1
import Derived.Test.YtomodlllmbkndaaGreatDoorA3
import Derived.Deep.QuietTactic
import Derived.BigQuiet
import Derived.Deep.AppendLies
import Derived.Test.YtomodlllmbkndaaGreatDoorSbod
namespace Go.Proofs.YtomodlllmbkndaaGreatDoor
open Go.RowKit Gram

/-- the cells of a machine -/
def mnC (m : Mst) (en : List UInt8) (ov pv av jv cv : Value) : Array Value := #[.int .i64 m.val, ov, .string (txtOf en), .int .i64 m.steps, .string (txtOf m.stk), pv, av, jv, cv, .int .i64 m.deep]

/-- a machine in memory, its rows from block B on -/
structure MnE (w : World) (B rb : Nat) (pv av cv ov jv : Value) (m : Mst) (en : List UInt8) : Prop where
  own : w.heap[rb]? = some (.cells (mnC m en ov pv av jv cv) 96 (0, 0))
  low : B ≤ rb
  out : w.ownsRow B 3 1 ov m.out.length (intVs m.out)
  pts : w.ownsRow B 49 3 jv m.pts.length (jpC m.pts)

section
variable {w : World} {B rb : Nat} {pv av cv ov jv : Value} {m : Mst} {en : List UInt8}

theorem MnE.out_ne (h : MnE w B rb pv av cv ov jv m en) {g : Nat} (hg : ov.ownBlock = some g) : g ≠ rb ∧ jv.ownBlock ≠ some g ∧ g < w.heap.size ∧ B ≤ g := by
  obtain ⟨hb, cur, hc⟩ := row_block h.out hg
  refine ⟨?_, row_apart h.out h.pts (by decide) hg, heap_lt hc, hb⟩
  rintro rfl
  rw [h.own] at hc
  injection hc with hc
  injection hc with _ ht _
  exact absurd ht (by decide)
theorem MnE.pts_ne (h : MnE w B rb pv av cv ov jv m en) {g : Nat} (hg : jv.ownBlock = some g) : g ≠ rb ∧ ov.ownBlock ≠ some g ∧ g < w.heap.size ∧ B ≤ g := by
  obtain ⟨hb, cur, hc⟩ := row_block h.pts hg
  refine ⟨?_, row_apart h.pts h.out (by decide) hg, heap_lt hc, hb⟩
  rintro rfl
  rw [h.own] at hc
  injection hc with hc
  injection hc with _ ht _
  exact absurd ht (by decide)
theorem MnE.lt (h : MnE w B rb pv av cv ov jv m en) : rb < w.heap.size := heap_lt h.own
theorem MnE.big (h : MnE w B rb pv av cv ov jv m en) : B ≤ w.heap.size := by have := h.lt; have := h.low; omega
theorem MnE.later (h : MnE w B rb pv av cv ov jv m en) {w' : World} (hb : ∀ k, k < w.heap.size → w'.heap[k]? = w.heap[k]?) : MnE w' B rb pv av cv ov jv m en :=
  ⟨by rw [hb rb h.lt]; exact h.own, h.low, ownsRow_of h.out fun g hg => hb g (h.out_ne hg).2.2.1, ownsRow_of h.pts fun g hg => hb g (h.pts_ne hg).2.2.1⟩
theorem MnE.cell (h : MnE w B rb pv av cv ov jv m en) (k : Nat) : w.cell? ⟨rb, k, none⟩ = (mnC m en ov pv av jv cv)[k]? := Lib.cell_of_heap h.own k
theorem MnE.free (h : MnE w B rb pv av cv ov jv m en) (k : Nat) : w.frozen? ⟨rb, k, none⟩ = false := Lib.frozen_of_heap h.own k

/-- a cell is another one now -/
theorem MnE.setc (h : MnE w B rb pv av cv ov jv m en) (k : Nat) (u : Value) (m' : Mst) (en' : List UInt8) (hc : (mnC m en ov pv av jv cv).setIfInBounds k u = mnC m' en' ov pv av jv cv) (ho : m'.out = m.out) (hp : m'.pts = m.pts) :
    MnE (w.setCell ⟨rb, k, none⟩ u) B rb pv av cv ov jv m' en' ∧ Kp B w (w.setCell ⟨rb, k, none⟩ u) := by
  refine ⟨⟨by rw [← hc]; exact heap_set_same h.own u, h.low, ?_, ?_⟩, (Kp.refl _ _).setAt h.own (by decide) h.low _ _⟩
  · rw [ho]; exact ownsRow_of h.out fun g hg => heap_set_other (h.out_ne hg).1 u
  · rw [hp]; exact ownsRow_of h.pts fun g hg => heap_set_other (h.pts_ne hg).1 u

/-- a cell of another block is another one now -/
theorem MnE.setf (h : MnE w B rb pv av cv ov jv m en) (c k : Nat) (u : Value) (hc : c ≠ rb) (ho : ov.ownBlock ≠ some c) (hj : jv.ownBlock ≠ some c) : MnE (w.setCell ⟨c, k, none⟩ u) B rb pv av cv ov jv m en :=
  ⟨by rw [heap_set_other (fun e => hc e.symm)]; exact h.own, h.low, ownsRow_of h.out fun g hg => heap_set_other (fun (e : g = c) => ho (by rw [← e]; exact hg)) u, ownsRow_of h.pts fun g hg => heap_set_other (fun (e : g = c) => hj (by rw [← e]; exact hg)) u⟩

/-- what was printed is longer now -/
theorem MnE.more_out (h : MnE w B rb pv av cv ov jv m en) {W w1 : World} {g' cap' : Nat} {x : Int} (ho : w1.ownsRow B 3 1 (.slice (some ⟨g', 0, none⟩) (m.out.length + 1) cap') (m.out.length + 1) (intVs m.out ++ [.int .i64 x]))
    (hW : Below w.heap.size w W) (hg : W.grownBy w1 ov.ownBlock) :
    w1.heap[rb]? = w.heap[rb]? ∧ MnE (w1.setCell ⟨rb, 1, none⟩ (.slice (some ⟨g', 0, none⟩) (m.out.length + 1) cap')) B rb pv av cv (.slice (some ⟨g', 0, none⟩) (m.out.length + 1) cap') jv { m with out := m.out ++ [x] } en ∧
      Kp B w (w1.setCell ⟨rb, 1, none⟩ (.slice (some ⟨g', 0, none⟩) (m.out.length + 1) cap')) ∧
      ∀ k, k < w.heap.size → ov.ownBlock ≠ some k → w1.heap[k]? = w.heap[k]? := by
  have hold : ∀ k, k < w.heap.size → ov.ownBlock ≠ some k → w1.heap[k]? = w.heap[k]? := fun k hk hk' =>
    (hg.block k (by have := hW.size; omega) (fun e' => hk' e'.symm)).trans (hW.block k hk)
  have h1 : w1.heap[rb]? = w.heap[rb]? := hold rb h.lt (fun e => (h.out_ne e).1 rfl)
  have hne : ∀ g, (Value.slice (some ⟨g', 0, none⟩) (m.out.length + 1) cap').ownBlock = some g → g ≠ rb := by
    intro g hgg he
    subst he
    obtain ⟨_, cur, hc⟩ := row_block ho hgg
    rw [h1, h.own] at hc
    injection hc with hc
    injection hc with _ ht _
    exact absurd ht (by decide)
  refine ⟨h1, ⟨?_, h.low, ?_, ?_⟩, ?_, hold⟩
  · rw [heap_set_same (h1.trans h.own)]; rfl
  · have := ownsRow_of (w' := w1.setCell ⟨rb, 1, none⟩ (.slice (some ⟨g', 0, none⟩) (m.out.length + 1) cap')) ho (fun g hgg => heap_set_other (hne g hgg) _)
    simpa [intVs] using this
  · exact ownsRow_of h.pts fun g hgg => by
      obtain ⟨a, b, c, _⟩ := h.pts_ne hgg
      rw [heap_set_other a, hold g c b]
  · refine ⟨((hW.mono h.big).grown hg (by have := h.big; have := hW.size; omega) (fun k hk => (h.out_ne hk).2.2.2)).setCell h.low _, fun k cur e fz hk he => ?_⟩
    rw [heap_set_other (by
      rintro rfl
      rw [h.own] at hk
      injection hk with hk
      injection hk with _ h2 _
      subst h2
      revert he; decide)]
    rw [hold k (heap_lt hk) (fun e' => by
      obtain ⟨_, cur', hc'⟩ := row_block h.out e'
      rw [hk] at hc'
      injection hc' with hc'
      injection hc' with _ h2 _
      subst h2
      revert he; decide)]
    exact hk

/-- there is a join point more now -/
theorem MnE.more_pts (h : MnE w B rb pv av cv ov jv m en) {W w1 : World} {g' cap' : Nat} {j : Jpt} (ho : w1.ownsRow B 49 3 (.slice (some ⟨g', 0, none⟩) (m.pts.length + 1) cap') (m.pts.length + 1) (jpC m.pts ++ jpC [j]))
    (hW : Below w.heap.size w W) (hg : W.grownBy w1 jv.ownBlock) :
    w1.heap[rb]? = w.heap[rb]? ∧ MnE (w1.setCell ⟨rb, 7, none⟩ (.slice (some ⟨g', 0, none⟩) (m.pts.length + 1) cap')) B rb pv av cv ov (.slice (some ⟨g', 0, none⟩) (m.pts.length + 1) cap') { m with pts := m.pts ++ [j] } en ∧
      Kp B w (w1.setCell ⟨rb, 7, none⟩ (.slice (some ⟨g', 0, none⟩) (m.pts.length + 1) cap')) ∧
      ∀ k, k < w.heap.size → jv.ownBlock ≠ some k → w1.heap[k]? = w.heap[k]? := by
  have hold : ∀ k, k < w.heap.size → jv.ownBlock ≠ some k → w1.heap[k]? = w.heap[k]? := fun k hk hk' =>
    (hg.block k (by have := hW.size; omega) (fun e' => hk' e'.symm)).trans (hW.block k hk)
  have h1 : w1.heap[rb]? = w.heap[rb]? := hold rb h.lt (fun e => (h.pts_ne e).1 rfl)
  have hne : ∀ g, (Value.slice (some ⟨g', 0, none⟩) (m.pts.length + 1) cap').ownBlock = some g → g ≠ rb := by
    intro g hgg he
    subst he
    obtain ⟨_, cur, hc⟩ := row_block ho hgg
    rw [h1, h.own] at hc
    injection hc with hc
    injection hc with _ ht _
    exact absurd ht (by decide)
  refine ⟨h1, ⟨?_, h.low, ?_, ?_⟩, ?_, hold⟩
  · rw [heap_set_same (h1.trans h.own)]; rfl
  · exact ownsRow_of h.out fun g hgg => by
      obtain ⟨a, b, c, _⟩ := h.out_ne hgg
      rw [heap_set_other a, hold g c b]
  · have := ownsRow_of (w' := w1.setCell ⟨rb, 7, none⟩ (.slice (some ⟨g', 0, none⟩) (m.pts.length + 1) cap')) ho (fun g hgg => heap_set_other (hne g hgg) _)
    simpa [jpC] using this
  · refine ⟨((hW.mono h.big).grown hg (by have := h.big; have := hW.size; omega) (fun k hk => (h.pts_ne hk).2.2.2)).setCell h.low _, fun k cur e fz hk he => ?_⟩
    rw [heap_set_other (by
      rintro rfl
      rw [h.own] at hk
      injection hk with hk
      injection hk with _ h2 _
      subst h2
      revert he; decide)]
    rw [hold k (heap_lt hk) (fun e' => by
      obtain ⟨_, cur', hc'⟩ := row_block h.pts e'
      rw [hk] at hc'
      injection hc' with hc'
      injection hc' with _ h2 _
      subst h2
      revert he; decide)]
    exact hk

/-- the world behind an append to the join points -/
structure MorePm (w : World) (B rb : Nat) (pv av cv ov jv : Value) (m : Mst) (en : List UInt8) (j : Jpt) (g c : Nat) (w' : World) : Prop where
  c5 : w'.cell? ⟨rb, 7, none⟩ = some jv
  f5 : w'.frozen? ⟨rb, 7, none⟩ = false
  rn : MnE (w'.setCell ⟨rb, 7, none⟩ (.slice (some ⟨g, 0, none⟩) (m.pts.length + 1) c)) B rb pv av cv ov (.slice (some ⟨g, 0, none⟩) (m.pts.length + 1) c) { m with pts := m.pts ++ [j] } en
  bel : Kp B w (w'.setCell ⟨rb, 7, none⟩ (.slice (some ⟨g, 0, none⟩) (m.pts.length + 1) c))
  far : ∀ k, k < w.heap.size → jv.ownBlock ≠ some k → w'.heap[k]? = w.heap[k]?
  size : w.heap.size ≤ w'.heap.size
  at_ : jv.ownBlock = some g ∨ w.heap.size ≤ g
theorem MnE.app_pts (h : MnE w B rb pv av cv ov jv m en) (hl : m.pts.length ≤ 1000) (j : Jpt) (X Y Z : ByteArray) (hj : jpC [j] = [.string X, .string Y, .string Z]) (W : World) (hW : Below w.heap.size w W) (ab : Nat) (hA : W.heap[ab]? = some (.cells #[.string X, .string Y, .string Z] 49 (0, 0))) :
    ∃ g c w', (Builtin.append_ #[44, 44] 44 #[jv, .slice (some ⟨ab, 0, none⟩) 1 1]).run Tryz.prog W = .ok (.slice (some ⟨g, 0, none⟩) (m.pts.length + 1) c) w' ∧ MorePm w B rb pv av cv ov jv m en j g c w' := by
  obtain ⟨i0, hi, hz0, hz1, hz2⟩ := info_parts info_jp
  have hpts : W.ownsRow B 49 3 jv m.pts.length (jpC m.pts) := ownsRow_of h.pts fun g hg => hW.block g (h.pts_ne hg).2.2.1
  obtain ⟨g', c', w', hrun, h2, h3, hat, _⟩ := run_append_lies (P := Tryz.prog) W 44 44 B 49 i0 (.agg #[.string ⟨#[]⟩, .string ⟨#[]⟩, .string ⟨#[]⟩]) 3 48 Tryz.underlying44 hi hz0 hz1 hz2 rfl (by decide) jv m.pts.length (jpC m.pts) hpts ⟨ab, 0, none⟩ 1 1 [.string X, .string Y, .string Z] rfl
    (World.news_of_block (cs := #[.string X, .string Y, .string Z]) hA) (by intro u hu; simp at hu; rcases hu with rfl | rfl | rfl <;> rfl) (by decide) (by unfold maxLen; omega) (by omega) (by have := h.big; have := hW.size; omega) W.heap.size rfl
  obtain ⟨k1, k2, k3, k4⟩ := h.more_pts (j := j) (by rw [hj]; exact h2) hW h3
  exact ⟨g', c', w', hrun, (World.cell?_of_block (a := ⟨rb, 7, none⟩) k1).trans (h.cell 7), (World.frozen?_of_block (a := ⟨rb, 7, none⟩) k1).trans (h.free 7), k2, k3, k4, Nat.le_trans hW.size h3.size, hat.imp id (fun e => by have := hW.size; omega)⟩

/-- the world behind an append to what was printed -/
structure MoreOm (w : World) (B rb : Nat) (pv av cv ov jv : Value) (m : Mst) (en : List UInt8) (x : Int) (g c : Nat) (w' : World) : Prop where
  c1 : w'.cell? ⟨rb, 1, none⟩ = some ov
  f1 : w'.frozen? ⟨rb, 1, none⟩ = false
  rn : MnE (w'.setCell ⟨rb, 1, none⟩ (.slice (some ⟨g, 0, none⟩) (m.out.length + 1) c)) B rb pv av cv (.slice (some ⟨g, 0, none⟩) (m.out.length + 1) c) jv { m with out := m.out ++ [x] } en
  bel : Kp B w (w'.setCell ⟨rb, 1, none⟩ (.slice (some ⟨g, 0, none⟩) (m.out.length + 1) c))
  far : ∀ k, k < w.heap.size → ov.ownBlock ≠ some k → w'.heap[k]? = w.heap[k]?
  size : w.heap.size ≤ w'.heap.size
  at_ : ov.ownBlock = some g ∨ w.heap.size ≤ g
theorem MnE.app_out (h : MnE w B rb pv av cv ov jv m en) (hl : m.out.length ≤ 1000) (x : Int) (W : World) (hW : Below w.heap.size w W) (ab : Nat) (hA : W.heap[ab]? = some (.cells #[.int .i64 x] 3 (0, 0))) :
    ∃ g c w', (Builtin.append_ #[27, 27] 27 #[ov, .slice (some ⟨ab, 0, none⟩) 1 1]).run Tryz.prog W = .ok (.slice (some ⟨g, 0, none⟩) (m.out.length + 1) c) w' ∧ MoreOm w B rb pv av cv ov jv m en x g c w' := by
  obtain ⟨i0, hi, hz0, hz1, hz2⟩ := info_parts info_int
  have hout : W.ownsRow B 3 1 ov m.out.length (intVs m.out) := ownsRow_of h.out fun g hg => hW.block g (h.out_ne hg).2.2.1
  obtain ⟨g', c', w', hrun, h2, h3, hat, _⟩ := run_append_lies (P := Tryz.prog) W 27 27 B 3 i0 (.int .i64 0) 1 8 Tryz.underlying27 hi hz0 hz1 hz2 rfl (by decide) ov m.out.length (intVs m.out) hout ⟨ab, 0, none⟩ 1 1 [.int .i64 x] rfl
    (World.news_of_block (cs := #[.int .i64 x]) hA) (by intro u hu; simp at hu; subst hu; rfl) (by decide) (by unfold maxLen; omega) (by omega) (by have := h.big; have := hW.size; omega) W.heap.size rfl
  obtain ⟨k1, k2, k3, k4⟩ := h.more_out (x := x) h2 hW h3
  exact ⟨g', c', w', hrun, (World.cell?_of_block (a := ⟨rb, 1, none⟩) k1).trans (h.cell 1), (World.frozen?_of_block (a := ⟨rb, 1, none⟩) k1).trans (h.free 1), k2, k3, k4, Nat.le_trans hW.size h3.size, hat.imp id (fun e => by have := hW.size; omega)⟩
end

/-- a machine in memory, wherever its rows are -/
def Mn (w : World) (B rb : Nat) (pv av cv : Value) (m : Mst) (en : List UInt8) : Prop := ∃ oa oc ja jc, MnE w B rb pv av cv (.slice oa m.out.length oc) (.slice ja m.pts.length jc) m en
theorem Mn.of {w : World} {B rb : Nat} {pv av cv ov jv : Value} {m : Mst} {en : List UInt8} (h : MnE w B rb pv av cv ov jv m en) : Mn w B rb pv av cv m en := by
  obtain ⟨oa, on, oc, rfl⟩ := slice_form h.out
  obtain ⟨ja, jn, jc, rfl⟩ := slice_form h.pts
  have h1 : on = m.out.length := by
    rcases h.out.2 with ⟨h1, h2⟩ | ⟨g, cap, cur, h1, _⟩
    · injection h1 with _ h3; rw [h3, h2]
    · injection h1
  have h2 : jn = m.pts.length := by
    rcases h.pts.2 with ⟨h1, h2⟩ | ⟨g, cap, cur, h1, _⟩
    · injection h1 with _ h3; rw [h3, h2]
    · injection h1
  subst h1; subst h2
  exact ⟨oa, oc, ja, jc, h⟩
theorem Mn.later {w w' : World} {B rb : Nat} {pv av cv : Value} {m : Mst} {en : List UInt8} (h : Mn w B rb pv av cv m en) (hb : ∀ k, k < w.heap.size → w'.heap[k]? = w.heap[k]?) : Mn w' B rb pv av cv m en := by
  obtain ⟨oa, oc, ja, jc, h⟩ := h
  exact ⟨oa, oc, ja, jc, h.later hb⟩

end Go.Proofs.YtomodlllmbkndaaGreatDoor
namespace Go.Proofs.YtomodlllmbkndaaGreatDoor
open Go.RowKit Gram

theorem cho_from (a b : List Stm) : from_ (txtOf (Stm.cho a b).txt) 1 = 91 :: (txts a ++ 93 :: 91 :: (txts b ++ [93])) := by
  simp [from_, txtOf, Stm.txt]
theorem cho_size (a b : List Stm) : (txtOf (Stm.cho a b).txt).size = (txts a).length + (txts b).length + 5 := by
  show (Stm.cho a b).txt.toArray.size = _
  simp [Stm.txt]; omega
theorem cho_end (a b : List Stm) (ha : wfs a = true) : endI (txtOf (Stm.cho a b).txt) (pK (from_ (txtOf (Stm.cho a b).txt) 1)) = ((txts a).length + 3 : Nat) := by
  have h := (parse_complete ((txts a).length + (txts b).length + 5)).2.1 a (91 :: (txts b ++ [93])) ha (by omega)
  rw [cho_from, ← pK_eq ((txts a).length + (txts b).length + 5) _ (by simp; omega), h]
  simp only [endI, cho_size]
  simp; omega

set_option maxHeartbeats 1000000 in
set_option maxRecDepth 100000 in
theorem parts_any (a b : List Stm) (ha : wfs a = true) (hl : (Stm.cho a b).txt.length ≤ 400) (w : World) :
    Calls Tryz.prog 128 #[.string (txtOf (Stm.cho a b).txt)] w fun e w' => e = .returned (.tuple #[.string (txtOf (txts a)), .string (txtOf (txts b))]) ∧ Below w.heap.size w w' := by
  have hsz := cho_size a b
  have hl2 : (txts a).length + (txts b).length + 5 ≤ 400 := by rw [← hsz]; exact hl
  have HB := Lib.hid (fun w => (both_all ((txtOf (Stm.cho a b).txt).size + 1)).2 (txtOf (Stm.cho a b).txt) 1 1 w rfl (by omega) (by omega) (by omega))
  rw [cho_end a b ha] at HB
  have h1 : (txtOf (Stm.cho a b).txt).extract 2 ((txts a).length + 2) = txtOf (txts a) := by
    rw [extract_from]
    simp [from_, txtOf, Stm.txt]
  have h2 : (txtOf (Stm.cho a b).txt).extract ((txts a).length + 4) ((txts a).length + (txts b).length + 4) = txtOf (txts b) := by
    rw [extract_from]
    have : from_ (txtOf (Stm.cho a b).txt) ((txts a).length + 4) = txts b ++ [93] := by
      simp [from_, txtOf, Stm.txt]
    rw [this]
    have h3 : (txts a).length + (txts b).length + 4 - ((txts a).length + 4) = (txts b).length := by omega
    rw [h3]; simp [txtOf]
  have HA := Lib.hid (⟨h1, h2⟩ : _ ∧ _)
  clear h1 h2 ha hl
  generalize txtOf (Stm.cho a b).txt = s at *
  go_enter Tryz.func128, Tryz.ntmps128
  go_wp2_with fail
  refine (HB.out _).mono ?_
  rintro e w1 ⟨rfl, rfl⟩
  have w1' : IntKind.i64.wrap ((((txts a).length + 3 : Nat) : Int) - 1) = (((txts a).length + 2 : Nat) : Int) := by rw [IntKind.wrap_i64]; omega
  have w2' : IntKind.i64.wrap ((((txts a).length + 3 : Nat) : Int) + 1) = (((txts a).length + 4 : Nat) : Int) := by rw [IntKind.wrap_i64]; omega
  have w3' : IntKind.i64.wrap ((s.size : Int) - 1) = (((txts a).length + (txts b).length + 4 : Nat) : Int) := by rw [IntKind.wrap_i64]; omega
  have z1 : (((txts a).length + 2 : Nat) : Int) ≤ s.size := by omega
  have z2 : (2 : Int) ≤ (((txts a).length + 2 : Nat) : Int) := by omega
  have z3 : (((txts a).length + (txts b).length + 4 : Nat) : Int) ≤ s.size := by omega
  have z4 : (((txts a).length + 4 : Nat) : Int) ≤ (((txts a).length + (txts b).length + 4 : Nat) : Int) := by omega
  have y1 : (txts a).length + 2 ≤ s.size := by omega
  have y2 : 2 ≤ (txts a).length + 2 := by omega
  have y3 : (txts a).length + (txts b).length + 4 ≤ s.size := by omega
  have y4 : (txts a).length + 4 ≤ (txts a).length + (txts b).length + 4 := by omega
  have y5 : (txts a).length + 4 ≤ s.size := by omega
  generalize ((txts a).length + 3 : Nat) = e3 at *
  generalize ((txts a).length + 2 : Nat) = e2 at *
  generalize ((txts a).length + (txts b).length + 4 : Nat) = e5 at *
  generalize ((txts a).length + 4 : Nat) = e4 at *
  have hs1 : ∀ w, (Instr.slice 9 (.string s) (some (.int .i64 2)) (some (.int .i64 e2)) none).run Tryz.prog w = .ok (.string (txtOf (txts a))) w := fun w => by
    rw [run_slice_string w _ _ _ _ _ _ Tryz.underlying9 (by omega) z2 z1, ← HA.out.1]; rfl
  have hs2 : ∀ w, (Instr.slice 9 (.string s) (some (.int .i64 e4)) (some (.int .i64 e5)) none).run Tryz.prog w = .ok (.string (txtOf (txts b))) w := fun w => by
    rw [run_slice_string w _ _ _ _ _ _ Tryz.underlying9 (by omega) z4 z3, ← HA.out.2]; rfl
  clear z1 z2 z3 z4 y1 y2 y3 y4 y5 hsz hl2
  go_wp2_with fail
  go_quiet (fail)
  go_wp2_with fail
  go_ret2
  exact ⟨rfl, ⟨rfl, rfl, rfl, Nat.le_refl _, fun _ _ => rfl⟩⟩

theorem txts_ge' (xs : List Stm) : xs.length ≤ (txts xs).length := by
  induction xs with
  | nil => simp [txts]
  | cons x xs ih => have := x.txt_len; simp [txts]; omega

end Go.Proofs.YtomodlllmbkndaaGreatDoor
namespace Go.Proofs.YtomodlllmbkndaaGreatDoor
open Go.RowKit Gram

section
variable {w : World} {B rb : Nat} {pv av cv ov jv : Value} {m : Mst} {en : List UInt8}

theorem MnE.c0 (h : MnE w B rb pv av cv ov jv m en) : w.cell? ⟨rb, 0, none⟩ = some (.int .i64 m.val) := h.cell 0
theorem MnE.c1 (h : MnE w B rb pv av cv ov jv m en) : w.cell? ⟨rb, 1, none⟩ = some ov := h.cell 1
theorem MnE.c2 (h : MnE w B rb pv av cv ov jv m en) : w.cell? ⟨rb, 2, none⟩ = some (.string (txtOf en)) := h.cell 2
theorem MnE.c3 (h : MnE w B rb pv av cv ov jv m en) : w.cell? ⟨rb, 3, none⟩ = some (.int .i64 m.steps) := h.cell 3
theorem MnE.c4 (h : MnE w B rb pv av cv ov jv m en) : w.cell? ⟨rb, 4, none⟩ = some (.string (txtOf m.stk)) := h.cell 4
theorem MnE.c5 (h : MnE w B rb pv av cv ov jv m en) : w.cell? ⟨rb, 5, none⟩ = some pv := h.cell 5
theorem MnE.c6 (h : MnE w B rb pv av cv ov jv m en) : w.cell? ⟨rb, 6, none⟩ = some av := h.cell 6
theorem MnE.c7 (h : MnE w B rb pv av cv ov jv m en) : w.cell? ⟨rb, 7, none⟩ = some jv := h.cell 7
theorem MnE.c9 (h : MnE w B rb pv av cv ov jv m en) : w.cell? ⟨rb, 9, none⟩ = some (.int .i64 m.deep) := h.cell 9

set_option maxHeartbeats 400000 in
theorem count_long (h : MnE w B rb pv av cv ov jv m []) (hs : m.steps = 500) :
    Calls Tryz.prog 112 #[.pointer (some ⟨rb, 0, none⟩)] w fun e w' => e = .returned (.bool false) ∧ MnE w' B rb pv av cv ov jv m (Fin.word (some .long)) ∧ Kp B w w' := by
  have c3 := h.c3
  have c2 := h.c2
  have f2 := h.free 2
  rw [hs] at c3
  have HS := Lib.hid (h.setc 2 (.string (txtOf (Fin.word (some .long)))) m (Fin.word (some .long)) rfl rfl rfl)
  clear h hs
  go_enter Tryz.func112, Tryz.ntmps112
  go_wp2_with fail
  go_ret
  exact ⟨rfl, HS.out⟩

set_option maxHeartbeats 400000 in
set_option maxRecDepth 100000 in
theorem count_more (h : MnE w B rb pv av cv ov jv m []) (hs : m.steps ≠ 500) (hl : m.steps ≤ 500) :
    Calls Tryz.prog 112 #[.pointer (some ⟨rb, 0, none⟩)] w fun e w' => e = .returned (.bool true) ∧ MnE w' B rb pv av cv ov jv m.tick [] ∧ Kp B w w' ∧ ∀ k, k ≠ rb → w'.heap[k]? = w.heap[k]? := by
  have c3 := h.c3
  have f3 := h.free 3
  have hlt : m.steps < 500 := by omega
  have HS := Lib.hid (h.setc 3 (.int .i64 ((m.steps + 1 : Nat) : Int)) m.tick [] rfl rfl rfl)
  clear h hs hl
  generalize m.steps = k at *
  go_enter Tryz.func112, Tryz.ntmps112
  go_wp2_with fail
  go_ret
  exact ⟨rfl, HS.out.1, HS.out.2, fun k hk => heap_set_other hk _⟩

/-- the end that the machine notes -/
def wd : Option Fin → List UInt8
  | none => []
  | some f => Fin.word (some f)
/-- what becomes of a machine; what was active is so again -/
def MnTo (B rb : Nat) (pv av cv : Value) (r : Mst × Option Fin) (s0 : List UInt8) (w : World) (e : Ending) (w' : World) : Prop :=
  e = .returned (.tuple #[]) ∧ Mn w' B rb pv av cv (r.1.leave s0) (wd r.2) ∧ Kp B w w'

theorem later_m (h : MnE w B rb pv av cv ov jv m en) {w' : World} (hb : Below w.heap.size w w') : MnE w' B rb pv av cv ov jv m en := h.later (fun k hk => hb.block k hk)
theorem leave_self (m : Mst) : m.leave m.stk = m := rfl

set_option maxHeartbeats 1000000 in
set_option maxRecDepth 100000 in
theorem print_long (h : MnE w B rb pv av cv ov jv m []) (hs : m.steps = 500) :
    Calls Tryz.prog 167 #[.pointer (some ⟨rb, 0, none⟩)] w (MnTo B rb pv av cv (m, some .long) m.stk w) := by
  have HC := Lib.hid (count_long h hs)
  clear h hs
  go_enter Tryz.func167, Tryz.ntmps167
  go_wp2_with fail
  refine HC.out.mono ?_
  rintro e w2 ⟨rfl, hR, hb⟩
  have HR := Lib.hid (⟨hR, hb⟩ : _ ∧ _)
  clear hR hb
  go_wp2_with fail
  go_end0
  exact ⟨rfl, Mn.of HR.out.1, HR.out.2⟩

set_option maxHeartbeats 1000000 in
set_option maxRecDepth 100000 in
theorem print_more (h : Mn w B rb pv av cv m []) (hs : m.steps ≠ 500) (hm : m.ok 1) :
    Calls Tryz.prog 167 #[.pointer (some ⟨rb, 0, none⟩)] w (MnTo B rb pv av cv (m.tick.prt, none) m.stk w) := by
  obtain ⟨oa, oc, ja, jc, hE⟩ := h
  have HC := Lib.hid (count_more hE hs hm.steps)
  have HL := Lib.hid (show m.tick.out.length ≤ 1000 from by have := hm.out; have := hm.steps; show m.out.length ≤ 1000; omega)
  clear hE hs hm
  go_enter Tryz.func167, Tryz.ntmps167
  go_wp2_with fail
  refine HC.out.mono ?_
  rintro e wj ⟨rfl, hR, hb, _⟩
  have HE2 := Lib.hid hR
  have HB2 := Lib.hid hb
  clear hR hb
  go_wp2_with fail
  have BP := Lib.hid (fun o => (Below.refl wj.heap.size wj).alloc (Nat.le_refl _) o)
  have c1 := HE2.out.c1
  have c0 := HE2.out.c0
  have d1 := (later_m HE2.out (BP.out (Obj.cells #[.int .i64 m.tick.val] 3))).c1
  go_region_law
    ((refine step_append_at (t := 27) (by rfl) (.tmp 10) (.tmp 17) (by rfl) (by rfl) (.slice oa m.out.length oc) (.slice (some ⟨wj.heap.size, 0, none⟩) 1 1) (by first | (simp [Act.eval]; done) | (simp [Act.eval, Act.put]; done) | rfl) (by first | (simp [Act.eval]; done) | (simp [Act.eval, Act.put]; done) | rfl) _ _ (HE2.out.app_out HL.out m.tick.val _ (by first | exact BP.out _ | exact (BP.out _).drew) wj.heap.size (by exact heap_alloc_new _ _)) ?_
      intro g7 c7 w7 h7
      have s1 := h7.c1
      have s2 := h7.f1
      have H7 := Lib.hid h7
      clear h7))
  all_goals
    go_wp2_with fail
    go_end0
    exact ⟨rfl, Mn.of H7.out.rn, HB2.out.trans H7.out.bel⟩

set_option maxHeartbeats 1000000 in
set_option maxRecDepth 100000 in
theorem compute_long (h : MnE w B rb pv av cv ov jv m []) (hs : m.steps = 500) (t : ByteArray) :
    Calls Tryz.prog 114 #[.pointer (some ⟨rb, 0, none⟩), .string t] w (MnTo B rb pv av cv (m, some .long) m.stk w) := by
  have HC := Lib.hid (count_long h hs)
  clear h hs
  go_enter Tryz.func114, Tryz.ntmps114
  go_wp2_with fail
  refine HC.out.mono ?_
  rintro e w2 ⟨rfl, hR, hb⟩
  have HR := Lib.hid (⟨hR, hb⟩ : _ ∧ _)
  clear hR hb
  go_wp2_with fail
  go_end0
  exact ⟨rfl, Mn.of HR.out.1, HR.out.2⟩

theorem prod_in' (v z : Int) (h1 : -9999 ≤ v) (h2 : v ≤ 9999) (h3 : 0 ≤ z) (h4 : z ≤ 9) : -89991 ≤ v * z ∧ v * z ≤ 89991 := by
  have a1 := Int.mul_le_mul_of_nonneg_right h1 h3
  have a2 := Int.mul_le_mul_of_nonneg_right h2 h3
  omega

set_option maxHeartbeats 1000000 in
set_option maxRecDepth 100000 in
theorem compute_more (h : Mn w B rb pv av cv m []) (hs : m.steps ≠ 500) (hm : m.ok 1) (g d : UInt8) (hg : isSgn g = true) (hd : isDig d = true) :
    Calls Tryz.prog 114 #[.pointer (some ⟨rb, 0, none⟩), .string (txtOf [g, d])] w (MnTo B rb pv av cv (m.tick.chg g d, none) m.stk w) := by
  obtain ⟨oa, oc, ja, jc, hE⟩ := h
  have HC := Lib.hid (count_more hE hs hm.steps)
  rw [isDig_int, Bool.and_eq_true, decide_eq_true_eq, decide_eq_true_eq] at hd
  have hp := prod_in' m.val ((d.toNat : Int) - 48) hm.lo hm.hi (by omega) (by omega)
  have hlo := hm.lo
  have hhi := hm.hi
  rcases sgn3 hg with rfl | rfl | rfl
  · have HV := Lib.hid (by unfold chgV; rw [if_neg (by decide), if_neg (by decide)] : chgV m.val 43 d = (m.val + ((d.toNat : Int) - 48)).tmod 10000)
    have hq : m.tick.chg 43 d = { m.tick with val := (m.val + ((d.toNat : Int) - 48)).tmod 10000 } := by rw [Mst.chg]; exact congrArg (fun z => { m.tick with val := z }) HV.out
    generalize ht : txtOf [43, d] = t
    have hsz : t.size = 2 := by rw [← ht]; rfl
    have B0 : ((t[0]'(by omega)).toNat : Int) = 43 := by subst ht; rfl
    have B1 : ((t[1]'(by omega)).toNat : Int) = (d.toNat : Int) := by subst ht; rfl
    have HQ := Lib.hid (fun (wj : World) (hE2 : MnE wj B rb pv av cv (.slice oa m.out.length oc) (.slice ja m.pts.length jc) m.tick []) (hb : Kp B w wj) => by
      have a := hE2.setc 0 (.int .i64 (m.val + ((d.toNat : Int) - 48))) { m.tick with val := m.val + ((d.toNat : Int) - 48) } [] rfl rfl rfl
      have b := a.1.setc 0 (.int .i64 ((m.val + ((d.toNat : Int) - 48)).tmod 10000)) { m.tick with val := (m.val + ((d.toNat : Int) - 48)).tmod 10000 } [] rfl rfl rfl
      rw [← hq] at b
      exact (⟨hE2.c0, hE2.free 0, a.1.c0, a.1.free 0, Mn.of b.1, hb.trans (a.2.trans b.2)⟩ : _ ∧ _ ∧ _ ∧ _ ∧ _ ∧ _))
    clear hE hs hm hq HV ht
    generalize hvv : m.tick.val = v0 at *
    have hvm : m.val = v0 := hvv
    rw [hvm] at HQ hp
    clear hvv
    generalize (d.toNat : Int) = z at *
    go_enter Tryz.func114, Tryz.ntmps114
    go_wp2_with fail
    refine HC.out.mono ?_
    rintro e wj ⟨rfl, hR, hb, _⟩
    obtain ⟨q0, q1, q2, q3, q4, q5⟩ := HQ.out wj hR hb
    have HX := Lib.hid (⟨q4, q5⟩ : _ ∧ _)
    clear hR hb q4 q5
    go_wp2_with fail
    go_end0
    exact ⟨rfl, HX.out.1, HX.out.2⟩
  · have HV := Lib.hid (by unfold chgV; rw [if_neg (by decide), if_pos rfl] : chgV m.val 45 d = (m.val + -((d.toNat : Int) - 48)).tmod 10000)
    have hq : m.tick.chg 45 d = { m.tick with val := (m.val + -((d.toNat : Int) - 48)).tmod 10000 } := by rw [Mst.chg]; exact congrArg (fun z => { m.tick with val := z }) HV.out
    generalize ht : txtOf [45, d] = t
    have hsz : t.size = 2 := by rw [← ht]; rfl
    have B0 : ((t[0]'(by omega)).toNat : Int) = 45 := by subst ht; rfl
    have B1 : ((t[1]'(by omega)).toNat : Int) = (d.toNat : Int) := by subst ht; rfl
    have HQ := Lib.hid (fun (wj : World) (hE2 : MnE wj B rb pv av cv (.slice oa m.out.length oc) (.slice ja m.pts.length jc) m.tick []) (hb : Kp B w wj) => by
      have a := hE2.setc 0 (.int .i64 (m.val + -((d.toNat : Int) - 48))) { m.tick with val := m.val + -((d.toNat : Int) - 48) } [] rfl rfl rfl
      have b := a.1.setc 0 (.int .i64 ((m.val + -((d.toNat : Int) - 48)).tmod 10000)) { m.tick with val := (m.val + -((d.toNat : Int) - 48)).tmod 10000 } [] rfl rfl rfl
      rw [← hq] at b
      exact (⟨hE2.c0, hE2.free 0, a.1.c0, a.1.free 0, Mn.of b.1, hb.trans (a.2.trans b.2)⟩ : _ ∧ _ ∧ _ ∧ _ ∧ _ ∧ _))
    clear hE hs hm hq HV ht
    generalize hvv : m.tick.val = v0 at *
    have hvm : m.val = v0 := hvv
    rw [hvm] at HQ hp
    clear hvv
    generalize (d.toNat : Int) = z at *
    go_enter Tryz.func114, Tryz.ntmps114
    go_wp2_with fail
    refine HC.out.mono ?_
    rintro e wj ⟨rfl, hR, hb, _⟩
    obtain ⟨q0, q1, q2, q3, q4, q5⟩ := HQ.out wj hR hb
    have HX := Lib.hid (⟨q4, q5⟩ : _ ∧ _)
    clear hR hb q4 q5
    go_wp2_with fail
    go_end0
    exact ⟨rfl, HX.out.1, HX.out.2⟩
  · have HV := Lib.hid (by unfold chgV; rw [if_pos rfl] : chgV m.val 42 d = (m.val * ((d.toNat : Int) - 48)).tmod 10000)
    have hq : m.tick.chg 42 d = { m.tick with val := (m.val * ((d.toNat : Int) - 48)).tmod 10000 } := by rw [Mst.chg]; exact congrArg (fun z => { m.tick with val := z }) HV.out
    generalize ht : txtOf [42, d] = t
    have hsz : t.size = 2 := by rw [← ht]; rfl
    have B0 : ((t[0]'(by omega)).toNat : Int) = 42 := by subst ht; rfl
    have B1 : ((t[1]'(by omega)).toNat : Int) = (d.toNat : Int) := by subst ht; rfl
    have HQ := Lib.hid (fun (wj : World) (hE2 : MnE wj B rb pv av cv (.slice oa m.out.length oc) (.slice ja m.pts.length jc) m.tick []) (hb : Kp B w wj) => by
      have a := hE2.setc 0 (.int .i64 (m.val * ((d.toNat : Int) - 48))) { m.tick with val := m.val * ((d.toNat : Int) - 48) } [] rfl rfl rfl
      have b := a.1.setc 0 (.int .i64 ((m.val * ((d.toNat : Int) - 48)).tmod 10000)) { m.tick with val := (m.val * ((d.toNat : Int) - 48)).tmod 10000 } [] rfl rfl rfl
      rw [← hq] at b
      exact (⟨hE2.c0, hE2.free 0, a.1.c0, a.1.free 0, Mn.of b.1, hb.trans (a.2.trans b.2)⟩ : _ ∧ _ ∧ _ ∧ _ ∧ _ ∧ _))
    clear hE hs hm hq HV ht
    generalize hvv : m.tick.val = v0 at *
    have hvm : m.val = v0 := hvv
    rw [hvm] at HQ hp
    clear hvv
    generalize (d.toNat : Int) = z at *
    go_enter Tryz.func114, Tryz.ntmps114
    go_wp2_with fail
    refine HC.out.mono ?_
    rintro e wj ⟨rfl, hR, hb, _⟩
    obtain ⟨q0, q1, q2, q3, q4, q5⟩ := HQ.out wj hR hb
    have HX := Lib.hid (⟨q4, q5⟩ : _ ∧ _)
    clear hR hb q4 q5
    go_wp2_with fail
    go_end0
    exact ⟨rfl, HX.out.1, HX.out.2⟩
end
end Go.Proofs.YtomodlllmbkndaaGreatDoor
namespace Go.Proofs.YtomodlllmbkndaaGreatDoor
open Go.RowKit Gram

/-- the procedures that are run, as the model has them: their row lies below block B -/
structure Pm (w : World) (B : Nat) (ps : List Pr) (pv : Value) : Prop where
  own : w.ownsRow 0 108 2 pv ps.length (prVs ps)
  lt : ∀ g, pv.ownBlock = some g → g < B
  le : ps.length ≤ 401
  fits : ∀ p ∈ ps, Fits (namesOf ps) p.2
theorem Pm.later {w w' : World} {B : Nat} {ps : List Pr} {pv : Value} (h : Pm w B ps pv) (hb : Kp B w w') : Pm w' B ps pv :=
  ⟨ownsRow_of h.own fun g hg => hb.block g (h.lt g hg), h.lt, h.le, h.fits⟩
theorem fits_nil (ns : List UInt8) : Fits ns [] := ⟨rfl, rfl, (fun c hc => absurd hc (by simp [callsIn])), by simp [txts]⟩
theorem Pm.body {w : World} {B : Nat} {ps : List Pr} {pv : Value} (h : Pm w B ps pv) (c : UInt8) : Fits (namesOf ps) (bodyP ps c) := by
  unfold bodyP
  split
  · rename_i p hp
    exact h.fits p (List.mem_of_find?_eq_some hp)
  · exact fits_nil _
theorem named_text (ps : List Pr) (c : UInt8) : bodyT (namedIn ps (txtOf [c])) = txtOf (txts (bodyP ps c)) := by
  have h : namedIn ps (txtOf [c]) = ps.find? (fun p => p.1 == c) := by
    unfold namedIn
    congr 1
    funext p
    rw [Bool.eq_iff_iff]
    simp only [beq_iff_eq]
    show [c] = [p.1] ↔ _
    simp only [List.cons.injEq, and_true]
    exact eq_comm
  rw [h, bodyP]
  cases ps.find? (fun p => p.1 == c) with
  | none => rfl
  | some p => rfl

/-- bodies are done as ex does them -/
def DoesM (B rb : Nat) (ps : List Pr) (pv av cv : Value) (ex : Mst → List Stm → Mst × Option Fin) (lo : Nat) : Prop :=
  ∀ (w : World) (m : Mst) (xs : List Stm), Mn w B rb pv av cv m [] → Pm w B ps pv → m.ok 0 → Fits (namesOf ps) xs → lo ≤ m.steps →
    Calls Tryz.prog 91 #[.pointer (some ⟨rb, 0, none⟩), .string (txtOf (txts xs))] w (MnTo B rb pv av cv (ex m xs) m.stk w)

section
variable {B rb : Nat} {ps : List Pr} {pv av cv : Value} {ex : Mst → List Stm → Mst × Option Fin} {lo : Nat}

set_option maxHeartbeats 1000000 in
set_option maxRecDepth 100000 in
theorem enter_by (hd : DoesM B rb ps pv av cv ex lo) {w : World} {m : Mst} (h : Mn w B rb pv av cv m []) (hP : Pm w B ps pv) (c : UInt8) (hm : (m.enter c).ok 0) (hlo : lo ≤ m.steps) :
    Calls Tryz.prog 72 #[.pointer (some ⟨rb, 0, none⟩), .string (txtOf [c])] w (MnTo B rb pv av cv (callBy ex (bodyP ps) m c) m.stk w) := by
  obtain ⟨oa, oc, ja, jc, hE⟩ := h
  have c4 := hE.c4
  have f4 := hE.free 4
  have hsum : txtOf m.stk ++ txtOf [c] = txtOf (m.stk ++ [c]) := by apply ByteArray.ext; simp [txtOf]
  have hs := str_sum (txtOf m.stk) (txtOf [c]) (by rw [txtOf_size, txtOf_size]; have := hm.stk; simp [Mst.enter] at this; simp; omega)
  rw [hsum] at hs
  have h1 := hE.setc 4 (.string (txtOf (m.stk ++ [c]))) { m with stk := m.stk ++ [c] } [] rfl rfl rfl
  have H1 := Lib.hid h1.1
  have HB1 := Lib.hid h1.2
  have hsl : m.stk.length + 1 ≤ 20 := by have := hm.stk; simp [Mst.enter] at this; omega
  have hdl : m.deep ≤ 20 := by have := hm.deep; simp [Mst.enter] at this; omega
  have HX := Lib.hid (⟨hd, hP, hm⟩ : _ ∧ _ ∧ _)
  have c4' := H1.out.c4
  have c9 := H1.out.c9
  have f9 := H1.out.free 9
  have hz1 : (txtOf (m.stk ++ [c])).size = m.stk.length + 1 := by rw [txtOf_size]; simp
  have hmx : ((max m.deep (m.stk.length + 1) : Nat) : Int) = max (m.deep : Int) ((m.stk.length : Int) + 1) := by omega
  clear h1 hE hd hP hm hsum
  go_enter Tryz.func72, Tryz.ntmps72
  go_wp2_with fail
  clear hs
  generalize hw1 : w.setCell ⟨rb, 4, none⟩ (.string (txtOf (m.stk ++ [c]))) = w1 at *
  generalize txtOf (m.stk ++ [c]) = t at *
  have h2 := H1.out.setc 9 (.int .i64 (max (m.deep : Int) ((m.stk.length : Int) + 1))) (m.enter c) [] (by rw [← hmx]; rfl) rfl rfl
  have H2 := Lib.hid (show MnE (w1.setCell ⟨rb, 9, none⟩ (.int .i64 (max (m.deep : Int) ((m.stk.length : Int) + 1)))).drew B rb pv av cv (.slice oa m.out.length oc) (.slice ja m.pts.length jc) (m.enter c) [] from h2.1.later (fun _ _ => rfl))
  have HB2 := Lib.hid (show Kp B w (w1.setCell ⟨rb, 9, none⟩ (.int .i64 (max (m.deep : Int) ((m.stk.length : Int) + 1)))).drew from (HB1.out.trans h2.2).drew)
  clear h2 hmx hw1
  go_wp2_with fail
  go_region
  clear c4' c9 f9 f4 c4
  generalize (w1.setCell ⟨rb, 9, none⟩ (.int .i64 (max (m.deep : Int) ((m.stk.length : Int) + 1)))).drew = w2 at *
  obtain ⟨hd, hP, hm⟩ := HX.out
  have hP2 := hP.later HB2.out
  obtain ⟨pa, pn, pc, rfl⟩ := slice_form hP2.own
  have hpn : pn = ps.length := by
    rcases hP2.own.2 with ⟨h1, h2⟩ | ⟨g, cap, cur, h1, _⟩
    · injection h1 with _ h3; rw [h3, h2]
    · injection h1
  subst hpn
  have c5 := H2.out.c5
  have HLb := Lib.hid (l1body_any hP2.own rfl (by have := hP2.le; omega) (txtOf [c]))
  rw [named_text] at HLb
  generalize (namedIn ps (txtOf [c])).isSome = nb at *
  go_wp2_with fail
  refine HLb.out.mono ?_
  rintro e w3 ⟨rfl, hb3⟩
  have H3 := Lib.hid (later_m H2.out hb3)
  have HB3 := Lib.hid (HB2.out.trans (Kp.of hb3 H2.out.big))
  have HD := hd w3 (m.enter c) (bodyP ps c) (Mn.of H3.out) (hP.later HB3.out) hm (hP.body c) hlo
  clear hb3 hd hP hP2 c5
  go_wp2_with fail
  cases hr : ex (m.enter c) (bodyP ps c) with
  | mk m' o =>
    rw [hr] at HD
    have HC := Lib.hid (show (callBy ex (bodyP ps) m c).1.leave m.stk = m'.leave m.stk ∧ (callBy ex (bodyP ps) m c).2 = o by
      rw [callBy, hr]; cases o <;> exact ⟨rfl, rfl⟩)
    refine HD.mono ?_
    rintro e w4 ⟨rfl, ⟨oa', oc', ja', jc', hR⟩, hb4⟩
    have h5 := hR.setc 4 (.string (txtOf m.stk)) (m'.leave m.stk) (wd o) rfl rfl rfl
    have c4 := hR.c4
    have f4 := hR.free 4
    have H5 := Lib.hid (⟨Mn.of h5.1, (HB3.out.trans hb4).trans h5.2⟩ : _ ∧ _)
    clear hR hb4 h5 hr
    go_wp2_with fail
    go_end0
    refine ⟨rfl, ?_, H5.out.2⟩
    rw [HC.out.1, HC.out.2]
    exact H5.out.1

theorem enter_ok {m : Mst} (hm : m.ok 0) (hs : m.stk.length ≠ 20) {c : UInt8} (hl : isLet c = true) : (m.enter c).ok 0 :=
  ⟨hm.lo, hm.hi, hm.steps, hm.out, hm.pts, by have := hm.stk; simp [Mst.enter]; omega, by simp [Mst.enter], by
    intro d hd
    simp only [Mst.enter, List.mem_append, List.mem_singleton] at hd
    rcases hd with hd | rfl
    · exact hm.let_ d hd
    · exact hl, by
    have := hm.deep
    have := hm.stk
    show max m.deep (m.stk.length + 1) ≤ 20
    omega, hm.each⟩

/-- the cells of a join point's value -/
abbrev jAgg (k n s : ByteArray) : Value := .agg #[.string k, .string n, .string s]

set_option maxHeartbeats 1000000 in
set_option maxRecDepth 100000 in
theorem act_prt {w : World} {m : Mst} (h : Mn w B rb pv av cv m []) (hm : m.ok 1) (st : ByteArray) :
    Calls Tryz.prog 153 #[.pointer (some ⟨rb, 0, none⟩), jAgg ⟨#[112, 114, 105, 110, 116]⟩ ⟨#[]⟩ st] w (MnTo B rb pv av cv (stepBy ex (bodyP ps) m .prt) m.stk w) := by
  have hba : Below w.heap.size w (w.alloc (Obj.cells #[.string ⟨#[112, 114, 105, 110, 116]⟩, .string ⟨#[]⟩, .string st] 49)) := (Below.refl _ _).alloc (Nat.le_refl _) _
  obtain ⟨oa, oc, ja, jc, hE⟩ := h
  have hA := later_m hE hba
  have HP := Lib.hid (show Calls Tryz.prog 167 #[.pointer (some ⟨rb, 0, none⟩)] (w.alloc (Obj.cells #[.string ⟨#[112, 114, 105, 110, 116]⟩, .string ⟨#[]⟩, .string st] 49)) (MnTo B rb pv av cv (stepBy ex (bodyP ps) m .prt) m.stk (w.alloc (Obj.cells #[.string ⟨#[112, 114, 105, 110, 116]⟩, .string ⟨#[]⟩, .string st] 49))) from by
    unfold stepBy
    by_cases hs : m.steps = 500
    · rw [if_pos hs]; exact print_long hA hs
    · rw [if_neg hs]; exact print_more (Mn.of hA) hs hm)
  have HB := Lib.hid (Kp.of hba hE.big)
  generalize stepBy ex (bodyP ps) m .prt = r at *
  clear hE hA hba hm
  unfold jAgg
  go_enter Tryz.func153, Tryz.ntmps153
  go_wp2_with fail
  refine HP.out.mono ?_
  rintro e w2 ⟨rfl, hR, hb⟩
  have HR := Lib.hid (⟨hR, HB.out.trans hb⟩ : _ ∧ _)
  clear hR hb
  go_wp2_with fail
  go_end0
  exact ⟨rfl, HR.out.1, HR.out.2⟩

set_option maxHeartbeats 1000000 in
set_option maxRecDepth 100000 in
theorem act_call (hd : DoesM B rb ps pv av cv ex lo) {w : World} {m : Mst} (h : Mn w B rb pv av cv m []) (hP : Pm w B ps pv) (hm : m.ok 1) (c : UInt8) (hl : isLet c = true) (hlo : lo ≤ m.steps + 1) (st : ByteArray) :
    Calls Tryz.prog 153 #[.pointer (some ⟨rb, 0, none⟩), jAgg ⟨#[99, 97, 108, 108]⟩ (txtOf [c]) st] w (MnTo B rb pv av cv (stepBy ex (bodyP ps) m (.call c)) m.stk w) := by
  have hba : Below w.heap.size w (w.alloc (Obj.cells #[.string ⟨#[99, 97, 108, 108]⟩, .string (txtOf [c]), .string st] 49)) := (Below.refl _ _).alloc (Nat.le_refl _) _
  obtain ⟨oa, oc, ja, jc, hE⟩ := h
  have hA := later_m hE hba
  have HN := Lib.hid (heap_alloc_new w (Obj.cells #[.string ⟨#[99, 97, 108, 108]⟩, .string (txtOf [c]), .string st] 49 (0, 0)))
  have HB := Lib.hid (Kp.of hba hE.big)
  have HNe := Lib.hid (show w.heap.size ≠ rb from by have := hE.lt; omega)
  unfold jAgg
  by_cases hs : m.steps = 500
  · have HC := Lib.hid (count_long hA hs)
    have HR0 := Lib.hid (show stepBy ex (bodyP ps) m (.call c) = (m, some .long) by unfold stepBy; rw [if_pos hs])
    clear hE hA hba hm hd hP hs
    go_enter Tryz.func153, Tryz.ntmps153
    go_wp2_with fail
    refine HC.out.mono ?_
    rintro e w2 ⟨rfl, hR, hb⟩
    have HR := Lib.hid (⟨hR, HB.out.trans hb⟩ : _ ∧ _)
    clear hR hb
    go_wp2_with fail
    go_end0
    rw [HR0.out]
    exact ⟨rfl, Mn.of HR.out.1, HR.out.2⟩
  · have HC := Lib.hid (count_more hA hs hm.steps)
    have hmt := hm.tick hs
    by_cases h20 : m.stk.length = 20
    · have HR0 := Lib.hid (show stepBy ex (bodyP ps) m (.call c) = (m.tick, some .deep) by unfold stepBy; rw [if_neg hs]; exact if_pos h20)
      have hz : (txtOf m.tick.stk).size = 20 := by rw [txtOf_size]; exact h20
      clear hE hA hba hm hd hP hs hmt h20
      go_enter Tryz.func153, Tryz.ntmps153
      go_wp2_with fail
      refine HC.out.mono ?_
      rintro e w2 ⟨rfl, hR, hb, hk⟩
      have c4 := hR.c4
      have c2 := hR.c2
      have f2 := hR.free 2
      have h5 := hR.setc 2 (.string (txtOf (Fin.word (some .deep)))) m.tick (Fin.word (some .deep)) rfl rfl rfl
      have HR := Lib.hid (⟨h5.1, (HB.out.trans hb).trans h5.2⟩ : _ ∧ _)
      clear hR hb h5 hk
      generalize txtOf m.tick.stk = t at *
      go_wp2_with fail
      go_end0
      rw [HR0.out]
      exact ⟨rfl, Mn.of HR.out.1, HR.out.2⟩
    · have HR0 := Lib.hid (show stepBy ex (bodyP ps) m (.call c) = callBy ex (bodyP ps) m.tick c by unfold stepBy; rw [if_neg hs]; exact if_neg h20)
      have hz : (txtOf m.tick.stk).size = m.stk.length := by rw [txtOf_size]; rfl
      have hle : m.stk.length < 20 := by have := hm.stk; omega
      have HX := Lib.hid (fun w2 (hR : MnE w2 B rb pv av cv (.slice oa m.tick.out.length oc) (.slice ja m.tick.pts.length jc) m.tick []) (hb : Kp B w w2) => enter_by hd (Mn.of hR) (hP.later hb) c (enter_ok hmt h20 hl) hlo)
      generalize hjr : callBy ex (bodyP ps) m.tick c = r at *
      clear hE hA hba hm hd hP hs hmt h20 hjr
      go_enter Tryz.func153, Tryz.ntmps153
      go_wp2_with fail
      refine HC.out.mono ?_
      rintro e w2 ⟨rfl, hR, hb, hk⟩
      have c4 := hR.c4
      have n1 : w2.cell? ⟨w.heap.size, 1, none⟩ = some (.string (txtOf [c])) := by
        rw [World.cell?_of_block (a := ⟨w.heap.size, 1, none⟩) (hk _ HNe.out)]
        exact Lib.cell_of_heap HN.out 1
      have HE := Lib.hid (HX.out w2 hR (HB.out.trans hb))
      have HB2 := Lib.hid (HB.out.trans hb)
      clear hR hb hk
      generalize hst : txtOf m.tick.stk = t at *
      go_wp2_with fail
      refine HE.out.mono ?_
      rintro e w3 ⟨rfl, hR, hb⟩
      have HR := Lib.hid (⟨hR, HB2.out.trans hb⟩ : _ ∧ _)
      clear hR hb
      go_wp2_with fail
      go_end0
      rw [HR0.out]
      exact ⟨rfl, HR.out.1, HR.out.2⟩
end
end Go.Proofs.YtomodlllmbkndaaGreatDoor
namespace Go.Proofs.YtomodlllmbkndaaGreatDoor
open Go.RowKit Gram

section
variable {B rb : Nat} {pv av cv : Value} {aa : Option Addr} {ac : Nat}

set_option maxHeartbeats 1000000 in
set_option maxRecDepth 100000 in
theorem chain_m {w : World} {m : Mst} (h : Mn w B rb pv av cv m []) (la : Option Addr) (lc : Nat) (K N T : ByteArray) (r : Mst × Option Fin) (s0 : List UInt8)
    (hA : ∀ w', Below w.heap.size w w' → Calls Tryz.prog 153 #[.pointer (some ⟨rb, 0, none⟩), jAgg K N T] w' (MnTo B rb pv av cv r s0 w')) :
    Calls Tryz.prog 127 #[.pointer (some ⟨rb, 0, none⟩), .slice la 0 lc, jAgg K N T] w (MnTo B rb pv av cv r s0 w) := by
  have hba : Below w.heap.size w (w.alloc (Obj.cells #[.string K, .string N, .string T] 49)) := (Below.refl _ _).alloc (Nat.le_refl _) _
  obtain ⟨oa, oc, ja, jc, hE⟩ := h
  have c2 : (w.alloc (Obj.cells #[.string K, .string N, .string T] 49)).cell? ⟨rb, 2, none⟩ = some (.string ⟨#[]⟩) := (later_m hE hba).c2
  have HA := Lib.hid (hA _ hba)
  have HB := Lib.hid (Kp.of hba hE.big)
  clear hA hE hba
  unfold jAgg at *
  go_enter Tryz.func127, Tryz.ntmps127
  go_wp2_with fail
  refine HA.out.mono ?_
  rintro e w3 ⟨rfl, hR, hb⟩
  have HR := Lib.hid (⟨hR, HB.out.trans hb⟩ : _ ∧ _)
  clear hR hb
  go_wp2_with fail
  go_end0
  exact ⟨rfl, HR.out.1, HR.out.2⟩

set_option maxHeartbeats 1000000 in
set_option maxRecDepth 100000 in
theorem join_m {w : World} {m : Mst} (h : Mn w B rb pv (.slice aa 0 ac) cv m []) (hl : m.pts.length ≤ 1000) (j : Jpt) (X Y Z : ByteArray) (hj : jpC [j] = [.string X, .string Y, .string Z]) (r : Mst × Option Fin) (s0 : List UInt8)
    (hA : ∀ w', Mn w' B rb pv (.slice aa 0 ac) cv { m with pts := m.pts ++ [j] } [] → Kp B w w' → Calls Tryz.prog 153 #[.pointer (some ⟨rb, 0, none⟩), jAgg X Y Z] w' (MnTo B rb pv (.slice aa 0 ac) cv r s0 w')) :
    Calls Tryz.prog 111 #[.pointer (some ⟨rb, 0, none⟩), jAgg X Y Z] w (MnTo B rb pv (.slice aa 0 ac) cv r s0 w) := by
  have hba : Below w.heap.size w (w.alloc (Obj.cells #[.string X, .string Y, .string Z] 49)) := (Below.refl _ _).alloc (Nat.le_refl _) _
  obtain ⟨oa, oc, ja, jc, hE⟩ := h
  have HE2 := Lib.hid (later_m hE hba)
  have HK2 := Lib.hid (JAt.made w X Y Z)
  have HB2 := Lib.hid (Kp.of hba hE.big)
  have HL := Lib.hid hl
  have HC := Lib.hid hj
  have HA := Lib.hid hA
  have HLt := Lib.hid hE.lt
  have HJn := Lib.hid (fun e => (hE.pts_ne (g := w.heap.size) e).2.2.1)
  clear hba hE hl hj hA
  unfold jAgg at *
  go_enter Tryz.func111, Tryz.ntmps111
  go_wp2_with fail
  obtain ⟨wj, hwj⟩ : ∃ wj, wj = w.alloc (Obj.cells #[.string X, .string Y, .string Z] 49) := ⟨_, rfl⟩
  rw [← hwj] at HK2 HE2 HB2 ⊢
  have BP := Lib.hid (fun o => (Below.refl wj.heap.size wj).alloc (Nat.le_refl _) o)
  obtain ⟨q0, q1, q2, _⟩ := HK2.out.read
  have c7 := HE2.out.c7
  have d7 := (later_m HE2.out (BP.out (Obj.cells #[.string X, .string Y, .string Z] 49))).c7
  clear hwj
  go_region_law
    ((refine step_append_at (t := 44) (by rfl) (.tmp 11) (.tmp 13) (by rfl) (by rfl) (.slice ja m.pts.length jc) (.slice (some ⟨wj.heap.size, 0, none⟩) 1 1) (by first | (simp [Act.eval]; done) | (simp [Act.eval, Act.put]; done) | rfl) (by first | (simp [Act.eval]; done) | (simp [Act.eval, Act.put]; done) | rfl) _ _ (HE2.out.app_pts HL.out j X Y Z HC.out _ (by first | exact BP.out _ | exact (BP.out _).drew) wj.heap.size (by exact heap_alloc_new _ _)) ?_
      intro g7 c7' w7 h7
      have s1 := h7.c5
      have s2 := h7.f5
      have H7 := Lib.hid h7
      clear h7))
  all_goals
    have hJ8 : JAt (w7.setCell ⟨rb, 7, none⟩ (.slice (some ⟨g7, 0, none⟩) (m.pts.length + 1) c7')) w.heap.size X Y Z := ⟨by
      rw [heap_set_other (by have := HLt.out; omega), H7.out.far _ (heap_lt HK2.out.own) (fun e => by have := HJn.out e; omega)]
      exact HK2.out.own⟩
    have H8 := Lib.hid (⟨H7.out.rn, HB2.out.trans H7.out.bel, hJ8⟩ : _ ∧ _ ∧ _)
    clear hJ8 H7 HE2 HK2 BP q0 q1 q2 c7 d7 s1 s2
    generalize w7.setCell ⟨rb, 7, none⟩ (.slice (some ⟨g7, 0, none⟩) (m.pts.length + 1) c7') = w8 at *
    have h9 : Below w8.heap.size w8 (w8.alloc (Obj.cells #[] 3)) := (Below.refl _ _).alloc (Nat.le_refl _) _
    have H9 := Lib.hid (⟨later_m H8.out.1 h9, H8.out.2.1.trans (Kp.of h9 H8.out.1.big), H8.out.2.2.later h9⟩ : _ ∧ _ ∧ _)
    have c6 := H9.out.1.c6
    obtain ⟨q0, q1, q2, _⟩ := H9.out.2.2.read
    clear h9
    go_wp2_with fail
    go_loopw [4, 23] (fun lst i wr => lst = .slice (some ⟨w8.heap.size, 0, none⟩) 0 0 ∧ i = .int .i64 0 ∧ wr = w8.alloc (Obj.cells #[] 3)) (fun _ _ _ => 0)
    case atStart => exact ⟨rfl, rfl, rfl⟩
    case round =>
      obtain ⟨rfl, rfl, rfl⟩ := hrel
      have HCh := chain_m (pv := pv) (av := .slice aa 0 ac) (cv := cv) (Mn.of H9.out.1) (some ⟨w8.heap.size, 0, none⟩) 0 X Y Z r s0 (fun w' hb' => HA.out w' (Mn.of (later_m H9.out.1 hb')) (H9.out.2.1.trans (Kp.of hb' H9.out.1.big)))
      have HCh := Lib.hid HCh
      go_wp2_with fail
      refine HCh.out.mono ?_
      rintro e w3 ⟨rfl, hR, hb⟩
      have HR := Lib.hid (⟨hR, H9.out.2.1.trans hb⟩ : _ ∧ _)
      clear hR hb
      go_wp2_with fail
      go_end0
      exact ⟨rfl, HR.out.1, HR.out.2⟩
end
end Go.Proofs.YtomodlllmbkndaaGreatDoor
namespace Go.Proofs.YtomodlllmbkndaaGreatDoor
open Go.RowKit Gram

theorem Pm.bodies {w : World} {B : Nat} {ps : List Pr} {pv : Value} (h : Pm w B ps pv) (c : UInt8) : wfs (bodyP ps c) = true := (h.body c).1

/-- a body's state in front of a statement: it goes on, or it came to an end -/
def BSt (B rb : Nat) (pv av cv : Value) (Bd : UInt8 → List Stm) (n : Nat) (m : Mst) (xs : List Stm) (k : Nat) (wr : World) : Prop :=
  (∃ (n' : Nat) (m' : Mst), n' ≤ n ∧ Mn wr B rb pv av cv m' [] ∧ m'.ok 0 ∧ m'.stk = m.stk ∧ 501 ≤ m'.steps + n' ∧ exec Bd n m xs = exec Bd n' m' (xs.drop k)) ∨
  (∃ (m' : Mst) (f : Fin), Mn wr B rb pv av cv (m'.leave m.stk) (wd (some f)) ∧ exec Bd n m xs = (m', some f))

theorem bst_next {B rb : Nat} {pv av cv : Value} {Bd : UInt8 → List Stm} (hB : ∀ c, wfs (Bd c) = true) {n : Nat} {m : Mst} {xs : List Stm} {k j : Nat} {m' : Mst} {x : Stm} {w2 : World} (hj : j + 1 ≤ n) (hm : m'.ok 0) (hs : m'.stk = m.stk) (hl : 501 ≤ m'.steps + (j + 1)) (he : exec Bd n m xs = exec Bd (j + 1) m' (xs.drop k))
    (hd : xs.drop k = x :: xs.drop (k + 1)) (hw : x.wf = true) (hR : Mn w2 B rb pv av cv ((stepBy (exec Bd j) Bd (m'.come x) x).1.leave m'.stk) (wd (stepBy (exec Bd j) Bd (m'.come x) x).2)) : BSt B rb pv av cv Bd n m xs (k + 1) w2 := by
  rw [hd, exec_cons] at he
  obtain ⟨c1, c2, c3, _⟩ := hm.come x
  have hk := stepBy_keeps hB (exec_keeps hB j) c1 hw
  cases hr : stepBy (exec Bd j) Bd (m'.come x) x with
  | mk m'' o =>
    rw [hr] at hR hk he
    cases o with
    | none =>
      obtain ⟨k1, k2, k3⟩ := hk.2.1 rfl
      left
      have hs2 : m''.stk = m'.stk := by rw [k2, c2]
      refine ⟨j, m'', by omega, ?_, k1, by rw [hs2, hs], by rw [c3] at k3; dsimp only at k3; omega, he⟩
      have : m''.leave m'.stk = m'' := by rw [← hs2]; rfl
      rw [← this]; exact hR
    | some f =>
      right
      exact ⟨m'', f, by rw [← hs]; exact hR, he⟩

section
variable {B rb : Nat} {ps : List Pr} {pv cv : Value} {aa : Option Addr} {ac : Nat}

set_option maxHeartbeats 1000000 in
set_option maxRecDepth 100000 in
theorem chosen_m {w : World} {m : Mst} {av : Value} (h : Mn w B rb pv av cv m []) (a b : List Stm) (ha : wfs a = true) (hl : (Stm.cho a b).txt.length ≤ 400) :
    Calls Tryz.prog 113 #[.pointer (some ⟨rb, 0, none⟩), .string (txtOf (Stm.cho a b).txt)] w fun e w' => e = .returned (.string (txtOf (txts (if 0 < m.val then a else b)))) ∧ Below w.heap.size w w' := by
  obtain ⟨oa, oc, ja, jc, hE⟩ := h
  have HP := Lib.hid (parts_any a b ha hl w)
  have HE := Lib.hid hE
  generalize txtOf (Stm.cho a b).txt = t at *
  clear hE ha hl
  by_cases hv : 0 < m.val
  · rw [if_pos hv]
    generalize txtOf (txts a) = ta at *
    generalize txtOf (txts b) = tb at *
    go_enter Tryz.func113, Tryz.ntmps113
    go_wp2_with fail
    refine HP.out.mono ?_
    rintro e w1 ⟨rfl, hb⟩
    have c0 := (later_m HE.out hb).c0
    have HB := Lib.hid hb
    clear hb
    go_wp2_with fail
    go_ret
    exact ⟨rfl, HB.out⟩
  · rw [if_neg hv]
    generalize txtOf (txts a) = ta at *
    generalize txtOf (txts b) = tb at *
    go_enter Tryz.func113, Tryz.ntmps113
    go_wp2_with fail
    refine HP.out.mono ?_
    rintro e w1 ⟨rfl, hb⟩
    have c0 := (later_m HE.out hb).c0
    have HB := Lib.hid hb
    clear hb
    go_wp2_with fail
    go_ret
    exact ⟨rfl, HB.out⟩

set_option maxHeartbeats 4000000 in
set_option maxRecDepth 100000 in
theorem mbody_loop (n : Nat) (ih : ∀ j, j < n → DoesM B rb ps pv (.slice aa 0 ac) cv (exec (bodyP ps) j) (501 - j)) (w : World) (m : Mst) (xs : List Stm) (h : Mn w B rb pv (.slice aa 0 ac) cv m []) (hP : Pm w B ps pv) (hm : m.ok 0) (hf : Fits (namesOf ps) xs) (hlo : 501 - n ≤ m.steps) :
    Calls Tryz.prog 91 #[.pointer (some ⟨rb, 0, none⟩), .string (txtOf (txts xs))] w (MnTo B rb pv (.slice aa 0 ac) cv (exec (bodyP ps) n m xs) m.stk w) := by
  have HSp := Lib.hid (split_any (txtOf (txts xs)) w (by rw [txtOf_size]; have := hf.2.2.2; omega))
  have HpA := Lib.hid (show pA (from_ (txtOf (txts xs)) 0) = some xs from by rw [from_zero]; exact (pA_iff _ _).2 ⟨rfl, hf.1⟩)
  have H := Lib.hid ih
  have HP := Lib.hid hP
  have HF := Lib.hid hf
  have hbig : B ≤ w.heap.size := by obtain ⟨_, _, _, _, hE⟩ := h; exact hE.big
  have HM := Lib.hid (⟨h, hm, show 501 ≤ m.steps + n by omega⟩ : _ ∧ _ ∧ _)
  clear h hP hf hm hlo ih
  go_enter Tryz.func91, Tryz.ntmps91
  go_wp2_with fail
  refine HSp.out.mono ?_
  rintro e w1 ⟨v, ok, ys, rfl, hr, hown, hb⟩
  obtain rfl : ys = xs := by
    rcases hr.out with ⟨_, h2, _⟩ | ⟨_, h2⟩
    · rw [HpA.out] at h2; cases h2
    · rw [HpA.out] at h2; exact (Option.some.inj h2).symm
  have HO := Lib.hid hown
  have HB := Lib.hid (Kp.of hb hbig)
  have H1 := Lib.hid (show BSt B rb pv (.slice aa 0 ac) cv (bodyP ps) n m ys 0 w1 from .inl ⟨n, m, Nat.le_refl _, by obtain ⟨oa, oc, ja, jc, hE⟩ := HM.out.1; exact Mn.of (later_m hE hb), HM.out.2.1, rfl, HM.out.2.2, rfl⟩)
  obtain ⟨ad, ln, cp, rfl⟩ := slice_form hown
  clear hr hown hb
  go_wp2_with fail
  have hln : ln = ys.length := by
    rcases HO.out.2 with ⟨h1, h2⟩ | ⟨g, cap, cur, h1, _⟩
    · injection h1 with _ h3 _; rw [h3, h2]
    · injection h1 with _ h3 _
  have HL := Lib.hid hln
  have hlb : ln ≤ 400 := by rw [hln]; exact HF.out.len
  clear hln
  go_loopw [15] (fun i wr => ∃ k : Nat, k ≤ ln ∧ i = .int .i64 k ∧ Hid (Kp B w1 wr) ∧ Hid (BSt B rb pv (.slice aa 0 ac) cv (bodyP ps) n m ys k wr)) (fun i _ => ln - (intOf i).toNat)
  case atStart => exact ⟨0, Nat.zero_le _, by go_num, Kp.refl _ _, H1.out⟩
  case round =>
    obtain ⟨k, hk, rfl, hbr, hS⟩ := hrel
    by_cases hlt : k < ln
    · have hkx : k < ys.length := by rw [← HL.out]; exact hlt
      obtain ⟨x, hxk⟩ : ∃ x, ys[k]? = some x := ⟨_, List.getElem?_eq_getElem hkx⟩
      have hvk : (stmVs ys)[k]? = some (.string (txtOf x.txt)) := by
        rw [stmVs, List.getElem?_map, hxk]; rfl
      obtain ⟨g, hga, hc1⟩ : ∃ g, ad = some ⟨g, 0, none⟩ ∧ wr.cell? ⟨g, k, none⟩ = some (.string (txtOf x.txt)) := by
        rcases HO.out.2 with ⟨h1, h2⟩ | ⟨g, cap, cur, h1, hg⟩
        · injection h1 with h3 h4; omega
        · injection h1 with h3 h4 h5
          subst h3; subst h4; subst h5
          obtain ⟨_, cur', hcur⟩ := row_block HO.out (g := g) rfl
          have hsame := hbr.out.rest g cur' _ _ hcur (by decide)
          have := row_cell HO.out k _ hvk
          exact ⟨g, rfl, by rw [← this]; exact World.cell?_of_block (a := ⟨g, k, none⟩) (hsame.trans hcur.symm)⟩
      subst hga
      have hdr : ys.drop k = x :: ys.drop (k + 1) := by
        rw [List.drop_eq_getElem_cons hkx]
        congr 1
        rw [List.getElem?_eq_getElem hkx] at hxk
        exact Option.some.inj hxk
      rcases hS.out with ⟨n', m', hn', hMn, hm', hs', hl', he'⟩ | ⟨m', f, hMn, he'⟩
      · obtain ⟨j, hj⟩ : ∃ j, n' = j + 1 := ⟨n' - 1, by have := hm'.steps; omega⟩
        subst hj
        have hfd := HF.out.drop k
        rw [hdr] at hfd
        have hf1 := hfd.one
        have hwx : x.wf = true := by have := hfd.1; simp only [wfs, Bool.and_eq_true] at this; exact this.1
        have hM := Lib.hid (⟨hm', hs', hl', he'⟩ : _ ∧ _ ∧ _ ∧ _)
        have hMn' := hMn
        obtain ⟨oa, oc, ja, jc, hE⟩ := hMn'
        have c2 : wr.cell? ⟨rb, 2, none⟩ = some (.string ⟨#[]⟩) := hE.c2
        have c4 := hE.c4
        have hPr := HP.out.later (HB.out.trans hbr.out)
        have hok1 := (hm'.come x).1
        have hjn : j < n := by omega
        have hloj : 501 - j ≤ m'.steps + 1 := by omega
        have hlp : m'.pts.length ≤ 1000 := by have := hm'.pts; have := hm'.steps; omega
        have hDj := H.out j hjn
        clear hS hvk hxk hE he' hl' hs'
        cases x with
        | pro => have := hf1.2.1; simp [nks, Stm.nk] at this
        | chg g0 d0 =>
          simp only [Stm.wf, Bool.and_eq_true] at hwx
          have HC := Lib.hid (show Calls Tryz.prog 114 #[.pointer (some ⟨rb, 0, none⟩), .string (txtOf (Stm.chg g0 d0).txt)] wr (MnTo B rb pv (.slice aa 0 ac) cv (stepBy (exec (bodyP ps) j) (bodyP ps) (m'.come (.chg g0 d0)) (.chg g0 d0)) m'.stk wr) from by
            unfold stepBy
            by_cases h500 : m'.steps = 500
            · obtain ⟨oa', oc', ja', jc', hE⟩ := hMn
              have := compute_long hE h500 (txtOf (Stm.chg g0 d0).txt)
              show Calls _ _ _ _ (MnTo _ _ _ _ _ (if m'.steps = 500 then _ else _) _ _)
              rw [if_pos h500]; exact this
            · show Calls _ _ _ _ (MnTo _ _ _ _ _ (if m'.steps = 500 then _ else _) _ _)
              rw [if_neg h500]; exact compute_more hMn h500 hm'.one g0 d0 hwx.1 hwx.2)
          have hwx' : (Stm.chg g0 d0).wf = true := by simp [Stm.wf, hwx.1, hwx.2]
          generalize ht : txtOf (Stm.chg g0 d0).txt = t at *
          have hsz : t.size = 2 := by rw [← ht]; rfl
          have hB0 : (((t[0]'(by omega)).toNat : Int) = 43 ∨ ((t[0]'(by omega)).toNat : Int) = 45) ∨ ((t[0]'(by omega)).toNat : Int) = 42 := by
            subst ht
            rcases sgn3 hwx.1 with h | h | h <;> subst h
            · exact .inl (.inl rfl)
            · exact .inl (.inr rfl)
            · exact .inr rfl
          have b80 : (((t[0]'(by omega)).toNat : Int) == 80) = false := by rw [beq_eq_false_iff_ne]; omega
          have b67 : (((t[0]'(by omega)).toNat : Int) == 67) = false := by rw [beq_eq_false_iff_ne]; omega
          have b63 : (((t[0]'(by omega)).toNat : Int) == 63) = false := by rw [beq_eq_false_iff_ne]; omega
          have hwx := hwx'
          clear ht hB0 hfd hf1 hPr hok1 hDj hMn hm' hwx'
          go_wp2_with fail
          refine HC.out.mono ?_
          rintro e w2 ⟨rfl, hR, hbk⟩
          have HN := Lib.hid (⟨bst_next HP.out.bodies hn' hM.out.1 hM.out.2.1 hM.out.2.2.1 hM.out.2.2.2 hdr hwx hR, hbr.out.trans hbk⟩ : _ ∧ _)
          clear hR hbk
          go_wp2_with fail
          go_roundw
          case rel => exact ⟨k + 1, by omega, by go_num, HN.out.2, HN.out.1⟩
          case measure => simp [intOf]; omega
        | prt =>
          have HC := Lib.hid (join_m hMn hlp ⟨none, m'.stk⟩ ⟨#[112, 114, 105, 110, 116]⟩ ⟨#[]⟩ (txtOf m'.stk) rfl (stepBy (exec (bodyP ps) j) (bodyP ps) (m'.come .prt) .prt) m'.stk (fun w' h1 hb1 => act_prt (m := m'.come .prt) h1 hok1 (txtOf m'.stk)))
          generalize ht : txtOf (Stm.prt).txt = t at *
          have hsz : t.size = 1 := by rw [← ht]; rfl
          have B0 : ((t[0]'(by omega)).toNat : Int) = 80 := by subst ht; rfl
          clear ht hfd hf1 hPr hok1 hDj hMn hm'
          unfold jAgg at HC
          go_wp2_with fail
          refine HC.out.mono ?_
          rintro e w2 ⟨rfl, hR, hbk⟩
          have HN := Lib.hid (⟨bst_next HP.out.bodies hn' hM.out.1 hM.out.2.1 hM.out.2.2.1 hM.out.2.2.2 hdr hwx hR, hbr.out.trans hbk⟩ : _ ∧ _)
          clear hR hbk
          go_wp2_with fail
          go_roundw
          case rel => exact ⟨k + 1, by omega, by go_num, HN.out.2, HN.out.1⟩
          case measure => simp [intOf]; omega
        | call c0 =>
          have hl0 := wf_call hwx
          have HC := Lib.hid (fun (w' : World) (hbw : Below wr.heap.size wr w') => show Calls Tryz.prog 111 #[.pointer (some ⟨rb, 0, none⟩), jAgg ⟨#[99, 97, 108, 108]⟩ (txtOf [c0]) (txtOf m'.stk)] w' (MnTo B rb pv (.slice aa 0 ac) cv (stepBy (exec (bodyP ps) j) (bodyP ps) (m'.come (.call c0)) (.call c0)) m'.stk wr) from by
            obtain ⟨oa', oc', ja', jc', hE⟩ := hMn
            have hk := Kp.of hbw hE.big
            refine (join_m (Mn.of (later_m hE hbw)) hlp ⟨some c0, m'.stk⟩ ⟨#[99, 97, 108, 108]⟩ (txtOf [c0]) (txtOf m'.stk) rfl (stepBy (exec (bodyP ps) j) (bodyP ps) (m'.come (.call c0)) (.call c0)) m'.stk (fun w' h1 hb1 => act_call hDj (m := m'.come (.call c0)) h1 ((hPr.later hk).later hb1) hok1 c0 hl0 hloj (txtOf m'.stk))).mono ?_
            rintro e w'' ⟨a1, a2, a3⟩
            exact ⟨a1, a2, hk.trans a3⟩)
          generalize ht : txtOf (Stm.call c0).txt = t at *
          have hsz : t.size = 2 := by rw [← ht]; rfl
          have B0 : ((t[0]'(by omega)).toNat : Int) = 67 := by subst ht; rfl
          have hx : ∀ w, (Instr.slice 9 (.string t) (some (.int .i64 1)) none none).run Tryz.prog w = .ok (.string (txtOf [c0])) w := fun w => by subst ht; rfl
          clear ht hfd hf1 hPr hok1 hDj hMn hm'
          unfold jAgg at HC
          go_wp2_with fail
          go_region_with ((first | (go_at_call 111; refine (by first | exact HC.out _ (Below.refl _ _) | exact HC.out _ (Below.refl _ _).drew : Calls _ _ _ _ _).mono ?_; rintro e w2 ⟨rfl, hR, hbk⟩)))
          all_goals
            have HN := Lib.hid (⟨bst_next HP.out.bodies hn' hM.out.1 hM.out.2.1 hM.out.2.2.1 hM.out.2.2.2 hdr hwx hR, hbr.out.trans hbk⟩ : _ ∧ _)
            clear hR hbk
            go_wp2_with fail
            go_roundw
            case rel => exact ⟨k + 1, by omega, by go_num, HN.out.2, HN.out.1⟩
            case measure => simp [intOf]; omega
        | cho a b =>
          have hfc := hfd.cho
          have hwx' := wf_cho hwx
          have hlc : (Stm.cho a b).txt.length ≤ 400 := by
            have h4 := hf1.2.2.2
            simp only [txts, List.append_nil] at h4
            exact h4
          obtain ⟨oa', oc', ja', jc', hE⟩ := hMn
          by_cases h500 : m'.steps = 500
          · have HC := Lib.hid (count_long hE h500)
            have hst : stepBy (exec (bodyP ps) j) (bodyP ps) (m'.come (.cho a b)) (.cho a b) = (m', some .long) := by unfold stepBy; exact if_pos h500
            have HSt := Lib.hid hst
            generalize ht : txtOf (Stm.cho a b).txt = t at *
            have hsz : t.size = (txts a).length + (txts b).length + 5 := by rw [← ht]; exact cho_size a b
            have B0 : ((t[0]'(by omega)).toNat : Int) = 63 := by subst ht; rfl
            clear ht hfd hf1 hPr hok1 hDj hE hm' hst
            go_wp2_with fail
            refine HC.out.mono ?_
            rintro e w2 ⟨rfl, hR, hbk⟩
            have HN := Lib.hid (⟨bst_next HP.out.bodies hn' hM.out.1 hM.out.2.1 hM.out.2.2.1 hM.out.2.2.2 hdr hwx (by rw [HSt.out]; exact Mn.of hR), hbr.out.trans hbk⟩ : _ ∧ _)
            clear hR hbk
            go_wp2_with fail
            go_roundw
            case rel => exact ⟨k + 1, by omega, by go_num, HN.out.2, HN.out.1⟩
            case measure => simp [intOf]; omega
          · have hst : stepBy (exec (bodyP ps) j) (bodyP ps) (m'.come (.cho a b)) (.cho a b) = exec (bodyP ps) j m'.tick (if 0 < m'.val then a else b) := by unfold stepBy; exact if_neg h500
            have HC := Lib.hid (count_more hE h500 hm'.steps)
            have HSt := Lib.hid hst
            have HCh := Lib.hid (fun (w2 : World) (hR : Mn w2 B rb pv (.slice aa 0 ac) cv m'.tick []) => chosen_m hR a b hwx'.1 hlc)
            have HBd := Lib.hid (fun (w2 : World) (hR : Mn w2 B rb pv (.slice aa 0 ac) cv m'.tick []) (hb2 : Kp B wr w2) => hDj w2 m'.tick (if 0 < m'.val then a else b) hR (hPr.later hb2) (hm'.one.tick h500) (by split; exact hfc.1; exact hfc.2) hloj)
            have hvv : (if 0 < m'.tick.val then a else b) = (if 0 < m'.val then a else b) := rfl
            rw [hvv] at HCh
            generalize ht : txtOf (Stm.cho a b).txt = t at *
            have hsz : t.size = (txts a).length + (txts b).length + 5 := by rw [← ht]; exact cho_size a b
            have B0 : ((t[0]'(by omega)).toNat : Int) = 63 := by subst ht; rfl
            clear ht hfd hf1 hPr hok1 hDj hE hm' hst hvv
            generalize (if 0 < m'.val then a else b : List Stm) = zs at *
            generalize hzt : txtOf (txts zs) = tz at *
            clear hzt
            go_wp2_with fail
            refine HC.out.mono ?_
            rintro e w2 ⟨rfl, hR, hbk, _⟩
            have HR2 := Lib.hid (⟨hR, hbk⟩ : _ ∧ _)
            clear hR hbk
            go_wp2_with fail
            refine (HCh.out w2 (Mn.of HR2.out.1)).mono ?_
            rintro e w3 ⟨rfl, hb3⟩
            have hk3 : Kp B wr w3 := HR2.out.2.trans (Kp.of hb3 HR2.out.1.big)
            have HBd3 := Lib.hid (HBd.out w3 (Mn.of (later_m HR2.out.1 hb3)) hk3)
            have HK3 := Lib.hid hk3
            clear hb3 hk3
            go_wp2_with fail
            refine HBd3.out.mono ?_
            rintro e w4 ⟨rfl, hR, hbk⟩
            have HN := Lib.hid (⟨bst_next HP.out.bodies hn' hM.out.1 hM.out.2.1 hM.out.2.2.1 hM.out.2.2.2 hdr hwx (by rw [HSt.out]; exact hR), hbr.out.trans (HK3.out.trans hbk)⟩ : _ ∧ _)
            clear hR hbk
            go_wp2_with fail
            go_roundw
            case rel => exact ⟨k + 1, by omega, by go_num, HN.out.2, HN.out.1⟩
            case measure => simp [intOf]; omega
      · obtain ⟨oa', oc', ja', jc', hE⟩ := hMn
        have c2 := hE.c2
        have HX := Lib.hid (⟨he', hE⟩ : _ ∧ _)
        clear he' hE hS
        generalize txtOf x.txt = t at *
        have c2' : wr.cell? ⟨rb, 2, none⟩ = some (.string ⟨#[108, 111, 110, 103]⟩) ∨ wr.cell? ⟨rb, 2, none⟩ = some (.string ⟨#[100, 101, 101, 112]⟩) := by
          cases f
          · exact .inl c2
          · exact .inr c2
        clear c2
        rcases c2' with c2 | c2
        all_goals
          go_wp2_with fail
          go_end0
          rw [HX.out.1]
          exact ⟨rfl, Mn.of HX.out.2, HB.out.trans hbr.out⟩
    · have hall : ys.drop k = [] := List.drop_of_length_le (by rw [← HL.out]; omega)
      go_wp2_with fail
      go_end0
      refine ⟨rfl, ?_, HB.out.trans hbr.out⟩
      rcases hS.out with ⟨n', m', hn', hMn, hm', hs', hl', he'⟩ | ⟨m', f, hMn, he'⟩
      · rw [he', hall]
        have : exec (bodyP ps) n' m' [] = (m', none) := by cases n' <;> rfl
        rw [this]
        show Mn wr B rb pv (.slice aa 0 ac) cv (m'.leave m.stk) []
        rw [← hs']
        exact hMn
      · rw [he']; exact hMn

theorem body_all (n : Nat) : DoesM B rb ps pv (.slice aa 0 ac) cv (exec (bodyP ps) n) (501 - n) := by
  induction n using Nat.strongRecOn with
  | _ n ih => exact fun w m xs h hP hm hf hlo => mbody_loop n ih w m xs h hP hm hf hlo
end
end Go.Proofs.YtomodlllmbkndaaGreatDoor
namespace Go.Proofs.YtomodlllmbkndaaGreatDoor
open Go.RowKit Gram

set_option maxHeartbeats 400000 in
theorem l1In_m (n a b : Int) (w : World) : Calls Tryz.prog 71 #[.int .i64 n, .int .i64 a, .int .i64 b] w fun e w' => e = .returned (.bool (decide (a ≤ n) && decide (n ≤ b))) ∧ w = w' := by
  go_enter Tryz.func71, Tryz.ntmps71
  go_wp2_with fail
  all_goals go_ret
  · have h : a ≤ n := by assumption
    exact ⟨ret_bool (by simp [h]), rfl⟩
  · have h : n < a := by assumption
    exact ⟨ret_bool (by simp; omega), rfl⟩

theorem make_none (w : World) : (Instr.makeSlice 27 (.int .i64 0) (.int .i64 0)).run Tryz.prog w = .ok (.slice (some ⟨w.heap.size, 0, none⟩) 0 0) (w.alloc (Obj.cells #[] 3)) := by
  obtain ⟨i0, hi, hz0, hz1, hz2⟩ := info_parts info_int
  have := run_makeSlice (P := Tryz.prog) w 27 3 i0 (.int .i64 0) Tryz.underlying27 hi hz0 .i64 .i64 0 0 (by omega) (by omega) (by simp) (by simp) (by omega)
  simpa [madeCells, show Array.range 0 = #[] from rfl] using this

/-- what l2Start hands back -/
def StaTo (s nm : ByteArray) (v : Int) (w : World) (e : Ending) (w' : World) : Prop :=
  (match runP s nm v with
    | none => ∃ rb : Nat, e = .returned (.tuple #[.pointer (some ⟨rb, 0, none⟩), .bool false])
    | some r => ∃ (B rb : Nat) (pv av cv : Value) (oa ja : Option Addr) (oc jc : Nat), e = .returned (.tuple #[.pointer (some ⟨rb, 0, none⟩), .bool true]) ∧ w.heap.size ≤ B ∧
        MnE w' B rb pv av cv (.slice oa r.1.out.length oc) (.slice ja r.1.pts.length jc) (r.1.leave []) (Fin.word r.2)) ∧ Below w.heap.size w w'

theorem look_name {s nm : ByteArray} {p : Pr} (h : lookP s nm = some p) : nm = txtOf [p.1] := by
  unfold lookP at h
  cases hp : progOf s with
  | none => rw [hp] at h; cases h
  | some ps =>
    rw [hp] at h
    cases hn : nameOf nm.data.toList with
    | none => rw [hn] at h; cases h
    | some c =>
      rw [hn] at h
      have h' : ps.find? (fun q => q.1 == c) = some p := h
      have he := List.find?_some h'
      have hc : p.1 = c := by simpa using he
      have := (nameOf_some hn).1
      apply ByteArray.ext
      apply Array.ext'
      rw [this, hc]
      rfl

/-- the world in which the machine stands ready -/
def readyW (w2 : World) (v : Int) (pv av : Value) : World := ((w2.alloc (Obj.cells #[] 3)).alloc (Obj.cells #[.int .i64 v, .slice (some ⟨w2.heap.size + 1 + 1, 0, none⟩) 0 0, .string ⟨#[]⟩, .int .i64 0, .string ⟨#[]⟩, pv, av, .slice none 0 0, .slice (some ⟨w2.heap.size, 0, none⟩) 0 0, .int .i64 0] 96)).alloc (Obj.cells #[] 3)
theorem ready_facts (w2 : World) (v : Int) (pv av : Value) : MnE (readyW w2 v pv av) w2.heap.size (w2.heap.size + 1) pv av (.slice (some ⟨w2.heap.size, 0, none⟩) 0 0) (.slice (some ⟨w2.heap.size + 1 + 1, 0, none⟩) 0 0) (.slice none 0 0) (Mst.start v) [] ∧ Below w2.heap.size w2 (readyW w2 v pv av) := by
  have h1 : (readyW w2 v pv av).heap[w2.heap.size + 1]? = some (Obj.cells #[.int .i64 v, .slice (some ⟨w2.heap.size + 1 + 1, 0, none⟩) 0 0, .string ⟨#[]⟩, .int .i64 0, .string ⟨#[]⟩, pv, av, .slice none 0 0, .slice (some ⟨w2.heap.size, 0, none⟩) 0 0, .int .i64 0] 96 (0, 0)) := by
    unfold readyW
    rw [Lib.alloc_old _ _ _ (by rw [alloc_size', alloc_size']; omega)]
    have := heap_alloc_new (w2.alloc (Obj.cells #[] 3)) (Obj.cells #[.int .i64 v, .slice (some ⟨w2.heap.size + 1 + 1, 0, none⟩) 0 0, .string ⟨#[]⟩, .int .i64 0, .string ⟨#[]⟩, pv, av, .slice none 0 0, .slice (some ⟨w2.heap.size, 0, none⟩) 0 0, .int .i64 0] 96 (0, 0))
    rw [alloc_size'] at this
    exact this
  have h2 : (readyW w2 v pv av).heap[w2.heap.size + 1 + 1]? = some (Obj.cells #[] 3 (0, 0)) := by
    unfold readyW
    have := heap_alloc_new ((w2.alloc (Obj.cells #[] 3)).alloc (Obj.cells #[.int .i64 v, .slice (some ⟨w2.heap.size + 1 + 1, 0, none⟩) 0 0, .string ⟨#[]⟩, .int .i64 0, .string ⟨#[]⟩, pv, av, .slice none 0 0, .slice (some ⟨w2.heap.size, 0, none⟩) 0 0, .int .i64 0] 96)) (Obj.cells #[] 3 (0, 0))
    rw [alloc_size', alloc_size'] at this
    exact this
  refine ⟨⟨h1, by omega, ⟨by simp [intVs, Mst.start], .inr ⟨w2.heap.size + 1 + 1, 0, #[], rfl, by omega, h2, Nat.le_refl _, Nat.zero_le _, by simp, by simp [intVs, Mst.start]⟩⟩, World.ownsRow_nil _ _ _ _⟩, ?_⟩
  unfold readyW
  exact (((Below.refl _ w2).alloc (Nat.le_refl _) _).alloc (by rw [alloc_size']; omega) _).alloc (by rw [alloc_size', alloc_size']; omega) _

set_option maxHeartbeats 2000000 in
set_option maxRecDepth 100000 in
theorem start_any (s nm : ByteArray) (v : Int) (aa : Option Addr) (ac : Nat) (w : World) (hs : s.size ≤ 1073741824) :
    Calls Tryz.prog 51 #[.string s, .slice aa 0 ac, .string nm, .int .i64 v] w (StaTo s nm v w) := by
  have HR := Lib.hid ((open_prog s w hs).mono fun _ _ h => h.cases)
  have hmk := make_none
  have HIn := Lib.hid (l1In_m v (-9999) 9999)
  go_enter Tryz.func51, Tryz.ntmps51
  go_wp2_with fail
  refine HR.out.mono ?_
  rintro e w2 ⟨a, n, c, qs, rfl, hb, hnl, ho, hq⟩
  obtain ⟨hM, hBr⟩ := ready_facts w2 v (.slice a n c) (.slice aa 0 ac)
  have hnm : n ≤ maxLen := by
    rcases ho.2 with ⟨_, h2⟩ | ⟨g, cap, cur, h1, _, _, h2, h3, _⟩
    · omega
    · omega
  have ho2 : (readyW w2 v (.slice a n c) (.slice aa 0 ac)).ownsRow w.heap.size 108 2 (.slice a qs.length c) qs.length (prVs qs) := by
    rw [hnl]
    exact ownsRow_of ho fun g hg => hBr.block g (heap_lt (row_block ho hg).2.choose_spec)
  have HLb := Lib.hid (l1body_any ho2 hnl (by unfold maxLen at hnm; omega) nm)
  have HB := Lib.hid (⟨hb.trans (hBr.mono hb.size), hb⟩ : _ ∧ _)
  have HX := Lib.hid (⟨hnl, ho, hq, hM, hBr⟩ : _ ∧ _ ∧ _ ∧ _ ∧ _)
  have hRd : readyW w2 v (.slice a n c) (.slice aa 0 ac) = ((w2.alloc (Obj.cells #[] 3)).alloc (Obj.cells #[.int .i64 v, .slice (some ⟨w2.heap.size + 1 + 1, 0, none⟩) 0 0, .string ⟨#[]⟩, .int .i64 0, .string ⟨#[]⟩, .slice a n c, .slice aa 0 ac, .slice none 0 0, .slice (some ⟨w2.heap.size, 0, none⟩) 0 0, .int .i64 0] 96)).alloc (Obj.cells #[] 3) := rfl
  clear hb hnl ho hq hM hBr ho2 hnm
  go_wp2_with fail
  rw [← hRd]
  clear hRd
  generalize hwr : readyW w2 v (.slice a n c) (.slice aa 0 ac) = wr at *
  have HWr := Lib.hid hwr
  clear hwr
  refine HLb.out.mono ?_
  rintro e w3 ⟨rfl, hb3⟩
  have HB3 := Lib.hid hb3
  clear hb3
  cases hp : progOf s with
  | none =>
    have HN := Lib.hid (runP_none v (by rw [lookP, hp] : lookP s nm = none))
    generalize bodyT (namedIn qs nm) = bt at *
    generalize (namedIn qs nm).isSome = nb at *
    clear hp
    go_wp2_with fail
    go_ret2
    exact ⟨by rw [HN.out]; exact ⟨_, rfl⟩, HB.out.1.trans (HB3.out.mono HB.out.1.size)⟩
  | some ps =>
    have hqp := HX.out.2.2.1 ps hp
    subst hqp
    have hnk := namedIn_look (nm := nm) hp
    cases hl : lookP s nm with
    | none =>
      rw [hl] at hnk
      rw [hnk]
      have HN := Lib.hid (runP_none v hl)
      clear hp hl hnk
      generalize bodyT none = bt at *
      go_wp2_with fail
      go_ret2
      exact ⟨by rw [HN.out]; exact ⟨_, rfl⟩, HB.out.1.trans (HB3.out.mono HB.out.1.size)⟩
    | some p =>
      rw [hl] at hnk
      rw [hnk]
      generalize bodyT (some p) = bt at *
      have HL := Lib.hid hl
      have HP := Lib.hid hp
      clear hp hl hnk
      go_wp2_with fail
      refine (HIn.out _).mono ?_
      rintro e w4 ⟨rfl, rfl⟩
      by_cases hv : -9999 ≤ v ∧ v ≤ 9999
      · have hin : (decide (-9999 ≤ v) && decide (v ≤ 9999)) = true := by simp [hv.1, hv.2]
        rw [hin]
        have HV := Lib.hid hv
        have hnm2 := look_name HL.out
        subst hnm2
        have hPm : Pm w3 w2.heap.size qs (.slice a n c) := by
          obtain ⟨hnl, ho, _, _, hBr⟩ := HX.out
          have hkeep : ∀ g, Value.ownBlock (.slice a n c) = some g → g < w2.heap.size := fun g hg => heap_lt (row_block ho hg).2.choose_spec
          refine ⟨?_, hkeep, (prog_facts HP.out).1, fits_ps HP.out⟩
          rw [hnl]
          exact ownsRow_base (ownsRow_of ho fun g hg => by rw [HB3.out.block g (by have := hBr.size; have := hkeep g hg; omega), hBr.block g (hkeep g hg)]) (fun _ _ => Nat.zero_le _)
        have hM3 := later_m HX.out.2.2.2.1 HB3.out
        have hlp : isLet p.1 = true := ((prog_facts HP.out).2.1 p (look_mem HP.out HL.out).1).2.2.2
        have HE := Lib.hid (enter_by (body_all 501) (Mn.of hM3) hPm p.1 (start_ok HV.out.1 HV.out.2 hlp) (Nat.zero_le _))
        have HN := Lib.hid (runP_some HP.out HL.out HV.out)
        have HBz := Lib.hid hM3.big
        clear hPm hM3 hlp hv hin
        go_wp2_with fail
        cases hr : callBy (exec (bodyP qs) 501) (bodyP qs) (Mst.start v) p.1 with
        | mk m' o =>
          rw [hr] at HE
          have HO := Lib.hid (show runOf (bodyP qs) p.1 v = (m', o) from hr)
          clear hr
          refine HE.out.mono ?_
          rintro e w4 ⟨rfl, ⟨oa', oc', ja', jc', hR⟩, hb4⟩
          have hz := HB.out.2.size
          cases o with
          | none =>
            have c2 : w4.cell? ⟨w2.heap.size + 1, 2, none⟩ = some (.string ⟨#[]⟩) := hR.c2
            have f2 := hR.free 2
            have h5 := hR.setc 2 (.string (txtOf (Fin.word none))) (m'.leave []) (Fin.word none) rfl rfl rfl
            have H5 := Lib.hid (⟨h5.1, hb4.trans h5.2⟩ : _ ∧ _)
            clear hR hb4 h5
            go_wp2_with fail
            go_ret2
            refine ⟨?_, HB.out.1.trans ((HB3.out.mono HB.out.1.size).trans (H5.out.2.below.mono hz))⟩
            rw [HN.out, HO.out]
            exact ⟨w2.heap.size, w2.heap.size + 1, _, _, _, oa', ja', oc', jc', rfl, hz, H5.out.1⟩
          | some f =>
            have c2 := hR.c2
            have H5 := Lib.hid (⟨hR, hb4⟩ : _ ∧ _)
            have c2' : w4.cell? ⟨w2.heap.size + 1, 2, none⟩ = some (.string ⟨#[108, 111, 110, 103]⟩) ∨ w4.cell? ⟨w2.heap.size + 1, 2, none⟩ = some (.string ⟨#[100, 101, 101, 112]⟩) := by
              cases f
              · exact .inl c2
              · exact .inr c2
            clear hR hb4 c2
            rcases c2' with c2 | c2
            all_goals
              go_wp2_with fail
              go_ret2
              refine ⟨?_, HB.out.1.trans ((HB3.out.mono HB.out.1.size).trans (H5.out.2.below.mono hz))⟩
              rw [HN.out, HO.out]
              exact ⟨w2.heap.size, w2.heap.size + 1, _, _, _, oa', ja', oc', jc', rfl, hz, H5.out.1⟩
      · have hin : (decide (-9999 ≤ v) && decide (v ≤ 9999)) = false := by simp; omega
        rw [hin]
        have HN := Lib.hid (runP_far (s := s) (nm := nm) hv)
        clear hv
        go_wp2_with fail
        go_ret2
        exact ⟨by rw [HN.out]; exact ⟨_, rfl⟩, HB.out.1.trans (HB3.out.mono HB.out.1.size)⟩
end Go.Proofs.YtomodlllmbkndaaGreatDoor
