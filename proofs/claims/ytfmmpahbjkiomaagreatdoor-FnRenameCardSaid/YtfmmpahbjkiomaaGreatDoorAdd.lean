/- The program's (*reader).add: a statement put behind those of the top body. Conditions: at most 1000 open bodies and 1000 statements of the top one. -/
import Derived.Test.YtfmmpahbjkiomaaGreatDoorRd
import Derived.Test.YtfmmpahbjkiomaaGreatDoorBetw
import Derived.Deep.AppendLies
import Derived.Deep.QuietTactic
import Derived.BigQuiet
namespace Go.Proofs.YtfmmpahbjkiomaaGreatDoor
open Go.RowKit Gram
theorem info_stm : (Tryz.prog.info? 103).map (fun i => (i.zero, i.size, i.bytes)) = some (some .nilIface, 1, 16) := by kernel_rfl

theorem IsStm.iface {w : World} {S : Nat → Prop} {x : Stm} {v : Value} (h : IsStm w S x v) : ∃ ty pv, v = .iface ty pv := by
  cases x with
  | chg g d => exact ⟨_, _, h⟩
  | prt => exact ⟨_, _, h⟩
  | pro => exact ⟨_, _, h⟩
  | call c => exact ⟨_, _, h⟩
  | cho a b =>
    simp only [IsStm] at h
    obtain ⟨va, vb, vas, vbs, e, _⟩ := h
    exact ⟨_, _, e⟩

set_option maxHeartbeats 400000 in
theorem add_walk (w : World) (B rb : Nat) (g cap : Nat) (lv : Value) (vs : List Value) (ty : Nat) (pv : Value) (tl : Nat)
    (h1 : w.cell? ⟨rb, 1, none⟩ = some (.slice (some ⟨g, 0, none⟩) (tl + 1) cap)) (hl : tl ≤ 1000) (h2 : w.cell? ⟨g, tl * 3, none⟩ = some lv)
    (h3 : w.frozen? ⟨g, tl * 3, none⟩ = false) (hvs : vs.length ≤ 1000) (hB : B ≤ w.heap.size) (hgl : g < w.heap.size) (hne : lv.ownBlock ≠ some g)
    (hown : w.ownsRow B 103 1 lv vs.length vs) :
    Calls Tryz.prog 133 #[.pointer (some ⟨rb, 0, none⟩), .iface ty pv] w fun e w' => e = .returned (.tuple #[]) ∧ ∃ w0 w1 o g' cap', w0.heap = w.heap ∧ Kept B w w0 ∧
      w1.ownsRow B 103 1 (.slice (some ⟨g', 0, none⟩) (vs.length + 1) cap') (vs.length + 1) (vs ++ [.iface ty pv]) ∧
      (w0.alloc o).grownBy w1 lv.ownBlock ∧ (lv.ownBlock = some g' ∨ g' = w.heap.size + 1) ∧ w' = w1.setCell ⟨g, tl * 3, none⟩ (.slice (some ⟨g', 0, none⟩) (vs.length + 1) cap') := by
  obtain ⟨i0, hi, hz0, hz1, hz2⟩ := info_parts info_stm
  have HN := Lib.hid hne
  clear hne
  go_enter Tryz.func133, Tryz.ntmps133
  go_wp2_with fail
  go_quiet (fail)
  have hown2 : (w.drewN nq).ownsRow B 103 1 lv vs.length vs := hown
  go_wp2_with (at_builtin; refine wpList_append_lies _ rfl _ _ 63 rfl B 103 i0 .nilIface 1 16 Tryz.underlying63 hi hz0 hz1 hz2 rfl (by decide) lv vs.length vs rfl (hown2.alloc _) ⟨w.heap.size, 0, none⟩ 1 1 [.iface ty pv] rfl rfl ?c1 ?c2 (by decide) ?c3 ?c4 ?c5 _ rfl ?_)
  case c1 => exact cell_one_new _ _ _
  case c2 => intro u hu; simp at hu; subst hu; rfl
  case c3 => unfold maxLen; omega
  case c4 => omega
  case c5 => simp; omega
  intro g' cap' w1 hown' hgrow hat _
  have hsame : w1.heap[g]? = w.heap[g]? := by
    rw [hgrow.block g (by simp; omega) (fun h => HN.out h.symm)]
    exact Lib.alloc_old _ _ _ hgl
  have hc1 : w1.cell? ⟨g, tl * 3, none⟩ = some lv := by rw [← h2]; exact World.cell?_of_block (a := ⟨g, tl * 3, none⟩) hsame
  have hf1 : w1.frozen? ⟨g, tl * 3, none⟩ = false := by rw [← h3]; exact World.frozen?_of_block (a := ⟨g, tl * 3, none⟩) hsame
  clear hsame
  have hk := Lib.hid (⟨hown', hgrow, hat⟩ : _ ∧ _ ∧ _)
  clear hown' hgrow hat
  go_wp2_with fail
  go_end0
  exact ⟨rfl, w.drewN nq, w1, _, g', cap', rfl, ⟨⟨rfl, rfl, rfl, Nat.le_refl _, fun _ _ => rfl⟩, fun _ _ _ h => h⟩, hk.out.1, hk.out.2.1, hk.out.2.2, rfl⟩

theorem Rd.of_heap {w w' : World} {kk : Bool} {B rb g cap : Nat} {p : Int} {ents : List Ent} {S : Nat → Prop} (h : Rd w kk B rb p g cap ents S) (he : w'.heap = w.heap) : Rd w' kk B rb p g cap ents S := by
  have hk : ∀ k : Nat, w'.heap[k]? = w.heap[k]? := fun k => by rw [he]
  refine ⟨by rw [hk]; exact h.own, h.low, ownsRow_of h.row fun k _ => hk k, ?_, h.parted, ?_⟩
  · intro e hm
    obtain ⟨⟨vs, a, b⟩, c, d⟩ := h.each e hm
    exact ⟨⟨vs, ownsRow_of a fun k _ => hk k, IsStms.kept (fun k _ => hk k) (fun _ h => h) _ _ b⟩, fun hs => (c hs).kept (fun k _ => hk k) (fun _ h => h), d⟩
  · intro k hS; rw [hk]; exact h.set k hS

theorem add_any {w : World} {kk : Bool} {B rb g cap : Nat} {p : Int} {e : Ent} {t : List Ent} {S : Nat → Prop} {x : Stm} {v : Value} (h : Rd w kk B rb p g cap (e :: t) S) (hx : IsStm w S x v)
    (hl : t.length ≤ 1000) (hn : e.u.list.length ≤ 1000) (hB : B ≤ w.heap.size) :
    Calls Tryz.prog 133 #[.pointer (some ⟨rb, 0, none⟩), v] w fun r w' => r = .returned (.tuple #[]) ∧
      ∃ lv', Rd w' kk B rb p g cap (⟨{ e.u with list := e.u.list ++ [x] }, lv', e.fv⟩ :: t) S ∧ Kept B w w' := by
  obtain ⟨ty, pv, rfl⟩ := hx.iface
  have e0 := List.mem_cons_self (a := e) (l := t)
  obtain ⟨⟨vs, ho, hu⟩, _, _⟩ := h.each e e0
  obtain ⟨cur, hcur, hBg, _⟩ := row_cur h.row
  have hc0 : w.cell? ⟨rb, 1, none⟩ = some (.slice (some ⟨g, 0, none⟩) (t.length + 1) cap) := by
    have := Lib.cell_of_heap h.own 1
    simpa using this
  refine (add_walk w B rb g cap e.lv vs ty pv t.length hc0 hl (row_cell h.row _ _ (cellsOf_get e t).1) (row_free h.row _) (by rw [hu.len]; exact hn) hB (heap_lt hcur) (fun hk => (h.lv_ne e0 hk).2.1 rfl) ho).mono ?_
  rintro r w' ⟨hr, w0, w1, o, g', cap', he, hb, h1, h2, h3, rfl⟩
  have h0 := h.of_heap he
  have hx0 := IsStm.kept (w' := w0) (fun k _ => by rw [he]) (fun _ h => h) _ _ hx
  have hu0 := IsStms.kept (w' := w0) (fun k _ => by rw [he]) (fun _ h => h) _ _ hu
  obtain ⟨a, b⟩ := Rd.add h0 hx0 hu0 h1 h2 (by rw [he]; exact h3) (by rw [he]; exact hB)
  exact ⟨hr, _, a, hb.trans b⟩
end Go.Proofs.YtfmmpahbjkiomaaGreatDoor
