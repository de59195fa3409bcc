/- The program's signBetween: a sign between two others as a byte, else a panic. No condition. The program's (*reader).add: a statement put behind those of the top body. Conditions: at most 1000 open bodies and 1000 statements of the top one. The reader in memory, more plain lemmas: a new open body, the second body of a choice, the end of a choice, the pending sign. The program's (*reader).openBody and closeBody over the reader in memory. Conditions: at most 1000 open bodies and 1000 statements of each. -/
import Derived.Test.YtkdnbdgpcgookaaGreatDoorLow
import Derived.Deep.QuietTactic
import Derived.BigQuiet
import Derived.Test.YtkdnbdgpcgookaaGreatDoorRd
import Derived.Deep.AppendLies
namespace Go.Proofs.YtkdnbdgpcgookaaGreatDoor
open Go.RowKit Gram

/-- the reader's own panic -/
def Panics (e : Ending) : Prop := ∃ u pv, e = .panicked [{ v := .iface u pv, recovered := false }]

set_option maxHeartbeats 400000 in
theorem between_yes (sg lo hi : Int) (h0 : 0 ≤ lo) (h1 : lo ≤ sg) (h2 : sg ≤ hi) (h3 : hi < 256) (w : World) :
    Calls Tryz.prog 101 #[.int .i32 sg, .int .i32 lo, .int .i32 hi] w fun e w' => e = .returned (.int .u8 sg) ∧ w = w' := by
  go_enter Tryz.func101, Tryz.ntmps101
  go_wp2_with fail
  go_ret
  exact ⟨rfl, rfl⟩
set_option maxHeartbeats 400000 in
theorem between_no (sg lo hi : Int) (h : sg < lo ∨ hi < sg) (w : World) :
    Calls Tryz.prog 101 #[.int .i32 sg, .int .i32 lo, .int .i32 hi] w fun e w' => Panics e ∧ w = w' := by
  go_enter Tryz.func101, Tryz.ntmps101
  go_wp2_with fail
  all_goals exact ⟨rfl, ⟨_, _, rfl⟩, rfl⟩
end Go.Proofs.YtkdnbdgpcgookaaGreatDoor
namespace Go.Proofs.YtkdnbdgpcgookaaGreatDoor
open Go.RowKit Gram
theorem info_stm : (Tryz.prog.info? 72).map (fun i => (i.zero, i.size, i.bytes)) = some (some .nilIface, 1, 16) := by kernel_rfl

theorem IsStm.iface {w : World} {S : Nat → Prop} {x : Stm} {v : Value} (h : IsStm w S x v) : ∃ ty pv, v = .iface ty pv := by
  cases x with
  | chg g d => exact ⟨_, _, h⟩
  | prt => exact ⟨_, _, h⟩
  | pro => exact ⟨_, _, h⟩
  | call c => exact ⟨_, _, h⟩
  | cho a b =>
    simp only [IsStm] at h
    obtain ⟨va, vb, vas, vbs, e, _⟩ := h
    exact ⟨_, _, e⟩

set_option maxHeartbeats 400000 in
theorem add_walk (w : World) (B rb : Nat) (g cap : Nat) (lv : Value) (vs : List Value) (ty : Nat) (pv : Value) (tl : Nat)
    (h1 : w.cell? ⟨rb, 1, none⟩ = some (.slice (some ⟨g, 0, none⟩) (tl + 1) cap)) (hl : tl ≤ 1000) (h2 : w.cell? ⟨g, tl * 3, none⟩ = some lv)
    (h3 : w.frozen? ⟨g, tl * 3, none⟩ = false) (hvs : vs.length ≤ 1000) (hB : B ≤ w.heap.size) (hgl : g < w.heap.size) (hne : lv.ownBlock ≠ some g)
    (hown : w.ownsRow B 72 1 lv vs.length vs) :
    Calls Tryz.prog 100 #[.pointer (some ⟨rb, 0, none⟩), .iface ty pv] w fun e w' => e = .returned (.tuple #[]) ∧ ∃ w0 w1 o g' cap', w0.heap = w.heap ∧ Kept B w w0 ∧
      w1.ownsRow B 72 1 (.slice (some ⟨g', 0, none⟩) (vs.length + 1) cap') (vs.length + 1) (vs ++ [.iface ty pv]) ∧
      (w0.alloc o).grownBy w1 lv.ownBlock ∧ (lv.ownBlock = some g' ∨ g' = w.heap.size + 1) ∧ w' = w1.setCell ⟨g, tl * 3, none⟩ (.slice (some ⟨g', 0, none⟩) (vs.length + 1) cap') := by
  obtain ⟨i0, hi, hz0, hz1, hz2⟩ := info_parts info_stm
  have HN := Lib.hid hne
  clear hne
  go_enter Tryz.func100, Tryz.ntmps100
  go_wp2_with fail
  go_quiet (fail)
  have hown2 : (w.drewN nq).ownsRow B 72 1 lv vs.length vs := hown
  go_wp2_with (at_builtin; refine wpList_append_lies _ rfl _ _ 55 rfl B 72 i0 .nilIface 1 16 Tryz.underlying55 hi hz0 hz1 hz2 rfl (by decide) lv vs.length vs rfl (hown2.alloc _) ⟨w.heap.size, 0, none⟩ 1 1 [.iface ty pv] rfl rfl ?c1 ?c2 (by decide) ?c3 ?c4 ?c5 _ rfl ?_)
  case c1 => exact cell_one_new _ _ _
  case c2 => intro u hu; simp at hu; subst hu; rfl
  case c3 => unfold maxLen; omega
  case c4 => omega
  case c5 => simp; omega
  intro g' cap' w1 hown' hgrow hat _
  have hsame : w1.heap[g]? = w.heap[g]? := by
    rw [hgrow.block g (by simp; omega) (fun h => HN.out h.symm)]
    exact Lib.alloc_old _ _ _ hgl
  have hc1 : w1.cell? ⟨g, tl * 3, none⟩ = some lv := by rw [← h2]; exact World.cell?_of_block (a := ⟨g, tl * 3, none⟩) hsame
  have hf1 : w1.frozen? ⟨g, tl * 3, none⟩ = false := by rw [← h3]; exact World.frozen?_of_block (a := ⟨g, tl * 3, none⟩) hsame
  clear hsame
  have hk := Lib.hid (⟨hown', hgrow, hat⟩ : _ ∧ _ ∧ _)
  clear hown' hgrow hat
  go_wp2_with fail
  go_end0
  exact ⟨rfl, w.drewN nq, w1, _, g', cap', rfl, ⟨⟨rfl, rfl, rfl, Nat.le_refl _, fun _ _ => rfl⟩, fun _ _ _ h => h⟩, hk.out.1, hk.out.2.1, hk.out.2.2, rfl⟩

theorem Rd.of_heap {w w' : World} {kk : Bool} {B rb g cap : Nat} {p : Int} {ents : List Ent} {S : Nat → Prop} (h : Rd w kk B rb p g cap ents S) (he : w'.heap = w.heap) : Rd w' kk B rb p g cap ents S := by
  have hk : ∀ k : Nat, w'.heap[k]? = w.heap[k]? := fun k => by rw [he]
  refine ⟨by rw [hk]; exact h.own, h.low, ownsRow_of h.row fun k _ => hk k, ?_, h.parted, ?_⟩
  · intro e hm
    obtain ⟨⟨vs, a, b⟩, c, d⟩ := h.each e hm
    exact ⟨⟨vs, ownsRow_of a fun k _ => hk k, IsStms.kept (fun k _ => hk k) (fun _ h => h) _ _ b⟩, fun hs => (c hs).kept (fun k _ => hk k) (fun _ h => h), d⟩
  · intro k hS; rw [hk]; exact h.set k hS

theorem add_any {w : World} {kk : Bool} {B rb g cap : Nat} {p : Int} {e : Ent} {t : List Ent} {S : Nat → Prop} {x : Stm} {v : Value} (h : Rd w kk B rb p g cap (e :: t) S) (hx : IsStm w S x v)
    (hl : t.length ≤ 1000) (hn : e.u.list.length ≤ 1000) (hB : B ≤ w.heap.size) :
    Calls Tryz.prog 100 #[.pointer (some ⟨rb, 0, none⟩), v] w fun r w' => r = .returned (.tuple #[]) ∧
      ∃ lv', Rd w' kk B rb p g cap (⟨{ e.u with list := e.u.list ++ [x] }, lv', e.fv⟩ :: t) S ∧ Kept B w w' := by
  obtain ⟨ty, pv, rfl⟩ := hx.iface
  have e0 := List.mem_cons_self (a := e) (l := t)
  obtain ⟨⟨vs, ho, hu⟩, _, _⟩ := h.each e e0
  obtain ⟨cur, hcur, hBg, _⟩ := row_cur h.row
  have hc0 : w.cell? ⟨rb, 1, none⟩ = some (.slice (some ⟨g, 0, none⟩) (t.length + 1) cap) := by
    have := Lib.cell_of_heap h.own 1
    simpa using this
  refine (add_walk w B rb g cap e.lv vs ty pv t.length hc0 hl (row_cell h.row _ _ (cellsOf_get e t).1) (row_free h.row _) (by rw [hu.len]; exact hn) hB (heap_lt hcur) (fun hk => (h.lv_ne e0 hk).2.1 rfl) ho).mono ?_
  rintro r w' ⟨hr, w0, w1, o, g', cap', he, hb, h1, h2, h3, rfl⟩
  have h0 := h.of_heap he
  have hx0 := IsStm.kept (w' := w0) (fun k _ => by rw [he]) (fun _ h => h) _ _ hx
  have hu0 := IsStms.kept (w' := w0) (fun k _ => by rw [he]) (fun _ h => h) _ _ hu
  obtain ⟨a, b⟩ := Rd.add h0 hx0 hu0 h1 h2 (by rw [he]; exact h3) (by rw [he]; exact hB)
  exact ⟨hr, _, a, hb.trans b⟩
end Go.Proofs.YtkdnbdgpcgookaaGreatDoor
namespace Go.Proofs.YtkdnbdgpcgookaaGreatDoor
open Go.RowKit Gram

theorem IsEnt.kept {w w' : World} {S S' : Nat → Prop} {B : Nat} {f : Ent} (h : IsEnt w S B f) (hk : ∀ k, S k ∨ f.lv.ownBlock = some k → w'.heap[k]? = w.heap[k]?) (hS : ∀ k, S k → S' k)
    (hn : ∀ k, f.lv.ownBlock = some k → ¬ S' k) : IsEnt w' S' B f := by
  obtain ⟨⟨vs, a, b⟩, c, _, d⟩ := h
  exact ⟨⟨vs, ownsRow_of a fun k hk' => hk k (.inr hk'), IsStms.kept (fun k h => hk k (.inl h)) hS _ _ b⟩, fun hs => (c hs).kept (fun k h => hk k (.inl h)) hS, hn, d⟩

/-- what lay there stays: the reader stays -/
theorem Rd.later {w w' : World} {kk : Bool} {B rb g cap : Nat} {p : Int} {ents : List Ent} {S : Nat → Prop} (h : Rd w kk B rb p g cap ents S) (hk : ∀ k, k < w.heap.size → w'.heap[k]? = w.heap[k]?) : Rd w' kk B rb p g cap ents S := by
  obtain ⟨cur, hcur, _⟩ := row_cur h.row
  refine ⟨by rw [hk _ (heap_lt h.own)]; exact h.own, h.low, ownsRow_of h.row fun k hk' => ?_, ?_, h.parted, ?_⟩
  · simp [Value.ownBlock] at hk'; subst hk'; exact hk _ (heap_lt hcur)
  · intro e hm
    have he := h.each e hm
    refine he.kept (fun k hk' => hk k ?_) (fun _ h => h) he.2.2.1
    rcases hk' with h1 | h1
    · obtain ⟨_, cur, fz, h2⟩ := h.set k h1; exact heap_lt h2
    · obtain ⟨⟨vs, a, _⟩, _⟩ := he; exact (a.lt k h1).2
  · intro k hS
    obtain ⟨a, cur, fz, h2⟩ := h.set k hS
    exact ⟨a, cur, fz, by rw [hk _ (heap_lt h2)]; exact h2⟩

section
variable {w : World} {kk : Bool} {B rb g cap : Nat} {p : Int} {e : Ent} {t : List Ent} {S : Nat → Prop}

theorem Rd.pend (h : Rd w kk B rb p g cap (e :: t) S) (q : Int) : Rd (w.setCell ⟨rb, 2, none⟩ (.int .i32 q)) kk B rb q g cap (e :: t) S := by
  have ks : ∀ k, k ≠ rb → (w.setCell ⟨rb, 2, none⟩ (.int .i32 q)).heap[k]? = w.heap[k]? := fun k hk => heap_set_other hk _
  refine ⟨?_, h.low, ?_, ?_, h.parted, ?_⟩
  · rw [heap_set_same h.own]; rfl
  · exact ownsRow_of h.row (fun k hk => by simp [Value.ownBlock] at hk; subst hk; exact ks _ h.ne_rb.symm)
  · intro f hf
    exact (h.each f hf).kept (fun k hk => ks k (hk.elim (fun a => (h.S_ne a).1) (fun a => (h.lv_ne hf a).1))) (fun _ h => h) (h.each f hf).2.2.1
  · intro k hk; rw [ks k (h.S_ne hk).1]; exact h.set k hk

theorem Rd.push {w1 : World} {g' cap' : Nat} {o : Obj} (h : Rd w kk B rb p g cap (e :: t) S)
    (hown' : w1.ownsRow B 139 3 (.slice (some ⟨g', 0, none⟩) (t.length + 1 + 1) cap') (t.length + 1 + 1) (cellsOf (e :: t) ++ [.slice none 0 0, .slice none 0 0, .bool false]))
    (hg : (w.alloc o).grownBy w1 (some g)) (hat : g = g' ∨ g' = w.heap.size + 1) (hB : B ≤ w.heap.size) :
    Rd (w1.setCell ⟨rb, 1, none⟩ (.slice (some ⟨g', 0, none⟩) (t.length + 1 + 1) cap')) kk B rb p g' cap' (⟨⟨[], [], false⟩, .slice none 0 0, .slice none 0 0⟩ :: e :: t) S ∧
      Kept B w (w1.setCell ⟨rb, 1, none⟩ (.slice (some ⟨g', 0, none⟩) (t.length + 1 + 1) cap')) := by
  have hsz : (w.alloc o).heap.size = w.heap.size + 1 := by simp
  have hgrown : ∀ k, k < w.heap.size → k ≠ g → w1.heap[k]? = w.heap[k]? := fun k hk hn => by
    rw [hg.block k (by omega) (fun he => hn (by simpa using he))]; exact Lib.alloc_old w o k hk
  have hrl := heap_lt h.own
  obtain ⟨cur, hcur, hBg, _⟩ := row_cur h.row
  have ks : ∀ k, k ≠ rb → ∀ u, (w1.setCell ⟨rb, 1, none⟩ u).heap[k]? = w1.heap[k]? := fun k hk u => heap_set_other hk u
  have g'ne : g' ≠ rb := by
    rcases hat with h1 | h1
    · rw [← h1]; exact h.ne_rb.symm
    · omega
  refine ⟨⟨?_, h.low, ?_, ?_, ?_, ?_⟩, ?_⟩
  · rw [heap_set_same (by rw [hgrown rb hrl h.ne_rb]; exact h.own)]; rfl
  · exact ownsRow_of hown' (fun k hk => by simp [Value.ownBlock] at hk; subst hk; exact ks _ g'ne _)
  · intro f hf
    rcases List.mem_cons.1 hf with rfl | hf
    · exact ⟨⟨[], World.ownsRow_nil _ _ _ _, rfl⟩, (by intro hs; cases hs), (by intro k hk; cases hk), ⟨_, _, _, rfl⟩⟩
    · exact (h.each f hf).kept (fun k hk => by
        rw [ks k (hk.elim (fun a => (h.S_ne a).1) (fun a => (h.lv_ne hf a).1))]
        exact hgrown k (hk.elim (fun a => (h.S_ne a).2.2) (fun a => (h.lv_ne hf a).2.2.1)) (hk.elim (fun a => (h.S_ne a).2.1) (fun a => (h.lv_ne hf a).2.1))) (fun _ h => h) (h.each f hf).2.2.1
  · exact List.pairwise_cons.2 ⟨(fun f _ k hk => by cases hk), h.parted⟩
  · intro k hk
    rw [ks k (h.S_ne hk).1, hgrown k (h.S_ne hk).2.2 (h.S_ne hk).2.1]
    exact h.set k hk
  · exact (((Kept.refl B w).alloc hB o).grown hg (by omega) (fun k hk => by simp at hk; omega) (fun k hk => by simp at hk; subst hk; exact ⟨_, _, _, by rw [Lib.alloc_old _ _ _ (heap_lt hcur)]; exact hcur⟩)).setCell h.low _

/-- the top's own row becomes one of S -/
def with_ (S : Nat → Prop) (v : Value) : Nat → Prop := fun k => S k ∨ v.ownBlock = some k

theorem Rd.body (h : Rd w kk B rb p g cap (e :: t) S) : IsBody w (with_ S e.lv) e.u.list e.lv := by
  obtain ⟨⟨vs, a, b⟩, _⟩ := h.each e (List.mem_cons_self (a := e) (l := t))
  have hl := IsStms.len _ _ b
  exact ⟨vs, ⟨ownsRow_base a (fun _ _ => Nat.zero_le _), fun k hk => .inr hk⟩, IsStms.kept (fun _ _ => rfl) (fun _ h => .inl h) _ _ b⟩

theorem Rd.with_set (h : Rd w kk B rb p g cap (e :: t) S) : ∀ k, with_ S e.lv k → k ≠ rb ∧ k ≠ g ∧ B ≤ k ∧ ∃ cur fz, w.heap[k]? = some (.cells cur 72 fz) := by
  have e0 := List.mem_cons_self (a := e) (l := t)
  intro k hk
  rcases hk with hk | hk
  · exact ⟨(h.S_ne hk).1, (h.S_ne hk).2.1, h.set k hk⟩
  · obtain ⟨⟨vs, a, _⟩, _⟩ := h.each e e0
    refine ⟨(h.lv_ne e0 hk).1, (h.lv_ne e0 hk).2.1, (h.lv_ne e0 hk).2.2.2, ?_⟩
    rcases a.2 with ⟨h1, _⟩ | ⟨g', cap', cur, h1, _, hg, _⟩
    · rw [h1] at hk; cases hk
    · rw [h1] at hk; simp [Value.ownBlock] at hk; subst hk; exact ⟨_, _, hg⟩

theorem Rd.second (h : Rd w kk B rb p g cap (e :: t) S) :
    Rd (((w.setCell ⟨g, t.length * 3, none⟩ (.slice none 0 0)).setCell ⟨g, t.length * 3 + 1, none⟩ e.lv).setCell ⟨g, t.length * 3 + 2, none⟩ (.bool true)) kk B rb p g cap
      (⟨⟨[], e.u.list, true⟩, .slice none 0 0, e.lv⟩ :: t) (with_ S e.lv) ∧
    Kept B w (((w.setCell ⟨g, t.length * 3, none⟩ (.slice none 0 0)).setCell ⟨g, t.length * 3 + 1, none⟩ e.lv).setCell ⟨g, t.length * 3 + 2, none⟩ (.bool true)) := by
  have e0 := List.mem_cons_self (a := e) (l := t)
  obtain ⟨cur, hcur, hBg, _⟩ := row_cur h.row
  have ks : ∀ k, k ≠ g → (((w.setCell ⟨g, t.length * 3, none⟩ (.slice none 0 0)).setCell ⟨g, t.length * 3 + 1, none⟩ e.lv).setCell ⟨g, t.length * 3 + 2, none⟩ (.bool true)).heap[k]? = w.heap[k]? :=
    fun k hk => by rw [heap_set_other hk, heap_set_other hk, heap_set_other hk]
  have hrow := row_set (row_set (row_set h.row (t.length * 3) (.slice none 0 0)) (t.length * 3 + 1) e.lv) (t.length * 3 + 2) (.bool true)
  refine ⟨⟨?_, h.low, ?_, ?_, ?_, ?_⟩, ?_⟩
  · rw [ks rb h.ne_rb]; exact h.own
  · have hc : (((cellsOf (e :: t)).set (t.length * 3) (.slice none 0 0)).set (t.length * 3 + 1) e.lv).set (t.length * 3 + 2) (.bool true) = cellsOf (⟨⟨[], e.u.list, true⟩, .slice none 0 0, e.lv⟩ :: t) := by
      have hl := cellsOf_len t
      simp only [cellsOf]
      rw [List.set_append_right _ _ (by omega), List.set_append_right _ _ (by omega), List.set_append_right _ _ (by omega)]
      simp [hl]
    rw [hc] at hrow
    exact hrow
  · intro f hf
    rcases List.mem_cons.1 hf with rfl | hf
    · refine ⟨⟨[], World.ownsRow_nil _ _ _ _, rfl⟩, ?_, (by intro k hk; cases hk), ?_⟩
      · intro _
        exact h.body.kept (fun k hk => ks k (h.with_set k hk).2.1) (fun _ h => h)
      · obtain ⟨⟨vs, a, _⟩, _⟩ := h.each e e0
        exact slice_form a
    · have hf' := List.mem_cons_of_mem e hf
      refine (h.each f hf').kept (fun k hk => ks k (hk.elim (fun a => (h.S_ne a).2.1) (fun a => (h.lv_ne hf' a).2.1))) (fun _ h => .inl h) ?_
      intro k hk hS
      rcases hS with hS | hS
      · exact (h.each f hf').2.2.1 k hk hS
      · exact (List.pairwise_cons.1 h.parted).1 f hf k hS hk
  · exact List.pairwise_cons.2 ⟨(fun f _ k hk => by cases hk), (List.pairwise_cons.1 h.parted).2⟩
  · intro k hk
    obtain ⟨_, h2, h3, h4⟩ := h.with_set k hk
    exact ⟨h3, by rw [ks k h2]; exact h4⟩
  · exact (((Kept.refl B w).setCell hBg _).setCell hBg _).setCell hBg _

theorem Rd.pop {f : Ent} (h : Rd w kk B rb p g cap (e :: f :: t) S) (hs : e.u.second = true) :
    Rd (w.setCell ⟨rb, 1, none⟩ (.slice (some ⟨g, 0, none⟩) (t.length + 1) cap)) kk B rb p g cap (f :: t) (with_ S e.lv) ∧
    IsStm (w.setCell ⟨rb, 1, none⟩ (.slice (some ⟨g, 0, none⟩) (t.length + 1) cap)) (with_ S e.lv) (.cho e.u.first e.u.list) (.iface 164 (.agg #[e.fv, e.lv])) ∧
    Kept B w (w.setCell ⟨rb, 1, none⟩ (.slice (some ⟨g, 0, none⟩) (t.length + 1) cap)) := by
  have e0 := List.mem_cons_self (a := e) (l := f :: t)
  have ks : ∀ k, k ≠ rb → (w.setCell ⟨rb, 1, none⟩ (.slice (some ⟨g, 0, none⟩) (t.length + 1) cap)).heap[k]? = w.heap[k]? := fun k hk => heap_set_other hk _
  obtain ⟨cur, hcur, hBg, hle, hm, hsz, htake⟩ := row_cur h.row
  refine ⟨⟨?_, h.low, ?_, ?_, (List.pairwise_cons.1 h.parted).2, ?_⟩, ?_, ?_⟩
  · rw [heap_set_same h.own]; rfl
  · refine ⟨by simp [cellsOf_len], .inr ⟨g, cap, cur, rfl, hBg, by rw [ks g h.ne_rb.symm]; exact hcur, by simp at hle ⊢; omega, hm, hsz, ?_⟩⟩
    have := congrArg (List.take ((f :: t).length * 3)) htake
    rw [List.take_take, Nat.min_eq_left (by simp; omega)] at this
    rw [this]
    show List.take _ (cellsOf (f :: t) ++ _) = _
    rw [List.take_append_of_le_length (by rw [cellsOf_len]; exact Nat.le_refl _), List.take_of_length_le (by rw [cellsOf_len]; exact Nat.le_refl _)]
  · intro d hd
    have hd' := List.mem_cons_of_mem e hd
    refine (h.each d hd').kept (fun k hk => ks k (hk.elim (fun a => (h.S_ne a).1) (fun a => (h.lv_ne hd' a).1))) (fun _ h => .inl h) ?_
    intro k hk hS
    rcases hS with hS | hS
    · exact (h.each d hd').2.2.1 k hk hS
    · exact (List.pairwise_cons.1 h.parted).1 d hd k hS hk
  · intro k hk
    obtain ⟨h1, _, h3, h4⟩ := h.with_set k hk
    exact ⟨h3, by rw [ks k h1]; exact h4⟩
  · obtain ⟨vas, r1, s1⟩ := ((h.each e e0).2.1 hs).kept (w' := w.setCell ⟨rb, 1, none⟩ (.slice (some ⟨g, 0, none⟩) (t.length + 1) cap)) (S' := with_ S e.lv) (fun k hk => ks k (h.S_ne hk).1) (fun _ h => .inl h)
    obtain ⟨vbs, r2, s2⟩ := h.body.kept (w' := w.setCell ⟨rb, 1, none⟩ (.slice (some ⟨g, 0, none⟩) (t.length + 1) cap)) (S' := with_ S e.lv) (fun k hk => ks k (h.with_set k hk).1) (fun _ h => h)
    simp only [IsStm]
    exact ⟨_, _, vas, vbs, rfl, r1, s1, r2, s2⟩
  · exact (Kept.refl B w).setCell h.low _
end
end Go.Proofs.YtkdnbdgpcgookaaGreatDoor
namespace Go.Proofs.YtkdnbdgpcgookaaGreatDoor
open Go.RowKit Gram
theorem info_unf : (Tryz.prog.info? 139).map (fun i => (i.zero, i.size, i.bytes)) = some (some (.agg #[.slice none 0 0, .slice none 0 0, .bool false]), 3, 56) := by kernel_rfl

set_option maxHeartbeats 400000 in
theorem push_walk (w : World) (B rb : Nat) (g cap : Nat) (n : Nat) (xs : List Value)
    (h1 : w.cell? ⟨rb, 1, none⟩ = some (.slice (some ⟨g, 0, none⟩) n cap)) (hl : n ≤ 1000)
    (h3 : w.frozen? ⟨rb, 1, none⟩ = false) (hB : B ≤ w.heap.size) (hrl : rb < w.heap.size) (hne : g ≠ rb)
    (hown : w.ownsRow B 139 3 (.slice (some ⟨g, 0, none⟩) n cap) n xs) :
    Calls Tryz.prog 102 #[.pointer (some ⟨rb, 0, none⟩), .int .i32 63] w fun e w' => e = .returned (.tuple #[]) ∧ ∃ w0 w1 o g' cap', w0.heap = w.heap ∧ Kept B w w0 ∧
      w1.ownsRow B 139 3 (.slice (some ⟨g', 0, none⟩) (n + 1) cap') (n + 1) (xs ++ [.slice none 0 0, .slice none 0 0, .bool false]) ∧
      (w0.alloc o).grownBy w1 (some g) ∧ (g = g' ∨ g' = w.heap.size + 1) ∧ w' = w1.setCell ⟨rb, 1, none⟩ (.slice (some ⟨g', 0, none⟩) (n + 1) cap') := by
  obtain ⟨i0, hi, hz0, hz1, hz2⟩ := info_parts info_unf
  have HN := Lib.hid hne
  clear hne
  go_enter Tryz.func102, Tryz.ntmps102
  go_wp2_with (at_builtin; go_loud (refine wpList_append_lies _ rfl _ _ 140 rfl B 139 i0 (.agg #[.slice none 0 0, .slice none 0 0, .bool false]) 3 56 Tryz.underlying140 hi hz0 hz1 hz2 rfl (by decide) (.slice (some ⟨g, 0, none⟩) n cap) n xs rfl (hown.alloc _) ⟨w.heap.size, 0, none⟩ 1 1 [.slice none 0 0, .slice none 0 0, .bool false] rfl rfl ?c1 ?c2 (by decide) ?c3 ?c4 ?c5 _ rfl ?_))
  case c1 => exact World.news_of_block (cs := #[.slice none 0 0, .slice none 0 0, .bool false]) (heap_alloc_new _ _)
  case c2 => intro u hu; simp at hu; rcases hu with rfl | rfl <;> rfl
  case c3 => unfold maxLen; omega
  case c4 => omega
  case c5 => simp; omega
  intro g' cap' w1 hown' hgrow hat _
  have hsame : w1.heap[rb]? = w.heap[rb]? := by
    rw [hgrow.block rb (by simp; omega) (fun h => HN.out (by simpa [Value.ownBlock] using h.symm))]
    exact Lib.alloc_old _ _ _ hrl
  have hc1 : w1.cell? ⟨rb, 1, none⟩ = some (.slice (some ⟨g, 0, none⟩) n cap) := by rw [← h1]; exact World.cell?_of_block (a := ⟨rb, 1, none⟩) hsame
  have hf1 : w1.frozen? ⟨rb, 1, none⟩ = false := by rw [← h3]; exact World.frozen?_of_block (a := ⟨rb, 1, none⟩) hsame
  clear hsame
  have hk := Lib.hid (⟨hown', hgrow, hat⟩ : _ ∧ _ ∧ _)
  clear hown' hgrow hat
  go_wp2_with fail
  refine bodyPost_ret (results_none rfl _ _ _) rfl ?_
  exact ⟨rfl, w, w1, _, g', cap', rfl, Kept.refl _ _, hk.out.1, hk.out.2.1, by simpa [Value.ownBlock] using hk.out.2.2, rfl⟩

set_option maxHeartbeats 400000 in
theorem second_walk (w : World) (rb : Nat) (g cap : Nat) (tl : Nat) (la : Option Addr) (ln lc : Nat) (fv : Value) (b : Bool)
    (h1 : w.cell? ⟨rb, 1, none⟩ = some (.slice (some ⟨g, 0, none⟩) (tl + 1) cap)) (hl : tl ≤ 1000)
    (c0 : w.cell? ⟨g, tl * 3, none⟩ = some (.slice la ln lc)) (c1 : w.cell? ⟨g, tl * 3 + 1, none⟩ = some fv) (c2 : w.cell? ⟨g, tl * 3 + 2, none⟩ = some (.bool b))
    (f0 : w.frozen? ⟨g, tl * 3, none⟩ = false) (f1 : w.frozen? ⟨g, tl * 3 + 1, none⟩ = false) (f2 : w.frozen? ⟨g, tl * 3 + 2, none⟩ = false) :
    Calls Tryz.prog 102 #[.pointer (some ⟨rb, 0, none⟩), .int .i32 93] w fun e w' => e = .returned (.tuple #[]) ∧ ∃ w0, w0.heap = w.heap ∧ Kept w.heap.size w w0 ∧
      w' = ((w0.setCell ⟨g, tl * 3, none⟩ (.slice none 0 0)).setCell ⟨g, tl * 3 + 1, none⟩ (.slice la ln lc)).setCell ⟨g, tl * 3 + 2, none⟩ (.bool true) := by
  go_enter Tryz.func102, Tryz.ntmps102
  go_wp2_with fail
  go_quiet (fail)
  go_wp2_with fail
  go_end0
  exact ⟨rfl, w.drewN nq, rfl, ⟨⟨rfl, rfl, rfl, Nat.le_refl _, fun _ _ => rfl⟩, fun _ _ _ h => h⟩, rfl⟩

set_option maxHeartbeats 400000 in
theorem close_no (w : World) (rb : Nat) (g cap : Nat) (h1 : w.cell? ⟨rb, 1, none⟩ = some (.slice (some ⟨g, 0, none⟩) 1 cap)) :
    Calls Tryz.prog 114 #[.pointer (some ⟨rb, 0, none⟩)] w fun e w' => Panics e ∧ w = w' := by
  go_enter Tryz.func114, Tryz.ntmps114
  go_wp2_with fail
  exact ⟨rfl, ⟨_, _, rfl⟩, rfl⟩

set_option maxHeartbeats 400000 in
theorem close_first (w : World) (rb : Nat) (g cap : Nat) (tl : Nat) (la : Option Addr) (ln lc : Nat) (fa : Option Addr) (fn fc : Nat)
    (h1 : w.cell? ⟨rb, 1, none⟩ = some (.slice (some ⟨g, 0, none⟩) (tl + 1 + 1) cap)) (hl : tl ≤ 1000) (q : Int) (h2 : ∀ o, (w.alloc o).cell? ⟨rb, 2, none⟩ = some (.int .i32 q)) (h3 : ∀ o, (w.alloc o).frozen? ⟨rb, 2, none⟩ = false)
    (c0 : w.cell? ⟨g, (tl + 1) * 3, none⟩ = some (.slice la ln lc)) (c1 : w.cell? ⟨g, (tl + 1) * 3 + 1, none⟩ = some (.slice fa fn fc)) (c2 : w.cell? ⟨g, (tl + 1) * 3 + 2, none⟩ = some (.bool false)) :
    Calls Tryz.prog 114 #[.pointer (some ⟨rb, 0, none⟩)] w fun e w' => e = .returned (.tuple #[]) ∧ ∃ o, w' = (w.alloc o).setCell ⟨rb, 2, none⟩ (.int .i32 93) := by
  go_enter Tryz.func114, Tryz.ntmps114
  go_wp2_with fail
  refine bodyPost_ret (results_none rfl _ _ _) rfl ?_
  exact ⟨rfl, _, rfl⟩

set_option maxHeartbeats 400000 in
theorem close_second (w : World) (rb : Nat) (g cap : Nat) (tl : Nat) (la : Option Addr) (ln lc : Nat) (fa : Option Addr) (fn fc : Nat) (R : Ending → World → Prop)
    (h1 : w.cell? ⟨rb, 1, none⟩ = some (.slice (some ⟨g, 0, none⟩) (tl + 1 + 1) cap)) (hl : tl ≤ 1000) (hcap : tl + 2 ≤ cap)
    (h2 : ∀ o, (w.alloc o).cell? ⟨rb, 1, none⟩ = some (.slice (some ⟨g, 0, none⟩) (tl + 1 + 1) cap)) (h3 : ∀ o, (w.alloc o).frozen? ⟨rb, 1, none⟩ = false) (hrl : rb < w.heap.size)
    (c0 : w.cell? ⟨g, (tl + 1) * 3, none⟩ = some (.slice la ln lc)) (c1 : w.cell? ⟨g, (tl + 1) * 3 + 1, none⟩ = some (.slice fa fn fc)) (c2 : w.cell? ⟨g, (tl + 1) * 3 + 2, none⟩ = some (.bool true))
    (hadd : ∀ w1, (∃ o, w1 = (w.setCell ⟨rb, 1, none⟩ (.slice (some ⟨g, 0, none⟩) (tl + 1) cap)).alloc o) →
      Calls Tryz.prog 100 #[.pointer (some ⟨rb, 0, none⟩), .iface 164 (.agg #[.slice fa fn fc, .slice la ln lc])] w1 fun e w' => e = .returned (.tuple #[]) ∧ R e w') :
    Calls Tryz.prog 114 #[.pointer (some ⟨rb, 0, none⟩)] w fun e w' => e = .returned (.tuple #[]) ∧ R e w' := by
  have HA := Lib.hid hadd
  clear hadd
  go_enter Tryz.func114, Tryz.ntmps114
  go_wp2_with fail
  refine (HA.out _ ⟨_, rfl⟩).mono ?_
  rintro e w' ⟨rfl, hR⟩
  go_wp2_with fail
  go_end0
  exact ⟨rfl, hR⟩

/-- the reader in memory, whatever its blocks -/
def RdS (w : World) (kk : Bool) (B rb : Nat) (st : St) : Prop := ∃ g cap ents S, Rd w kk B rb st.pend.toNat g cap ents S ∧ ents.map (·.u) = st.top :: st.rest

theorem RdS.parts {w : World} {kk : Bool} {B rb : Nat} {st : St} (h : RdS w kk B rb st) : ∃ g cap e t S, Rd w kk B rb st.pend.toNat g cap (e :: t) S ∧ e.u = st.top ∧ t.map (·.u) = st.rest ∧ t.length = st.rest.length := by
  obtain ⟨g, cap, ents, S, h, hm⟩ := h
  cases ents with
  | nil => simp at hm
  | cons e t => simp at hm; exact ⟨g, cap, e, t, S, h, hm.1, hm.2, by rw [← hm.2]; simp⟩

section
variable {w : World} {kk : Bool} {B rb : Nat} {st : St}

theorem adds_any {x : Stm} {v : Value} {g cap : Nat} {e : Ent} {t : List Ent} {S : Nat → Prop} (h : Rd w kk B rb st.pend.toNat g cap (e :: t) S) (hu : e.u = st.top) (ht : t.map (·.u) = st.rest) (hx : IsStm w S x v)
    (hl : st.rest.length ≤ 1000) (hn : st.top.list.length ≤ 1000) (hB : B ≤ w.heap.size) :
    Calls Tryz.prog 100 #[.pointer (some ⟨rb, 0, none⟩), v] w fun r w' => r = .returned (.tuple #[]) ∧ RdS w' kk B rb (st.add x) ∧ Kept B w w' := by
  refine (add_any h hx (by rw [← ht] at hl; simpa using hl) (by rw [hu]; exact hn) hB).mono ?_
  rintro r w' ⟨hr, lv', hR, hb⟩
  exact ⟨hr, ⟨_, _, _, _, hR, by simp [St.add, hu, ht]⟩, hb⟩

theorem push_any (h : RdS w kk B rb st) (hl : st.rest.length ≤ 900) (hB : B ≤ w.heap.size) :
    Calls Tryz.prog 102 #[.pointer (some ⟨rb, 0, none⟩), .int .i32 63] w fun r w' => r = .returned (.tuple #[]) ∧ RdS w' kk B rb (st.openB 63) ∧ Kept B w w' := by
  obtain ⟨g, cap, e, t, S, hR, hu, ht, hlen⟩ := h.parts
  have hc0 : w.cell? ⟨rb, 1, none⟩ = some (.slice (some ⟨g, 0, none⟩) (t.length + 1) cap) := by
    have := Lib.cell_of_heap hR.own 1
    simpa using this
  refine (push_walk w B rb g cap (t.length + 1) (cellsOf (e :: t)) hc0 (by omega) (Lib.frozen_of_heap hR.own 1) hB (heap_lt hR.own) hR.ne_rb.symm hR.row).mono ?_
  rintro r w' ⟨hr, w0, w1, o, g', cap', he, hb, h1, h2, h3, rfl⟩
  obtain ⟨a, b⟩ := Rd.push (hR.of_heap he) h1 h2 (by rw [he]; exact h3) (by rw [he]; exact hB)
  exact ⟨hr, ⟨_, _, _, _, a, by simp [St.openB, hu, ht]⟩, hb.trans b⟩

theorem second_any (h : RdS w kk B rb st) (hl : st.rest.length ≤ 900) (hB : B ≤ w.heap.size) :
    Calls Tryz.prog 102 #[.pointer (some ⟨rb, 0, none⟩), .int .i32 93] w fun r w' => r = .returned (.tuple #[]) ∧ RdS w' kk B rb (st.openB 93) ∧ Kept B w w' := by
  obtain ⟨g, cap, e, t, S, hR, hu, ht, hlen⟩ := h.parts
  have hc0 : w.cell? ⟨rb, 1, none⟩ = some (.slice (some ⟨g, 0, none⟩) (t.length + 1) cap) := by
    have := Lib.cell_of_heap hR.own 1
    simpa using this
  obtain ⟨⟨vs, ho, _⟩, _, _, _⟩ := hR.each e (List.mem_cons_self (a := e) (l := t))
  obtain ⟨la, ln, lc, hlv⟩ := slice_form ho
  obtain ⟨k0, k1, k2⟩ := cellsOf_get e t
  refine (second_walk w rb g cap t.length la ln lc e.fv e.u.second hc0 (by omega) (by rw [← hlv]; exact row_cell hR.row _ _ k0) (row_cell hR.row _ _ k1) (row_cell hR.row _ _ k2) (row_free hR.row _) (row_free hR.row _) (row_free hR.row _)).mono ?_
  rintro r w' ⟨hr, w0, he, hb, rfl⟩
  obtain ⟨a, b⟩ := (hR.of_heap he).second
  rw [hlv] at a b
  exact ⟨hr, ⟨_, _, _, _, a, by simp [St.openB, hu, ht]⟩, (hb.mono hB).trans b⟩

theorem close_any (h : RdS w kk B rb st) (hp : st.pend = 0) (hl : st.rest.length ≤ 900) (hn : ∀ u ∈ st.rest, u.list.length ≤ 1000) (hB : B ≤ w.heap.size) :
    Calls Tryz.prog 114 #[.pointer (some ⟨rb, 0, none⟩)] w fun r w' =>
      (match st.close with
        | some st' => r = .returned (.tuple #[]) ∧ RdS w' kk B rb st'
        | none => Panics r) ∧ Kept B w w' := by
  obtain ⟨g, cap, e, t, S, hR, hu, ht, hlen⟩ := h.parts
  have hc0 : w.cell? ⟨rb, 1, none⟩ = some (.slice (some ⟨g, 0, none⟩) (t.length + 1) cap) := by
    have := Lib.cell_of_heap hR.own 1
    simpa using this
  cases t with
  | nil =>
    have hr : st.rest = [] := by rw [← ht]; rfl
    refine (close_no w rb g cap hc0).mono ?_
    rintro r w' ⟨h1, rfl⟩
    exact ⟨by simp only [St.close, hr]; exact h1, Kept.refl _ _⟩
  | cons f t =>
    have hr : st.rest = f.u :: t.map (·.u) := by rw [← ht]; rfl
    obtain ⟨⟨vs, ho, _⟩, _, _, fa, fn, fc, hfv⟩ := hR.each e (List.mem_cons_self (a := e) (l := f :: t))
    obtain ⟨la, ln, lc, hlv⟩ := slice_form ho
    obtain ⟨k0, k1, k2⟩ := cellsOf_get e (f :: t)
    have c0 := row_cell hR.row _ _ k0
    have c1 := row_cell hR.row _ _ k1
    have c2 := row_cell hR.row _ _ k2
    rw [hlv] at c0
    rw [hfv] at c1
    have hrl := heap_lt hR.own
    have hcell : ∀ (o : Obj) (j : Nat), (w.alloc o).cell? ⟨rb, j, none⟩ = w.cell? ⟨rb, j, none⟩ := fun o j => World.cell?_of_block (a := ⟨rb, j, none⟩) (alloc_heap o rb hrl)
    have hfroz : ∀ (o : Obj) (j : Nat), (w.alloc o).frozen? ⟨rb, j, none⟩ = false := fun o j => by
      rw [World.frozen?_of_block (a := ⟨rb, j, none⟩) (alloc_heap o rb hrl)]; exact Lib.frozen_of_heap hR.own j
    have hc1 : w.cell? ⟨rb, 2, none⟩ = some (.int .i32 st.pend.toNat) := by
      have := Lib.cell_of_heap hR.own 2
      simpa using this
    cases hs : e.u.second with
    | false =>
      rw [hs] at c2
      refine (close_first w rb g cap t.length la ln lc fa fn fc hc0 (by rw [hr] at hl; simp at hl; omega) _ (fun o => (hcell o 2).trans hc1) (fun o => hfroz o 2) c0 c1 c2).mono ?_
      rintro r w' ⟨h1, o, rfl⟩
      have hst : st.close = some { st with pend := 93 } := by
        simp only [St.close, hr]; rw [← hu, hs]; simp
      rw [hst]
      refine ⟨⟨h1, _, _, _, _, (hR.later (alloc_heap o)).pend 93, ?_⟩, ((Kept.refl B w).alloc hB o).setCell hR.low _⟩
      rw [hr, ← hu]; rfl
    | true =>
      rw [hs] at c2
      obtain ⟨p1, p2, p3⟩ := hR.pop hs
      have e2 : Value.iface 164 (.agg #[e.fv, e.lv]) = .iface 164 (.agg #[.slice fa fn fc, .slice la ln lc]) := by rw [hfv, hlv]
      have hle := (row_cur hR.row)
      obtain ⟨_, _, _, hle, _⟩ := hle
      refine (close_second w rb g cap t.length la ln lc fa fn fc (fun _ w' => RdS w' kk B rb (St.add ⟨f.u, t.map (·.u), st.pend⟩ (.cho e.u.first e.u.list)) ∧ Kept B w w') hc0 (by rw [hr] at hl; simp at hl; omega) (by simpa using hle) (fun o => (hcell o 1).trans hc0) (fun o => hfroz o 1) hrl c0 c1 c2 ?_).mono ?_
      · rintro w1 ⟨o, rfl⟩
        rw [← e2]
        refine (adds_any (st := ⟨f.u, t.map (·.u), st.pend⟩) (p1.later (alloc_heap o)) rfl rfl (IsStm.kept (fun k hk => alloc_heap o k ?_) (fun _ h => h) _ _ p2) (by rw [hr] at hl; simp at hl ⊢; omega) (hn f.u (by rw [hr]; simp)) (by simp [World.setCell]; omega)).mono ?_
        · obtain ⟨_, cur, fz, hc⟩ := p1.set k hk
          exact heap_lt hc
        · rintro r w' ⟨a, b, c⟩
          exact ⟨a, b, (p3.alloc (by simp [World.setCell]; omega) o).trans c⟩
      · rintro r w' ⟨h1, h2, h3⟩
        refine ⟨?_, h3⟩
        have hst : st.close = some (St.add ⟨f.u, t.map (·.u), 0⟩ (.cho st.top.first st.top.list)) := by
          simp only [St.close, hr]; rw [← hu, hs]; simp
        rw [hst, ← hu]
        rw [hp] at h2
        exact ⟨h1, h2⟩
end
end Go.Proofs.YtkdnbdgpcgookaaGreatDoor
