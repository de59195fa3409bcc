/- The program's signBetween: a sign between two others as a byte, else a panic. No condition. The program's (*reader).add: a statement put behind those of the top body. Conditions: at most 1000 open bodies and 1000 statements of the top one. The reader in memory, more plain lemmas: a new open body, the second body of a choice, the end of a choice, the pending sign. The program's (*reader).openBody and closeBody over the reader in memory. Conditions: at most 1000 open bodies and 1000 statements of each. A byte stands in a list exactly if its first index there is not negative. No condition. The signs of a body, and strings.ContainsRune over them: whether a sign may begin a statement. No condition. The program's (*reader).begin, take and finish do to the reader in memory what the plain reader does; where that refuses a sign they panic. Conditions: at most 400 signs held. The program's (*reader).finish and readStatements: the statements of a text that is a body, laid in memory, and true; else nil and false. Condition: the limit is at most 400 bytes. -/
import Derived.Test.YtomodlllmbkndaaGreatDoorA1
import Derived.Deep.QuietTactic
import Derived.BigQuiet
import Derived.Deep.AppendLies
import Derived.Test.YtomodlllmbkndaaGreatDoorShelf
import Derived.Lib.OthersKept
import Derived.Laws.Runes
import Derived.WalkMore
namespace Go.Proofs.YtomodlllmbkndaaGreatDoor
open Go.RowKit Gram

/-- the reader's own panic -/
def Panics (e : Ending) : Prop := ∃ u pv, e = .panicked [{ v := .iface u pv, recovered := false }]

set_option maxHeartbeats 400000 in
theorem between_yes (sg lo hi : Int) (h0 : 0 ≤ lo) (h1 : lo ≤ sg) (h2 : sg ≤ hi) (h3 : hi < 256) (w : World) :
    Calls Tryz.prog 146 #[.int .i32 sg, .int .i32 lo, .int .i32 hi] w fun e w' => e = .returned (.int .u8 sg) ∧ w = w' := by
  go_enter Tryz.func146, Tryz.ntmps146
  go_wp2_with fail
  go_ret
  exact ⟨rfl, rfl⟩
set_option maxHeartbeats 400000 in
theorem between_no (sg lo hi : Int) (h : sg < lo ∨ hi < sg) (w : World) :
    Calls Tryz.prog 146 #[.int .i32 sg, .int .i32 lo, .int .i32 hi] w fun e w' => Panics e ∧ w = w' := by
  go_enter Tryz.func146, Tryz.ntmps146
  go_wp2_with fail
  all_goals exact ⟨rfl, ⟨_, _, rfl⟩, rfl⟩
end Go.Proofs.YtomodlllmbkndaaGreatDoor
namespace Go.Proofs.YtomodlllmbkndaaGreatDoor
open Go.RowKit Gram
theorem info_stm : (Tryz.prog.info? 139).map (fun i => (i.zero, i.size, i.bytes)) = some (some .nilIface, 1, 16) := by kernel_rfl

theorem IsStm.iface {w : World} {S : Nat → Prop} {x : Stm} {v : Value} (h : IsStm w S x v) : ∃ ty pv, v = .iface ty pv := by
  cases x with
  | chg g d => exact ⟨_, _, h⟩
  | prt => exact ⟨_, _, h⟩
  | pro => exact ⟨_, _, h⟩
  | call c => exact ⟨_, _, h⟩
  | cho a b =>
    simp only [IsStm] at h
    obtain ⟨va, vb, vas, vbs, e, _⟩ := h
    exact ⟨_, _, e⟩

set_option maxHeartbeats 400000 in
theorem add_walk (w : World) (B rb : Nat) (g cap : Nat) (lv : Value) (vs : List Value) (ty : Nat) (pv : Value) (tl : Nat)
    (h1 : w.cell? ⟨rb, 1, none⟩ = some (.slice (some ⟨g, 0, none⟩) (tl + 1) cap)) (hl : tl ≤ 1000) (h2 : w.cell? ⟨g, tl * 3, none⟩ = some lv)
    (h3 : w.frozen? ⟨g, tl * 3, none⟩ = false) (hvs : vs.length ≤ 1000) (hB : B ≤ w.heap.size) (hgl : g < w.heap.size) (hne : lv.ownBlock ≠ some g)
    (hown : w.ownsRow B 139 1 lv vs.length vs) :
    Calls Tryz.prog 145 #[.pointer (some ⟨rb, 0, none⟩), .iface ty pv] w fun e w' => e = .returned (.tuple #[]) ∧ ∃ w0 w1 o g' cap', w0.heap = w.heap ∧ Kept B w w0 ∧
      w1.ownsRow B 139 1 (.slice (some ⟨g', 0, none⟩) (vs.length + 1) cap') (vs.length + 1) (vs ++ [.iface ty pv]) ∧
      (w0.alloc o).grownBy w1 lv.ownBlock ∧ (lv.ownBlock = some g' ∨ g' = w.heap.size + 1) ∧ w' = w1.setCell ⟨g, tl * 3, none⟩ (.slice (some ⟨g', 0, none⟩) (vs.length + 1) cap') := by
  obtain ⟨i0, hi, hz0, hz1, hz2⟩ := info_parts info_stm
  have HN := Lib.hid hne
  clear hne
  go_enter Tryz.func145, Tryz.ntmps145
  go_wp2_with fail
  go_quiet (fail)
  have hown2 : (w.drewN nq).ownsRow B 139 1 lv vs.length vs := hown
  go_wp2_with (at_builtin; refine wpList_append_lies _ rfl _ _ 74 rfl B 139 i0 .nilIface 1 16 Tryz.underlying74 hi hz0 hz1 hz2 rfl (by decide) lv vs.length vs rfl (hown2.alloc _) ⟨w.heap.size, 0, none⟩ 1 1 [.iface ty pv] rfl rfl ?c1 ?c2 (by decide) ?c3 ?c4 ?c5 _ rfl ?_)
  case c1 => exact cell_one_new _ _ _
  case c2 => intro u hu; simp at hu; subst hu; rfl
  case c3 => unfold maxLen; omega
  case c4 => omega
  case c5 => simp; omega
  intro g' cap' w1 hown' hgrow hat _
  have hsame : w1.heap[g]? = w.heap[g]? := by
    rw [hgrow.block g (by simp; omega) (fun h => HN.out h.symm)]
    exact Lib.alloc_old _ _ _ hgl
  have hc1 : w1.cell? ⟨g, tl * 3, none⟩ = some lv := by rw [← h2]; exact World.cell?_of_block (a := ⟨g, tl * 3, none⟩) hsame
  have hf1 : w1.frozen? ⟨g, tl * 3, none⟩ = false := by rw [← h3]; exact World.frozen?_of_block (a := ⟨g, tl * 3, none⟩) hsame
  clear hsame
  have hk := Lib.hid (⟨hown', hgrow, hat⟩ : _ ∧ _ ∧ _)
  clear hown' hgrow hat
  go_wp2_with fail
  go_end0
  exact ⟨rfl, w.drewN nq, w1, _, g', cap', rfl, ⟨⟨rfl, rfl, rfl, Nat.le_refl _, fun _ _ => rfl⟩, fun _ _ _ h => h⟩, hk.out.1, hk.out.2.1, hk.out.2.2, rfl⟩

theorem Rd.of_heap {w w' : World} {kk : Bool} {B rb g cap : Nat} {p : Int} {ents : List Ent} {S : Nat → Prop} (h : Rd w kk B rb p g cap ents S) (he : w'.heap = w.heap) : Rd w' kk B rb p g cap ents S := by
  have hk : ∀ k : Nat, w'.heap[k]? = w.heap[k]? := fun k => by rw [he]
  refine ⟨by rw [hk]; exact h.own, h.low, ownsRow_of h.row fun k _ => hk k, ?_, h.parted, ?_⟩
  · intro e hm
    obtain ⟨⟨vs, a, b⟩, c, d⟩ := h.each e hm
    exact ⟨⟨vs, ownsRow_of a fun k _ => hk k, IsStms.kept (fun k _ => hk k) (fun _ h => h) _ _ b⟩, fun hs => (c hs).kept (fun k _ => hk k) (fun _ h => h), d⟩
  · intro k hS; rw [hk]; exact h.set k hS

theorem add_any {w : World} {kk : Bool} {B rb g cap : Nat} {p : Int} {e : Ent} {t : List Ent} {S : Nat → Prop} {x : Stm} {v : Value} (h : Rd w kk B rb p g cap (e :: t) S) (hx : IsStm w S x v)
    (hl : t.length ≤ 1000) (hn : e.u.list.length ≤ 1000) (hB : B ≤ w.heap.size) :
    Calls Tryz.prog 145 #[.pointer (some ⟨rb, 0, none⟩), v] w fun r w' => r = .returned (.tuple #[]) ∧
      ∃ lv', Rd w' kk B rb p g cap (⟨{ e.u with list := e.u.list ++ [x] }, lv', e.fv⟩ :: t) S ∧ Kept B w w' := by
  obtain ⟨ty, pv, rfl⟩ := hx.iface
  have e0 := List.mem_cons_self (a := e) (l := t)
  obtain ⟨⟨vs, ho, hu⟩, _, _⟩ := h.each e e0
  obtain ⟨cur, hcur, hBg, _⟩ := row_cur h.row
  have hc0 : w.cell? ⟨rb, 1, none⟩ = some (.slice (some ⟨g, 0, none⟩) (t.length + 1) cap) := by
    have := Lib.cell_of_heap h.own 1
    simpa using this
  refine (add_walk w B rb g cap e.lv vs ty pv t.length hc0 hl (row_cell h.row _ _ (cellsOf_get e t).1) (row_free h.row _) (by rw [hu.len]; exact hn) hB (heap_lt hcur) (fun hk => (h.lv_ne e0 hk).2.1 rfl) ho).mono ?_
  rintro r w' ⟨hr, w0, w1, o, g', cap', he, hb, h1, h2, h3, rfl⟩
  have h0 := h.of_heap he
  have hx0 := IsStm.kept (w' := w0) (fun k _ => by rw [he]) (fun _ h => h) _ _ hx
  have hu0 := IsStms.kept (w' := w0) (fun k _ => by rw [he]) (fun _ h => h) _ _ hu
  obtain ⟨a, b⟩ := Rd.add h0 hx0 hu0 h1 h2 (by rw [he]; exact h3) (by rw [he]; exact hB)
  exact ⟨hr, _, a, hb.trans b⟩
end Go.Proofs.YtomodlllmbkndaaGreatDoor
namespace Go.Proofs.YtomodlllmbkndaaGreatDoor
open Go.RowKit Gram

theorem IsEnt.kept {w w' : World} {S S' : Nat → Prop} {B : Nat} {f : Ent} (h : IsEnt w S B f) (hk : ∀ k, S k ∨ f.lv.ownBlock = some k → w'.heap[k]? = w.heap[k]?) (hS : ∀ k, S k → S' k)
    (hn : ∀ k, f.lv.ownBlock = some k → ¬ S' k) : IsEnt w' S' B f := by
  obtain ⟨⟨vs, a, b⟩, c, _, d⟩ := h
  exact ⟨⟨vs, ownsRow_of a fun k hk' => hk k (.inr hk'), IsStms.kept (fun k h => hk k (.inl h)) hS _ _ b⟩, fun hs => (c hs).kept (fun k h => hk k (.inl h)) hS, hn, d⟩

/-- what lay there stays: the reader stays -/
theorem Rd.later {w w' : World} {kk : Bool} {B rb g cap : Nat} {p : Int} {ents : List Ent} {S : Nat → Prop} (h : Rd w kk B rb p g cap ents S) (hk : ∀ k, k < w.heap.size → w'.heap[k]? = w.heap[k]?) : Rd w' kk B rb p g cap ents S := by
  obtain ⟨cur, hcur, _⟩ := row_cur h.row
  refine ⟨by rw [hk _ (heap_lt h.own)]; exact h.own, h.low, ownsRow_of h.row fun k hk' => ?_, ?_, h.parted, ?_⟩
  · simp [Value.ownBlock] at hk'; subst hk'; exact hk _ (heap_lt hcur)
  · intro e hm
    have he := h.each e hm
    refine he.kept (fun k hk' => hk k ?_) (fun _ h => h) he.2.2.1
    rcases hk' with h1 | h1
    · obtain ⟨_, cur, fz, h2⟩ := h.set k h1; exact heap_lt h2
    · obtain ⟨⟨vs, a, _⟩, _⟩ := he; exact (a.lt k h1).2
  · intro k hS
    obtain ⟨a, cur, fz, h2⟩ := h.set k hS
    exact ⟨a, cur, fz, by rw [hk _ (heap_lt h2)]; exact h2⟩

section
variable {w : World} {kk : Bool} {B rb g cap : Nat} {p : Int} {e : Ent} {t : List Ent} {S : Nat → Prop}

theorem Rd.pend (h : Rd w kk B rb p g cap (e :: t) S) (q : Int) : Rd (w.setCell ⟨rb, 2, none⟩ (.int .i32 q)) kk B rb q g cap (e :: t) S := by
  have ks : ∀ k, k ≠ rb → (w.setCell ⟨rb, 2, none⟩ (.int .i32 q)).heap[k]? = w.heap[k]? := fun k hk => heap_set_other hk _
  refine ⟨?_, h.low, ?_, ?_, h.parted, ?_⟩
  · rw [heap_set_same h.own]; rfl
  · exact ownsRow_of h.row (fun k hk => by simp [Value.ownBlock] at hk; subst hk; exact ks _ h.ne_rb.symm)
  · intro f hf
    exact (h.each f hf).kept (fun k hk => ks k (hk.elim (fun a => (h.S_ne a).1) (fun a => (h.lv_ne hf a).1))) (fun _ h => h) (h.each f hf).2.2.1
  · intro k hk; rw [ks k (h.S_ne hk).1]; exact h.set k hk

theorem Rd.push {w1 : World} {g' cap' : Nat} {o : Obj} (h : Rd w kk B rb p g cap (e :: t) S)
    (hown' : w1.ownsRow B 174 3 (.slice (some ⟨g', 0, none⟩) (t.length + 1 + 1) cap') (t.length + 1 + 1) (cellsOf (e :: t) ++ [.slice none 0 0, .slice none 0 0, .bool false]))
    (hg : (w.alloc o).grownBy w1 (some g)) (hat : g = g' ∨ g' = w.heap.size + 1) (hB : B ≤ w.heap.size) :
    Rd (w1.setCell ⟨rb, 1, none⟩ (.slice (some ⟨g', 0, none⟩) (t.length + 1 + 1) cap')) kk B rb p g' cap' (⟨⟨[], [], false⟩, .slice none 0 0, .slice none 0 0⟩ :: e :: t) S ∧
      Kept B w (w1.setCell ⟨rb, 1, none⟩ (.slice (some ⟨g', 0, none⟩) (t.length + 1 + 1) cap')) := by
  have hsz : (w.alloc o).heap.size = w.heap.size + 1 := by simp
  have hgrown : ∀ k, k < w.heap.size → k ≠ g → w1.heap[k]? = w.heap[k]? := fun k hk hn => by
    rw [hg.block k (by omega) (fun he => hn (by simpa using he))]; exact Lib.alloc_old w o k hk
  have hrl := heap_lt h.own
  obtain ⟨cur, hcur, hBg, _⟩ := row_cur h.row
  have ks : ∀ k, k ≠ rb → ∀ u, (w1.setCell ⟨rb, 1, none⟩ u).heap[k]? = w1.heap[k]? := fun k hk u => heap_set_other hk u
  have g'ne : g' ≠ rb := by
    rcases hat with h1 | h1
    · rw [← h1]; exact h.ne_rb.symm
    · omega
  refine ⟨⟨?_, h.low, ?_, ?_, ?_, ?_⟩, ?_⟩
  · rw [heap_set_same (by rw [hgrown rb hrl h.ne_rb]; exact h.own)]; rfl
  · exact ownsRow_of hown' (fun k hk => by simp [Value.ownBlock] at hk; subst hk; exact ks _ g'ne _)
  · intro f hf
    rcases List.mem_cons.1 hf with rfl | hf
    · exact ⟨⟨[], World.ownsRow_nil _ _ _ _, rfl⟩, (by intro hs; cases hs), (by intro k hk; cases hk), ⟨_, _, _, rfl⟩⟩
    · exact (h.each f hf).kept (fun k hk => by
        rw [ks k (hk.elim (fun a => (h.S_ne a).1) (fun a => (h.lv_ne hf a).1))]
        exact hgrown k (hk.elim (fun a => (h.S_ne a).2.2) (fun a => (h.lv_ne hf a).2.2.1)) (hk.elim (fun a => (h.S_ne a).2.1) (fun a => (h.lv_ne hf a).2.1))) (fun _ h => h) (h.each f hf).2.2.1
  · exact List.pairwise_cons.2 ⟨(fun f _ k hk => by cases hk), h.parted⟩
  · intro k hk
    rw [ks k (h.S_ne hk).1, hgrown k (h.S_ne hk).2.2 (h.S_ne hk).2.1]
    exact h.set k hk
  · exact (((Kept.refl B w).alloc hB o).grown hg (by omega) (fun k hk => by simp at hk; omega) (fun k hk => by simp at hk; subst hk; exact ⟨_, _, _, by rw [Lib.alloc_old _ _ _ (heap_lt hcur)]; exact hcur⟩)).setCell h.low _

/-- the top's own row becomes one of S -/
def with_ (S : Nat → Prop) (v : Value) : Nat → Prop := fun k => S k ∨ v.ownBlock = some k

theorem Rd.body (h : Rd w kk B rb p g cap (e :: t) S) : IsBody w (with_ S e.lv) e.u.list e.lv := by
  obtain ⟨⟨vs, a, b⟩, _⟩ := h.each e (List.mem_cons_self (a := e) (l := t))
  have hl := IsStms.len _ _ b
  exact ⟨vs, ⟨ownsRow_base a (fun _ _ => Nat.zero_le _), fun k hk => .inr hk⟩, IsStms.kept (fun _ _ => rfl) (fun _ h => .inl h) _ _ b⟩

theorem Rd.with_set (h : Rd w kk B rb p g cap (e :: t) S) : ∀ k, with_ S e.lv k → k ≠ rb ∧ k ≠ g ∧ B ≤ k ∧ ∃ cur fz, w.heap[k]? = some (.cells cur 139 fz) := by
  have e0 := List.mem_cons_self (a := e) (l := t)
  intro k hk
  rcases hk with hk | hk
  · exact ⟨(h.S_ne hk).1, (h.S_ne hk).2.1, h.set k hk⟩
  · obtain ⟨⟨vs, a, _⟩, _⟩ := h.each e e0
    refine ⟨(h.lv_ne e0 hk).1, (h.lv_ne e0 hk).2.1, (h.lv_ne e0 hk).2.2.2, ?_⟩
    rcases a.2 with ⟨h1, _⟩ | ⟨g', cap', cur, h1, _, hg, _⟩
    · rw [h1] at hk; cases hk
    · rw [h1] at hk; simp [Value.ownBlock] at hk; subst hk; exact ⟨_, _, hg⟩

theorem Rd.second (h : Rd w kk B rb p g cap (e :: t) S) :
    Rd (((w.setCell ⟨g, t.length * 3, none⟩ (.slice none 0 0)).setCell ⟨g, t.length * 3 + 1, none⟩ e.lv).setCell ⟨g, t.length * 3 + 2, none⟩ (.bool true)) kk B rb p g cap
      (⟨⟨[], e.u.list, true⟩, .slice none 0 0, e.lv⟩ :: t) (with_ S e.lv) ∧
    Kept B w (((w.setCell ⟨g, t.length * 3, none⟩ (.slice none 0 0)).setCell ⟨g, t.length * 3 + 1, none⟩ e.lv).setCell ⟨g, t.length * 3 + 2, none⟩ (.bool true)) := by
  have e0 := List.mem_cons_self (a := e) (l := t)
  obtain ⟨cur, hcur, hBg, _⟩ := row_cur h.row
  have ks : ∀ k, k ≠ g → (((w.setCell ⟨g, t.length * 3, none⟩ (.slice none 0 0)).setCell ⟨g, t.length * 3 + 1, none⟩ e.lv).setCell ⟨g, t.length * 3 + 2, none⟩ (.bool true)).heap[k]? = w.heap[k]? :=
    fun k hk => by rw [heap_set_other hk, heap_set_other hk, heap_set_other hk]
  have hrow := row_set (row_set (row_set h.row (t.length * 3) (.slice none 0 0)) (t.length * 3 + 1) e.lv) (t.length * 3 + 2) (.bool true)
  refine ⟨⟨?_, h.low, ?_, ?_, ?_, ?_⟩, ?_⟩
  · rw [ks rb h.ne_rb]; exact h.own
  · have hc : (((cellsOf (e :: t)).set (t.length * 3) (.slice none 0 0)).set (t.length * 3 + 1) e.lv).set (t.length * 3 + 2) (.bool true) = cellsOf (⟨⟨[], e.u.list, true⟩, .slice none 0 0, e.lv⟩ :: t) := by
      have hl := cellsOf_len t
      simp only [cellsOf]
      rw [List.set_append_right _ _ (by omega), List.set_append_right _ _ (by omega), List.set_append_right _ _ (by omega)]
      simp [hl]
    rw [hc] at hrow
    exact hrow
  · intro f hf
    rcases List.mem_cons.1 hf with rfl | hf
    · refine ⟨⟨[], World.ownsRow_nil _ _ _ _, rfl⟩, ?_, (by intro k hk; cases hk), ?_⟩
      · intro _
        exact h.body.kept (fun k hk => ks k (h.with_set k hk).2.1) (fun _ h => h)
      · obtain ⟨⟨vs, a, _⟩, _⟩ := h.each e e0
        exact slice_form a
    · have hf' := List.mem_cons_of_mem e hf
      refine (h.each f hf').kept (fun k hk => ks k (hk.elim (fun a => (h.S_ne a).2.1) (fun a => (h.lv_ne hf' a).2.1))) (fun _ h => .inl h) ?_
      intro k hk hS
      rcases hS with hS | hS
      · exact (h.each f hf').2.2.1 k hk hS
      · exact (List.pairwise_cons.1 h.parted).1 f hf k hS hk
  · exact List.pairwise_cons.2 ⟨(fun f _ k hk => by cases hk), (List.pairwise_cons.1 h.parted).2⟩
  · intro k hk
    obtain ⟨_, h2, h3, h4⟩ := h.with_set k hk
    exact ⟨h3, by rw [ks k h2]; exact h4⟩
  · exact (((Kept.refl B w).setCell hBg _).setCell hBg _).setCell hBg _

theorem Rd.pop {f : Ent} (h : Rd w kk B rb p g cap (e :: f :: t) S) (hs : e.u.second = true) :
    Rd (w.setCell ⟨rb, 1, none⟩ (.slice (some ⟨g, 0, none⟩) (t.length + 1) cap)) kk B rb p g cap (f :: t) (with_ S e.lv) ∧
    IsStm (w.setCell ⟨rb, 1, none⟩ (.slice (some ⟨g, 0, none⟩) (t.length + 1) cap)) (with_ S e.lv) (.cho e.u.first e.u.list) (.iface 163 (.agg #[e.fv, e.lv])) ∧
    Kept B w (w.setCell ⟨rb, 1, none⟩ (.slice (some ⟨g, 0, none⟩) (t.length + 1) cap)) := by
  have e0 := List.mem_cons_self (a := e) (l := f :: t)
  have ks : ∀ k, k ≠ rb → (w.setCell ⟨rb, 1, none⟩ (.slice (some ⟨g, 0, none⟩) (t.length + 1) cap)).heap[k]? = w.heap[k]? := fun k hk => heap_set_other hk _
  obtain ⟨cur, hcur, hBg, hle, hm, hsz, htake⟩ := row_cur h.row
  refine ⟨⟨?_, h.low, ?_, ?_, (List.pairwise_cons.1 h.parted).2, ?_⟩, ?_, ?_⟩
  · rw [heap_set_same h.own]; rfl
  · refine ⟨by simp [cellsOf_len], .inr ⟨g, cap, cur, rfl, hBg, by rw [ks g h.ne_rb.symm]; exact hcur, by simp at hle ⊢; omega, hm, hsz, ?_⟩⟩
    have := congrArg (List.take ((f :: t).length * 3)) htake
    rw [List.take_take, Nat.min_eq_left (by simp; omega)] at this
    rw [this]
    show List.take _ (cellsOf (f :: t) ++ _) = _
    rw [List.take_append_of_le_length (by rw [cellsOf_len]; exact Nat.le_refl _), List.take_of_length_le (by rw [cellsOf_len]; exact Nat.le_refl _)]
  · intro d hd
    have hd' := List.mem_cons_of_mem e hd
    refine (h.each d hd').kept (fun k hk => ks k (hk.elim (fun a => (h.S_ne a).1) (fun a => (h.lv_ne hd' a).1))) (fun _ h => .inl h) ?_
    intro k hk hS
    rcases hS with hS | hS
    · exact (h.each d hd').2.2.1 k hk hS
    · exact (List.pairwise_cons.1 h.parted).1 d hd k hS hk
  · intro k hk
    obtain ⟨h1, _, h3, h4⟩ := h.with_set k hk
    exact ⟨h3, by rw [ks k h1]; exact h4⟩
  · obtain ⟨vas, r1, s1⟩ := ((h.each e e0).2.1 hs).kept (w' := w.setCell ⟨rb, 1, none⟩ (.slice (some ⟨g, 0, none⟩) (t.length + 1) cap)) (S' := with_ S e.lv) (fun k hk => ks k (h.S_ne hk).1) (fun _ h => .inl h)
    obtain ⟨vbs, r2, s2⟩ := h.body.kept (w' := w.setCell ⟨rb, 1, none⟩ (.slice (some ⟨g, 0, none⟩) (t.length + 1) cap)) (S' := with_ S e.lv) (fun k hk => ks k (h.with_set k hk).1) (fun _ h => h)
    simp only [IsStm]
    exact ⟨_, _, vas, vbs, rfl, r1, s1, r2, s2⟩
  · exact (Kept.refl B w).setCell h.low _
end
end Go.Proofs.YtomodlllmbkndaaGreatDoor
namespace Go.Proofs.YtomodlllmbkndaaGreatDoor
open Go.RowKit Gram
theorem info_unf : (Tryz.prog.info? 174).map (fun i => (i.zero, i.size, i.bytes)) = some (some (.agg #[.slice none 0 0, .slice none 0 0, .bool false]), 3, 56) := by kernel_rfl

set_option maxHeartbeats 400000 in
theorem push_walk (w : World) (B rb : Nat) (g cap : Nat) (n : Nat) (xs : List Value)
    (h1 : w.cell? ⟨rb, 1, none⟩ = some (.slice (some ⟨g, 0, none⟩) n cap)) (hl : n ≤ 1000)
    (h3 : w.frozen? ⟨rb, 1, none⟩ = false) (hB : B ≤ w.heap.size) (hrl : rb < w.heap.size) (hne : g ≠ rb)
    (hown : w.ownsRow B 174 3 (.slice (some ⟨g, 0, none⟩) n cap) n xs) :
    Calls Tryz.prog 147 #[.pointer (some ⟨rb, 0, none⟩), .int .i32 63] w fun e w' => e = .returned (.tuple #[]) ∧ ∃ w0 w1 o g' cap', w0.heap = w.heap ∧ Kept B w w0 ∧
      w1.ownsRow B 174 3 (.slice (some ⟨g', 0, none⟩) (n + 1) cap') (n + 1) (xs ++ [.slice none 0 0, .slice none 0 0, .bool false]) ∧
      (w0.alloc o).grownBy w1 (some g) ∧ (g = g' ∨ g' = w.heap.size + 1) ∧ w' = w1.setCell ⟨rb, 1, none⟩ (.slice (some ⟨g', 0, none⟩) (n + 1) cap') := by
  obtain ⟨i0, hi, hz0, hz1, hz2⟩ := info_parts info_unf
  have HN := Lib.hid hne
  clear hne
  go_enter Tryz.func147, Tryz.ntmps147
  go_wp2_with (at_builtin; go_loud (refine wpList_append_lies _ rfl _ _ 175 rfl B 174 i0 (.agg #[.slice none 0 0, .slice none 0 0, .bool false]) 3 56 Tryz.underlying175 hi hz0 hz1 hz2 rfl (by decide) (.slice (some ⟨g, 0, none⟩) n cap) n xs rfl (hown.alloc _) ⟨w.heap.size, 0, none⟩ 1 1 [.slice none 0 0, .slice none 0 0, .bool false] rfl rfl ?c1 ?c2 (by decide) ?c3 ?c4 ?c5 _ rfl ?_))
  case c1 => exact World.news_of_block (cs := #[.slice none 0 0, .slice none 0 0, .bool false]) (heap_alloc_new _ _)
  case c2 => intro u hu; simp at hu; rcases hu with rfl | rfl <;> rfl
  case c3 => unfold maxLen; omega
  case c4 => omega
  case c5 => simp; omega
  intro g' cap' w1 hown' hgrow hat _
  have hsame : w1.heap[rb]? = w.heap[rb]? := by
    rw [hgrow.block rb (by simp; omega) (fun h => HN.out (by simpa [Value.ownBlock] using h.symm))]
    exact Lib.alloc_old _ _ _ hrl
  have hc1 : w1.cell? ⟨rb, 1, none⟩ = some (.slice (some ⟨g, 0, none⟩) n cap) := by rw [← h1]; exact World.cell?_of_block (a := ⟨rb, 1, none⟩) hsame
  have hf1 : w1.frozen? ⟨rb, 1, none⟩ = false := by rw [← h3]; exact World.frozen?_of_block (a := ⟨rb, 1, none⟩) hsame
  clear hsame
  have hk := Lib.hid (⟨hown', hgrow, hat⟩ : _ ∧ _ ∧ _)
  clear hown' hgrow hat
  go_wp2_with fail
  refine bodyPost_ret (results_none rfl _ _ _) rfl ?_
  exact ⟨rfl, w, w1, _, g', cap', rfl, Kept.refl _ _, hk.out.1, hk.out.2.1, by simpa [Value.ownBlock] using hk.out.2.2, rfl⟩

set_option maxHeartbeats 400000 in
theorem second_walk (w : World) (rb : Nat) (g cap : Nat) (tl : Nat) (la : Option Addr) (ln lc : Nat) (fv : Value) (b : Bool)
    (h1 : w.cell? ⟨rb, 1, none⟩ = some (.slice (some ⟨g, 0, none⟩) (tl + 1) cap)) (hl : tl ≤ 1000)
    (c0 : w.cell? ⟨g, tl * 3, none⟩ = some (.slice la ln lc)) (c1 : w.cell? ⟨g, tl * 3 + 1, none⟩ = some fv) (c2 : w.cell? ⟨g, tl * 3 + 2, none⟩ = some (.bool b))
    (f0 : w.frozen? ⟨g, tl * 3, none⟩ = false) (f1 : w.frozen? ⟨g, tl * 3 + 1, none⟩ = false) (f2 : w.frozen? ⟨g, tl * 3 + 2, none⟩ = false) :
    Calls Tryz.prog 147 #[.pointer (some ⟨rb, 0, none⟩), .int .i32 93] w fun e w' => e = .returned (.tuple #[]) ∧ ∃ w0, w0.heap = w.heap ∧ Kept w.heap.size w w0 ∧
      w' = ((w0.setCell ⟨g, tl * 3, none⟩ (.slice none 0 0)).setCell ⟨g, tl * 3 + 1, none⟩ (.slice la ln lc)).setCell ⟨g, tl * 3 + 2, none⟩ (.bool true) := by
  go_enter Tryz.func147, Tryz.ntmps147
  go_wp2_with fail
  go_quiet (fail)
  go_wp2_with fail
  go_end0
  exact ⟨rfl, w.drewN nq, rfl, ⟨⟨rfl, rfl, rfl, Nat.le_refl _, fun _ _ => rfl⟩, fun _ _ _ h => h⟩, rfl⟩

set_option maxHeartbeats 400000 in
theorem close_no (w : World) (rb : Nat) (g cap : Nat) (h1 : w.cell? ⟨rb, 1, none⟩ = some (.slice (some ⟨g, 0, none⟩) 1 cap)) :
    Calls Tryz.prog 163 #[.pointer (some ⟨rb, 0, none⟩)] w fun e w' => Panics e ∧ w = w' := by
  go_enter Tryz.func163, Tryz.ntmps163
  go_wp2_with fail
  exact ⟨rfl, ⟨_, _, rfl⟩, rfl⟩

set_option maxHeartbeats 400000 in
theorem close_first (w : World) (rb : Nat) (g cap : Nat) (tl : Nat) (la : Option Addr) (ln lc : Nat) (fa : Option Addr) (fn fc : Nat)
    (h1 : w.cell? ⟨rb, 1, none⟩ = some (.slice (some ⟨g, 0, none⟩) (tl + 1 + 1) cap)) (hl : tl ≤ 1000) (q : Int) (h2 : ∀ o, (w.alloc o).cell? ⟨rb, 2, none⟩ = some (.int .i32 q)) (h3 : ∀ o, (w.alloc o).frozen? ⟨rb, 2, none⟩ = false)
    (c0 : w.cell? ⟨g, (tl + 1) * 3, none⟩ = some (.slice la ln lc)) (c1 : w.cell? ⟨g, (tl + 1) * 3 + 1, none⟩ = some (.slice fa fn fc)) (c2 : w.cell? ⟨g, (tl + 1) * 3 + 2, none⟩ = some (.bool false)) :
    Calls Tryz.prog 163 #[.pointer (some ⟨rb, 0, none⟩)] w fun e w' => e = .returned (.tuple #[]) ∧ ∃ o, w' = (w.alloc o).setCell ⟨rb, 2, none⟩ (.int .i32 93) := by
  go_enter Tryz.func163, Tryz.ntmps163
  go_wp2_with fail
  refine bodyPost_ret (results_none rfl _ _ _) rfl ?_
  exact ⟨rfl, _, rfl⟩

set_option maxHeartbeats 400000 in
theorem close_second (w : World) (rb : Nat) (g cap : Nat) (tl : Nat) (la : Option Addr) (ln lc : Nat) (fa : Option Addr) (fn fc : Nat) (R : Ending → World → Prop)
    (h1 : w.cell? ⟨rb, 1, none⟩ = some (.slice (some ⟨g, 0, none⟩) (tl + 1 + 1) cap)) (hl : tl ≤ 1000) (hcap : tl + 2 ≤ cap)
    (h2 : ∀ o, (w.alloc o).cell? ⟨rb, 1, none⟩ = some (.slice (some ⟨g, 0, none⟩) (tl + 1 + 1) cap)) (h3 : ∀ o, (w.alloc o).frozen? ⟨rb, 1, none⟩ = false) (hrl : rb < w.heap.size)
    (c0 : w.cell? ⟨g, (tl + 1) * 3, none⟩ = some (.slice la ln lc)) (c1 : w.cell? ⟨g, (tl + 1) * 3 + 1, none⟩ = some (.slice fa fn fc)) (c2 : w.cell? ⟨g, (tl + 1) * 3 + 2, none⟩ = some (.bool true))
    (hadd : ∀ w1, (∃ o, w1 = (w.setCell ⟨rb, 1, none⟩ (.slice (some ⟨g, 0, none⟩) (tl + 1) cap)).alloc o) →
      Calls Tryz.prog 145 #[.pointer (some ⟨rb, 0, none⟩), .iface 163 (.agg #[.slice fa fn fc, .slice la ln lc])] w1 fun e w' => e = .returned (.tuple #[]) ∧ R e w') :
    Calls Tryz.prog 163 #[.pointer (some ⟨rb, 0, none⟩)] w fun e w' => e = .returned (.tuple #[]) ∧ R e w' := by
  have HA := Lib.hid hadd
  clear hadd
  go_enter Tryz.func163, Tryz.ntmps163
  go_wp2_with fail
  refine (HA.out _ ⟨_, rfl⟩).mono ?_
  rintro e w' ⟨rfl, hR⟩
  go_wp2_with fail
  go_end0
  exact ⟨rfl, hR⟩

/-- the reader in memory, whatever its blocks -/
def RdS (w : World) (kk : Bool) (B rb : Nat) (st : St) : Prop := ∃ g cap ents S, Rd w kk B rb st.pend.toNat g cap ents S ∧ ents.map (·.u) = st.top :: st.rest

theorem RdS.parts {w : World} {kk : Bool} {B rb : Nat} {st : St} (h : RdS w kk B rb st) : ∃ g cap e t S, Rd w kk B rb st.pend.toNat g cap (e :: t) S ∧ e.u = st.top ∧ t.map (·.u) = st.rest ∧ t.length = st.rest.length := by
  obtain ⟨g, cap, ents, S, h, hm⟩ := h
  cases ents with
  | nil => simp at hm
  | cons e t => simp at hm; exact ⟨g, cap, e, t, S, h, hm.1, hm.2, by rw [← hm.2]; simp⟩

section
variable {w : World} {kk : Bool} {B rb : Nat} {st : St}

theorem adds_any {x : Stm} {v : Value} {g cap : Nat} {e : Ent} {t : List Ent} {S : Nat → Prop} (h : Rd w kk B rb st.pend.toNat g cap (e :: t) S) (hu : e.u = st.top) (ht : t.map (·.u) = st.rest) (hx : IsStm w S x v)
    (hl : st.rest.length ≤ 1000) (hn : st.top.list.length ≤ 1000) (hB : B ≤ w.heap.size) :
    Calls Tryz.prog 145 #[.pointer (some ⟨rb, 0, none⟩), v] w fun r w' => r = .returned (.tuple #[]) ∧ RdS w' kk B rb (st.add x) ∧ Kept B w w' := by
  refine (add_any h hx (by rw [← ht] at hl; simpa using hl) (by rw [hu]; exact hn) hB).mono ?_
  rintro r w' ⟨hr, lv', hR, hb⟩
  exact ⟨hr, ⟨_, _, _, _, hR, by simp [St.add, hu, ht]⟩, hb⟩

theorem push_any (h : RdS w kk B rb st) (hl : st.rest.length ≤ 900) (hB : B ≤ w.heap.size) :
    Calls Tryz.prog 147 #[.pointer (some ⟨rb, 0, none⟩), .int .i32 63] w fun r w' => r = .returned (.tuple #[]) ∧ RdS w' kk B rb (st.openB 63) ∧ Kept B w w' := by
  obtain ⟨g, cap, e, t, S, hR, hu, ht, hlen⟩ := h.parts
  have hc0 : w.cell? ⟨rb, 1, none⟩ = some (.slice (some ⟨g, 0, none⟩) (t.length + 1) cap) := by
    have := Lib.cell_of_heap hR.own 1
    simpa using this
  refine (push_walk w B rb g cap (t.length + 1) (cellsOf (e :: t)) hc0 (by omega) (Lib.frozen_of_heap hR.own 1) hB (heap_lt hR.own) hR.ne_rb.symm hR.row).mono ?_
  rintro r w' ⟨hr, w0, w1, o, g', cap', he, hb, h1, h2, h3, rfl⟩
  obtain ⟨a, b⟩ := Rd.push (hR.of_heap he) h1 h2 (by rw [he]; exact h3) (by rw [he]; exact hB)
  exact ⟨hr, ⟨_, _, _, _, a, by simp [St.openB, hu, ht]⟩, hb.trans b⟩

theorem second_any (h : RdS w kk B rb st) (hl : st.rest.length ≤ 900) (hB : B ≤ w.heap.size) :
    Calls Tryz.prog 147 #[.pointer (some ⟨rb, 0, none⟩), .int .i32 93] w fun r w' => r = .returned (.tuple #[]) ∧ RdS w' kk B rb (st.openB 93) ∧ Kept B w w' := by
  obtain ⟨g, cap, e, t, S, hR, hu, ht, hlen⟩ := h.parts
  have hc0 : w.cell? ⟨rb, 1, none⟩ = some (.slice (some ⟨g, 0, none⟩) (t.length + 1) cap) := by
    have := Lib.cell_of_heap hR.own 1
    simpa using this
  obtain ⟨⟨vs, ho, _⟩, _, _, _⟩ := hR.each e (List.mem_cons_self (a := e) (l := t))
  obtain ⟨la, ln, lc, hlv⟩ := slice_form ho
  obtain ⟨k0, k1, k2⟩ := cellsOf_get e t
  refine (second_walk w rb g cap t.length la ln lc e.fv e.u.second hc0 (by omega) (by rw [← hlv]; exact row_cell hR.row _ _ k0) (row_cell hR.row _ _ k1) (row_cell hR.row _ _ k2) (row_free hR.row _) (row_free hR.row _) (row_free hR.row _)).mono ?_
  rintro r w' ⟨hr, w0, he, hb, rfl⟩
  obtain ⟨a, b⟩ := (hR.of_heap he).second
  rw [hlv] at a b
  exact ⟨hr, ⟨_, _, _, _, a, by simp [St.openB, hu, ht]⟩, (hb.mono hB).trans b⟩

theorem close_any (h : RdS w kk B rb st) (hp : st.pend = 0) (hl : st.rest.length ≤ 900) (hn : ∀ u ∈ st.rest, u.list.length ≤ 1000) (hB : B ≤ w.heap.size) :
    Calls Tryz.prog 163 #[.pointer (some ⟨rb, 0, none⟩)] w fun r w' =>
      (match st.close with
        | some st' => r = .returned (.tuple #[]) ∧ RdS w' kk B rb st'
        | none => Panics r) ∧ Kept B w w' := by
  obtain ⟨g, cap, e, t, S, hR, hu, ht, hlen⟩ := h.parts
  have hc0 : w.cell? ⟨rb, 1, none⟩ = some (.slice (some ⟨g, 0, none⟩) (t.length + 1) cap) := by
    have := Lib.cell_of_heap hR.own 1
    simpa using this
  cases t with
  | nil =>
    have hr : st.rest = [] := by rw [← ht]; rfl
    refine (close_no w rb g cap hc0).mono ?_
    rintro r w' ⟨h1, rfl⟩
    exact ⟨by simp only [St.close, hr]; exact h1, Kept.refl _ _⟩
  | cons f t =>
    have hr : st.rest = f.u :: t.map (·.u) := by rw [← ht]; rfl
    obtain ⟨⟨vs, ho, _⟩, _, _, fa, fn, fc, hfv⟩ := hR.each e (List.mem_cons_self (a := e) (l := f :: t))
    obtain ⟨la, ln, lc, hlv⟩ := slice_form ho
    obtain ⟨k0, k1, k2⟩ := cellsOf_get e (f :: t)
    have c0 := row_cell hR.row _ _ k0
    have c1 := row_cell hR.row _ _ k1
    have c2 := row_cell hR.row _ _ k2
    rw [hlv] at c0
    rw [hfv] at c1
    have hrl := heap_lt hR.own
    have hcell : ∀ (o : Obj) (j : Nat), (w.alloc o).cell? ⟨rb, j, none⟩ = w.cell? ⟨rb, j, none⟩ := fun o j => World.cell?_of_block (a := ⟨rb, j, none⟩) (alloc_heap o rb hrl)
    have hfroz : ∀ (o : Obj) (j : Nat), (w.alloc o).frozen? ⟨rb, j, none⟩ = false := fun o j => by
      rw [World.frozen?_of_block (a := ⟨rb, j, none⟩) (alloc_heap o rb hrl)]; exact Lib.frozen_of_heap hR.own j
    have hc1 : w.cell? ⟨rb, 2, none⟩ = some (.int .i32 st.pend.toNat) := by
      have := Lib.cell_of_heap hR.own 2
      simpa using this
    cases hs : e.u.second with
    | false =>
      rw [hs] at c2
      refine (close_first w rb g cap t.length la ln lc fa fn fc hc0 (by rw [hr] at hl; simp at hl; omega) _ (fun o => (hcell o 2).trans hc1) (fun o => hfroz o 2) c0 c1 c2).mono ?_
      rintro r w' ⟨h1, o, rfl⟩
      have hst : st.close = some { st with pend := 93 } := by
        simp only [St.close, hr]; rw [← hu, hs]; simp
      rw [hst]
      refine ⟨⟨h1, _, _, _, _, (hR.later (alloc_heap o)).pend 93, ?_⟩, ((Kept.refl B w).alloc hB o).setCell hR.low _⟩
      rw [hr, ← hu]; rfl
    | true =>
      rw [hs] at c2
      obtain ⟨p1, p2, p3⟩ := hR.pop hs
      have e2 : Value.iface 163 (.agg #[e.fv, e.lv]) = .iface 163 (.agg #[.slice fa fn fc, .slice la ln lc]) := by rw [hfv, hlv]
      have hle := (row_cur hR.row)
      obtain ⟨_, _, _, hle, _⟩ := hle
      refine (close_second w rb g cap t.length la ln lc fa fn fc (fun _ w' => RdS w' kk B rb (St.add ⟨f.u, t.map (·.u), st.pend⟩ (.cho e.u.first e.u.list)) ∧ Kept B w w') hc0 (by rw [hr] at hl; simp at hl; omega) (by simpa using hle) (fun o => (hcell o 1).trans hc0) (fun o => hfroz o 1) hrl c0 c1 c2 ?_).mono ?_
      · rintro w1 ⟨o, rfl⟩
        rw [← e2]
        refine (adds_any (st := ⟨f.u, t.map (·.u), st.pend⟩) (p1.later (alloc_heap o)) rfl rfl (IsStm.kept (fun k hk => alloc_heap o k ?_) (fun _ h => h) _ _ p2) (by rw [hr] at hl; simp at hl ⊢; omega) (hn f.u (by rw [hr]; simp)) (by simp [World.setCell]; omega)).mono ?_
        · obtain ⟨_, cur, fz, hc⟩ := p1.set k hk
          exact heap_lt hc
        · rintro r w' ⟨a, b, c⟩
          exact ⟨a, b, (p3.alloc (by simp [World.setCell]; omega) o).trans c⟩
      · rintro r w' ⟨h1, h2, h3⟩
        refine ⟨?_, h3⟩
        have hst : st.close = some (St.add ⟨f.u, t.map (·.u), 0⟩ (.cho st.top.first st.top.list)) := by
          simp only [St.close, hr]; rw [← hu, hs]; simp
        rw [hst, ← hu]
        rw [hp] at h2
        exact ⟨h1, h2⟩
end
end Go.Proofs.YtomodlllmbkndaaGreatDoor
namespace Go.Proofs.YtomodlllmbkndaaGreatDoor
open Go.RowKit Gram

theorem index_has (l : List UInt8) (c : UInt8) : decide (0 ≤ Lib.indexByte l c) = l.contains c := by
  induction l with
  | nil => rfl
  | cons b l ih =>
    have hge := Lib.indexByte_ge l c
    rw [Lib.indexByte, List.contains_cons]
    by_cases hb : b == c
    · rw [if_pos hb]
      have : (c == b) = true := by rw [beq_iff_eq] at hb ⊢; exact hb.symm
      rw [this]; rfl
    · rw [if_neg hb]
      have : (c == b) = false := by
        rw [beq_eq_false_iff_ne]
        rintro rfl
        simp at hb
      rw [this, Bool.false_or, ← ih]
      by_cases h1 : Lib.indexByte l c == -1
      · rw [if_pos h1]; rw [beq_iff_eq] at h1; rw [h1]
      · rw [if_neg h1]
        have : Lib.indexByte l c ≠ -1 := by simpa using h1
        rw [decide_eq_decide]; omega

end Go.Proofs.YtomodlllmbkndaaGreatDoor
namespace Go.Proofs.YtomodlllmbkndaaGreatDoor
open Go.RowKit Gram

/-- the sign sg is the byte c, or none of ASCII -/
def Sg (sg : Int) (c : UInt8) : Prop := (sg = c.toNat ∧ c.toNat < 128) ∨ (c = 128 ∧ 128 ≤ sg)

theorem Sg.ne {sg : Int} {c : UInt8} (h : Sg sg c) {d : UInt8} (hd : d.toNat < 128) (hne : c ≠ d) : (sg == (d.toNat : Int)) = false := by
  rcases h with ⟨rfl, _⟩ | ⟨_, h2⟩
  · exact ne_int hne
  · rw [beq_eq_false_iff_ne]; omega


def inSigs (kk : Bool) (c : UInt8) : Bool := (sigs kk).data.toList.contains c
theorem inSigs_eq (kk : Bool) (c : UInt8) : inSigs kk c = decide ((c = 43 ∨ c = 45 ∨ c = 42 ∨ c = 67 ∨ c = 63) ∨ c = 80 ∨ (c = 75 ∧ kk = true)) := by
  rw [Bool.eq_iff_iff, decide_eq_true_iff]
  cases kk
  · simp only [inSigs, sigs, Bool.false_eq_true, if_false, and_false, or_false, List.contains_iff_mem, List.mem_cons, List.not_mem_nil]
    constructor
    · rintro (h | h | h | h | h | h) <;> simp [h]
    · rintro ((h | h | h | h | h) | h) <;> simp [h]
  · simp only [inSigs, sigs, if_true, and_true, List.contains_iff_mem, List.mem_cons, List.not_mem_nil, or_false]
    constructor
    · rintro (h | h | h | h | h | h | h) <;> simp [h]
    · rintro ((h | h | h | h | h) | h | h) <;> simp [h]

/-! ### a sign beyond ASCII -/
theorem enc_high (r : Int) (h : 128 ≤ r) : (∃ x y : UInt8, Utf8.encode r = ⟨#[x, y]⟩ ∧ 128 ≤ y.toNat) ∨ (∃ x y z : UInt8, Utf8.encode r = ⟨#[x, y, z]⟩ ∧ 128 ≤ z.toNat) ∨ (∃ x y z u : UInt8, Utf8.encode r = ⟨#[x, y, z, u]⟩ ∧ 128 ≤ u.toNat) := by
  have hb : ∀ n : Nat, 128 ≤ (UInt8.ofNat (0x80 + n % 64)).toNat := fun n => by
    rw [UInt8.toNat_ofNat']; omega
  have hc : 128 ≤ (if Utf8.valid r then r.toNat else Utf8.runeError) := by
    split
    · omega
    · decide
  unfold Utf8.encode
  generalize (if Utf8.valid r then r.toNat else Utf8.runeError) = c at hc ⊢
  simp only
  rw [if_neg (by omega)]
  split
  · exact .inl ⟨_, _, rfl, hb _⟩
  · split
    · exact .inr (.inl ⟨_, _, _, rfl, hb _⟩)
    · exact .inr (.inr ⟨_, _, _, _, rfl, hb _⟩)

theorem index_none (t : ByteArray) (y : UInt8) (hy : 128 ≤ y.toNat) (ht : (t.data.toList.all fun b => decide (b.toNat < 128)) = true) (w : World) :
    Calls Tryz.prog 170 #[.string t, .int .u8 y.toNat] w fun e w' => e = .returned (.int .i64 (-1)) ∧ w' = w := by
  refine (Tryz.strings_IndexByte t y.toNat w).mono ?_
  rintro e w' ⟨rfl, rfl⟩
  have h1 : (y.toNat : Int).toNat.toUInt8 = y := by simp
  have h2 := index_has t.data.toList y
  have h3 : t.data.toList.contains y = false := by
    rw [Bool.eq_false_iff]
    intro h
    rw [List.contains_iff_mem] at h
    have := List.all_eq_true.1 ht y h
    simp at this; omega
  rw [h3, decide_eq_false_iff_not] at h2
  have h4 := Lib.indexByte_ge t.data.toList y
  rw [h1]
  exact ⟨ret_int (by omega), rfl⟩

theorem Kept.iterAt {B : Nat} {a w : World} (h : Kept B a w) {g : Nat} (hg : a.heap.size ≤ g) (hB : B ≤ g) (s : ByteArray) (p : Nat) : Kept B a (w.iterAt g s p) :=
  ⟨Lib.below_iterAt h.below hB s p, fun k t q hk => by
    have := (Array.getElem?_eq_some_iff.1 hk).1
    rw [Lib.iterAt_other _ _ _ _ _ (by omega)]; exact h.iter k t q hk⟩

set_option maxHeartbeats 1000000 in
set_option maxRecDepth 1000000 in
/-- strings.IndexRune at the rune that stands for what is none, over an ASCII text -/
theorem rune_error (s : ByteArray) (hs : (s.data.toList.all fun b => decide (b.toNat < 128)) = true) (w : World) :
    Calls Tryz.prog 169 #[.string s, .int .i32 65533] w fun e w' => e = .returned (.int .i64 (-1)) ∧ Kept w.heap.size w w' := by
  go_enter Tryz.func169, Tryz.ntmps169
  go_wp2_with fail
  go_loopw [] (fun wr => ∃ pos : Nat, wr.heap[w.heap.size]? = some (Obj.stringIter s pos) ∧ pos ≤ s.size ∧ Hid (Kept w.heap.size w wr)) (fun wr => s.size - wr.iterPos w.heap.size)
  case atStart => exact ⟨0, heap_alloc_new _ _, Nat.zero_le _, (Kept.refl _ _).alloc (Nat.le_refl _) _⟩
  case round =>
    obtain ⟨pos, hit, hpos, hb⟩ := hrel
    by_cases hp : pos < s.size
    · have hnx : ∀ ty, (Instr.next (.pointer (some ⟨w.heap.size, 0, none⟩)) true ty).run Tryz.prog wr = _ := fun ty => Lib.run_next_any_at wr w.heap.size s pos ty hit hp
      have hit2 := Lib.iterAt_heap wr w.heap.size s pos (pos + (Utf8.decode s pos).2) hit
      have ha : (s[pos]'hp).toNat < 128 := by
        have := List.all_eq_true.1 hs (s[pos]'hp) (by show s.data[pos] ∈ _; simp)
        simpa using this
      have hdec := decode_ascii s pos hp ha
      have hne : (((Utf8.decode s pos).1 : Int) == 65533) = false := by rw [hdec, beq_eq_false_iff_ne]; simp only; omega
      have HB2 := Lib.hid (hb.out.iterAt (g := w.heap.size) (Nat.le_refl _) (Nat.le_refl _) s (pos + (Utf8.decode s pos).2))
      have HD := Lib.hid (show (Utf8.decode s pos).2 = 1 by rw [hdec])
      clear hdec ha
      generalize Utf8.decode s pos = dd at *
      go_wp2_with fail
      go_roundw
      case rel => exact ⟨pos + dd.2, hit2, by rw [HD.out]; omega, HB2.out⟩
      case measure =>
        simp only [World.iterPos, hit2, hit]
        rw [HD.out]; omega
    · have hnx : ∀ ty, (Instr.next (.pointer (some ⟨w.heap.size, 0, none⟩)) true ty).run Tryz.prog wr = _ := fun ty => Lib.run_next_end_at wr w.heap.size s pos ty hit hp
      go_wp2_with fail
      go_ret
      exact ⟨rfl, hb.out⟩

theorem ne_u8 {c y : UInt8} (hc : c.toNat < 128) (hy : 128 ≤ y.toNat) : ((c.toNat : Int) == (y.toNat : Int)) = false := by
  rw [beq_eq_false_iff_ne]; omega

theorem ascii_piece {s : ByteArray} (hs : (s.data.toList.all fun b => decide (b.toNat < 128)) = true) (a e : Nat) : ((s.extract a e).data.toList.all fun b => decide (b.toNat < 128)) = true :=
  List.all_eq_true.2 fun b hb => List.all_eq_true.1 hs b (mem_extract hb)

set_option maxHeartbeats 2000000 in
set_option maxRecDepth 1000000 in
/-- strings.IndexRune of any other rune beyond ASCII over an ASCII text -/
theorem rune_high (s : ByteArray) (h6 : 6 ≤ s.size) (h7 : s.size ≤ 7) (hs : (s.data.toList.all fun b => decide (b.toNat < 128)) = true) (sg : Int) (h : 128 ≤ sg) (hne : (sg == 65533) = false) (w : World) :
    Calls Tryz.prog 169 #[.string s, .int .i32 sg] w fun e w' => e = .returned (.int .i64 (-1)) ∧ Kept w.heap.size w w' := by
  cases hv : Lib.validRune sg with
  | false =>
    have HV := Lib.hid (fun w => Tryz.utf8_ValidRune sg w)
    rw [hv] at HV
    clear hv
    go_enter Tryz.func169, Tryz.ntmps169
    go_wp2_with (go_at_call 171; refine (HV.out _).mono ?_; rintro e w' ⟨rfl, hw⟩; rw [hw])
    go_ret
    exact ⟨rfl, Kept.refl _ _⟩
  | true =>
    have HV := Lib.hid (fun w => Tryz.utf8_ValidRune sg w)
    rw [hv] at HV
    clear hv
    have q0 : ∀ (i : Nat) (hi : i < s.size) (y : UInt8), 128 ≤ y.toNat → (((s[i]'hi).toNat : Int) == (y.toNat : Int)) = false := fun i hi y hy => ne_u8 (by
      have := List.all_eq_true.1 hs (s[i]'hi) (by show s.data[i] ∈ _; simp)
      simpa using this) hy
    have HN := Lib.hid (fun (a e : Nat) (y : UInt8) hy w => index_none (s.extract a e) y hy (ascii_piece hs a e) w)
    have hcv : ∀ w, (convert 21 9 (.int .i32 sg)).run Tryz.prog w = .ok (.string (Utf8.encode sg)) w := fun w => run_convert_int_string w _ _ _ _ (by kernel_rfl) (by kernel_rfl)
    have hw2 : IntKind.i64.wrap 2 = 2 := by decide
    have hw3 : IntKind.i64.wrap 3 = 3 := by decide
    have hw4 : IntKind.i64.wrap 4 = 4 := by decide
    have hz2 : (2 : Int) ≤ s.size := by omega
    have hz3 : (3 : Int) ≤ s.size := by omega
    have hz4 : (4 : Int) ≤ s.size := by omega
    clear hs
    rcases enc_high sg h with ⟨x, y, he, hy⟩ | ⟨x, z, y, he, hy⟩ | ⟨x, z, u, y, he, hy⟩
    · have q : (((s[1]'(by omega)).toNat : Int) == (((({ data := #[x, y] } : ByteArray)[1]'(by show 1 < 2; omega)).toNat : Int))) = false := q0 1 (by omega) y hy
      have HY := Lib.hid hy
      clear q0 hy
      go_enter Tryz.func169, Tryz.ntmps169
      go_wp2_with (go_at_call 171; refine (HV.out _).mono ?_; rintro e w' ⟨rfl, hw⟩)
      go_step3
      go_wp2_with fail
      refine wp_loop_rounds 1 ?_
      rw [rounds_succ]
      go_wp2_with fail
      go_step3
      go_wp2_with fail
      go_quiet (fail)
      go_wp2_with fail
      go_quiet ((go_at_call 170; refine (HN.out 2 s.size y HY.out _).mono ?_; rintro e w2 ⟨rfl, rfl⟩; exact ⟨rfl, _, rfl⟩))
      go_wp2_with fail
      rw [Exit.noGoto_ret]
      change Exit.noGoto (Exit.inBlock 0 _) Exit.ret _ _
      rw [Exit.noGoto_ret]
      change Exit.noGoto _ Exit.ret _ _
      rw [Exit.noGoto_ret]
      change bodyPost Tryz.prog Tryz.f169 (fun e w' => e = Ending.returned (Value.int IntKind.i64 (-1)) ∧ Kept w.heap.size w w') Exit.ret _ _
      go_ret
      subst hw
      exact ⟨rfl, ⟨⟨rfl, rfl, rfl, Nat.le_refl _, fun _ _ => rfl⟩, fun _ _ _ h => h⟩⟩
    · have q : (((s[2]'(by omega)).toNat : Int) == (((({ data := #[x, z, y] } : ByteArray)[2]'(by show 2 < 3; omega)).toNat : Int))) = false := q0 2 (by omega) y hy
      have HY := Lib.hid hy
      clear q0 hy
      go_enter Tryz.func169, Tryz.ntmps169
      go_wp2_with (go_at_call 171; refine (HV.out _).mono ?_; rintro e w' ⟨rfl, hw⟩)
      go_step3
      go_wp2_with fail
      refine wp_loop_rounds 1 ?_
      rw [rounds_succ]
      go_wp2_with fail
      go_step3
      go_wp2_with fail
      go_quiet (fail)
      go_wp2_with fail
      go_quiet ((go_at_call 170; refine (HN.out 3 s.size y HY.out _).mono ?_; rintro e w2 ⟨rfl, rfl⟩; exact ⟨rfl, _, rfl⟩))
      go_wp2_with fail
      rw [Exit.noGoto_ret]
      change Exit.noGoto (Exit.inBlock 0 _) Exit.ret _ _
      rw [Exit.noGoto_ret]
      change Exit.noGoto _ Exit.ret _ _
      rw [Exit.noGoto_ret]
      change bodyPost Tryz.prog Tryz.f169 (fun e w' => e = Ending.returned (Value.int IntKind.i64 (-1)) ∧ Kept w.heap.size w w') Exit.ret _ _
      go_ret
      subst hw
      exact ⟨rfl, ⟨⟨rfl, rfl, rfl, Nat.le_refl _, fun _ _ => rfl⟩, fun _ _ _ h => h⟩⟩
    · have q : (((s[3]'(by omega)).toNat : Int) == (((({ data := #[x, z, u, y] } : ByteArray)[3]'(by show 3 < 4; omega)).toNat : Int))) = false := q0 3 (by omega) y hy
      have HY := Lib.hid hy
      clear q0 hy
      go_enter Tryz.func169, Tryz.ntmps169
      go_wp2_with (go_at_call 171; refine (HV.out _).mono ?_; rintro e w' ⟨rfl, hw⟩)
      go_step3
      go_wp2_with fail
      refine wp_loop_rounds 1 ?_
      rw [rounds_succ]
      go_wp2_with fail
      go_step3
      go_wp2_with fail
      go_quiet (fail)
      go_wp2_with fail
      go_quiet ((go_at_call 170; refine (HN.out 4 s.size y HY.out _).mono ?_; rintro e w2 ⟨rfl, rfl⟩; exact ⟨rfl, _, rfl⟩))
      go_wp2_with fail
      rw [Exit.noGoto_ret]
      change Exit.noGoto (Exit.inBlock 0 _) Exit.ret _ _
      rw [Exit.noGoto_ret]
      change Exit.noGoto _ Exit.ret _ _
      rw [Exit.noGoto_ret]
      change bodyPost Tryz.prog Tryz.f169 (fun e w' => e = Ending.returned (Value.int IntKind.i64 (-1)) ∧ Kept w.heap.size w w') Exit.ret _ _
      go_ret
      subst hw
      exact ⟨rfl, ⟨⟨rfl, rfl, rfl, Nat.le_refl _, fun _ _ => rfl⟩, fun _ _ _ h => h⟩⟩

set_option maxHeartbeats 400000 in
/-- strings.ContainsRune over the signs -/
theorem contains_sign (kk : Bool) (sg : Int) (c : UInt8) (hs : Sg sg c) (w : World) :
    Calls Tryz.prog 164 #[.string (sigs kk), .int .i32 sg] w fun e w' => e = .returned (.bool (inSigs kk c)) ∧ Kept w.heap.size w w' := by
  rcases hs with ⟨rfl, h⟩ | ⟨rfl, h⟩
  · refine (Tryz.strings_ContainsRune_ascii (sigs kk) c.toNat w (by omega) (by omega)).mono ?_
    rintro e w' ⟨rfl, rfl⟩
    have h1 : ((c.toNat : Int)).toNat.toUInt8 = c := by simp
    rw [h1, index_has]
    exact ⟨rfl, Kept.refl _ _⟩
  · have HR := Lib.hid (show Calls Tryz.prog 169 #[.string (sigs kk), .int .i32 sg] w fun e w' => e = .returned (.int .i64 (-1)) ∧ Kept w.heap.size w w' by
      cases hne : sg == 65533 with
      | true =>
        rw [beq_iff_eq] at hne
        subst hne
        exact rune_error _ (by cases kk <;> rfl) w
      | false => exact rune_high _ (by cases kk <;> decide) (by cases kk <;> decide) (by cases kk <;> rfl) sg h hne w)
    have HF := Lib.hid (show inSigs kk 128 = false by cases kk <;> rfl)
    generalize sigs kk = s at *
    go_enter Tryz.func164, Tryz.ntmps164
    go_wp2_with (go_at_call 169; refine HR.out.mono ?_; rintro e w' ⟨rfl, hK⟩)
    go_ret
    exact ⟨ret_bool HF.out.symm, by assumption⟩
end Go.Proofs.YtomodlllmbkndaaGreatDoor
namespace Go.Proofs.YtomodlllmbkndaaGreatDoor
open Go.RowKit Gram

/-- what becomes of the reader -/
def Done (kk : Bool) (B rb : Nat) (w : World) (o : Option St) (r : Ending) (w' : World) : Prop :=
  (match o with
    | some st' => r = .returned (.tuple #[]) ∧ RdS w' kk B rb st'
    | none => Panics r) ∧ Kept B w w'

theorem RdS.pend {w : World} {kk : Bool} {B rb : Nat} {st : St} (h : RdS w kk B rb st) (q : UInt8) : RdS (w.setCell ⟨rb, 2, none⟩ (.int .i32 q.toNat)) kk B rb { st with pend := q } ∧ Kept B w (w.setCell ⟨rb, 2, none⟩ (.int .i32 q.toNat)) := by
  obtain ⟨g, cap, e, t, S, hR, hu, ht, _⟩ := h.parts
  exact ⟨⟨_, _, _, _, hR.pend _, by simp [hu, ht]⟩, (Kept.refl B w).setCell hR.low _⟩
theorem RdS.cell1 {w : World} {kk : Bool} {B rb : Nat} {st : St} (h : RdS w kk B rb st) : w.cell? ⟨rb, 2, none⟩ = some (.int .i32 st.pend.toNat) := by
  obtain ⟨g, cap, e, t, S, hR, _⟩ := h.parts
  have := Lib.cell_of_heap hR.own 2
  simpa using this
theorem RdS.free1 {w : World} {kk : Bool} {B rb : Nat} {st : St} (h : RdS w kk B rb st) : w.frozen? ⟨rb, 2, none⟩ = false := by
  obtain ⟨g, cap, e, t, S, hR, _⟩ := h.parts
  exact Lib.frozen_of_heap hR.own 2
theorem adds_plain {w : World} {kk : Bool} {B rb : Nat} {st : St} (h : RdS w kk B rb st) (x : Stm) (v : Value) (hx : ∀ S, IsStm w S x v) (hl : st.rest.length ≤ 1000) (hn : st.top.list.length ≤ 1000) (hB : B ≤ w.heap.size) :
    Calls Tryz.prog 145 #[.pointer (some ⟨rb, 0, none⟩), v] w fun r w' => r = .returned (.tuple #[]) ∧ RdS w' kk B rb (st.add x) ∧ Kept B w w' := by
  obtain ⟨g, cap, e, t, S, hR, hu, ht, _⟩ := h.parts
  exact adds_any hR hu ht (hx S) hl hn hB

section
variable {w : World} {kk : Bool} {B rb : Nat} {st : St}

theorem RdS.kept {w' : World} (h : RdS w kk B rb st) (hK : Kept w.heap.size w w') : RdS w' kk B rb st := by
  obtain ⟨g, cap, ents, S, hR, hm⟩ := h
  exact ⟨g, cap, ents, S, hR.later (fun k hk => hK.below.block k hk), hm⟩
theorem RdS.cellS (h : RdS w kk B rb st) : w.cell? ⟨rb, 0, none⟩ = some (.string (sigs kk)) := by
  obtain ⟨g, cap, e, t, S, hR, _⟩ := h.parts
  have := Lib.cell_of_heap hR.own 0
  simpa using this

set_option maxHeartbeats 400000 in
/-- a sign that begins a statement of two parts -/
theorem begin_lit (h : RdS w kk B rb st) (hB : B ≤ w.heap.size) (d : UInt8) (hd : d = 43 ∨ d = 45 ∨ d = 42 ∨ d = 67 ∨ d = 63) :
    Calls Tryz.prog 148 #[.pointer (some ⟨rb, 0, none⟩), .int .i32 d.toNat] w fun r w' => r = .returned (.tuple #[]) ∧ RdS w' kk B rb { st with pend := d } ∧ Kept B w w' := by
  have hc0 := h.cellS
  have hin : inSigs kk d = true := by rcases hd with rfl | rfl | rfl | rfl | rfl <;> cases kk <;> rfl
  have HC := Lib.hid (contains_sign kk d.toNat d (.inl ⟨rfl, by rcases hd with rfl | rfl | rfl | rfl | rfl <;> decide⟩) w)
  rw [hin] at HC
  have HH := Lib.hid h
  have HB := Lib.hid hB
  clear h hin hB
  rcases hd with rfl | rfl | rfl | rfl | rfl
  all_goals
    go_enter Tryz.func148, Tryz.ntmps148
    go_wp2_with fail
    refine HC.out.mono ?_
    rintro e w' ⟨rfl, hK⟩
    have h' := HH.out.kept hK
    have hc := h'.cell1
    have hf := h'.free1
    have HP := Lib.hid (fun q => h'.pend q)
    have HK := Lib.hid hK
    clear h' hK
    go_wp2_with fail
    first | go_end0 | refine bodyPost_ret (results_none rfl _ _ _) rfl ?_
    first | exact ⟨rfl, (HP.out 43).1, (HK.out.mono HB.out).trans (HP.out 43).2⟩ | exact ⟨rfl, (HP.out 45).1, (HK.out.mono HB.out).trans (HP.out 45).2⟩ | exact ⟨rfl, (HP.out 42).1, (HK.out.mono HB.out).trans (HP.out 42).2⟩ | exact ⟨rfl, (HP.out 67).1, (HK.out.mono HB.out).trans (HP.out 67).2⟩ | exact ⟨rfl, (HP.out 63).1, (HK.out.mono HB.out).trans (HP.out 63).2⟩

set_option maxHeartbeats 400000 in
/-- a sign that is a statement -/
theorem begin_one (h : RdS w kk B rb st) (d : UInt8) (x : Stm) (hd : d = 80 ∧ x = .prt ∨ d = 75 ∧ x = .pro ∧ kk = true) (hl : st.rest.length ≤ 1000) (hn : st.top.list.length ≤ 1000) (hB : B ≤ w.heap.size) :
    Calls Tryz.prog 148 #[.pointer (some ⟨rb, 0, none⟩), .int .i32 d.toNat] w fun r w' => r = .returned (.tuple #[]) ∧ RdS w' kk B rb (st.add x) ∧ Kept B w w' := by
  have hc0 := h.cellS
  have hin : inSigs kk d = true := by rcases hd with ⟨rfl, _⟩ | ⟨rfl, _, rfl⟩ <;> first | rfl | (cases kk <;> rfl)
  have HC := Lib.hid (contains_sign kk d.toNat d (.inl ⟨rfl, by rcases hd with ⟨rfl, _⟩ | ⟨rfl, _⟩ <;> decide⟩) w)
  rw [hin] at HC
  have HH := Lib.hid h
  have HB := Lib.hid (⟨hB, hl, hn⟩ : _ ∧ _ ∧ _)
  clear h hin hB hl hn
  rcases hd with ⟨rfl, rfl⟩ | ⟨rfl, rfl, rfl⟩
  · go_enter Tryz.func148, Tryz.ntmps148
    go_wp2_with fail
    refine HC.out.mono ?_
    rintro e w' ⟨rfl, hK⟩
    have HK := Lib.hid hK
    have HA := Lib.hid (adds_plain (HH.out.kept hK) .prt _ (fun S => rfl) HB.out.2.1 HB.out.2.2 (Nat.le_trans HB.out.1 hK.below.size))
    clear hK
    go_wp2_with fail
    refine HA.out.mono ?_
    rintro e w'' ⟨rfl, hR, hb⟩
    go_wp2_with fail
    go_end0
    exact ⟨rfl, hR, (HK.out.mono HB.out.1).trans hb⟩
  · go_enter Tryz.func148, Tryz.ntmps148
    go_wp2_with fail
    refine HC.out.mono ?_
    rintro e w' ⟨rfl, hK⟩
    have HK := Lib.hid hK
    have HA := Lib.hid (adds_plain (HH.out.kept hK) .pro _ (fun S => rfl) HB.out.2.1 HB.out.2.2 (Nat.le_trans HB.out.1 hK.below.size))
    clear hK
    go_wp2_with fail
    refine HA.out.mono ?_
    rintro e w'' ⟨rfl, hR, hb⟩
    go_wp2_with fail
    go_end0
    exact ⟨rfl, hR, (HK.out.mono HB.out.1).trans hb⟩

set_option maxHeartbeats 400000 in
/-- a sign that begins nothing -/
theorem begin_bad (h : RdS w kk B rb st) (hB : B ≤ w.heap.size) (sg : Int) (c : UInt8) (hs : Sg sg c) (h3 : (sg == 93) = false) (hin : inSigs kk c = false) :
    Calls Tryz.prog 148 #[.pointer (some ⟨rb, 0, none⟩), .int .i32 sg] w fun r w' => Panics r ∧ Kept B w w' := by
  have hc0 := h.cellS
  have HC := Lib.hid (contains_sign kk sg c hs w)
  rw [hin] at HC
  have HB := Lib.hid hB
  clear h hB hs
  go_enter Tryz.func148, Tryz.ntmps148
  go_wp2_with fail
  refine HC.out.mono ?_
  rintro e w' ⟨rfl, hK⟩
  have HK := Lib.hid hK
  clear hK
  go_wp2_with fail
  exact ⟨rfl, ⟨_, _, rfl⟩, HK.out.mono HB.out⟩

theorem begin_none {k : Bool} {st : St} {c : UInt8} (h3 : c ≠ 93) (h : inSigs k c = false) : st.begin k c = none := by
  have hne : ∀ d : UInt8, inSigs k d = true → c ≠ d := fun d h1 h2 => by rw [h2, h1] at h; cases h
  have h1 : ¬ (c = 43 ∨ c = 45 ∨ c = 42 ∨ c = 67 ∨ c = 63) := by
    rintro (h | h | h | h | h)
    all_goals exact hne _ (by cases k <;> rfl) h
  rw [St.begin, if_neg h1, if_neg (hne 80 (by cases k <;> rfl)), if_neg h3, if_neg]
  rintro ⟨h5, rfl⟩
  exact hne 75 rfl h5

set_option maxHeartbeats 400000 in
theorem begin_any (h : RdS w kk B rb st) (hp : st.pend = 0) (sg : Int) (c : UInt8) (hs : Sg sg c) (hl : st.rest.length ≤ 900) (hn : st.top.list.length ≤ 1000) (hr : ∀ u ∈ st.rest, u.list.length ≤ 1000) (hB : B ≤ w.heap.size) :
    Calls Tryz.prog 148 #[.pointer (some ⟨rb, 0, none⟩), .int .i32 sg] w (Done kk B rb w (st.begin kk c)) := by
  have lit : ∀ d : UInt8, d.toNat < 128 → c = d → sg = d.toNat := fun d hd he => by
    rcases hs with ⟨a, _⟩ | ⟨a, _⟩
    · rw [a, he]
    · rw [he] at a; rw [a] at hd; exact absurd hd (by decide)
  by_cases h1 : c = 43 ∨ c = 45 ∨ c = 42 ∨ c = 67 ∨ c = 63
  · have hsg : sg = c.toNat := lit c (by rcases h1 with rfl | rfl | rfl | rfl | rfl <;> decide) rfl
    subst hsg
    refine (begin_lit h hB c h1).mono ?_
    rintro r w' ⟨a, b, d⟩
    exact ⟨by simp only [St.begin, if_pos h1]; exact ⟨a, b⟩, d⟩
  · by_cases h2 : c = 80
    · have hsg := lit 80 (by decide) h2
      subst hsg h2
      refine (begin_one h 80 .prt (.inl ⟨rfl, rfl⟩) (by omega) hn hB).mono ?_
      rintro r w' ⟨a, b, d⟩
      exact ⟨by rw [St.begin, if_neg h1, if_pos rfl]; exact ⟨a, b⟩, d⟩
    · by_cases h3 : c = 93
      · have hsg := lit 93 (by decide) h3
        subst hsg h3
        have e1 : st.begin kk 93 = st.close := by rw [St.begin, if_neg h1, if_neg h2, if_pos rfl]
        rw [e1]
        have HA := close_any h hp hl hr hB
        clear h e1 hs h1 h2 hp hr lit
        cases hcl : st.close with
        | none =>
          rw [hcl] at HA
          have HA := Lib.hid HA
          clear hcl
          go_enter Tryz.func148, Tryz.ntmps148
          go_wp2_with fail
          refine HA.out.mono ?_
          rintro e w' ⟨⟨u, pv, rfl⟩, hb⟩
          go_wp2_with fail
          exact ⟨rfl, ⟨_, _, rfl⟩, hb⟩
        | some st' =>
          rw [hcl] at HA
          have HA := Lib.hid HA
          clear hcl
          go_enter Tryz.func148, Tryz.ntmps148
          go_wp2_with fail
          refine HA.out.mono ?_
          rintro e w' ⟨⟨rfl, hR⟩, hb⟩
          go_wp2_with fail
          go_end0
          exact ⟨⟨rfl, hR⟩, hb⟩
      · by_cases h4 : c = 75 ∧ kk = true
        · have hsg := lit 75 (by decide) h4.1
          obtain ⟨rfl, hk⟩ := h4
          subst hsg
          refine (begin_one h 75 .pro (.inr ⟨rfl, rfl, hk⟩) (by omega) hn hB).mono ?_
          rintro r w' ⟨a, b, d⟩
          exact ⟨by rw [St.begin, if_neg h1, if_neg h2, if_neg h3, if_pos ⟨rfl, hk⟩]; exact ⟨a, b⟩, d⟩
        · have hin : inSigs kk c = false := by
            rw [inSigs_eq]
            simp only [decide_eq_false_iff_not]
            rintro (h | h | h)
            · exact h1 h
            · exact h2 h
            · exact h4 h
          rw [begin_none h3 hin]
          exact begin_bad h hB sg c hs (hs.ne (d := 93) (by decide) h3) hin
end
theorem Sg.dig {sg : Int} {c : UInt8} (h : Sg sg c) (hd : isDig c = true) : sg = c.toNat ∧ (48 : Int) ≤ c.toNat ∧ (c.toNat : Int) ≤ 57 := by
  rcases h with ⟨rfl, _⟩ | ⟨rfl, _⟩
  · rw [isDig_int] at hd; simp at hd; omega
  · exact absurd hd (by decide)
theorem Sg.nodig {sg : Int} {c : UInt8} (h : Sg sg c) (hd : ¬ isDig c = true) : sg < 48 ∨ 57 < sg := by
  rcases h with ⟨rfl, _⟩ | ⟨_, h⟩
  · rw [isDig_int] at hd; simp at hd; omega
  · omega
theorem Sg.let_ {sg : Int} {c : UInt8} (h : Sg sg c) (hd : isLet c = true) : sg = c.toNat ∧ (97 : Int) ≤ c.toNat ∧ (c.toNat : Int) ≤ 122 := by
  rcases h with ⟨rfl, _⟩ | ⟨rfl, _⟩
  · rw [isLet_int] at hd; simp at hd; omega
  · exact absurd hd (by decide)
theorem Sg.nolet {sg : Int} {c : UInt8} (h : Sg sg c) (hd : ¬ isLet c = true) : sg < 97 ∨ 122 < sg := by
  rcases h with ⟨rfl, _⟩ | ⟨_, h⟩
  · rw [isLet_int] at hd; simp at hd; omega
  · omega

section
variable {w : World} {kk : Bool} {B rb : Nat} {st : St}

set_option maxHeartbeats 400000 in
theorem take_sgn43 (h : RdS w kk B rb st) (hp : st.pend = 43) (sg : Int) (c : UInt8) (hs : Sg sg c) (hl : st.rest.length ≤ 900) (hn : st.top.list.length ≤ 900) (hB : B ≤ w.heap.size) :
    Calls Tryz.prog 123 #[.pointer (some ⟨rb, 0, none⟩), .int .i32 sg] w (Done kk B rb w (st.take kk c)) := by
  have hc := h.cell1
  have hf := h.free1
  obtain ⟨h0, hb0⟩ := h.pend 0
  rw [hp] at hc
  by_cases hd : isDig c = true
  · obtain ⟨rfl, hlo, hhi⟩ := hs.dig hd
    have HT := Lib.hid (show st.take kk c = some (St.add { st with pend := 0 } (.chg 43 c)) by
      rw [St.take, hp, if_pos (by decide), if_pos hd])
    have HA := Lib.hid (adds_plain h0 (.chg 43 c) _ (fun S => rfl) (by simpa using Nat.le_trans hl (by omega)) (by simpa using Nat.le_trans hn (by omega)) (by simp [World.setCell]; omega))
    have HB := Lib.hid hb0
    clear h h0 hb0 hd hs hp
    go_enter Tryz.func123, Tryz.ntmps123
    go_wp2_with (go_at_call 146; refine (between_yes _ _ _ (by omega) (by omega) (by omega) (by omega) _).mono ?_; rintro e w' ⟨rfl, rfl⟩)
    refine HA.out.mono ?_
    rintro e w' ⟨rfl, hR, hb⟩
    go_wp2_with fail
    go_end0
    exact ⟨by rw [HT.out]; exact ⟨rfl, hR⟩, HB.out.trans hb⟩
  · have HT := Lib.hid (show st.take kk c = none by
      rw [St.take, hp, if_pos (by decide), if_neg hd])
    have hno := Lib.hid (hs.nodig hd)
    have HB := Lib.hid hb0
    clear h h0 hb0 hd hs hp
    go_enter Tryz.func123, Tryz.ntmps123
    go_wp2_with fail
    refine (between_no _ _ _ hno.out _).mono ?_
    rintro e w' ⟨⟨u, pv, rfl⟩, rfl⟩
    go_wp2_with fail
    exact ⟨rfl, by rw [HT.out]; exact ⟨_, _, rfl⟩, HB.out⟩

set_option maxHeartbeats 400000 in
theorem take_sgn45 (h : RdS w kk B rb st) (hp : st.pend = 45) (sg : Int) (c : UInt8) (hs : Sg sg c) (hl : st.rest.length ≤ 900) (hn : st.top.list.length ≤ 900) (hB : B ≤ w.heap.size) :
    Calls Tryz.prog 123 #[.pointer (some ⟨rb, 0, none⟩), .int .i32 sg] w (Done kk B rb w (st.take kk c)) := by
  have hc := h.cell1
  have hf := h.free1
  obtain ⟨h0, hb0⟩ := h.pend 0
  rw [hp] at hc
  by_cases hd : isDig c = true
  · obtain ⟨rfl, hlo, hhi⟩ := hs.dig hd
    have HT := Lib.hid (show st.take kk c = some (St.add { st with pend := 0 } (.chg 45 c)) by
      rw [St.take, hp, if_pos (by decide), if_pos hd])
    have HA := Lib.hid (adds_plain h0 (.chg 45 c) _ (fun S => rfl) (by simpa using Nat.le_trans hl (by omega)) (by simpa using Nat.le_trans hn (by omega)) (by simp [World.setCell]; omega))
    have HB := Lib.hid hb0
    clear h h0 hb0 hd hs hp
    go_enter Tryz.func123, Tryz.ntmps123
    go_wp2_with (go_at_call 146; refine (between_yes _ _ _ (by omega) (by omega) (by omega) (by omega) _).mono ?_; rintro e w' ⟨rfl, rfl⟩)
    refine HA.out.mono ?_
    rintro e w' ⟨rfl, hR, hb⟩
    go_wp2_with fail
    go_end0
    exact ⟨by rw [HT.out]; exact ⟨rfl, hR⟩, HB.out.trans hb⟩
  · have HT := Lib.hid (show st.take kk c = none by
      rw [St.take, hp, if_pos (by decide), if_neg hd])
    have hno := Lib.hid (hs.nodig hd)
    have HB := Lib.hid hb0
    clear h h0 hb0 hd hs hp
    go_enter Tryz.func123, Tryz.ntmps123
    go_wp2_with fail
    refine (between_no _ _ _ hno.out _).mono ?_
    rintro e w' ⟨⟨u, pv, rfl⟩, rfl⟩
    go_wp2_with fail
    exact ⟨rfl, by rw [HT.out]; exact ⟨_, _, rfl⟩, HB.out⟩

set_option maxHeartbeats 400000 in
theorem take_sgn42 (h : RdS w kk B rb st) (hp : st.pend = 42) (sg : Int) (c : UInt8) (hs : Sg sg c) (hl : st.rest.length ≤ 900) (hn : st.top.list.length ≤ 900) (hB : B ≤ w.heap.size) :
    Calls Tryz.prog 123 #[.pointer (some ⟨rb, 0, none⟩), .int .i32 sg] w (Done kk B rb w (st.take kk c)) := by
  have hc := h.cell1
  have hf := h.free1
  obtain ⟨h0, hb0⟩ := h.pend 0
  rw [hp] at hc
  by_cases hd : isDig c = true
  · obtain ⟨rfl, hlo, hhi⟩ := hs.dig hd
    have HT := Lib.hid (show st.take kk c = some (St.add { st with pend := 0 } (.chg 42 c)) by
      rw [St.take, hp, if_pos (by decide), if_pos hd])
    have HA := Lib.hid (adds_plain h0 (.chg 42 c) _ (fun S => rfl) (by simpa using Nat.le_trans hl (by omega)) (by simpa using Nat.le_trans hn (by omega)) (by simp [World.setCell]; omega))
    have HB := Lib.hid hb0
    clear h h0 hb0 hd hs hp
    go_enter Tryz.func123, Tryz.ntmps123
    go_wp2_with (go_at_call 146; refine (between_yes _ _ _ (by omega) (by omega) (by omega) (by omega) _).mono ?_; rintro e w' ⟨rfl, rfl⟩)
    refine HA.out.mono ?_
    rintro e w' ⟨rfl, hR, hb⟩
    go_wp2_with fail
    go_end0
    exact ⟨by rw [HT.out]; exact ⟨rfl, hR⟩, HB.out.trans hb⟩
  · have HT := Lib.hid (show st.take kk c = none by
      rw [St.take, hp, if_pos (by decide), if_neg hd])
    have hno := Lib.hid (hs.nodig hd)
    have HB := Lib.hid hb0
    clear h h0 hb0 hd hs hp
    go_enter Tryz.func123, Tryz.ntmps123
    go_wp2_with fail
    refine (between_no _ _ _ hno.out _).mono ?_
    rintro e w' ⟨⟨u, pv, rfl⟩, rfl⟩
    go_wp2_with fail
    exact ⟨rfl, by rw [HT.out]; exact ⟨_, _, rfl⟩, HB.out⟩

set_option maxHeartbeats 400000 in
theorem take_call (h : RdS w kk B rb st) (hp : st.pend = 67) (sg : Int) (c : UInt8) (hs : Sg sg c) (hl : st.rest.length ≤ 900) (hn : st.top.list.length ≤ 900) (hB : B ≤ w.heap.size) :
    Calls Tryz.prog 123 #[.pointer (some ⟨rb, 0, none⟩), .int .i32 sg] w (Done kk B rb w (st.take kk c)) := by
  have hc := h.cell1
  have hf := h.free1
  obtain ⟨h0, hb0⟩ := h.pend 0
  rw [hp] at hc
  by_cases hd : isLet c = true
  · obtain ⟨rfl, hlo, hhi⟩ := hs.let_ hd
    have HT := Lib.hid (show st.take kk c = some (St.add { st with pend := 0 } (.call c)) by
      rw [St.take, hp, if_neg (by decide), if_pos rfl, if_pos hd])
    have HA := Lib.hid (adds_plain h0 (.call c) _ (fun S => rfl) (by simpa using Nat.le_trans hl (by omega)) (by simpa using Nat.le_trans hn (by omega)) (by simp [World.setCell]; omega))
    have HB := Lib.hid hb0
    clear h h0 hb0 hd hs hp
    go_enter Tryz.func123, Tryz.ntmps123
    go_wp2_with (go_at_call 146; refine (between_yes _ _ _ (by omega) (by omega) (by omega) (by omega) _).mono ?_; rintro e w' ⟨rfl, rfl⟩)
    refine HA.out.mono ?_
    rintro e w' ⟨rfl, hR, hb⟩
    go_wp2_with fail
    go_end0
    exact ⟨by rw [HT.out]; exact ⟨rfl, hR⟩, HB.out.trans hb⟩
  · have HT := Lib.hid (show st.take kk c = none by
      rw [St.take, hp, if_neg (by decide), if_pos rfl, if_neg hd])
    have hno := Lib.hid (hs.nolet hd)
    have HB := Lib.hid hb0
    clear h h0 hb0 hd hs hp
    go_enter Tryz.func123, Tryz.ntmps123
    go_wp2_with fail
    refine (between_no _ _ _ hno.out _).mono ?_
    rintro e w' ⟨⟨u, pv, rfl⟩, rfl⟩
    go_wp2_with fail
    exact ⟨rfl, by rw [HT.out]; exact ⟨_, _, rfl⟩, HB.out⟩

set_option maxHeartbeats 400000 in
theorem take_ask (h : RdS w kk B rb st) (hp : st.pend = 63) (sg : Int) (c : UInt8) (hs : Sg sg c) (hl : st.rest.length ≤ 900) (hB : B ≤ w.heap.size) :
    Calls Tryz.prog 123 #[.pointer (some ⟨rb, 0, none⟩), .int .i32 sg] w (Done kk B rb w (st.take kk c)) := by
  have hc := h.cell1
  have hf := h.free1
  obtain ⟨h0, hb0⟩ := h.pend 0
  rw [hp] at hc
  by_cases hd : c = 91
  · have hsg : sg = 91 := by
      rcases hs with ⟨a, _⟩ | ⟨a, _⟩
      · rw [a, hd]; rfl
      · rw [hd] at a; cases a
    subst hsg
    have HT := Lib.hid (show st.take kk c = some (St.openB { st with pend := 0 } 63) by
      rw [St.take, hp, if_neg (by decide), if_neg (by decide), if_pos (by decide), if_pos hd])
    have HA := Lib.hid (push_any h0 (by simpa using hl) (by simp [World.setCell]; omega))
    have HB := Lib.hid hb0
    clear h h0 hb0 hd hs hp
    go_enter Tryz.func123, Tryz.ntmps123
    go_wp2_with (go_at_call 146; refine (between_yes _ _ _ (by omega) (by omega) (by omega) (by omega) _).mono ?_; rintro e w' ⟨rfl, rfl⟩)
    refine HA.out.mono ?_
    rintro e w' ⟨rfl, hR, hb⟩
    go_wp2_with fail
    go_end0
    exact ⟨by rw [HT.out]; exact ⟨rfl, hR⟩, HB.out.trans hb⟩
  · have HT := Lib.hid (show st.take kk c = none by
      rw [St.take, hp, if_neg (by decide), if_neg (by decide), if_pos (by decide), if_neg hd])
    have hno := Lib.hid (show sg < 91 ∨ 91 < sg by
      rcases hs with ⟨a, _⟩ | ⟨_, a⟩
      · have : c.toNat ≠ 91 := fun e => hd (UInt8.toNat.inj e)
        omega
      · omega)
    have HB := Lib.hid hb0
    clear h h0 hb0 hd hs hp
    go_enter Tryz.func123, Tryz.ntmps123
    go_wp2_with fail
    refine (between_no _ _ _ hno.out _).mono ?_
    rintro e w' ⟨⟨u, pv, rfl⟩, rfl⟩
    go_wp2_with fail
    exact ⟨rfl, by rw [HT.out]; exact ⟨_, _, rfl⟩, HB.out⟩

set_option maxHeartbeats 400000 in
theorem take_shut (h : RdS w kk B rb st) (hp : st.pend = 93) (sg : Int) (c : UInt8) (hs : Sg sg c) (hl : st.rest.length ≤ 900) (hB : B ≤ w.heap.size) :
    Calls Tryz.prog 123 #[.pointer (some ⟨rb, 0, none⟩), .int .i32 sg] w (Done kk B rb w (st.take kk c)) := by
  have hc := h.cell1
  have hf := h.free1
  obtain ⟨h0, hb0⟩ := h.pend 0
  rw [hp] at hc
  by_cases hd : c = 91
  · have hsg : sg = 91 := by
      rcases hs with ⟨a, _⟩ | ⟨a, _⟩
      · rw [a, hd]; rfl
      · rw [hd] at a; cases a
    subst hsg
    have HT := Lib.hid (show st.take kk c = some (St.openB { st with pend := 0 } 93) by
      rw [St.take, hp, if_neg (by decide), if_neg (by decide), if_pos (by decide), if_pos hd])
    have HA := Lib.hid (second_any h0 (by simpa using hl) (by simp [World.setCell]; omega))
    have HB := Lib.hid hb0
    clear h h0 hb0 hd hs hp
    go_enter Tryz.func123, Tryz.ntmps123
    go_wp2_with (go_at_call 146; refine (between_yes _ _ _ (by omega) (by omega) (by omega) (by omega) _).mono ?_; rintro e w' ⟨rfl, rfl⟩)
    refine HA.out.mono ?_
    rintro e w' ⟨rfl, hR, hb⟩
    go_wp2_with fail
    go_end0
    exact ⟨by rw [HT.out]; exact ⟨rfl, hR⟩, HB.out.trans hb⟩
  · have HT := Lib.hid (show st.take kk c = none by
      rw [St.take, hp, if_neg (by decide), if_neg (by decide), if_pos (by decide), if_neg hd])
    have hno := Lib.hid (show sg < 91 ∨ 91 < sg by
      rcases hs with ⟨a, _⟩ | ⟨_, a⟩
      · have : c.toNat ≠ 91 := fun e => hd (UInt8.toNat.inj e)
        omega
      · omega)
    have HB := Lib.hid hb0
    clear h h0 hb0 hd hs hp
    go_enter Tryz.func123, Tryz.ntmps123
    go_wp2_with fail
    refine (between_no _ _ _ hno.out _).mono ?_
    rintro e w' ⟨⟨u, pv, rfl⟩, rfl⟩
    go_wp2_with fail
    exact ⟨rfl, by rw [HT.out]; exact ⟨_, _, rfl⟩, HB.out⟩

set_option maxHeartbeats 400000 in
theorem take_zero (h : RdS w kk B rb st) (hp : st.pend = 0) (sg : Int) (c : UInt8) (hs : Sg sg c) (hl : st.rest.length ≤ 900) (hn : st.top.list.length ≤ 900) (hr : ∀ u ∈ st.rest, u.list.length ≤ 1000) (hB : B ≤ w.heap.size) :
    Calls Tryz.prog 123 #[.pointer (some ⟨rb, 0, none⟩), .int .i32 sg] w (Done kk B rb w (st.take kk c)) := by
  have hc := h.cell1
  have hf := h.free1
  obtain ⟨h0, hb0⟩ := h.pend 0
  rw [hp] at hc
  have est : ({ st with pend := 0 } : St) = st := by cases st; simp at hp; simp [hp]
  have HT := Lib.hid (show st.take kk c = st.begin kk c by
    rw [St.take, hp, if_neg (by decide), if_neg (by decide), if_neg (by decide), est])
  have HA := Lib.hid (begin_any h0 rfl sg c hs (by simpa using hl) (by simpa using Nat.le_trans hn (by omega)) (by simpa using hr) (by simp [World.setCell]; omega))
  rw [est] at HA
  have HB := Lib.hid hb0
  clear h h0 hb0 hs hp hr est
  cases hbe : st.begin kk c with
  | none =>
    rw [hbe] at HA HT
    clear hbe
    go_enter Tryz.func123, Tryz.ntmps123
    go_wp2_with fail
    refine HA.out.mono ?_
    rintro e w' ⟨⟨u, pv, rfl⟩, hb⟩
    go_wp2_with fail
    exact ⟨rfl, by rw [HT.out]; exact ⟨_, _, rfl⟩, HB.out.trans hb⟩
  | some st' =>
    rw [hbe] at HA HT
    clear hbe
    go_enter Tryz.func123, Tryz.ntmps123
    go_wp2_with fail
    refine HA.out.mono ?_
    rintro e w' ⟨⟨rfl, hR⟩, hb⟩
    go_wp2_with fail
    go_end0
    exact ⟨by rw [HT.out]; exact ⟨rfl, hR⟩, HB.out.trans hb⟩

theorem take_any (h : RdS w kk B rb st) (hok : st.ok kk) (sg : Int) (c : UInt8) (hs : Sg sg c) (hl : st.rest.length ≤ 900) (hn : st.top.list.length ≤ 900) (hr : ∀ u ∈ st.rest, u.list.length ≤ 1000) (hB : B ≤ w.heap.size) :
    Calls Tryz.prog 123 #[.pointer (some ⟨rb, 0, none⟩), .int .i32 sg] w (Done kk B rb w (st.take kk c)) := by
  rcases hok.sign with hp | hp | hp | hp | hp
  · exact take_zero h hp sg c hs hl hn hr hB
  · simp [isSgn] at hp
    rcases hp with (hp | hp) | hp
    · exact take_sgn43 h hp sg c hs hl hn hB
    · exact take_sgn45 h hp sg c hs hl hn hB
    · exact take_sgn42 h hp sg c hs hl hn hB
  · exact take_call h hp sg c hs hl hn hB
  · exact take_ask h hp sg c hs hl hB
  · exact take_shut h hp sg c hs hl hB
end
end Go.Proofs.YtomodlllmbkndaaGreatDoor
namespace Go.Proofs.YtomodlllmbkndaaGreatDoor
open Go.RowKit Gram

theorem St.take_high {k : Bool} {st : St} (h : st.ok k) (c : UInt8) (hc : 128 ≤ c.toNat) : st.take k c = none := by
  have hd : isDig c = false := by rw [isDig_int]; simp; omega
  have hl : isLet c = false := by rw [isLet_int]; simp; omega
  have hne : ∀ d : UInt8, d.toNat < 128 → c ≠ d := fun d h e => by rw [e] at hc; omega
  unfold St.take
  rcases h.sign with hp | hp | hp | hp | hp
  · rw [hp, if_neg (by decide), if_neg (by decide), if_neg (by decide)]
    unfold St.begin
    rw [if_neg (by
      rintro (h | h | h | h | h)
      · exact hne 43 (by decide) h
      · exact hne 45 (by decide) h
      · exact hne 42 (by decide) h
      · exact hne 67 (by decide) h
      · exact hne 63 (by decide) h), if_neg (hne 80 (by decide)), if_neg (hne 93 (by decide)), if_neg (fun h => hne 75 (by decide) h.1)]
  · rw [if_pos hp, hd]; rfl
  · rw [hp, if_neg (by decide), if_pos rfl, hl]; rfl
  · rw [hp, if_neg (by decide), if_neg (by decide), if_pos (by decide), if_neg (hne 91 (by decide))]
  · rw [hp, if_neg (by decide), if_neg (by decide), if_pos (by decide), if_neg (hne 91 (by decide))]

theorem txts_ge (xs : List Stm) : xs.length ≤ (txts xs).length := by
  induction xs with
  | nil => simp [txts]
  | cons x xs ih => have := x.txt_len; simp [txts]; omega
theorem textOf_ge (u : Unf) (us : List Unf) : u.list.length ≤ (textOf u us).length ∧ us.length ≤ (textOf u us).length ∧ ∀ v ∈ us, v.list.length ≤ (textOf u us).length := by
  induction us generalizing u with
  | nil => exact ⟨txts_ge _, Nat.zero_le _, fun v hv => by cases hv⟩
  | cons v vs ih =>
    obtain ⟨h1, h2, h3⟩ := ih v
    have hu : u.list.length + 1 ≤ u.text.length := by
      have := txts_ge u.list
      unfold Unf.text
      split <;> simp <;> omega
    simp only [textOf, List.length_append]
    refine ⟨by omega, by simp; omega, ?_⟩
    intro x hx
    rcases List.mem_cons.1 hx with rfl | hx
    · omega
    · have := h3 x hx; omega
theorem St.text_ge (st : St) : st.top.list.length ≤ st.text.length ∧ st.rest.length ≤ st.text.length ∧ ∀ v ∈ st.rest, v.list.length ≤ st.text.length := by
  obtain ⟨h1, h2, h3⟩ := textOf_ge st.top st.rest
  simp only [St.text, List.length_append]
  exact ⟨by omega, by omega, fun v hv => by have := h3 v hv; omega⟩

/-- what lay in cells stays: the reader stays -/
theorem Rd.cells_same {w w' : World} {kk : Bool} {B rb g cap : Nat} {p : Int} {ents : List Ent} {S : Nat → Prop} (h : Rd w kk B rb p g cap ents S)
    (hk : ∀ (k : Nat) c e f, w.heap[k]? = some (Obj.cells c e f) → w'.heap[k]? = some (Obj.cells c e f)) : Rd w' kk B rb p g cap ents S := by
  obtain ⟨cur, hcur, _⟩ := row_cur h.row
  refine ⟨hk _ _ _ _ h.own, h.low, ownsRow_of h.row fun k hk' => ?_, ?_, h.parted, ?_⟩
  · simp [Value.ownBlock] at hk'; subst hk'; rw [hcur]; exact hk _ _ _ _ hcur
  · intro e hm
    have he := h.each e hm
    refine he.kept (fun k hk' => ?_) (fun _ h => h) he.2.2.1
    rcases hk' with h1 | h1
    · obtain ⟨_, cur, fz, h2⟩ := h.set k h1; rw [h2]; exact hk _ _ _ _ h2
    · obtain ⟨⟨vs, a, _⟩, _⟩ := he
      rcases a.2 with ⟨hv, _⟩ | ⟨g2, cap2, cur2, hv, _, hg2, _⟩
      · rw [hv] at h1; cases h1
      · rw [hv] at h1; simp [Value.ownBlock] at h1; subst h1; rw [hg2]; exact hk _ _ _ _ hg2
  · intro k hS
    obtain ⟨a, cur, fz, h2⟩ := h.set k hS
    exact ⟨a, cur, fz, hk _ _ _ _ h2⟩
theorem RdS.iterAt {w : World} {kk : Bool} {B rb : Nat} {st : St} (h : RdS w kk B rb st) {k : Nat} {s : ByteArray} {pos : Nat} (hk : w.heap[k]? = some (.stringIter s pos)) (pos' : Nat) : RdS (w.iterAt k s pos') kk B rb st := by
  obtain ⟨g, cap, ents, S, hR, hm⟩ := h
  refine ⟨g, cap, ents, S, hR.cells_same (fun j c e f hj => ?_), hm⟩
  rw [Lib.iterAt_other _ _ _ _ _ (by rintro rfl; rw [hk] at hj; cases hj)]
  exact hj

set_option maxHeartbeats 400000 in
theorem finish_yes (w : World) (rb g cap : Nat) (v : Value) (h1 : w.cell? ⟨rb, 1, none⟩ = some (.slice (some ⟨g, 0, none⟩) 1 cap)) (h2 : w.cell? ⟨rb, 2, none⟩ = some (.int .i32 0))
    (h3 : w.cell? ⟨g, 0, none⟩ = some v) :
    Calls Tryz.prog 124 #[.pointer (some ⟨rb, 0, none⟩)] w fun r w' => r = .returned v ∧ w = w' := by
  go_enter Tryz.func124, Tryz.ntmps124
  go_wp2_with fail
  go_ret
  exact ⟨rfl, rfl⟩
set_option maxHeartbeats 400000 in
theorem finish_pend (w : World) (rb g cap n : Nat) (q : Int) (h1 : w.cell? ⟨rb, 1, none⟩ = some (.slice (some ⟨g, 0, none⟩) n cap)) (h2 : w.cell? ⟨rb, 2, none⟩ = some (.int .i32 q))
    (h3 : (q == 0) = false) :
    Calls Tryz.prog 124 #[.pointer (some ⟨rb, 0, none⟩)] w fun r w' => Panics r ∧ w = w' := by
  go_enter Tryz.func124, Tryz.ntmps124
  go_wp2_with fail
  exact ⟨rfl, ⟨_, _, rfl⟩, rfl⟩
set_option maxHeartbeats 400000 in
theorem finish_open (w : World) (rb g cap n : Nat) (h1 : w.cell? ⟨rb, 1, none⟩ = some (.slice (some ⟨g, 0, none⟩) n cap)) (h2 : w.cell? ⟨rb, 2, none⟩ = some (.int .i32 0))
    (h3 : ((n : Int) == 1) = false) :
    Calls Tryz.prog 124 #[.pointer (some ⟨rb, 0, none⟩)] w fun r w' => Panics r ∧ w = w' := by
  go_enter Tryz.func124, Tryz.ntmps124
  go_wp2_with fail
  exact ⟨rfl, ⟨_, _, rfl⟩, rfl⟩

theorem finish_any {w : World} {kk : Bool} {B rb : Nat} {st : St} (h : RdS w kk B rb st) :
    Calls Tryz.prog 124 #[.pointer (some ⟨rb, 0, none⟩)] w fun r w' => (match st.finish with
      | some xs => ∃ v S, r = .returned v ∧ IsBody w S xs v ∧ ∀ k, S k → B ≤ k ∧ ∃ cur fz, w.heap[k]? = some (.cells cur 139 fz)
      | none => Panics r) ∧ w = w' := by
  have hc1 := h.cell1
  obtain ⟨g, cap, e, t, S, hR, hu, ht, hlen⟩ := h.parts
  have hc0 : w.cell? ⟨rb, 1, none⟩ = some (.slice (some ⟨g, 0, none⟩) (t.length + 1) cap) := by
    have := Lib.cell_of_heap hR.own 1
    simpa using this
  by_cases hp : st.pend = 0
  · rw [hp] at hc1
    cases t with
    | nil =>
      refine (finish_yes w rb g cap e.lv hc0 hc1 ?_).mono ?_
      · exact row_cell hR.row _ _ (cellsOf_get e []).1
      · rintro r w' ⟨h1, h2⟩
        refine ⟨?_, h2⟩
        have hf : st.finish = some st.top.list := by
          rw [St.finish, if_pos ⟨hp, by rw [← ht]; rfl⟩]
        rw [hf]
        refine ⟨_, _, h1, by rw [← hu]; exact hR.body, fun k hk => (hR.with_set k hk).2.2⟩
    | cons f t =>
      refine (finish_open w rb g cap (t.length + 1 + 1) hc0 hc1 (by rw [beq_eq_false_iff_ne]; omega)).mono ?_
      rintro r w' ⟨h1, h2⟩
      refine ⟨?_, h2⟩
      have hf : st.finish = none := by
        rw [St.finish, if_neg (by rintro ⟨_, h⟩; rw [← ht] at h; simp at h)]
      rw [hf]; exact h1
  · refine (finish_pend w rb g cap (t.length + 1) _ hc0 hc1 ?_).mono ?_
    · exact ne_int (d := 0) hp
    · rintro r w' ⟨h1, h2⟩
      refine ⟨?_, h2⟩
      have hf : st.finish = none := by rw [St.finish, if_neg (fun h => hp h.1)]
      rw [hf]; exact h1

/-- the deferred literal: of a body that panics, and of one that returns -/
theorem catch_panicking (p q : Addr) (x y : Value) (u : TypeId) (pv : Value) (older : List PanicEntry) (w : World) (hc : w.cell? p = some x) (hz : w.frozen? p = false) (hd : ∀ v, (w.setCell p v).cell? q = some y) (hy : ∀ v, (w.setCell p v).frozen? q = false) :
    CallsD Tryz.prog 122 #[.pointer (some p), .pointer (some q)] (.panicking ({ v := .iface u pv, recovered := false } :: older)) w fun e u' w' =>
      e = .returned (.tuple #[]) ∧ u' = .panicking ({ v := .iface u pv, recovered := true } :: older) ∧ w' = (w.setCell p (.slice none 0 0)).setCell q (.bool false) := by
  refine callsD_of_wpS Tryz.func122 rfl fun c₀ cs hu => ?_
  apply wpS_seq
  apply wpS_region
  simp [wpOpsS, go_sem, recoverD, hu, Tryz.ntmps122, Exit.thenS]
  refine wpS_cond (t := true) (by simp [Act.eval, Array.replicate]) ?_
  simp only [if_true]
  apply wpS_region
  simp [wpOpsS, go_sem, hc, hz, hd, hy, bodyPostS, results, Tryz.results122]

theorem catch_idle (p q : Addr) (w : World) :
    CallsD Tryz.prog 122 #[.pointer (some p), .pointer (some q)] .returning w fun e u' w' => e = .returned (.tuple #[]) ∧ u' = .returning ∧ w' = w := by
  refine callsD_of_wpS Tryz.func122 rfl fun c₀ cs hu => ?_
  apply wpS_seq
  apply wpS_region
  simp [wpOpsS, go_sem, recoverD, hu, Tryz.ntmps122, Exit.thenS]
  refine wpS_cond (t := false) (by simp [Act.eval, Array.replicate]) ?_
  simp only [Bool.false_eq_true, if_false]
  refine wpS_of_wp (wp_skip ?_)
  cases c₀
  simp_all [bodyPostS, results, Tryz.results122]

set_option maxHeartbeats 400000 in
theorem read_long (s : ByteArray) (most : Nat) (kk : Bool) (w : World) (hs : most < s.size) (_hm : s.size ≤ 1073741824) :
    Calls Tryz.prog 99 #[.string s, .int .i64 most, .string (sigs kk)] w fun r w' => r = .returned (.tuple #[.slice none 0 0, .bool false]) ∧ Below w.heap.size w w' := by
  have hmf : ∀ (fn : Fn) (first cap : Array Value) (w : World), (Instr.makeFunc fn first cap).run Tryz.prog w = .ok (.func fn first cap) w := fun _ _ _ _ => rfl
  go_enter_defers Tryz.func99, Tryz.ntmps99
  go_wp2_with fail
  refine leaves_cons (f := 122) (args := #[.pointer (some ⟨w.heap.size, 0, none⟩), .pointer (some ⟨w.heap.size + 1, 0, none⟩)]) (by simp) (by simp [go_sem]) ?_
  refine (catch_idle _ _ _).mono ?_
  rintro e u' w'' ⟨rfl, rfl, rfl⟩
  refine ⟨.tuple #[.slice none 0 0, .bool false], ?_, rfl, ?_⟩
  · simp [results, Tryz.results99, go_sem]
  · exact ((Below.refl _ _).alloc (Nat.le_refl _) _).alloc (by simp) _

theorem heap5 (a : Array Obj) (x0 x1 x2 x3 x4 : Obj) :
    (((((a.push x0).push x1).push x2).push x3).push x4)[a.size]? = some x0 ∧ (((((a.push x0).push x1).push x2).push x3).push x4)[a.size + 1]? = some x1 ∧
    (((((a.push x0).push x1).push x2).push x3).push x4)[a.size + 1 + 1]? = some x2 ∧ (((((a.push x0).push x1).push x2).push x3).push x4)[a.size + 1 + 1 + 1]? = some x3 ∧
    (((((a.push x0).push x1).push x2).push x3).push x4)[a.size + 1 + 1 + 1 + 1]? = some x4 := by
  have old : ∀ (b : Array Obj) (x : Obj) (k : Nat), k < b.size → (b.push x)[k]? = b[k]? := fun b x k h => by rw [Array.getElem?_push, if_neg (by omega)]
  have new : ∀ (b : Array Obj) (x : Obj) (k : Nat), k = b.size → (b.push x)[k]? = some x := fun b x k h => by subst h; simp
  refine ⟨?_, ?_, ?_, ?_, ?_⟩
  · rw [old _ _ _ (by simp; omega), old _ _ _ (by simp; omega), old _ _ _ (by simp; omega), old _ _ _ (by simp), new _ _ _ rfl]
  · rw [old _ _ _ (by simp), old _ _ _ (by simp), old _ _ _ (by simp), new _ _ _ (by simp)]
  · rw [old _ _ _ (by simp), old _ _ _ (by simp), new _ _ _ (by simp)]
  · rw [old _ _ _ (by simp), new _ _ _ (by simp)]
  · rw [new _ _ _ (by simp)]

/-- the world in which the signs are taken -/
def startW (w : World) (kk : Bool) (s : ByteArray) : World := ((((w.alloc (Obj.cells #[.slice none 0 0] 74)).alloc (Obj.cells #[.bool false] 4)).alloc (Obj.cells #[.slice none 0 0, .slice none 0 0, .bool false] 174)).alloc
  (Obj.cells #[.string (sigs kk), .slice (some ⟨w.heap.size + 1 + 1, 0, none⟩) 1 1, .int .i32 0] 177)).iter s 0

theorem start_facts (w : World) (kk : Bool) (s : ByteArray) : (startW w kk s).heap[w.heap.size + 1 + 1 + 1 + 1]? = some (Obj.stringIter s 0) ∧ RdS (startW w kk s) kk (w.heap.size + 1 + 1) (w.heap.size + 1 + 1 + 1) St.start ∧ Below w.heap.size w (startW w kk s) ∧
    (startW w kk s).heap[w.heap.size]? = some (Obj.cells #[.slice none 0 0] 74 (0, 0)) ∧ (startW w kk s).heap[w.heap.size + 1]? = some (Obj.cells #[.bool false] 4 (0, 0)) := by
  obtain ⟨h0, h1, h2, h3, h4⟩ := heap5 w.heap (Obj.cells #[.slice none 0 0] 74) (Obj.cells #[.bool false] 4) (Obj.cells #[.slice none 0 0, .slice none 0 0, .bool false] 174)
    (Obj.cells #[.string (sigs kk), .slice (some ⟨w.heap.size + 1 + 1, 0, none⟩) 1 1, .int .i32 0] 177) (Obj.stringIter s 0)
  refine ⟨h4, ⟨w.heap.size + 1 + 1, 1, [⟨⟨[], [], false⟩, .slice none 0 0, .slice none 0 0⟩], fun _ => False, ⟨h3, by omega, ?_, ?_, by simp, fun _ h => h.elim⟩, rfl⟩, ?_, h0, h1⟩
  · exact ⟨by simp [cellsOf], .inr ⟨w.heap.size + 1 + 1, 1, _, rfl, Nat.le_refl _, h2, Nat.le_refl _, by decide, by simp, by simp [cellsOf]⟩⟩
  · intro e he
    simp at he
    subst he
    exact ⟨⟨[], World.ownsRow_nil _ _ _ _, rfl⟩, (by intro h; cases h), (by intro k hk; cases hk), ⟨_, _, _, rfl⟩⟩
  · exact (((((Below.refl _ w).alloc (Nat.le_refl _) _).alloc (by simp) _).alloc (by simp; omega) _).alloc (by simp; omega) _).alloc (by simp; omega) _

/-- what readBody hands back for what the plain reader does -/
def ReadTo (o : Option (List Stm)) (w : World) (r : Ending) (w' : World) : Prop :=
  (match o with
    | some xs => ∃ v S, r = .returned (.tuple #[v, .bool true]) ∧ IsBody w' S xs v ∧ ∀ k, S k → w.heap.size ≤ k ∧ ∃ cur fz, w'.heap[k]? = some (.cells cur 139 fz)
    | none => r = .returned (.tuple #[.slice none 0 0, .bool false])) ∧ Below w.heap.size w w'

theorem reads_none {kk : Bool} {l : List UInt8} {pos : Nat} {c : UInt8} {st : St} (hl : l.take (pos + 1) = l.take pos ++ [c]) (hT : takes kk (l.take pos) St.start = some st) (hN : st.take kk c = none) : reads kk l = none := by
  have e : l = l.take (pos + 1) ++ l.drop (pos + 1) := (List.take_append_drop _ _).symm
  rw [reads, e, takes_append, hl, takes_append, hT]
  simp [takes, hN]

theorem door_panics (kk : Bool) (s : ByteArray) (w wr : World) (u : TypeId) (pv : Value) (hr : reads kk s.data.toList = none) (hb : Below w.heap.size w wr)
    (c0 : wr.heap[w.heap.size]? = some (Obj.cells #[.slice none 0 0] 74 (0, 0))) (c1 : wr.heap[w.heap.size + 1]? = some (Obj.cells #[.bool false] 4 (0, 0))) :
    CallsD Tryz.prog 122 #[.pointer (some ⟨w.heap.size, 0, none⟩), .pointer (some ⟨w.heap.size + 1, 0, none⟩)] (.panicking [{ v := .iface u pv, recovered := false }]) wr fun e u' w' =>
      e = .returned (.tuple #[]) ∧ u' = .panicking [{ v := .iface u pv, recovered := true }] ∧ w'.cell? ⟨w.heap.size, 0, none⟩ = some (.slice none 0 0) ∧ w'.cell? ⟨w.heap.size + 1, 0, none⟩ = some (.bool false) ∧
        ReadTo (reads kk s.data.toList) w (.returned (.tuple #[.slice none 0 0, .bool false])) w' := by
  have e0 : wr.cell? ⟨w.heap.size, 0, none⟩ = some (.slice none 0 0) := by rw [Lib.cell_of_heap c0]; rfl
  have e1 : wr.cell? ⟨w.heap.size + 1, 0, none⟩ = some (.bool false) := by rw [Lib.cell_of_heap c1]; rfl
  have ho : ∀ v, (wr.setCell ⟨w.heap.size, 0, none⟩ v).heap[w.heap.size + 1]? = wr.heap[w.heap.size + 1]? := fun v => heap_set_other (by omega) v
  have e2 : ∀ v, (wr.setCell ⟨w.heap.size, 0, none⟩ v).cell? ⟨w.heap.size + 1, 0, none⟩ = some (.bool false) := fun v => by
    rw [World.cell?_of_block (a := ⟨w.heap.size + 1, 0, none⟩) (ho v)]; exact e1
  have e3 : ∀ v, (wr.setCell ⟨w.heap.size, 0, none⟩ v).frozen? ⟨w.heap.size + 1, 0, none⟩ = false := fun v => by
    rw [World.frozen?_of_block (a := ⟨w.heap.size + 1, 0, none⟩) (ho v)]; exact Lib.frozen_of_heap c1 0
  refine (catch_panicking _ _ _ _ u pv [] wr e0 (Lib.frozen_of_heap c0 0) e2 e3).mono ?_
  rintro e u' w' ⟨h1, h2, rfl⟩
  refine ⟨h1, h2, ?_, ?_, ?_, ?_⟩
  · have h9 : ((wr.setCell ⟨w.heap.size, 0, none⟩ (.slice none 0 0)).setCell ⟨w.heap.size + 1, 0, none⟩ (.bool false)).heap[w.heap.size]? = (wr.setCell ⟨w.heap.size, 0, none⟩ (.slice none 0 0)).heap[w.heap.size]? := heap_set_other (by omega) _
    rw [World.cell?_of_block (a := ⟨w.heap.size, 0, none⟩) h9, Lib.cell_of_heap (heap_set_same c0 _)]; rfl
  · rw [Lib.cell_of_heap (heap_set_same (by rw [ho]; exact c1) _)]; rfl
  · rw [hr]
  · exact (hb.setCell (by simp) _).setCell (by simp) _

theorem IsBody.form {w : World} {S : Nat → Prop} {xs : List Stm} {v : Value} (h : IsBody w S xs v) : ∃ a n c, v = .slice a n c := by
  obtain ⟨vs, r, _⟩ := h
  exact slice_form r.1

theorem door_returns (kk : Bool) (s : ByteArray) (w wr : World) (S : Nat → Prop) (xs : List Stm) (v : Value) (hr : reads kk s.data.toList = some xs) (hB : IsBody wr S xs v)
    (hS : ∀ k, S k → w.heap.size + 1 + 1 ≤ k ∧ ∃ cur fz, wr.heap[k]? = some (.cells cur 139 fz)) (hb : Below w.heap.size w wr)
    (c0 : wr.heap[w.heap.size]? = some (Obj.cells #[.slice none 0 0] 74 (0, 0))) (c1 : wr.heap[w.heap.size + 1]? = some (Obj.cells #[.bool false] 4 (0, 0))) :
    ((wr.setCell ⟨w.heap.size, 0, none⟩ v).setCell ⟨w.heap.size + 1, 0, none⟩ (.bool true)).cell? ⟨w.heap.size, 0, none⟩ = some v ∧
    ((wr.setCell ⟨w.heap.size, 0, none⟩ v).setCell ⟨w.heap.size + 1, 0, none⟩ (.bool true)).cell? ⟨w.heap.size + 1, 0, none⟩ = some (.bool true) ∧
    ReadTo (reads kk s.data.toList) w (.returned (.tuple #[v, .bool true])) ((wr.setCell ⟨w.heap.size, 0, none⟩ v).setCell ⟨w.heap.size + 1, 0, none⟩ (.bool true)) := by
  have ho : (wr.setCell ⟨w.heap.size, 0, none⟩ v).heap[w.heap.size + 1]? = wr.heap[w.heap.size + 1]? := heap_set_other (by omega) v
  have hk : ∀ k, w.heap.size + 1 + 1 ≤ k → ((wr.setCell ⟨w.heap.size, 0, none⟩ v).setCell ⟨w.heap.size + 1, 0, none⟩ (.bool true)).heap[k]? = wr.heap[k]? := fun k hk => by
    rw [heap_set_other (by omega), heap_set_other (by omega)]
  refine ⟨?_, ?_, ?_, ?_⟩
  · have h9 : ((wr.setCell ⟨w.heap.size, 0, none⟩ v).setCell ⟨w.heap.size + 1, 0, none⟩ (.bool true)).heap[w.heap.size]? = (wr.setCell ⟨w.heap.size, 0, none⟩ v).heap[w.heap.size]? := heap_set_other (by omega) _
    rw [World.cell?_of_block (a := ⟨w.heap.size, 0, none⟩) h9, Lib.cell_of_heap (heap_set_same c0 _)]; rfl
  · rw [Lib.cell_of_heap (heap_set_same (by rw [ho]; exact c1) _)]; rfl
  · rw [hr]
    refine ⟨v, S, rfl, hB.kept (fun k h => hk k (hS k h).1) (fun _ h => h), fun k h => ?_⟩
    obtain ⟨h1, cur, fz, h2⟩ := hS k h
    exact ⟨by omega, cur, fz, by rw [hk k h1]; exact h2⟩
  · exact (hb.setCell (by simp) _).setCell (by simp) _

set_option maxHeartbeats 1000000 in
theorem read_short (s : ByteArray) (most : Nat) (kk : Bool) (w : World) (hs : s.size ≤ most) (hm : most ≤ 400) :
    Calls Tryz.prog 99 #[.string s, .int .i64 most, .string (sigs kk)] w (ReadTo (reads kk s.data.toList) w) := by
  have hmf : ∀ (fn : Fn) (first cap : Array Value) (w : World), (Instr.makeFunc fn first cap).run Tryz.prog w = .ok (.func fn first cap) w := fun _ _ _ _ => rfl
  have hnl : ¬ (most < s.size) := by omega
  have hnd : decide ((most : Int) < (s.size : Int)) = false := by simpa using hs
  go_enter_defers Tryz.func99, Tryz.ntmps99
  go_wp2_with fail
  go_loopw [] (fun wr => ∃ (pos : Nat) (st : St), wr.heap[w.heap.size + 1 + 1 + 1 + 1]? = some (Obj.stringIter s pos) ∧ pos ≤ s.size ∧ RdS wr kk (w.heap.size + 1 + 1) (w.heap.size + 1 + 1 + 1) st ∧ Below w.heap.size w wr ∧
      wr.heap[w.heap.size]? = some (Obj.cells #[.slice none 0 0] 74 (0, 0)) ∧ wr.heap[w.heap.size + 1]? = some (Obj.cells #[.bool false] 4 (0, 0)) ∧
      Hid (takes kk (s.data.toList.take pos) St.start = some st)) (fun wr => s.size - wr.iterPos (w.heap.size + 1 + 1 + 1 + 1))
  case atStart =>
    obtain ⟨f0, f1, f2, f3, f4⟩ := start_facts w kk s
    exact ⟨0, St.start, f0, Nat.zero_le _, f1, f2, f3, f4, rfl⟩
  case round =>
    obtain ⟨pos, st, hit, hpos, hR, hb, c0, c1, hT⟩ := hrel
    obtain ⟨hok, htx⟩ := takes_ok kk _ _ _ (start_ok kk) hT.out
    obtain ⟨b1, b2, b3⟩ := St.text_ge st
    have hlen : st.text.length ≤ 400 := by rw [htx]; simp [St.start, St.text, textOf, txts]; omega
    have hsz : w.heap.size + 1 + 1 + 1 + 1 < wr.heap.size := heap_lt hit
    by_cases hp : pos < s.size
    · have hnx : ∀ ty, (Instr.next (.pointer (some ⟨w.heap.size + 1 + 1 + 1 + 1, 0, none⟩)) true ty).run Tryz.prog wr = _ := fun ty => Lib.run_next_any_at wr (w.heap.size + 1 + 1 + 1 + 1) s pos ty hit hp
      have hR2 := hR.iterAt hit (pos + (Utf8.decode s pos).2)
      have hit2 := Lib.iterAt_heap wr (w.heap.size + 1 + 1 + 1 + 1) s pos (pos + (Utf8.decode s pos).2) hit
      have hb2 := Lib.below_iterAt hb (k := w.heap.size + 1 + 1 + 1 + 1) (by omega) s (pos + (Utf8.decode s pos).2)
      have hlb : (s.data.toList.take (pos + 1)) = s.data.toList.take pos ++ [s[pos]] := by
        rw [List.take_succ_eq_append_getElem (by simpa using hp)]; rfl
      by_cases ha : (s[pos]'hp).toNat < 128
      · have hdec := decode_ascii s pos hp ha
        have hs1 : Sg ((Utf8.decode s pos).1 : Int) s[pos] := .inl ⟨by rw [hdec], ha⟩
        have HTk := take_any hR2 hok _ _ hs1 (by omega) (by omega) (fun u hu => Nat.le_trans (b3 u hu) (by omega)) (by rw [Lib.iterAt_size]; omega)
        have HD := Lib.hid (show (Utf8.decode s pos).2 = 1 by rw [hdec])
        have HL := Lib.hid hlb
        cases htk : st.take kk s[pos] with
        | none =>
          rw [htk] at HTk
          have HTk := Lib.hid HTk
          have HN := Lib.hid htk
          clear hdec hlb hs1 htk hok htx b1 b2 b3 hR hR2
          go_wp2_with fail
          refine HTk.out.mono ?_
          rintro e w' ⟨⟨u, pv, rfl⟩, hk⟩
          have hE := Lib.hid (door_panics kk s w w' u pv (reads_none HL.out hT.out HN.out) (hb2.trans (hk.below.mono (by omega))) (by rw [hk.below.block _ (by omega), Lib.iterAt_other _ _ _ _ _ (by omega)]; exact c0) (by rw [hk.below.block _ (by omega), Lib.iterAt_other _ _ _ _ _ (by omega)]; exact c1))
          go_wp2_with fail
          refine leaves_cons (f := 122) (args := #[.pointer (some ⟨w.heap.size, 0, none⟩), .pointer (some ⟨w.heap.size + 1, 0, none⟩)]) (by simp) (by simp [go_sem]) ?_
          refine hE.out.mono ?_
          rintro e u' w'' ⟨rfl, rfl, q0, q1, hP⟩
          simp [Leaves, settle, results, Tryz.results99, go_sem, q0, q1]
          exact hP
        | some st' =>
          rw [htk] at HTk
          have HTk := Lib.hid HTk
          have HS := Lib.hid htk
          clear htk hdec hlb hs1 hok htx b1 b2 b3 hR hR2
          go_wp2_with fail
          refine HTk.out.mono ?_
          rintro e w' ⟨⟨rfl, hR'⟩, hk⟩
          go_wp2_with fail
          go_roundw
          case rel =>
            refine ⟨pos + (Utf8.decode s pos).2, st', hk.iter _ _ _ hit2, by rw [HD.out]; omega, hR', hb2.trans (hk.below.mono (by omega)), ?_, ?_, ?_⟩
            · rw [hk.below.block _ (by omega), Lib.iterAt_other _ _ _ _ _ (by omega)]; exact c0
            · rw [hk.below.block _ (by omega), Lib.iterAt_other _ _ _ _ _ (by omega)]; exact c1
            · show takes kk _ _ = _
              rw [HD.out, HL.out, takes_append, hT.out]
              simp [takes, HS.out]
          case measure =>
            simp only [World.iterPos, hk.iter _ _ _ hit2, hit]
            rw [HD.out]; omega
      · obtain ⟨d1, d2⟩ := decode_high s pos hp (by omega)
        have hs1 : Sg ((Utf8.decode s pos).1 : Int) 128 := .inr ⟨rfl, by omega⟩
        have HTk := take_any hR2 hok _ _ hs1 (by omega) (by omega) (fun u hu => Nat.le_trans (b3 u hu) (by omega)) (by rw [Lib.iterAt_size]; omega)
        rw [St.take_high hok 128 (by decide)] at HTk
        have HTk := Lib.hid HTk
        have HN := Lib.hid (St.take_high hok s[pos] (by omega))
        have HL := Lib.hid hlb
        clear hlb hs1 hok htx b1 b2 b3 hR hR2 d1 d2
        go_wp2_with fail
        refine HTk.out.mono ?_
        rintro e w' ⟨⟨u, pv, rfl⟩, hk⟩
        have hE := Lib.hid (door_panics kk s w w' u pv (reads_none HL.out hT.out HN.out) (hb2.trans (hk.below.mono (by omega))) (by rw [hk.below.block _ (by omega), Lib.iterAt_other _ _ _ _ _ (by omega)]; exact c0) (by rw [hk.below.block _ (by omega), Lib.iterAt_other _ _ _ _ _ (by omega)]; exact c1))
        go_wp2_with fail
        refine leaves_cons (f := 122) (args := #[.pointer (some ⟨w.heap.size, 0, none⟩), .pointer (some ⟨w.heap.size + 1, 0, none⟩)]) (by simp) (by simp [go_sem]) ?_
        refine hE.out.mono ?_
        rintro e u' w'' ⟨rfl, rfl, q0, q1, hP⟩
        simp [Leaves, settle, results, Tryz.results99, go_sem, q0, q1]
        exact hP
    · have hnx : ∀ ty, (Instr.next (.pointer (some ⟨w.heap.size + 1 + 1 + 1 + 1, 0, none⟩)) true ty).run Tryz.prog wr = _ := fun ty => Lib.run_next_end_at wr (w.heap.size + 1 + 1 + 1 + 1) s pos ty hit hp
      have hall : s.data.toList.take pos = s.data.toList := List.take_of_length_le (by simp; omega)
      have hrd : reads kk s.data.toList = st.finish := by
        have := hT.out
        rw [hall] at this
        rw [reads, this]; rfl
      have HF := finish_any hR
      cases hfi : st.finish with
      | none =>
        rw [hfi] at HF hrd
        have HF := Lib.hid HF
        have HN := Lib.hid hrd
        clear hfi hrd hall hok htx b1 b2 b3 hR
        go_wp2_with fail
        refine HF.out.mono ?_
        rintro e w' ⟨⟨u, pv, rfl⟩, rfl⟩
        have hE := Lib.hid (door_panics kk s w wr u pv HN.out hb c0 c1)
        go_wp2_with fail
        refine leaves_cons (f := 122) (args := #[.pointer (some ⟨w.heap.size, 0, none⟩), .pointer (some ⟨w.heap.size + 1, 0, none⟩)]) (by simp) (by simp [go_sem]) ?_
        refine hE.out.mono ?_
        rintro e u' w'' ⟨rfl, rfl, q0, q1, hP⟩
        simp [Leaves, settle, results, Tryz.results99, go_sem, q0, q1]
        exact hP
      | some xs =>
        rw [hfi] at HF hrd
        have HF := Lib.hid HF
        have HN := Lib.hid hrd
        have e0 : wr.cell? ⟨w.heap.size, 0, none⟩ = some (.slice none 0 0) := by rw [Lib.cell_of_heap c0]; rfl
        have z0 : wr.frozen? ⟨w.heap.size, 0, none⟩ = false := Lib.frozen_of_heap c0 0
        have ho : ∀ v, (wr.setCell ⟨w.heap.size, 0, none⟩ v).heap[w.heap.size + 1]? = wr.heap[w.heap.size + 1]? := fun v => heap_set_other (by omega) v
        have e2 : ∀ v, (wr.setCell ⟨w.heap.size, 0, none⟩ v).cell? ⟨w.heap.size + 1, 0, none⟩ = some (.bool false) := fun v => by
          rw [World.cell?_of_block (a := ⟨w.heap.size + 1, 0, none⟩) (ho v), Lib.cell_of_heap c1]; rfl
        have e3 : ∀ v, (wr.setCell ⟨w.heap.size, 0, none⟩ v).frozen? ⟨w.heap.size + 1, 0, none⟩ = false := fun v => by
          rw [World.frozen?_of_block (a := ⟨w.heap.size + 1, 0, none⟩) (ho v)]; exact Lib.frozen_of_heap c1 0
        have HO := Lib.hid ho
        clear hfi hrd hall hok htx b1 b2 b3 hR ho
        go_wp2_with fail
        refine HF.out.mono ?_
        rintro e w' ⟨⟨v, S, rfl, hB, hS⟩, rfl⟩
        obtain ⟨va, vn, vc, rfl⟩ := hB.form
        have hP := Lib.hid (door_returns kk s w wr S xs _ HN.out hB hS hb c0 c1)
        clear hB hS
        go_wp2_with fail
        refine leaves_cons (f := 122) (args := #[.pointer (some ⟨w.heap.size, 0, none⟩), .pointer (some ⟨w.heap.size + 1, 0, none⟩)]) (by simp) (by simp [go_sem]) ?_
        refine (catch_idle _ _ _).mono ?_
        rintro e u' w'' ⟨rfl, rfl, rfl⟩
        obtain ⟨q0, q1, hP⟩ := hP.out
        refine ⟨.tuple #[.slice va vn vc, .bool true], ?_, hP⟩
        simp [results, Tryz.results99, go_sem, q0, q1]

/-- what a text of at most so many bytes tells as statements -/
def stmtsOf (kk : Bool) (most : Nat) (s : ByteArray) : Option (List Stm) := if s.size ≤ most then reads kk s.data.toList else none

/-- readStatements: what the text tells -/
theorem read_any (s : ByteArray) (most : Nat) (kk : Bool) (w : World) (hm : s.size ≤ 1073741824) (h4 : most ≤ 400) :
    Calls Tryz.prog 99 #[.string s, .int .i64 most, .string (sigs kk)] w (ReadTo (stmtsOf kk most s) w) := by
  by_cases h : s.size ≤ most
  · have := read_short s most kk w h h4
    rw [show stmtsOf kk most s = reads kk s.data.toList from if_pos h]
    exact this
  · refine (read_long s most kk w (by omega) hm).mono ?_
    rintro r w' ⟨h1, h2⟩
    rw [show stmtsOf kk most s = none from if_neg h]
    exact ⟨h1, h2⟩
end Go.Proofs.YtomodlllmbkndaaGreatDoor
