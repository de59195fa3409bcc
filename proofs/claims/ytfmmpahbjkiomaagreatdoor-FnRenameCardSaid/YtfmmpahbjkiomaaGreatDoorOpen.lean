/- The program's (*reader).openBody and closeBody over the reader in memory. Conditions: at most 1000 open bodies and 1000 statements of each. -/
import Derived.Test.YtfmmpahbjkiomaaGreatDoorAdd
import Derived.Test.YtfmmpahbjkiomaaGreatDoorRd2
namespace Go.Proofs.YtfmmpahbjkiomaaGreatDoor
open Go.RowKit Gram
theorem info_unf : (Tryz.prog.info? 170).map (fun i => (i.zero, i.size, i.bytes)) = some (some (.agg #[.slice none 0 0, .slice none 0 0, .bool false]), 3, 56) := by kernel_rfl

set_option maxHeartbeats 400000 in
theorem push_walk (w : World) (B rb : Nat) (g cap : Nat) (n : Nat) (xs : List Value)
    (h1 : w.cell? ⟨rb, 1, none⟩ = some (.slice (some ⟨g, 0, none⟩) n cap)) (hl : n ≤ 1000)
    (h3 : w.frozen? ⟨rb, 1, none⟩ = false) (hB : B ≤ w.heap.size) (hrl : rb < w.heap.size) (hne : g ≠ rb)
    (hown : w.ownsRow B 170 3 (.slice (some ⟨g, 0, none⟩) n cap) n xs) :
    Calls Tryz.prog 135 #[.pointer (some ⟨rb, 0, none⟩), .int .i32 63] w fun e w' => e = .returned (.tuple #[]) ∧ ∃ w0 w1 o g' cap', w0.heap = w.heap ∧ Kept B w w0 ∧
      w1.ownsRow B 170 3 (.slice (some ⟨g', 0, none⟩) (n + 1) cap') (n + 1) (xs ++ [.slice none 0 0, .slice none 0 0, .bool false]) ∧
      (w0.alloc o).grownBy w1 (some g) ∧ (g = g' ∨ g' = w.heap.size + 1) ∧ w' = w1.setCell ⟨rb, 1, none⟩ (.slice (some ⟨g', 0, none⟩) (n + 1) cap') := by
  obtain ⟨i0, hi, hz0, hz1, hz2⟩ := info_parts info_unf
  have HN := Lib.hid hne
  clear hne
  go_enter Tryz.func135, Tryz.ntmps135
  go_wp2_with (at_builtin; go_loud (refine wpList_append_lies _ rfl _ _ 171 rfl B 170 i0 (.agg #[.slice none 0 0, .slice none 0 0, .bool false]) 3 56 Tryz.underlying171 hi hz0 hz1 hz2 rfl (by decide) (.slice (some ⟨g, 0, none⟩) n cap) n xs rfl (hown.alloc _) ⟨w.heap.size, 0, none⟩ 1 1 [.slice none 0 0, .slice none 0 0, .bool false] rfl rfl ?c1 ?c2 (by decide) ?c3 ?c4 ?c5 _ rfl ?_))
  case c1 => exact World.news_of_block (cs := #[.slice none 0 0, .slice none 0 0, .bool false]) (heap_alloc_new _ _)
  case c2 => intro u hu; simp at hu; rcases hu with rfl | rfl <;> rfl
  case c3 => unfold maxLen; omega
  case c4 => omega
  case c5 => simp; omega
  intro g' cap' w1 hown' hgrow hat _
  have hsame : w1.heap[rb]? = w.heap[rb]? := by
    rw [hgrow.block rb (by simp; omega) (fun h => HN.out (by simpa [Value.ownBlock] using h.symm))]
    exact Lib.alloc_old _ _ _ hrl
  have hc1 : w1.cell? ⟨rb, 1, none⟩ = some (.slice (some ⟨g, 0, none⟩) n cap) := by rw [← h1]; exact World.cell?_of_block (a := ⟨rb, 1, none⟩) hsame
  have hf1 : w1.frozen? ⟨rb, 1, none⟩ = false := by rw [← h3]; exact World.frozen?_of_block (a := ⟨rb, 1, none⟩) hsame
  clear hsame
  have hk := Lib.hid (⟨hown', hgrow, hat⟩ : _ ∧ _ ∧ _)
  clear hown' hgrow hat
  go_wp2_with fail
  refine bodyPost_ret (results_none rfl _ _ _) rfl ?_
  exact ⟨rfl, w, w1, _, g', cap', rfl, Kept.refl _ _, hk.out.1, hk.out.2.1, by simpa [Value.ownBlock] using hk.out.2.2, rfl⟩

set_option maxHeartbeats 400000 in
theorem second_walk (w : World) (rb : Nat) (g cap : Nat) (tl : Nat) (la : Option Addr) (ln lc : Nat) (fv : Value) (b : Bool)
    (h1 : w.cell? ⟨rb, 1, none⟩ = some (.slice (some ⟨g, 0, none⟩) (tl + 1) cap)) (hl : tl ≤ 1000)
    (c0 : w.cell? ⟨g, tl * 3, none⟩ = some (.slice la ln lc)) (c1 : w.cell? ⟨g, tl * 3 + 1, none⟩ = some fv) (c2 : w.cell? ⟨g, tl * 3 + 2, none⟩ = some (.bool b))
    (f0 : w.frozen? ⟨g, tl * 3, none⟩ = false) (f1 : w.frozen? ⟨g, tl * 3 + 1, none⟩ = false) (f2 : w.frozen? ⟨g, tl * 3 + 2, none⟩ = false) :
    Calls Tryz.prog 135 #[.pointer (some ⟨rb, 0, none⟩), .int .i32 93] w fun e w' => e = .returned (.tuple #[]) ∧ ∃ w0, w0.heap = w.heap ∧ Kept w.heap.size w w0 ∧
      w' = ((w0.setCell ⟨g, tl * 3, none⟩ (.slice none 0 0)).setCell ⟨g, tl * 3 + 1, none⟩ (.slice la ln lc)).setCell ⟨g, tl * 3 + 2, none⟩ (.bool true) := by
  go_enter Tryz.func135, Tryz.ntmps135
  go_wp2_with fail
  go_quiet (fail)
  go_wp2_with fail
  go_end0
  exact ⟨rfl, w.drewN nq, rfl, ⟨⟨rfl, rfl, rfl, Nat.le_refl _, fun _ _ => rfl⟩, fun _ _ _ h => h⟩, rfl⟩

set_option maxHeartbeats 400000 in
theorem close_no (w : World) (rb : Nat) (g cap : Nat) (h1 : w.cell? ⟨rb, 1, none⟩ = some (.slice (some ⟨g, 0, none⟩) 1 cap)) :
    Calls Tryz.prog 156 #[.pointer (some ⟨rb, 0, none⟩)] w fun e w' => Panics e ∧ w = w' := by
  go_enter Tryz.func156, Tryz.ntmps156
  go_wp2_with fail
  exact ⟨rfl, ⟨_, _, rfl⟩, rfl⟩

set_option maxHeartbeats 400000 in
theorem close_first (w : World) (rb : Nat) (g cap : Nat) (tl : Nat) (la : Option Addr) (ln lc : Nat) (fa : Option Addr) (fn fc : Nat)
    (h1 : w.cell? ⟨rb, 1, none⟩ = some (.slice (some ⟨g, 0, none⟩) (tl + 1 + 1) cap)) (hl : tl ≤ 1000) (q : Int) (h2 : ∀ o, (w.alloc o).cell? ⟨rb, 2, none⟩ = some (.int .i32 q)) (h3 : ∀ o, (w.alloc o).frozen? ⟨rb, 2, none⟩ = false)
    (c0 : w.cell? ⟨g, (tl + 1) * 3, none⟩ = some (.slice la ln lc)) (c1 : w.cell? ⟨g, (tl + 1) * 3 + 1, none⟩ = some (.slice fa fn fc)) (c2 : w.cell? ⟨g, (tl + 1) * 3 + 2, none⟩ = some (.bool false)) :
    Calls Tryz.prog 156 #[.pointer (some ⟨rb, 0, none⟩)] w fun e w' => e = .returned (.tuple #[]) ∧ ∃ o, w' = (w.alloc o).setCell ⟨rb, 2, none⟩ (.int .i32 93) := by
  go_enter Tryz.func156, Tryz.ntmps156
  go_wp2_with fail
  refine bodyPost_ret (results_none rfl _ _ _) rfl ?_
  exact ⟨rfl, _, rfl⟩

set_option maxHeartbeats 400000 in
theorem close_second (w : World) (rb : Nat) (g cap : Nat) (tl : Nat) (la : Option Addr) (ln lc : Nat) (fa : Option Addr) (fn fc : Nat) (R : Ending → World → Prop)
    (h1 : w.cell? ⟨rb, 1, none⟩ = some (.slice (some ⟨g, 0, none⟩) (tl + 1 + 1) cap)) (hl : tl ≤ 1000) (hcap : tl + 2 ≤ cap)
    (h2 : ∀ o, (w.alloc o).cell? ⟨rb, 1, none⟩ = some (.slice (some ⟨g, 0, none⟩) (tl + 1 + 1) cap)) (h3 : ∀ o, (w.alloc o).frozen? ⟨rb, 1, none⟩ = false) (hrl : rb < w.heap.size)
    (c0 : w.cell? ⟨g, (tl + 1) * 3, none⟩ = some (.slice la ln lc)) (c1 : w.cell? ⟨g, (tl + 1) * 3 + 1, none⟩ = some (.slice fa fn fc)) (c2 : w.cell? ⟨g, (tl + 1) * 3 + 2, none⟩ = some (.bool true))
    (hadd : ∀ w1, (∃ o, w1 = (w.setCell ⟨rb, 1, none⟩ (.slice (some ⟨g, 0, none⟩) (tl + 1) cap)).alloc o) →
      Calls Tryz.prog 133 #[.pointer (some ⟨rb, 0, none⟩), .iface 148 (.agg #[.slice fa fn fc, .slice la ln lc])] w1 fun e w' => e = .returned (.tuple #[]) ∧ R e w') :
    Calls Tryz.prog 156 #[.pointer (some ⟨rb, 0, none⟩)] w fun e w' => e = .returned (.tuple #[]) ∧ R e w' := by
  have HA := Lib.hid hadd
  clear hadd
  go_enter Tryz.func156, Tryz.ntmps156
  go_wp2_with fail
  refine (HA.out _ ⟨_, rfl⟩).mono ?_
  rintro e w' ⟨rfl, hR⟩
  go_wp2_with fail
  go_end0
  exact ⟨rfl, hR⟩

/-- the reader in memory, whatever its blocks -/
def RdS (w : World) (kk : Bool) (B rb : Nat) (st : St) : Prop := ∃ g cap ents S, Rd w kk B rb st.pend.toNat g cap ents S ∧ ents.map (·.u) = st.top :: st.rest

theorem RdS.parts {w : World} {kk : Bool} {B rb : Nat} {st : St} (h : RdS w kk B rb st) : ∃ g cap e t S, Rd w kk B rb st.pend.toNat g cap (e :: t) S ∧ e.u = st.top ∧ t.map (·.u) = st.rest ∧ t.length = st.rest.length := by
  obtain ⟨g, cap, ents, S, h, hm⟩ := h
  cases ents with
  | nil => simp at hm
  | cons e t => simp at hm; exact ⟨g, cap, e, t, S, h, hm.1, hm.2, by rw [← hm.2]; simp⟩

section
variable {w : World} {kk : Bool} {B rb : Nat} {st : St}

theorem adds_any {x : Stm} {v : Value} {g cap : Nat} {e : Ent} {t : List Ent} {S : Nat → Prop} (h : Rd w kk B rb st.pend.toNat g cap (e :: t) S) (hu : e.u = st.top) (ht : t.map (·.u) = st.rest) (hx : IsStm w S x v)
    (hl : st.rest.length ≤ 1000) (hn : st.top.list.length ≤ 1000) (hB : B ≤ w.heap.size) :
    Calls Tryz.prog 133 #[.pointer (some ⟨rb, 0, none⟩), v] w fun r w' => r = .returned (.tuple #[]) ∧ RdS w' kk B rb (st.add x) ∧ Kept B w w' := by
  refine (add_any h hx (by rw [← ht] at hl; simpa using hl) (by rw [hu]; exact hn) hB).mono ?_
  rintro r w' ⟨hr, lv', hR, hb⟩
  exact ⟨hr, ⟨_, _, _, _, hR, by simp [St.add, hu, ht]⟩, hb⟩

theorem push_any (h : RdS w kk B rb st) (hl : st.rest.length ≤ 900) (hB : B ≤ w.heap.size) :
    Calls Tryz.prog 135 #[.pointer (some ⟨rb, 0, none⟩), .int .i32 63] w fun r w' => r = .returned (.tuple #[]) ∧ RdS w' kk B rb (st.openB 63) ∧ Kept B w w' := by
  obtain ⟨g, cap, e, t, S, hR, hu, ht, hlen⟩ := h.parts
  have hc0 : w.cell? ⟨rb, 1, none⟩ = some (.slice (some ⟨g, 0, none⟩) (t.length + 1) cap) := by
    have := Lib.cell_of_heap hR.own 1
    simpa using this
  refine (push_walk w B rb g cap (t.length + 1) (cellsOf (e :: t)) hc0 (by omega) (Lib.frozen_of_heap hR.own 1) hB (heap_lt hR.own) hR.ne_rb.symm hR.row).mono ?_
  rintro r w' ⟨hr, w0, w1, o, g', cap', he, hb, h1, h2, h3, rfl⟩
  obtain ⟨a, b⟩ := Rd.push (hR.of_heap he) h1 h2 (by rw [he]; exact h3) (by rw [he]; exact hB)
  exact ⟨hr, ⟨_, _, _, _, a, by simp [St.openB, hu, ht]⟩, hb.trans b⟩

theorem second_any (h : RdS w kk B rb st) (hl : st.rest.length ≤ 900) (hB : B ≤ w.heap.size) :
    Calls Tryz.prog 135 #[.pointer (some ⟨rb, 0, none⟩), .int .i32 93] w fun r w' => r = .returned (.tuple #[]) ∧ RdS w' kk B rb (st.openB 93) ∧ Kept B w w' := by
  obtain ⟨g, cap, e, t, S, hR, hu, ht, hlen⟩ := h.parts
  have hc0 : w.cell? ⟨rb, 1, none⟩ = some (.slice (some ⟨g, 0, none⟩) (t.length + 1) cap) := by
    have := Lib.cell_of_heap hR.own 1
    simpa using this
  obtain ⟨⟨vs, ho, _⟩, _, _, _⟩ := hR.each e (List.mem_cons_self (a := e) (l := t))
  obtain ⟨la, ln, lc, hlv⟩ := slice_form ho
  obtain ⟨k0, k1, k2⟩ := cellsOf_get e t
  refine (second_walk w rb g cap t.length la ln lc e.fv e.u.second hc0 (by omega) (by rw [← hlv]; exact row_cell hR.row _ _ k0) (row_cell hR.row _ _ k1) (row_cell hR.row _ _ k2) (row_free hR.row _) (row_free hR.row _) (row_free hR.row _)).mono ?_
  rintro r w' ⟨hr, w0, he, hb, rfl⟩
  obtain ⟨a, b⟩ := (hR.of_heap he).second
  rw [hlv] at a b
  exact ⟨hr, ⟨_, _, _, _, a, by simp [St.openB, hu, ht]⟩, (hb.mono hB).trans b⟩

theorem close_any (h : RdS w kk B rb st) (hp : st.pend = 0) (hl : st.rest.length ≤ 900) (hn : ∀ u ∈ st.rest, u.list.length ≤ 1000) (hB : B ≤ w.heap.size) :
    Calls Tryz.prog 156 #[.pointer (some ⟨rb, 0, none⟩)] w fun r w' =>
      (match st.close with
        | some st' => r = .returned (.tuple #[]) ∧ RdS w' kk B rb st'
        | none => Panics r) ∧ Kept B w w' := by
  obtain ⟨g, cap, e, t, S, hR, hu, ht, hlen⟩ := h.parts
  have hc0 : w.cell? ⟨rb, 1, none⟩ = some (.slice (some ⟨g, 0, none⟩) (t.length + 1) cap) := by
    have := Lib.cell_of_heap hR.own 1
    simpa using this
  cases t with
  | nil =>
    have hr : st.rest = [] := by rw [← ht]; rfl
    refine (close_no w rb g cap hc0).mono ?_
    rintro r w' ⟨h1, rfl⟩
    exact ⟨by simp only [St.close, hr]; exact h1, Kept.refl _ _⟩
  | cons f t =>
    have hr : st.rest = f.u :: t.map (·.u) := by rw [← ht]; rfl
    obtain ⟨⟨vs, ho, _⟩, _, _, fa, fn, fc, hfv⟩ := hR.each e (List.mem_cons_self (a := e) (l := f :: t))
    obtain ⟨la, ln, lc, hlv⟩ := slice_form ho
    obtain ⟨k0, k1, k2⟩ := cellsOf_get e (f :: t)
    have c0 := row_cell hR.row _ _ k0
    have c1 := row_cell hR.row _ _ k1
    have c2 := row_cell hR.row _ _ k2
    rw [hlv] at c0
    rw [hfv] at c1
    have hrl := heap_lt hR.own
    have hcell : ∀ (o : Obj) (j : Nat), (w.alloc o).cell? ⟨rb, j, none⟩ = w.cell? ⟨rb, j, none⟩ := fun o j => World.cell?_of_block (a := ⟨rb, j, none⟩) (alloc_heap o rb hrl)
    have hfroz : ∀ (o : Obj) (j : Nat), (w.alloc o).frozen? ⟨rb, j, none⟩ = false := fun o j => by
      rw [World.frozen?_of_block (a := ⟨rb, j, none⟩) (alloc_heap o rb hrl)]; exact Lib.frozen_of_heap hR.own j
    have hc1 : w.cell? ⟨rb, 2, none⟩ = some (.int .i32 st.pend.toNat) := by
      have := Lib.cell_of_heap hR.own 2
      simpa using this
    cases hs : e.u.second with
    | false =>
      rw [hs] at c2
      refine (close_first w rb g cap t.length la ln lc fa fn fc hc0 (by rw [hr] at hl; simp at hl; omega) _ (fun o => (hcell o 2).trans hc1) (fun o => hfroz o 2) c0 c1 c2).mono ?_
      rintro r w' ⟨h1, o, rfl⟩
      have hst : st.close = some { st with pend := 93 } := by
        simp only [St.close, hr]; rw [← hu, hs]; simp
      rw [hst]
      refine ⟨⟨h1, _, _, _, _, (hR.later (alloc_heap o)).pend 93, ?_⟩, ((Kept.refl B w).alloc hB o).setCell hR.low _⟩
      rw [hr, ← hu]; rfl
    | true =>
      rw [hs] at c2
      obtain ⟨p1, p2, p3⟩ := hR.pop hs
      have e2 : Value.iface 148 (.agg #[e.fv, e.lv]) = .iface 148 (.agg #[.slice fa fn fc, .slice la ln lc]) := by rw [hfv, hlv]
      have hle := (row_cur hR.row)
      obtain ⟨_, _, _, hle, _⟩ := hle
      refine (close_second w rb g cap t.length la ln lc fa fn fc (fun _ w' => RdS w' kk B rb (St.add ⟨f.u, t.map (·.u), st.pend⟩ (.cho e.u.first e.u.list)) ∧ Kept B w w') hc0 (by rw [hr] at hl; simp at hl; omega) (by simpa using hle) (fun o => (hcell o 1).trans hc0) (fun o => hfroz o 1) hrl c0 c1 c2 ?_).mono ?_
      · rintro w1 ⟨o, rfl⟩
        rw [← e2]
        refine (adds_any (st := ⟨f.u, t.map (·.u), st.pend⟩) (p1.later (alloc_heap o)) rfl rfl (IsStm.kept (fun k hk => alloc_heap o k ?_) (fun _ h => h) _ _ p2) (by rw [hr] at hl; simp at hl ⊢; omega) (hn f.u (by rw [hr]; simp)) (by simp [World.setCell]; omega)).mono ?_
        · obtain ⟨_, cur, fz, hc⟩ := p1.set k hk
          exact heap_lt hc
        · rintro r w' ⟨a, b, c⟩
          exact ⟨a, b, (p3.alloc (by simp [World.setCell]; omega) o).trans c⟩
      · rintro r w' ⟨h1, h2, h3⟩
        refine ⟨?_, h3⟩
        have hst : st.close = some (St.add ⟨f.u, t.map (·.u), 0⟩ (.cho st.top.first st.top.list)) := by
          simp only [St.close, hr]; rw [← hu, hs]; simp
        rw [hst, ← hu]
        rw [hp] at h2
        exact ⟨h1, h2⟩
end
end Go.Proofs.YtfmmpahbjkiomaaGreatDoor
