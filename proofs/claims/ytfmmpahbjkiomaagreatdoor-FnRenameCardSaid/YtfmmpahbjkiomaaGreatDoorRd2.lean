/- The reader in memory, more plain lemmas: a new open body, the second body of a choice, the end of a choice, the pending sign. -/
import Derived.Test.YtfmmpahbjkiomaaGreatDoorRd
namespace Go.Proofs.YtfmmpahbjkiomaaGreatDoor
open Go.RowKit Gram

theorem IsEnt.kept {w w' : World} {S S' : Nat → Prop} {B : Nat} {f : Ent} (h : IsEnt w S B f) (hk : ∀ k, S k ∨ f.lv.ownBlock = some k → w'.heap[k]? = w.heap[k]?) (hS : ∀ k, S k → S' k)
    (hn : ∀ k, f.lv.ownBlock = some k → ¬ S' k) : IsEnt w' S' B f := by
  obtain ⟨⟨vs, a, b⟩, c, _, d⟩ := h
  exact ⟨⟨vs, ownsRow_of a fun k hk' => hk k (.inr hk'), IsStms.kept (fun k h => hk k (.inl h)) hS _ _ b⟩, fun hs => (c hs).kept (fun k h => hk k (.inl h)) hS, hn, d⟩

/-- what lay there stays: the reader stays -/
theorem Rd.later {w w' : World} {kk : Bool} {B rb g cap : Nat} {p : Int} {ents : List Ent} {S : Nat → Prop} (h : Rd w kk B rb p g cap ents S) (hk : ∀ k, k < w.heap.size → w'.heap[k]? = w.heap[k]?) : Rd w' kk B rb p g cap ents S := by
  obtain ⟨cur, hcur, _⟩ := row_cur h.row
  refine ⟨by rw [hk _ (heap_lt h.own)]; exact h.own, h.low, ownsRow_of h.row fun k hk' => ?_, ?_, h.parted, ?_⟩
  · simp [Value.ownBlock] at hk'; subst hk'; exact hk _ (heap_lt hcur)
  · intro e hm
    have he := h.each e hm
    refine he.kept (fun k hk' => hk k ?_) (fun _ h => h) he.2.2.1
    rcases hk' with h1 | h1
    · obtain ⟨_, cur, fz, h2⟩ := h.set k h1; exact heap_lt h2
    · obtain ⟨⟨vs, a, _⟩, _⟩ := he; exact (a.lt k h1).2
  · intro k hS
    obtain ⟨a, cur, fz, h2⟩ := h.set k hS
    exact ⟨a, cur, fz, by rw [hk _ (heap_lt h2)]; exact h2⟩

section
variable {w : World} {kk : Bool} {B rb g cap : Nat} {p : Int} {e : Ent} {t : List Ent} {S : Nat → Prop}

theorem Rd.pend (h : Rd w kk B rb p g cap (e :: t) S) (q : Int) : Rd (w.setCell ⟨rb, 2, none⟩ (.int .i32 q)) kk B rb q g cap (e :: t) S := by
  have ks : ∀ k, k ≠ rb → (w.setCell ⟨rb, 2, none⟩ (.int .i32 q)).heap[k]? = w.heap[k]? := fun k hk => heap_set_other hk _
  refine ⟨?_, h.low, ?_, ?_, h.parted, ?_⟩
  · rw [heap_set_same h.own]; rfl
  · exact ownsRow_of h.row (fun k hk => by simp [Value.ownBlock] at hk; subst hk; exact ks _ h.ne_rb.symm)
  · intro f hf
    exact (h.each f hf).kept (fun k hk => ks k (hk.elim (fun a => (h.S_ne a).1) (fun a => (h.lv_ne hf a).1))) (fun _ h => h) (h.each f hf).2.2.1
  · intro k hk; rw [ks k (h.S_ne hk).1]; exact h.set k hk

theorem Rd.push {w1 : World} {g' cap' : Nat} {o : Obj} (h : Rd w kk B rb p g cap (e :: t) S)
    (hown' : w1.ownsRow B 170 3 (.slice (some ⟨g', 0, none⟩) (t.length + 1 + 1) cap') (t.length + 1 + 1) (cellsOf (e :: t) ++ [.slice none 0 0, .slice none 0 0, .bool false]))
    (hg : (w.alloc o).grownBy w1 (some g)) (hat : g = g' ∨ g' = w.heap.size + 1) (hB : B ≤ w.heap.size) :
    Rd (w1.setCell ⟨rb, 1, none⟩ (.slice (some ⟨g', 0, none⟩) (t.length + 1 + 1) cap')) kk B rb p g' cap' (⟨⟨[], [], false⟩, .slice none 0 0, .slice none 0 0⟩ :: e :: t) S ∧
      Kept B w (w1.setCell ⟨rb, 1, none⟩ (.slice (some ⟨g', 0, none⟩) (t.length + 1 + 1) cap')) := by
  have hsz : (w.alloc o).heap.size = w.heap.size + 1 := by simp
  have hgrown : ∀ k, k < w.heap.size → k ≠ g → w1.heap[k]? = w.heap[k]? := fun k hk hn => by
    rw [hg.block k (by omega) (fun he => hn (by simpa using he))]; exact Lib.alloc_old w o k hk
  have hrl := heap_lt h.own
  obtain ⟨cur, hcur, hBg, _⟩ := row_cur h.row
  have ks : ∀ k, k ≠ rb → ∀ u, (w1.setCell ⟨rb, 1, none⟩ u).heap[k]? = w1.heap[k]? := fun k hk u => heap_set_other hk u
  have g'ne : g' ≠ rb := by
    rcases hat with h1 | h1
    · rw [← h1]; exact h.ne_rb.symm
    · omega
  refine ⟨⟨?_, h.low, ?_, ?_, ?_, ?_⟩, ?_⟩
  · rw [heap_set_same (by rw [hgrown rb hrl h.ne_rb]; exact h.own)]; rfl
  · exact ownsRow_of hown' (fun k hk => by simp [Value.ownBlock] at hk; subst hk; exact ks _ g'ne _)
  · intro f hf
    rcases List.mem_cons.1 hf with rfl | hf
    · exact ⟨⟨[], World.ownsRow_nil _ _ _ _, rfl⟩, (by intro hs; cases hs), (by intro k hk; cases hk), ⟨_, _, _, rfl⟩⟩
    · exact (h.each f hf).kept (fun k hk => by
        rw [ks k (hk.elim (fun a => (h.S_ne a).1) (fun a => (h.lv_ne hf a).1))]
        exact hgrown k (hk.elim (fun a => (h.S_ne a).2.2) (fun a => (h.lv_ne hf a).2.2.1)) (hk.elim (fun a => (h.S_ne a).2.1) (fun a => (h.lv_ne hf a).2.1))) (fun _ h => h) (h.each f hf).2.2.1
  · exact List.pairwise_cons.2 ⟨(fun f _ k hk => by cases hk), h.parted⟩
  · intro k hk
    rw [ks k (h.S_ne hk).1, hgrown k (h.S_ne hk).2.2 (h.S_ne hk).2.1]
    exact h.set k hk
  · exact (((Kept.refl B w).alloc hB o).grown hg (by omega) (fun k hk => by simp at hk; omega) (fun k hk => by simp at hk; subst hk; exact ⟨_, _, _, by rw [Lib.alloc_old _ _ _ (heap_lt hcur)]; exact hcur⟩)).setCell h.low _

/-- the top's own row becomes one of S -/
def with_ (S : Nat → Prop) (v : Value) : Nat → Prop := fun k => S k ∨ v.ownBlock = some k

theorem Rd.body (h : Rd w kk B rb p g cap (e :: t) S) : IsBody w (with_ S e.lv) e.u.list e.lv := by
  obtain ⟨⟨vs, a, b⟩, _⟩ := h.each e (List.mem_cons_self (a := e) (l := t))
  have hl := IsStms.len _ _ b
  exact ⟨vs, ⟨ownsRow_base a (fun _ _ => Nat.zero_le _), fun k hk => .inr hk⟩, IsStms.kept (fun _ _ => rfl) (fun _ h => .inl h) _ _ b⟩

theorem Rd.with_set (h : Rd w kk B rb p g cap (e :: t) S) : ∀ k, with_ S e.lv k → k ≠ rb ∧ k ≠ g ∧ B ≤ k ∧ ∃ cur fz, w.heap[k]? = some (.cells cur 103 fz) := by
  have e0 := List.mem_cons_self (a := e) (l := t)
  intro k hk
  rcases hk with hk | hk
  · exact ⟨(h.S_ne hk).1, (h.S_ne hk).2.1, h.set k hk⟩
  · obtain ⟨⟨vs, a, _⟩, _⟩ := h.each e e0
    refine ⟨(h.lv_ne e0 hk).1, (h.lv_ne e0 hk).2.1, (h.lv_ne e0 hk).2.2.2, ?_⟩
    rcases a.2 with ⟨h1, _⟩ | ⟨g', cap', cur, h1, _, hg, _⟩
    · rw [h1] at hk; cases hk
    · rw [h1] at hk; simp [Value.ownBlock] at hk; subst hk; exact ⟨_, _, hg⟩

theorem Rd.second (h : Rd w kk B rb p g cap (e :: t) S) :
    Rd (((w.setCell ⟨g, t.length * 3, none⟩ (.slice none 0 0)).setCell ⟨g, t.length * 3 + 1, none⟩ e.lv).setCell ⟨g, t.length * 3 + 2, none⟩ (.bool true)) kk B rb p g cap
      (⟨⟨[], e.u.list, true⟩, .slice none 0 0, e.lv⟩ :: t) (with_ S e.lv) ∧
    Kept B w (((w.setCell ⟨g, t.length * 3, none⟩ (.slice none 0 0)).setCell ⟨g, t.length * 3 + 1, none⟩ e.lv).setCell ⟨g, t.length * 3 + 2, none⟩ (.bool true)) := by
  have e0 := List.mem_cons_self (a := e) (l := t)
  obtain ⟨cur, hcur, hBg, _⟩ := row_cur h.row
  have ks : ∀ k, k ≠ g → (((w.setCell ⟨g, t.length * 3, none⟩ (.slice none 0 0)).setCell ⟨g, t.length * 3 + 1, none⟩ e.lv).setCell ⟨g, t.length * 3 + 2, none⟩ (.bool true)).heap[k]? = w.heap[k]? :=
    fun k hk => by rw [heap_set_other hk, heap_set_other hk, heap_set_other hk]
  have hrow := row_set (row_set (row_set h.row (t.length * 3) (.slice none 0 0)) (t.length * 3 + 1) e.lv) (t.length * 3 + 2) (.bool true)
  refine ⟨⟨?_, h.low, ?_, ?_, ?_, ?_⟩, ?_⟩
  · rw [ks rb h.ne_rb]; exact h.own
  · have hc : (((cellsOf (e :: t)).set (t.length * 3) (.slice none 0 0)).set (t.length * 3 + 1) e.lv).set (t.length * 3 + 2) (.bool true) = cellsOf (⟨⟨[], e.u.list, true⟩, .slice none 0 0, e.lv⟩ :: t) := by
      have hl := cellsOf_len t
      simp only [cellsOf]
      rw [List.set_append_right _ _ (by omega), List.set_append_right _ _ (by omega), List.set_append_right _ _ (by omega)]
      simp [hl]
    rw [hc] at hrow
    exact hrow
  · intro f hf
    rcases List.mem_cons.1 hf with rfl | hf
    · refine ⟨⟨[], World.ownsRow_nil _ _ _ _, rfl⟩, ?_, (by intro k hk; cases hk), ?_⟩
      · intro _
        exact h.body.kept (fun k hk => ks k (h.with_set k hk).2.1) (fun _ h => h)
      · obtain ⟨⟨vs, a, _⟩, _⟩ := h.each e e0
        exact slice_form a
    · have hf' := List.mem_cons_of_mem e hf
      refine (h.each f hf').kept (fun k hk => ks k (hk.elim (fun a => (h.S_ne a).2.1) (fun a => (h.lv_ne hf' a).2.1))) (fun _ h => .inl h) ?_
      intro k hk hS
      rcases hS with hS | hS
      · exact (h.each f hf').2.2.1 k hk hS
      · exact (List.pairwise_cons.1 h.parted).1 f hf k hS hk
  · exact List.pairwise_cons.2 ⟨(fun f _ k hk => by cases hk), (List.pairwise_cons.1 h.parted).2⟩
  · intro k hk
    obtain ⟨_, h2, h3, h4⟩ := h.with_set k hk
    exact ⟨h3, by rw [ks k h2]; exact h4⟩
  · exact (((Kept.refl B w).setCell hBg _).setCell hBg _).setCell hBg _

theorem Rd.pop {f : Ent} (h : Rd w kk B rb p g cap (e :: f :: t) S) (hs : e.u.second = true) :
    Rd (w.setCell ⟨rb, 1, none⟩ (.slice (some ⟨g, 0, none⟩) (t.length + 1) cap)) kk B rb p g cap (f :: t) (with_ S e.lv) ∧
    IsStm (w.setCell ⟨rb, 1, none⟩ (.slice (some ⟨g, 0, none⟩) (t.length + 1) cap)) (with_ S e.lv) (.cho e.u.first e.u.list) (.iface 148 (.agg #[e.fv, e.lv])) ∧
    Kept B w (w.setCell ⟨rb, 1, none⟩ (.slice (some ⟨g, 0, none⟩) (t.length + 1) cap)) := by
  have e0 := List.mem_cons_self (a := e) (l := f :: t)
  have ks : ∀ k, k ≠ rb → (w.setCell ⟨rb, 1, none⟩ (.slice (some ⟨g, 0, none⟩) (t.length + 1) cap)).heap[k]? = w.heap[k]? := fun k hk => heap_set_other hk _
  obtain ⟨cur, hcur, hBg, hle, hm, hsz, htake⟩ := row_cur h.row
  refine ⟨⟨?_, h.low, ?_, ?_, (List.pairwise_cons.1 h.parted).2, ?_⟩, ?_, ?_⟩
  · rw [heap_set_same h.own]; rfl
  · refine ⟨by simp [cellsOf_len], .inr ⟨g, cap, cur, rfl, hBg, by rw [ks g h.ne_rb.symm]; exact hcur, by simp at hle ⊢; omega, hm, hsz, ?_⟩⟩
    have := congrArg (List.take ((f :: t).length * 3)) htake
    rw [List.take_take, Nat.min_eq_left (by simp; omega)] at this
    rw [this]
    show List.take _ (cellsOf (f :: t) ++ _) = _
    rw [List.take_append_of_le_length (by rw [cellsOf_len]; exact Nat.le_refl _), List.take_of_length_le (by rw [cellsOf_len]; exact Nat.le_refl _)]
  · intro d hd
    have hd' := List.mem_cons_of_mem e hd
    refine (h.each d hd').kept (fun k hk => ks k (hk.elim (fun a => (h.S_ne a).1) (fun a => (h.lv_ne hd' a).1))) (fun _ h => .inl h) ?_
    intro k hk hS
    rcases hS with hS | hS
    · exact (h.each d hd').2.2.1 k hk hS
    · exact (List.pairwise_cons.1 h.parted).1 d hd k hS hk
  · intro k hk
    obtain ⟨h1, _, h3, h4⟩ := h.with_set k hk
    exact ⟨h3, by rw [ks k h1]; exact h4⟩
  · obtain ⟨vas, r1, s1⟩ := ((h.each e e0).2.1 hs).kept (w' := w.setCell ⟨rb, 1, none⟩ (.slice (some ⟨g, 0, none⟩) (t.length + 1) cap)) (S' := with_ S e.lv) (fun k hk => ks k (h.S_ne hk).1) (fun _ h => .inl h)
    obtain ⟨vbs, r2, s2⟩ := h.body.kept (w' := w.setCell ⟨rb, 1, none⟩ (.slice (some ⟨g, 0, none⟩) (t.length + 1) cap)) (S' := with_ S e.lv) (fun k hk => ks k (h.with_set k hk).1) (fun _ h => h)
    simp only [IsStm]
    exact ⟨_, _, vas, vbs, rfl, r1, s1, r2, s2⟩
  · exact (Kept.refl B w).setCell h.low _
end
end Go.Proofs.YtfmmpahbjkiomaaGreatDoor
