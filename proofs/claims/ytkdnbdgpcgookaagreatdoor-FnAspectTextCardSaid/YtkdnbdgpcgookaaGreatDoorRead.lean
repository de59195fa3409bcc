/- The program's (*reader).finish and readStatements: the statements of a text that is a body, laid in memory, and true; else nil and false. Condition: the limit is at most 400 bytes. -/
import Derived.Test.YtkdnbdgpcgookaaGreatDoorTake
import Derived.Lib.OthersKept
namespace Go.Proofs.YtkdnbdgpcgookaaGreatDoor
open Go.RowKit Gram

theorem St.take_high {k : Bool} {st : St} (h : st.ok k) (c : UInt8) (hc : 128 ≤ c.toNat) : st.take k c = none := by
  have hd : isDig c = false := by rw [isDig_int]; simp; omega
  have hl : isLet c = false := by rw [isLet_int]; simp; omega
  have hne : ∀ d : UInt8, d.toNat < 128 → c ≠ d := fun d h e => by rw [e] at hc; omega
  unfold St.take
  rcases h.sign with hp | hp | hp | hp | hp
  · rw [hp, if_neg (by decide), if_neg (by decide), if_neg (by decide)]
    unfold St.begin
    rw [if_neg (by
      rintro (h | h | h | h | h)
      · exact hne 43 (by decide) h
      · exact hne 45 (by decide) h
      · exact hne 42 (by decide) h
      · exact hne 67 (by decide) h
      · exact hne 63 (by decide) h), if_neg (hne 80 (by decide)), if_neg (hne 93 (by decide)), if_neg (fun h => hne 75 (by decide) h.1)]
  · rw [if_pos hp, hd]; rfl
  · rw [hp, if_neg (by decide), if_pos rfl, hl]; rfl
  · rw [hp, if_neg (by decide), if_neg (by decide), if_pos (by decide), if_neg (hne 91 (by decide))]
  · rw [hp, if_neg (by decide), if_neg (by decide), if_pos (by decide), if_neg (hne 91 (by decide))]

theorem txts_ge (xs : List Stm) : xs.length ≤ (txts xs).length := by
  induction xs with
  | nil => simp [txts]
  | cons x xs ih => have := x.txt_len; simp [txts]; omega
theorem textOf_ge (u : Unf) (us : List Unf) : u.list.length ≤ (textOf u us).length ∧ us.length ≤ (textOf u us).length ∧ ∀ v ∈ us, v.list.length ≤ (textOf u us).length := by
  induction us generalizing u with
  | nil => exact ⟨txts_ge _, Nat.zero_le _, fun v hv => by cases hv⟩
  | cons v vs ih =>
    obtain ⟨h1, h2, h3⟩ := ih v
    have hu : u.list.length + 1 ≤ u.text.length := by
      have := txts_ge u.list
      unfold Unf.text
      split <;> simp <;> omega
    simp only [textOf, List.length_append]
    refine ⟨by omega, by simp; omega, ?_⟩
    intro x hx
    rcases List.mem_cons.1 hx with rfl | hx
    · omega
    · have := h3 x hx; omega
theorem St.text_ge (st : St) : st.top.list.length ≤ st.text.length ∧ st.rest.length ≤ st.text.length ∧ ∀ v ∈ st.rest, v.list.length ≤ st.text.length := by
  obtain ⟨h1, h2, h3⟩ := textOf_ge st.top st.rest
  simp only [St.text, List.length_append]
  exact ⟨by omega, by omega, fun v hv => by have := h3 v hv; omega⟩

/-- what lay in cells stays: the reader stays -/
theorem Rd.cells_same {w w' : World} {kk : Bool} {B rb g cap : Nat} {p : Int} {ents : List Ent} {S : Nat → Prop} (h : Rd w kk B rb p g cap ents S)
    (hk : ∀ (k : Nat) c e f, w.heap[k]? = some (Obj.cells c e f) → w'.heap[k]? = some (Obj.cells c e f)) : Rd w' kk B rb p g cap ents S := by
  obtain ⟨cur, hcur, _⟩ := row_cur h.row
  refine ⟨hk _ _ _ _ h.own, h.low, ownsRow_of h.row fun k hk' => ?_, ?_, h.parted, ?_⟩
  · simp [Value.ownBlock] at hk'; subst hk'; rw [hcur]; exact hk _ _ _ _ hcur
  · intro e hm
    have he := h.each e hm
    refine he.kept (fun k hk' => ?_) (fun _ h => h) he.2.2.1
    rcases hk' with h1 | h1
    · obtain ⟨_, cur, fz, h2⟩ := h.set k h1; rw [h2]; exact hk _ _ _ _ h2
    · obtain ⟨⟨vs, a, _⟩, _⟩ := he
      rcases a.2 with ⟨hv, _⟩ | ⟨g2, cap2, cur2, hv, _, hg2, _⟩
      · rw [hv] at h1; cases h1
      · rw [hv] at h1; simp [Value.ownBlock] at h1; subst h1; rw [hg2]; exact hk _ _ _ _ hg2
  · intro k hS
    obtain ⟨a, cur, fz, h2⟩ := h.set k hS
    exact ⟨a, cur, fz, hk _ _ _ _ h2⟩
theorem RdS.iterAt {w : World} {kk : Bool} {B rb : Nat} {st : St} (h : RdS w kk B rb st) {k : Nat} {s : ByteArray} {pos : Nat} (hk : w.heap[k]? = some (.stringIter s pos)) (pos' : Nat) : RdS (w.iterAt k s pos') kk B rb st := by
  obtain ⟨g, cap, ents, S, hR, hm⟩ := h
  refine ⟨g, cap, ents, S, hR.cells_same (fun j c e f hj => ?_), hm⟩
  rw [Lib.iterAt_other _ _ _ _ _ (by rintro rfl; rw [hk] at hj; cases hj)]
  exact hj

set_option maxHeartbeats 400000 in
theorem finish_yes (w : World) (rb g cap : Nat) (v : Value) (h1 : w.cell? ⟨rb, 1, none⟩ = some (.slice (some ⟨g, 0, none⟩) 1 cap)) (h2 : w.cell? ⟨rb, 2, none⟩ = some (.int .i32 0))
    (h3 : w.cell? ⟨g, 0, none⟩ = some v) :
    Calls Tryz.prog 84 #[.pointer (some ⟨rb, 0, none⟩)] w fun r w' => r = .returned v ∧ w = w' := by
  go_enter Tryz.func84, Tryz.ntmps84
  go_wp2_with fail
  go_ret
  exact ⟨rfl, rfl⟩
set_option maxHeartbeats 400000 in
theorem finish_pend (w : World) (rb g cap n : Nat) (q : Int) (h1 : w.cell? ⟨rb, 1, none⟩ = some (.slice (some ⟨g, 0, none⟩) n cap)) (h2 : w.cell? ⟨rb, 2, none⟩ = some (.int .i32 q))
    (h3 : (q == 0) = false) :
    Calls Tryz.prog 84 #[.pointer (some ⟨rb, 0, none⟩)] w fun r w' => Panics r ∧ w = w' := by
  go_enter Tryz.func84, Tryz.ntmps84
  go_wp2_with fail
  exact ⟨rfl, ⟨_, _, rfl⟩, rfl⟩
set_option maxHeartbeats 400000 in
theorem finish_open (w : World) (rb g cap n : Nat) (h1 : w.cell? ⟨rb, 1, none⟩ = some (.slice (some ⟨g, 0, none⟩) n cap)) (h2 : w.cell? ⟨rb, 2, none⟩ = some (.int .i32 0))
    (h3 : ((n : Int) == 1) = false) :
    Calls Tryz.prog 84 #[.pointer (some ⟨rb, 0, none⟩)] w fun r w' => Panics r ∧ w = w' := by
  go_enter Tryz.func84, Tryz.ntmps84
  go_wp2_with fail
  exact ⟨rfl, ⟨_, _, rfl⟩, rfl⟩

theorem finish_any {w : World} {kk : Bool} {B rb : Nat} {st : St} (h : RdS w kk B rb st) :
    Calls Tryz.prog 84 #[.pointer (some ⟨rb, 0, none⟩)] w fun r w' => (match st.finish with
      | some xs => ∃ v S, r = .returned v ∧ IsBody w S xs v ∧ ∀ k, S k → B ≤ k ∧ ∃ cur fz, w.heap[k]? = some (.cells cur 72 fz)
      | none => Panics r) ∧ w = w' := by
  have hc1 := h.cell1
  obtain ⟨g, cap, e, t, S, hR, hu, ht, hlen⟩ := h.parts
  have hc0 : w.cell? ⟨rb, 1, none⟩ = some (.slice (some ⟨g, 0, none⟩) (t.length + 1) cap) := by
    have := Lib.cell_of_heap hR.own 1
    simpa using this
  by_cases hp : st.pend = 0
  · rw [hp] at hc1
    cases t with
    | nil =>
      refine (finish_yes w rb g cap e.lv hc0 hc1 ?_).mono ?_
      · exact row_cell hR.row _ _ (cellsOf_get e []).1
      · rintro r w' ⟨h1, h2⟩
        refine ⟨?_, h2⟩
        have hf : st.finish = some st.top.list := by
          rw [St.finish, if_pos ⟨hp, by rw [← ht]; rfl⟩]
        rw [hf]
        refine ⟨_, _, h1, by rw [← hu]; exact hR.body, fun k hk => (hR.with_set k hk).2.2⟩
    | cons f t =>
      refine (finish_open w rb g cap (t.length + 1 + 1) hc0 hc1 (by rw [beq_eq_false_iff_ne]; omega)).mono ?_
      rintro r w' ⟨h1, h2⟩
      refine ⟨?_, h2⟩
      have hf : st.finish = none := by
        rw [St.finish, if_neg (by rintro ⟨_, h⟩; rw [← ht] at h; simp at h)]
      rw [hf]; exact h1
  · refine (finish_pend w rb g cap (t.length + 1) _ hc0 hc1 ?_).mono ?_
    · exact ne_int (d := 0) hp
    · rintro r w' ⟨h1, h2⟩
      refine ⟨?_, h2⟩
      have hf : st.finish = none := by rw [St.finish, if_neg (fun h => hp h.1)]
      rw [hf]; exact h1

/-- the deferred literal: of a body that panics, and of one that returns -/
theorem catch_panicking (p q : Addr) (x y : Value) (u : TypeId) (pv : Value) (older : List PanicEntry) (w : World) (hc : w.cell? p = some x) (hz : w.frozen? p = false) (hd : ∀ v, (w.setCell p v).cell? q = some y) (hy : ∀ v, (w.setCell p v).frozen? q = false) :
    CallsD Tryz.prog 82 #[.pointer (some p), .pointer (some q)] (.panicking ({ v := .iface u pv, recovered := false } :: older)) w fun e u' w' =>
      e = .returned (.tuple #[]) ∧ u' = .panicking ({ v := .iface u pv, recovered := true } :: older) ∧ w' = (w.setCell p (.slice none 0 0)).setCell q (.bool false) := by
  refine callsD_of_wpS Tryz.func82 rfl fun c₀ cs hu => ?_
  apply wpS_seq
  apply wpS_region
  simp [wpOpsS, go_sem, recoverD, hu, Tryz.ntmps82, Exit.thenS]
  refine wpS_cond (t := true) (by simp [Act.eval, Array.replicate]) ?_
  simp only [if_true]
  apply wpS_region
  simp [wpOpsS, go_sem, hc, hz, hd, hy, bodyPostS, results, Tryz.results82]

theorem catch_idle (p q : Addr) (w : World) :
    CallsD Tryz.prog 82 #[.pointer (some p), .pointer (some q)] .returning w fun e u' w' => e = .returned (.tuple #[]) ∧ u' = .returning ∧ w' = w := by
  refine callsD_of_wpS Tryz.func82 rfl fun c₀ cs hu => ?_
  apply wpS_seq
  apply wpS_region
  simp [wpOpsS, go_sem, recoverD, hu, Tryz.ntmps82, Exit.thenS]
  refine wpS_cond (t := false) (by simp [Act.eval, Array.replicate]) ?_
  simp only [Bool.false_eq_true, if_false]
  refine wpS_of_wp (wp_skip ?_)
  cases c₀
  simp_all [bodyPostS, results, Tryz.results82]

set_option maxHeartbeats 400000 in
theorem read_long (s : ByteArray) (most : Nat) (kk : Bool) (w : World) (hs : most < s.size) (_hm : s.size ≤ 1073741824) :
    Calls Tryz.prog 58 #[.string s, .int .i64 most, .string (sigs kk)] w fun r w' => r = .returned (.tuple #[.slice none 0 0, .bool false]) ∧ Below w.heap.size w w' := by
  have hmf : ∀ (fn : Fn) (first cap : Array Value) (w : World), (Instr.makeFunc fn first cap).run Tryz.prog w = .ok (.func fn first cap) w := fun _ _ _ _ => rfl
  go_enter_defers Tryz.func58, Tryz.ntmps58
  go_wp2_with fail
  refine leaves_cons (f := 82) (args := #[.pointer (some ⟨w.heap.size, 0, none⟩), .pointer (some ⟨w.heap.size + 1, 0, none⟩)]) (by simp) (by simp [go_sem]) ?_
  refine (catch_idle _ _ _).mono ?_
  rintro e u' w'' ⟨rfl, rfl, rfl⟩
  refine ⟨.tuple #[.slice none 0 0, .bool false], ?_, rfl, ?_⟩
  · simp [results, Tryz.results58, go_sem]
  · exact ((Below.refl _ _).alloc (Nat.le_refl _) _).alloc (by simp) _

theorem heap5 (a : Array Obj) (x0 x1 x2 x3 x4 : Obj) :
    (((((a.push x0).push x1).push x2).push x3).push x4)[a.size]? = some x0 ∧ (((((a.push x0).push x1).push x2).push x3).push x4)[a.size + 1]? = some x1 ∧
    (((((a.push x0).push x1).push x2).push x3).push x4)[a.size + 1 + 1]? = some x2 ∧ (((((a.push x0).push x1).push x2).push x3).push x4)[a.size + 1 + 1 + 1]? = some x3 ∧
    (((((a.push x0).push x1).push x2).push x3).push x4)[a.size + 1 + 1 + 1 + 1]? = some x4 := by
  have old : ∀ (b : Array Obj) (x : Obj) (k : Nat), k < b.size → (b.push x)[k]? = b[k]? := fun b x k h => by rw [Array.getElem?_push, if_neg (by omega)]
  have new : ∀ (b : Array Obj) (x : Obj) (k : Nat), k = b.size → (b.push x)[k]? = some x := fun b x k h => by subst h; simp
  refine ⟨?_, ?_, ?_, ?_, ?_⟩
  · rw [old _ _ _ (by simp; omega), old _ _ _ (by simp; omega), old _ _ _ (by simp; omega), old _ _ _ (by simp), new _ _ _ rfl]
  · rw [old _ _ _ (by simp), old _ _ _ (by simp), old _ _ _ (by simp), new _ _ _ (by simp)]
  · rw [old _ _ _ (by simp), old _ _ _ (by simp), new _ _ _ (by simp)]
  · rw [old _ _ _ (by simp), new _ _ _ (by simp)]
  · rw [new _ _ _ (by simp)]

/-- the world in which the signs are taken -/
def startW (w : World) (kk : Bool) (s : ByteArray) : World := ((((w.alloc (Obj.cells #[.slice none 0 0] 55)).alloc (Obj.cells #[.bool false] 4)).alloc (Obj.cells #[.slice none 0 0, .slice none 0 0, .bool false] 139)).alloc
  (Obj.cells #[.string (sigs kk), .slice (some ⟨w.heap.size + 1 + 1, 0, none⟩) 1 1, .int .i32 0] 142)).iter s 0

theorem start_facts (w : World) (kk : Bool) (s : ByteArray) : (startW w kk s).heap[w.heap.size + 1 + 1 + 1 + 1]? = some (Obj.stringIter s 0) ∧ RdS (startW w kk s) kk (w.heap.size + 1 + 1) (w.heap.size + 1 + 1 + 1) St.start ∧ Below w.heap.size w (startW w kk s) ∧
    (startW w kk s).heap[w.heap.size]? = some (Obj.cells #[.slice none 0 0] 55 (0, 0)) ∧ (startW w kk s).heap[w.heap.size + 1]? = some (Obj.cells #[.bool false] 4 (0, 0)) := by
  obtain ⟨h0, h1, h2, h3, h4⟩ := heap5 w.heap (Obj.cells #[.slice none 0 0] 55) (Obj.cells #[.bool false] 4) (Obj.cells #[.slice none 0 0, .slice none 0 0, .bool false] 139)
    (Obj.cells #[.string (sigs kk), .slice (some ⟨w.heap.size + 1 + 1, 0, none⟩) 1 1, .int .i32 0] 142) (Obj.stringIter s 0)
  refine ⟨h4, ⟨w.heap.size + 1 + 1, 1, [⟨⟨[], [], false⟩, .slice none 0 0, .slice none 0 0⟩], fun _ => False, ⟨h3, by omega, ?_, ?_, by simp, fun _ h => h.elim⟩, rfl⟩, ?_, h0, h1⟩
  · exact ⟨by simp [cellsOf], .inr ⟨w.heap.size + 1 + 1, 1, _, rfl, Nat.le_refl _, h2, Nat.le_refl _, by decide, by simp, by simp [cellsOf]⟩⟩
  · intro e he
    simp at he
    subst he
    exact ⟨⟨[], World.ownsRow_nil _ _ _ _, rfl⟩, (by intro h; cases h), (by intro k hk; cases hk), ⟨_, _, _, rfl⟩⟩
  · exact (((((Below.refl _ w).alloc (Nat.le_refl _) _).alloc (by simp) _).alloc (by simp; omega) _).alloc (by simp; omega) _).alloc (by simp; omega) _

/-- what readBody hands back for what the plain reader does -/
def ReadTo (o : Option (List Stm)) (w : World) (r : Ending) (w' : World) : Prop :=
  (match o with
    | some xs => ∃ v S, r = .returned (.tuple #[v, .bool true]) ∧ IsBody w' S xs v ∧ ∀ k, S k → w.heap.size ≤ k ∧ ∃ cur fz, w'.heap[k]? = some (.cells cur 72 fz)
    | none => r = .returned (.tuple #[.slice none 0 0, .bool false])) ∧ Below w.heap.size w w'

theorem reads_none {kk : Bool} {l : List UInt8} {pos : Nat} {c : UInt8} {st : St} (hl : l.take (pos + 1) = l.take pos ++ [c]) (hT : takes kk (l.take pos) St.start = some st) (hN : st.take kk c = none) : reads kk l = none := by
  have e : l = l.take (pos + 1) ++ l.drop (pos + 1) := (List.take_append_drop _ _).symm
  rw [reads, e, takes_append, hl, takes_append, hT]
  simp [takes, hN]

theorem door_panics (kk : Bool) (s : ByteArray) (w wr : World) (u : TypeId) (pv : Value) (hr : reads kk s.data.toList = none) (hb : Below w.heap.size w wr)
    (c0 : wr.heap[w.heap.size]? = some (Obj.cells #[.slice none 0 0] 55 (0, 0))) (c1 : wr.heap[w.heap.size + 1]? = some (Obj.cells #[.bool false] 4 (0, 0))) :
    CallsD Tryz.prog 82 #[.pointer (some ⟨w.heap.size, 0, none⟩), .pointer (some ⟨w.heap.size + 1, 0, none⟩)] (.panicking [{ v := .iface u pv, recovered := false }]) wr fun e u' w' =>
      e = .returned (.tuple #[]) ∧ u' = .panicking [{ v := .iface u pv, recovered := true }] ∧ w'.cell? ⟨w.heap.size, 0, none⟩ = some (.slice none 0 0) ∧ w'.cell? ⟨w.heap.size + 1, 0, none⟩ = some (.bool false) ∧
        ReadTo (reads kk s.data.toList) w (.returned (.tuple #[.slice none 0 0, .bool false])) w' := by
  have e0 : wr.cell? ⟨w.heap.size, 0, none⟩ = some (.slice none 0 0) := by rw [Lib.cell_of_heap c0]; rfl
  have e1 : wr.cell? ⟨w.heap.size + 1, 0, none⟩ = some (.bool false) := by rw [Lib.cell_of_heap c1]; rfl
  have ho : ∀ v, (wr.setCell ⟨w.heap.size, 0, none⟩ v).heap[w.heap.size + 1]? = wr.heap[w.heap.size + 1]? := fun v => heap_set_other (by omega) v
  have e2 : ∀ v, (wr.setCell ⟨w.heap.size, 0, none⟩ v).cell? ⟨w.heap.size + 1, 0, none⟩ = some (.bool false) := fun v => by
    rw [World.cell?_of_block (a := ⟨w.heap.size + 1, 0, none⟩) (ho v)]; exact e1
  have e3 : ∀ v, (wr.setCell ⟨w.heap.size, 0, none⟩ v).frozen? ⟨w.heap.size + 1, 0, none⟩ = false := fun v => by
    rw [World.frozen?_of_block (a := ⟨w.heap.size + 1, 0, none⟩) (ho v)]; exact Lib.frozen_of_heap c1 0
  refine (catch_panicking _ _ _ _ u pv [] wr e0 (Lib.frozen_of_heap c0 0) e2 e3).mono ?_
  rintro e u' w' ⟨h1, h2, rfl⟩
  refine ⟨h1, h2, ?_, ?_, ?_, ?_⟩
  · have h9 : ((wr.setCell ⟨w.heap.size, 0, none⟩ (.slice none 0 0)).setCell ⟨w.heap.size + 1, 0, none⟩ (.bool false)).heap[w.heap.size]? = (wr.setCell ⟨w.heap.size, 0, none⟩ (.slice none 0 0)).heap[w.heap.size]? := heap_set_other (by omega) _
    rw [World.cell?_of_block (a := ⟨w.heap.size, 0, none⟩) h9, Lib.cell_of_heap (heap_set_same c0 _)]; rfl
  · rw [Lib.cell_of_heap (heap_set_same (by rw [ho]; exact c1) _)]; rfl
  · rw [hr]
  · exact (hb.setCell (by simp) _).setCell (by simp) _

theorem IsBody.form {w : World} {S : Nat → Prop} {xs : List Stm} {v : Value} (h : IsBody w S xs v) : ∃ a n c, v = .slice a n c := by
  obtain ⟨vs, r, _⟩ := h
  exact slice_form r.1

theorem door_returns (kk : Bool) (s : ByteArray) (w wr : World) (S : Nat → Prop) (xs : List Stm) (v : Value) (hr : reads kk s.data.toList = some xs) (hB : IsBody wr S xs v)
    (hS : ∀ k, S k → w.heap.size + 1 + 1 ≤ k ∧ ∃ cur fz, wr.heap[k]? = some (.cells cur 72 fz)) (hb : Below w.heap.size w wr)
    (c0 : wr.heap[w.heap.size]? = some (Obj.cells #[.slice none 0 0] 55 (0, 0))) (c1 : wr.heap[w.heap.size + 1]? = some (Obj.cells #[.bool false] 4 (0, 0))) :
    ((wr.setCell ⟨w.heap.size, 0, none⟩ v).setCell ⟨w.heap.size + 1, 0, none⟩ (.bool true)).cell? ⟨w.heap.size, 0, none⟩ = some v ∧
    ((wr.setCell ⟨w.heap.size, 0, none⟩ v).setCell ⟨w.heap.size + 1, 0, none⟩ (.bool true)).cell? ⟨w.heap.size + 1, 0, none⟩ = some (.bool true) ∧
    ReadTo (reads kk s.data.toList) w (.returned (.tuple #[v, .bool true])) ((wr.setCell ⟨w.heap.size, 0, none⟩ v).setCell ⟨w.heap.size + 1, 0, none⟩ (.bool true)) := by
  have ho : (wr.setCell ⟨w.heap.size, 0, none⟩ v).heap[w.heap.size + 1]? = wr.heap[w.heap.size + 1]? := heap_set_other (by omega) v
  have hk : ∀ k, w.heap.size + 1 + 1 ≤ k → ((wr.setCell ⟨w.heap.size, 0, none⟩ v).setCell ⟨w.heap.size + 1, 0, none⟩ (.bool true)).heap[k]? = wr.heap[k]? := fun k hk => by
    rw [heap_set_other (by omega), heap_set_other (by omega)]
  refine ⟨?_, ?_, ?_, ?_⟩
  · have h9 : ((wr.setCell ⟨w.heap.size, 0, none⟩ v).setCell ⟨w.heap.size + 1, 0, none⟩ (.bool true)).heap[w.heap.size]? = (wr.setCell ⟨w.heap.size, 0, none⟩ v).heap[w.heap.size]? := heap_set_other (by omega) _
    rw [World.cell?_of_block (a := ⟨w.heap.size, 0, none⟩) h9, Lib.cell_of_heap (heap_set_same c0 _)]; rfl
  · rw [Lib.cell_of_heap (heap_set_same (by rw [ho]; exact c1) _)]; rfl
  · rw [hr]
    refine ⟨v, S, rfl, hB.kept (fun k h => hk k (hS k h).1) (fun _ h => h), fun k h => ?_⟩
    obtain ⟨h1, cur, fz, h2⟩ := hS k h
    exact ⟨by omega, cur, fz, by rw [hk k h1]; exact h2⟩
  · exact (hb.setCell (by simp) _).setCell (by simp) _

set_option maxHeartbeats 1000000 in
theorem read_short (s : ByteArray) (most : Nat) (kk : Bool) (w : World) (hs : s.size ≤ most) (hm : most ≤ 400) :
    Calls Tryz.prog 58 #[.string s, .int .i64 most, .string (sigs kk)] w (ReadTo (reads kk s.data.toList) w) := by
  have hmf : ∀ (fn : Fn) (first cap : Array Value) (w : World), (Instr.makeFunc fn first cap).run Tryz.prog w = .ok (.func fn first cap) w := fun _ _ _ _ => rfl
  have hnl : ¬ (most < s.size) := by omega
  have hnd : decide ((most : Int) < (s.size : Int)) = false := by simpa using hs
  go_enter_defers Tryz.func58, Tryz.ntmps58
  go_wp2_with fail
  go_loopw [] (fun wr => ∃ (pos : Nat) (st : St), wr.heap[w.heap.size + 1 + 1 + 1 + 1]? = some (Obj.stringIter s pos) ∧ pos ≤ s.size ∧ RdS wr kk (w.heap.size + 1 + 1) (w.heap.size + 1 + 1 + 1) st ∧ Below w.heap.size w wr ∧
      wr.heap[w.heap.size]? = some (Obj.cells #[.slice none 0 0] 55 (0, 0)) ∧ wr.heap[w.heap.size + 1]? = some (Obj.cells #[.bool false] 4 (0, 0)) ∧
      Hid (takes kk (s.data.toList.take pos) St.start = some st)) (fun wr => s.size - wr.iterPos (w.heap.size + 1 + 1 + 1 + 1))
  case atStart =>
    obtain ⟨f0, f1, f2, f3, f4⟩ := start_facts w kk s
    exact ⟨0, St.start, f0, Nat.zero_le _, f1, f2, f3, f4, rfl⟩
  case round =>
    obtain ⟨pos, st, hit, hpos, hR, hb, c0, c1, hT⟩ := hrel
    obtain ⟨hok, htx⟩ := takes_ok kk _ _ _ (start_ok kk) hT.out
    obtain ⟨b1, b2, b3⟩ := St.text_ge st
    have hlen : st.text.length ≤ 400 := by rw [htx]; simp [St.start, St.text, textOf, txts]; omega
    have hsz : w.heap.size + 1 + 1 + 1 + 1 < wr.heap.size := heap_lt hit
    by_cases hp : pos < s.size
    · have hnx : ∀ ty, (Instr.next (.pointer (some ⟨w.heap.size + 1 + 1 + 1 + 1, 0, none⟩)) true ty).run Tryz.prog wr = _ := fun ty => Lib.run_next_any_at wr (w.heap.size + 1 + 1 + 1 + 1) s pos ty hit hp
      have hR2 := hR.iterAt hit (pos + (Utf8.decode s pos).2)
      have hit2 := Lib.iterAt_heap wr (w.heap.size + 1 + 1 + 1 + 1) s pos (pos + (Utf8.decode s pos).2) hit
      have hb2 := Lib.below_iterAt hb (k := w.heap.size + 1 + 1 + 1 + 1) (by omega) s (pos + (Utf8.decode s pos).2)
      have hlb : (s.data.toList.take (pos + 1)) = s.data.toList.take pos ++ [s[pos]] := by
        rw [List.take_succ_eq_append_getElem (by simpa using hp)]; rfl
      by_cases ha : (s[pos]'hp).toNat < 128
      · have hdec := decode_ascii s pos hp ha
        have hs1 : Sg ((Utf8.decode s pos).1 : Int) s[pos] := .inl ⟨by rw [hdec], ha⟩
        have HTk := take_any hR2 hok _ _ hs1 (by omega) (by omega) (fun u hu => Nat.le_trans (b3 u hu) (by omega)) (by rw [Lib.iterAt_size]; omega)
        have HD := Lib.hid (show (Utf8.decode s pos).2 = 1 by rw [hdec])
        have HL := Lib.hid hlb
        cases htk : st.take kk s[pos] with
        | none =>
          rw [htk] at HTk
          have HTk := Lib.hid HTk
          have HN := Lib.hid htk
          clear hdec hlb hs1 htk hok htx b1 b2 b3 hR hR2
          go_wp2_with fail
          refine HTk.out.mono ?_
          rintro e w' ⟨⟨u, pv, rfl⟩, hk⟩
          have hE := Lib.hid (door_panics kk s w w' u pv (reads_none HL.out hT.out HN.out) (hb2.trans (hk.below.mono (by omega))) (by rw [hk.below.block _ (by omega), Lib.iterAt_other _ _ _ _ _ (by omega)]; exact c0) (by rw [hk.below.block _ (by omega), Lib.iterAt_other _ _ _ _ _ (by omega)]; exact c1))
          go_wp2_with fail
          refine leaves_cons (f := 82) (args := #[.pointer (some ⟨w.heap.size, 0, none⟩), .pointer (some ⟨w.heap.size + 1, 0, none⟩)]) (by simp) (by simp [go_sem]) ?_
          refine hE.out.mono ?_
          rintro e u' w'' ⟨rfl, rfl, q0, q1, hP⟩
          simp [Leaves, settle, results, Tryz.results58, go_sem, q0, q1]
          exact hP
        | some st' =>
          rw [htk] at HTk
          have HTk := Lib.hid HTk
          have HS := Lib.hid htk
          clear htk hdec hlb hs1 hok htx b1 b2 b3 hR hR2
          go_wp2_with fail
          refine HTk.out.mono ?_
          rintro e w' ⟨⟨rfl, hR'⟩, hk⟩
          go_wp2_with fail
          go_roundw
          case rel =>
            refine ⟨pos + (Utf8.decode s pos).2, st', hk.iter _ _ _ hit2, by rw [HD.out]; omega, hR', hb2.trans (hk.below.mono (by omega)), ?_, ?_, ?_⟩
            · rw [hk.below.block _ (by omega), Lib.iterAt_other _ _ _ _ _ (by omega)]; exact c0
            · rw [hk.below.block _ (by omega), Lib.iterAt_other _ _ _ _ _ (by omega)]; exact c1
            · show takes kk _ _ = _
              rw [HD.out, HL.out, takes_append, hT.out]
              simp [takes, HS.out]
          case measure =>
            simp only [World.iterPos, hk.iter _ _ _ hit2, hit]
            rw [HD.out]; omega
      · obtain ⟨d1, d2⟩ := decode_high s pos hp (by omega)
        have hs1 : Sg ((Utf8.decode s pos).1 : Int) 128 := .inr ⟨rfl, by omega⟩
        have HTk := take_any hR2 hok _ _ hs1 (by omega) (by omega) (fun u hu => Nat.le_trans (b3 u hu) (by omega)) (by rw [Lib.iterAt_size]; omega)
        rw [St.take_high hok 128 (by decide)] at HTk
        have HTk := Lib.hid HTk
        have HN := Lib.hid (St.take_high hok s[pos] (by omega))
        have HL := Lib.hid hlb
        clear hlb hs1 hok htx b1 b2 b3 hR hR2 d1 d2
        go_wp2_with fail
        refine HTk.out.mono ?_
        rintro e w' ⟨⟨u, pv, rfl⟩, hk⟩
        have hE := Lib.hid (door_panics kk s w w' u pv (reads_none HL.out hT.out HN.out) (hb2.trans (hk.below.mono (by omega))) (by rw [hk.below.block _ (by omega), Lib.iterAt_other _ _ _ _ _ (by omega)]; exact c0) (by rw [hk.below.block _ (by omega), Lib.iterAt_other _ _ _ _ _ (by omega)]; exact c1))
        go_wp2_with fail
        refine leaves_cons (f := 82) (args := #[.pointer (some ⟨w.heap.size, 0, none⟩), .pointer (some ⟨w.heap.size + 1, 0, none⟩)]) (by simp) (by simp [go_sem]) ?_
        refine hE.out.mono ?_
        rintro e u' w'' ⟨rfl, rfl, q0, q1, hP⟩
        simp [Leaves, settle, results, Tryz.results58, go_sem, q0, q1]
        exact hP
    · have hnx : ∀ ty, (Instr.next (.pointer (some ⟨w.heap.size + 1 + 1 + 1 + 1, 0, none⟩)) true ty).run Tryz.prog wr = _ := fun ty => Lib.run_next_end_at wr (w.heap.size + 1 + 1 + 1 + 1) s pos ty hit hp
      have hall : s.data.toList.take pos = s.data.toList := List.take_of_length_le (by simp; omega)
      have hrd : reads kk s.data.toList = st.finish := by
        have := hT.out
        rw [hall] at this
        rw [reads, this]; rfl
      have HF := finish_any hR
      cases hfi : st.finish with
      | none =>
        rw [hfi] at HF hrd
        have HF := Lib.hid HF
        have HN := Lib.hid hrd
        clear hfi hrd hall hok htx b1 b2 b3 hR
        go_wp2_with fail
        refine HF.out.mono ?_
        rintro e w' ⟨⟨u, pv, rfl⟩, rfl⟩
        have hE := Lib.hid (door_panics kk s w wr u pv HN.out hb c0 c1)
        go_wp2_with fail
        refine leaves_cons (f := 82) (args := #[.pointer (some ⟨w.heap.size, 0, none⟩), .pointer (some ⟨w.heap.size + 1, 0, none⟩)]) (by simp) (by simp [go_sem]) ?_
        refine hE.out.mono ?_
        rintro e u' w'' ⟨rfl, rfl, q0, q1, hP⟩
        simp [Leaves, settle, results, Tryz.results58, go_sem, q0, q1]
        exact hP
      | some xs =>
        rw [hfi] at HF hrd
        have HF := Lib.hid HF
        have HN := Lib.hid hrd
        have e0 : wr.cell? ⟨w.heap.size, 0, none⟩ = some (.slice none 0 0) := by rw [Lib.cell_of_heap c0]; rfl
        have z0 : wr.frozen? ⟨w.heap.size, 0, none⟩ = false := Lib.frozen_of_heap c0 0
        have ho : ∀ v, (wr.setCell ⟨w.heap.size, 0, none⟩ v).heap[w.heap.size + 1]? = wr.heap[w.heap.size + 1]? := fun v => heap_set_other (by omega) v
        have e2 : ∀ v, (wr.setCell ⟨w.heap.size, 0, none⟩ v).cell? ⟨w.heap.size + 1, 0, none⟩ = some (.bool false) := fun v => by
          rw [World.cell?_of_block (a := ⟨w.heap.size + 1, 0, none⟩) (ho v), Lib.cell_of_heap c1]; rfl
        have e3 : ∀ v, (wr.setCell ⟨w.heap.size, 0, none⟩ v).frozen? ⟨w.heap.size + 1, 0, none⟩ = false := fun v => by
          rw [World.frozen?_of_block (a := ⟨w.heap.size + 1, 0, none⟩) (ho v)]; exact Lib.frozen_of_heap c1 0
        have HO := Lib.hid ho
        clear hfi hrd hall hok htx b1 b2 b3 hR ho
        go_wp2_with fail
        refine HF.out.mono ?_
        rintro e w' ⟨⟨v, S, rfl, hB, hS⟩, rfl⟩
        obtain ⟨va, vn, vc, rfl⟩ := hB.form
        have hP := Lib.hid (door_returns kk s w wr S xs _ HN.out hB hS hb c0 c1)
        clear hB hS
        go_wp2_with fail
        refine leaves_cons (f := 82) (args := #[.pointer (some ⟨w.heap.size, 0, none⟩), .pointer (some ⟨w.heap.size + 1, 0, none⟩)]) (by simp) (by simp [go_sem]) ?_
        refine (catch_idle _ _ _).mono ?_
        rintro e u' w'' ⟨rfl, rfl, rfl⟩
        obtain ⟨q0, q1, hP⟩ := hP.out
        refine ⟨.tuple #[.slice va vn vc, .bool true], ?_, hP⟩
        simp [results, Tryz.results58, go_sem, q0, q1]

/-- what a text of at most so many bytes tells as statements -/
def stmtsOf (kk : Bool) (most : Nat) (s : ByteArray) : Option (List Stm) := if s.size ≤ most then reads kk s.data.toList else none

/-- readStatements: what the text tells -/
theorem read_any (s : ByteArray) (most : Nat) (kk : Bool) (w : World) (hm : s.size ≤ 1073741824) (h4 : most ≤ 400) :
    Calls Tryz.prog 58 #[.string s, .int .i64 most, .string (sigs kk)] w (ReadTo (stmtsOf kk most s) w) := by
  by_cases h : s.size ≤ most
  · have := read_short s most kk w h h4
    rw [show stmtsOf kk most s = reads kk s.data.toList from if_pos h]
    exact this
  · refine (read_long s most kk w (by omega) hm).mono ?_
    rintro r w' ⟨h1, h2⟩
    rw [show stmtsOf kk most s = none from if_neg h]
    exact ⟨h1, h2⟩
end Go.Proofs.YtkdnbdgpcgookaaGreatDoor
