/- The calls and the size of a procedure, callsOwn. Condition: a program as readProgram lays it. -/
import Derived.Test.YtmohgblcdhibeaaDoorOwn
namespace Go.Proofs.YtmohgblcdhibeaaDoor
open Go.RowKit Gram

theorem setFrom_append (a b : List UInt8) (m : Nat) : setFrom m (a ++ b) = setFrom (setFrom m a) b := by simp [setFrom]
mutual
theorem fold_stm (x : Stm) (m : Nat) : x.flat.foldl stepC m = setFrom m x.calls := by
  match x with
  | .chg _ _ => rfl
  | .prt => rfl
  | .pro => rfl
  | .call c => rfl
  | .cho a b =>
    simp only [Stm.flat, Stm.calls, List.foldl_cons, List.foldl_append, setFrom_append, stepC]
    rw [fold_calls a, fold_calls b]
theorem fold_calls (xs : List Stm) (m : Nat) : (flats xs).foldl stepC m = setFrom m (callsIn xs) := by
  match xs with
  | [] => rfl
  | x :: xs =>
    simp only [flats, callsIn, List.foldl_append, setFrom_append]
    rw [fold_stm x, fold_calls xs]
end
mutual
theorem flat_lets (x : Stm) (h : x.wf = true) : ∀ y ∈ x.flat, ∀ c, y = .call c → isLet c = true := by
  match x with
  | .chg _ _ => intro y hy c e; simp [Stm.flat] at hy; rw [hy] at e; cases e
  | .prt => intro y hy c e; simp [Stm.flat] at hy; rw [hy] at e; cases e
  | .pro => intro y hy c e; simp [Stm.flat] at hy; rw [hy] at e; cases e
  | .call d => intro y hy c e; simp [Stm.flat] at hy; rw [hy] at e; injection e with e; subst e; simpa [Stm.wf] using h
  | .cho a b =>
    simp only [Stm.wf, Bool.and_eq_true] at h
    intro y hy c e
    simp only [Stm.flat, List.mem_cons, List.mem_append] at hy
    rcases hy with hy | hy | hy
    · rw [hy] at e; cases e
    · exact flats_lets a h.1 y hy c e
    · exact flats_lets b h.2 y hy c e
theorem flats_lets (xs : List Stm) (h : wfs xs = true) : ∀ y ∈ flats xs, ∀ c, y = .call c → isLet c = true := by
  match xs with
  | [] => intro y hy; simp [flats] at hy
  | x :: xs =>
    simp only [wfs, Bool.and_eq_true] at h
    intro y hy c e
    simp only [flats, List.mem_append] at hy
    rcases hy with hy | hy
    · exact flat_lets x h.1 y hy c e
    · exact flats_lets xs h.2 y hy c e
end
mutual
theorem calls_let (x : Stm) (h : x.wf = true) : lets x.calls := by
  match x with
  | .chg _ _ => intro c hc; simp [Stm.calls] at hc
  | .prt => intro c hc; simp [Stm.calls] at hc
  | .pro => intro c hc; simp [Stm.calls] at hc
  | .call d => intro c hc; simp [Stm.calls] at hc; subst hc; simpa [Stm.wf] using h
  | .cho a b =>
    simp only [Stm.wf, Bool.and_eq_true] at h
    intro c hc
    simp only [Stm.calls, List.mem_append] at hc
    rcases hc with hc | hc
    · exact callsIn_lets a h.1 c hc
    · exact callsIn_lets b h.2 c hc
theorem callsIn_lets (xs : List Stm) (h : wfs xs = true) : lets (callsIn xs) := by
  match xs with
  | [] => intro c hc; simp [callsIn] at hc
  | x :: xs =>
    simp only [wfs, Bool.and_eq_true] at h
    intro c hc
    simp only [callsIn, List.mem_append] at hc
    rcases hc with hc | hc
    · exact calls_let x h.1 c hc
    · exact callsIn_lets xs h.2 c hc
end
mutual
theorem flat_le (x : Stm) : x.flat.length ≤ x.txt.length := by
  match x with
  | .chg _ _ => simp [Stm.flat, Stm.txt]
  | .prt => simp [Stm.flat, Stm.txt]
  | .pro => simp [Stm.flat, Stm.txt]
  | .call _ => simp [Stm.flat, Stm.txt]
  | .cho a b =>
    have h1 := flats_le a
    have h2 := flats_le b
    simp [Stm.flat, Stm.txt]; omega
theorem flats_le (xs : List Stm) : (flats xs).length ≤ (txts xs).length := by
  match xs with
  | [] => simp [flats]
  | x :: xs =>
    have h1 := flat_le x
    have h2 := flats_le xs
    simp [flats, txts]; omega
end
theorem stepC_lt (m : Nat) (x : Stm) (h : okC m x) : stepC m x < 67108864 := by
  cases x with
  | call c => exact Nat.or_lt_two_pow (n := 26) h.1 (bit_lt (h.2 c rfl))
  | chg _ _ => exact h.1
  | prt => exact h.1
  | pro => exact h.1
  | cho _ _ => exact h.1
theorem okAll_calls (l : List Stm) : ∀ m, m < 67108864 → (∀ x ∈ l, ∀ c, x = .call c → isLet c = true) → okAll okC stepC m l := by
  induction l with
  | nil => intro m _ _; trivial
  | cons x t ih =>
    intro m hm h
    have hx : okC m x := ⟨hm, h x (List.mem_cons_self ..)⟩
    exact ⟨hx, ih _ (stepC_lt m x hx) fun y hy => h y (List.mem_cons_of_mem _ hy)⟩

theorem enters_calls (args : Array Value) (w : World) : (callFunc 91 args).run Tryd.prog w = .ok (.enter 91 args) w :=
  enters_of Tryd.func91 (by kernel_rfl) rfl args w

theorem two_old (w : World) (a b : Obj) : ∀ k, k < w.heap.size → ((w.alloc a).alloc b).heap[k]? = w.heap[k]? := by
  intro k hk
  rw [Lib.alloc_old _ _ _ (by rw [alloc_size']; omega), Lib.alloc_old _ _ _ hk]
theorem two_size (w : World) (a b : Obj) : w.heap.size + 1 < ((w.alloc a).alloc b).heap.size := by rw [alloc_size', alloc_size']; omega
theorem two_cell (w : World) (a b : Obj) : ((w.alloc a).alloc b).heap[w.heap.size + 1]? = some b := by
  have := heap_alloc_new (w.alloc a) b
  rwa [alloc_size'] at this
theorem two_below {w w2 : World} {a b : Obj} (h : But (w.heap.size + 1) ((w.alloc a).alloc b) w2) : Below w.heap.size w w2 :=
  (((Below.refl _ _).alloc (Nat.le_refl _) _).alloc (by rw [alloc_size']; omega) _).trans (h.below (by rw [alloc_size', alloc_size']; omega) (by omega))
/-- calls: the letters that a body calls -/
theorem calls_any {w : World} {S : Nat → Prop} {p : Pr} {v : Value} (hB : IsBody w S p.2 v) (hS : ∀ k, S k → k < w.heap.size) (hg : Good p) :
    Calls Tryd.prog 60 #[.agg #[.int .u8 p.1.toNat, v]] w fun e w' => e = .returned (.int .u32 (setOf (callsIn p.2))) ∧ Below w.heap.size w w' := by
  obtain ⟨ba, bn, bc, rfl⟩ := hB.form
  have hfl := flats_le p.2
  have hlen := hg.2.2.1
  have hE : ∀ w2 : World, (∀ k, k < w.heap.size → w2.heap[k]? = w.heap[k]?) → w.heap.size + 1 < w2.heap.size → w2.heap[w.heap.size + 1]? = some (.cells #[.int .u32 ((0 : Nat) : Int)] 51 (0, 0)) → _ :=
    fun w2 hk hz hc => each_all 91 51 (fun n => .int .u32 n) stepC okC enters_calls visits_calls (flats p.2).length p.2 w2 S (.slice ba bn bc) (w.heap.size + 1) 0 (Nat.le_refl _) (by omega)
      (fun k hk' => by have := hS k hk'; omega) (hB.kept (fun k hk' => hk k (hS k hk')) (fun _ h => h)) hc (okAll_calls _ 0 (by decide) (flats_lets _ hg.1))
  have HE := Lib.hid hE
  have HF := Lib.hid (fold_calls p.2 0)
  clear hE hfl hlen hB hS hg
  go_enter Tryd.func60, Tryd.ntmps60
  go_wp2_with fail
  refine (HE.out _ (two_old _ _ _) (two_size _ _ _) (two_cell _ _ _)).mono ?_
  rintro e w2 ⟨rfl, hc, hb⟩
  rw [HF.out] at hc
  have q := Lib.cell_of_heap hc 0
  have q0 : w2.cell? ⟨w.heap.size + 1, 0, none⟩ = some (.int .u32 (setOf (callsIn p.2))) := q
  have HW := Lib.hid (two_below hb)
  clear hc hb q
  go_wp2_with fail
  go_ret
  exact ⟨rfl, HW.out⟩

def stepN (m : Nat) (_ : Stm) : Nat := m + 1
def okN (m : Nat) (_ : Stm) : Prop := m < 1048576
set_option maxHeartbeats 1000000 in
theorem visits_size : Visits 76 3 (fun n => .int .i64 n) stepN okN := by
  intro w S c a x ty pv ho hx hc
  have hlt := heap_lt hc
  have HC := Lib.hid hc
  have hoo : a < 1048576 := ho
  have q0 : w.cell? ⟨c, 0, none⟩ = some (.int .i64 a) := Lib.cell_of_heap hc 0
  have q1 : w.frozen? ⟨c, 0, none⟩ = false := Lib.frozen_of_heap hc 0
  clear hc ho hx
  go_enter Tryd.func76, Tryd.ntmps76
  go_wp2_with fail
  go_end0
  exact ⟨rfl, heap_set_same (k := 0) HC.out _, (But.refl c w).setCell 0 _⟩
theorem fold_size (l : List Stm) : ∀ m, l.foldl stepN m = m + l.length := by
  induction l with
  | nil => intro m; rfl
  | cons x t ih => intro m; rw [List.foldl_cons, ih, stepN, List.length_cons]; omega
theorem okAll_size (l : List Stm) : ∀ m, m + l.length ≤ 1048576 → okAll okN stepN m l := by
  induction l with
  | nil => intro m _; trivial
  | cons x t ih => intro m h; simp only [List.length_cons] at h; exact ⟨show m < 1048576 by omega, ih (m + 1) (by omega)⟩
theorem enters_size (args : Array Value) (w : World) : (callFunc 76 args).run Tryd.prog w = .ok (.enter 76 args) w :=
  enters_of Tryd.func76 (by kernel_rfl) rfl args w
/-- size: how many statements a body has, those within others too -/
theorem size_any {w : World} {S : Nat → Prop} {p : Pr} {v : Value} (hB : IsBody w S p.2 v) (hS : ∀ k, S k → k < w.heap.size) (hg : Good p) :
    Calls Tryd.prog 41 #[.agg #[.int .u8 p.1.toNat, v]] w fun e w' => e = .returned (.int .i64 (flats p.2).length) ∧ Below w.heap.size w w' := by
  obtain ⟨ba, bn, bc, rfl⟩ := hB.form
  have hfl := flats_le p.2
  have hlen := hg.2.2.1
  have hE : ∀ w2 : World, (∀ k, k < w.heap.size → w2.heap[k]? = w.heap[k]?) → w.heap.size + 1 < w2.heap.size → w2.heap[w.heap.size + 1]? = some (.cells #[.int .i64 ((0 : Nat) : Int)] 3 (0, 0)) → _ :=
    fun w2 hk hz hc => each_all 76 3 (fun n => .int .i64 n) stepN okN enters_size visits_size (flats p.2).length p.2 w2 S (.slice ba bn bc) (w.heap.size + 1) 0 (Nat.le_refl _) (by omega)
      (fun k hk' => by have := hS k hk'; omega) (hB.kept (fun k hk' => hk k (hS k hk')) (fun _ h => h)) hc (okAll_size _ 0 (by omega))
  have HE := Lib.hid hE
  have HF := Lib.hid (fold_size (flats p.2) 0)
  clear hE hfl hlen hB hS hg
  go_enter Tryd.func41, Tryd.ntmps41
  go_wp2_with fail
  refine (HE.out _ (two_old _ _ _) (two_size _ _ _) (two_cell _ _ _)).mono ?_
  rintro e w2 ⟨rfl, hc, hb⟩
  rw [HF.out, Nat.zero_add] at hc
  have q := Lib.cell_of_heap hc 0
  have q0 : w2.cell? ⟨w.heap.size + 1, 0, none⟩ = some (.int .i64 (flats p.2).length) := q
  have HW := Lib.hid (two_below hb)
  clear hc hb q
  go_wp2_with fail
  go_ret
  exact ⟨rfl, HW.out⟩
end Go.Proofs.YtmohgblcdhibeaaDoor
