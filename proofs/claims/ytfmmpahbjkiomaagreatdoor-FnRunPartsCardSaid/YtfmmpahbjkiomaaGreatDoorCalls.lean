/- The calls of a procedure. Condition: a program as readProgram lays it. -/
import Derived.Test.YtfmmpahbjkiomaaGreatDoorOwn
namespace Go.Proofs.YtfmmpahbjkiomaaGreatDoor
open Go.RowKit Gram

theorem setFrom_append (a b : List UInt8) (m : Nat) : setFrom m (a ++ b) = setFrom (setFrom m a) b := by simp [setFrom]
mutual
theorem fold_stm (x : Stm) (m : Nat) : x.flat.foldl stepC m = setFrom m x.calls := by
  match x with
  | .chg _ _ => rfl
  | .prt => rfl
  | .pro => rfl
  | .call c => rfl
  | .cho a b =>
    simp only [Stm.flat, Stm.calls, List.foldl_cons, List.foldl_append, setFrom_append, stepC]
    rw [fold_calls a, fold_calls b]
theorem fold_calls (xs : List Stm) (m : Nat) : (flats xs).foldl stepC m = setFrom m (callsIn xs) := by
  match xs with
  | [] => rfl
  | x :: xs =>
    simp only [flats, callsIn, List.foldl_append, setFrom_append]
    rw [fold_stm x, fold_calls xs]
end
mutual
theorem flat_lets (x : Stm) (h : x.wf = true) : ∀ y ∈ x.flat, ∀ c, y = .call c → isLet c = true := by
  match x with
  | .chg _ _ => intro y hy c e; simp [Stm.flat] at hy; rw [hy] at e; cases e
  | .prt => intro y hy c e; simp [Stm.flat] at hy; rw [hy] at e; cases e
  | .pro => intro y hy c e; simp [Stm.flat] at hy; rw [hy] at e; cases e
  | .call d => intro y hy c e; simp [Stm.flat] at hy; rw [hy] at e; injection e with e; subst e; simpa [Stm.wf] using h
  | .cho a b =>
    simp only [Stm.wf, Bool.and_eq_true] at h
    intro y hy c e
    simp only [Stm.flat, List.mem_cons, List.mem_append] at hy
    rcases hy with hy | hy | hy
    · rw [hy] at e; cases e
    · exact flats_lets a h.1 y hy c e
    · exact flats_lets b h.2 y hy c e
theorem flats_lets (xs : List Stm) (h : wfs xs = true) : ∀ y ∈ flats xs, ∀ c, y = .call c → isLet c = true := by
  match xs with
  | [] => intro y hy; simp [flats] at hy
  | x :: xs =>
    simp only [wfs, Bool.and_eq_true] at h
    intro y hy c e
    simp only [flats, List.mem_append] at hy
    rcases hy with hy | hy
    · exact flat_lets x h.1 y hy c e
    · exact flats_lets xs h.2 y hy c e
end
mutual
theorem calls_let (x : Stm) (h : x.wf = true) : lets x.calls := by
  match x with
  | .chg _ _ => intro c hc; simp [Stm.calls] at hc
  | .prt => intro c hc; simp [Stm.calls] at hc
  | .pro => intro c hc; simp [Stm.calls] at hc
  | .call d => intro c hc; simp [Stm.calls] at hc; subst hc; simpa [Stm.wf] using h
  | .cho a b =>
    simp only [Stm.wf, Bool.and_eq_true] at h
    intro c hc
    simp only [Stm.calls, List.mem_append] at hc
    rcases hc with hc | hc
    · exact callsIn_lets a h.1 c hc
    · exact callsIn_lets b h.2 c hc
theorem callsIn_lets (xs : List Stm) (h : wfs xs = true) : lets (callsIn xs) := by
  match xs with
  | [] => intro c hc; simp [callsIn] at hc
  | x :: xs =>
    simp only [wfs, Bool.and_eq_true] at h
    intro c hc
    simp only [callsIn, List.mem_append] at hc
    rcases hc with hc | hc
    · exact calls_let x h.1 c hc
    · exact callsIn_lets xs h.2 c hc
end
mutual
theorem flat_le (x : Stm) : x.flat.length ≤ x.txt.length := by
  match x with
  | .chg _ _ => simp [Stm.flat, Stm.txt]
  | .prt => simp [Stm.flat, Stm.txt]
  | .pro => simp [Stm.flat, Stm.txt]
  | .call _ => simp [Stm.flat, Stm.txt]
  | .cho a b =>
    have h1 := flats_le a
    have h2 := flats_le b
    simp [Stm.flat, Stm.txt]; omega
theorem flats_le (xs : List Stm) : (flats xs).length ≤ (txts xs).length := by
  match xs with
  | [] => simp [flats]
  | x :: xs =>
    have h1 := flat_le x
    have h2 := flats_le xs
    simp [flats, txts]; omega
end
theorem stepC_lt (m : Nat) (x : Stm) (h : okC m x) : stepC m x < 67108864 := by
  cases x with
  | call c => exact Nat.or_lt_two_pow (n := 26) h.1 (bit_lt (h.2 c rfl))
  | chg _ _ => exact h.1
  | prt => exact h.1
  | pro => exact h.1
  | cho _ _ => exact h.1
theorem okAll_calls (l : List Stm) : ∀ m, m < 67108864 → (∀ x ∈ l, ∀ c, x = .call c → isLet c = true) → okAll okC stepC m l := by
  induction l with
  | nil => intro m _ _; trivial
  | cons x t ih =>
    intro m hm h
    have hx : okC m x := ⟨hm, h x (List.mem_cons_self ..)⟩
    exact ⟨hx, ih _ (stepC_lt m x hx) fun y hy => h y (List.mem_cons_of_mem _ hy)⟩

theorem enters_calls (args : Array Value) (w : World) : (callFunc 102 args).run Tryz.prog w = .ok (.enter 102 args) w :=
  enters_of Tryz.func102 (by kernel_rfl) rfl args w

theorem two_old (w : World) (a b : Obj) : ∀ k, k < w.heap.size → ((w.alloc a).alloc b).heap[k]? = w.heap[k]? := by
  intro k hk
  rw [Lib.alloc_old _ _ _ (by rw [alloc_size']; omega), Lib.alloc_old _ _ _ hk]
theorem two_size (w : World) (a b : Obj) : w.heap.size + 1 < ((w.alloc a).alloc b).heap.size := by rw [alloc_size', alloc_size']; omega
theorem two_cell (w : World) (a b : Obj) : ((w.alloc a).alloc b).heap[w.heap.size + 1]? = some b := by
  have := heap_alloc_new (w.alloc a) b
  rwa [alloc_size'] at this
theorem two_below {w w2 : World} {a b : Obj} (h : But (w.heap.size + 1) ((w.alloc a).alloc b) w2) : Below w.heap.size w w2 :=
  (((Below.refl _ _).alloc (Nat.le_refl _) _).alloc (by rw [alloc_size']; omega) _).trans (h.below (by rw [alloc_size', alloc_size']; omega) (by omega))
/-- calls: the letters that a body calls -/
theorem calls_any {w : World} {S : Nat → Prop} {p : Pr} {v : Value} (hB : IsBody w S p.2 v) (hS : ∀ k, S k → k < w.heap.size) (hg : Good p) :
    Calls Tryz.prog 70 #[.agg #[.int .u8 p.1.toNat, v]] w fun e w' => e = .returned (.int .u32 (setOf (callsIn p.2))) ∧ Below w.heap.size w w' := by
  obtain ⟨ba, bn, bc, rfl⟩ := hB.form
  have hfl := flats_le p.2
  have hlen := hg.2.2.1
  have hE : ∀ w2 : World, (∀ k, k < w.heap.size → w2.heap[k]? = w.heap[k]?) → w.heap.size + 1 < w2.heap.size → w2.heap[w.heap.size + 1]? = some (.cells #[.int .u32 ((0 : Nat) : Int)] 60 (0, 0)) → _ :=
    fun w2 hk hz hc => each_all 102 60 (fun n => .int .u32 n) stepC okC enters_calls visits_calls (flats p.2).length p.2 w2 S (.slice ba bn bc) (w.heap.size + 1) 0 (Nat.le_refl _) (by omega)
      (fun k hk' => by have := hS k hk'; omega) (hB.kept (fun k hk' => hk k (hS k hk')) (fun _ h => h)) hc (okAll_calls _ 0 (by decide) (flats_lets _ hg.1))
  have HE := Lib.hid hE
  have HF := Lib.hid (fold_calls p.2 0)
  clear hE hfl hlen hB hS hg
  go_enter Tryz.func70, Tryz.ntmps70
  go_wp2_with fail
  refine (HE.out _ (two_old _ _ _) (two_size _ _ _) (two_cell _ _ _)).mono ?_
  rintro e w2 ⟨rfl, hc, hb⟩
  rw [HF.out] at hc
  have q := Lib.cell_of_heap hc 0
  have q0 : w2.cell? ⟨w.heap.size + 1, 0, none⟩ = some (.int .u32 (setOf (callsIn p.2))) := q
  have HW := Lib.hid (two_below hb)
  clear hc hb q
  go_wp2_with fail
  go_ret
  exact ⟨rfl, HW.out⟩
end Go.Proofs.YtfmmpahbjkiomaaGreatDoor
