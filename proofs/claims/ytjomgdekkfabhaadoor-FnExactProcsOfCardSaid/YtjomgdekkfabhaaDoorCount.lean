/- The size of a procedure. Condition: a program as readProgram lays it. -/
import Derived.Test.YtjomgdekkfabhaaDoorCalls
namespace Go.Proofs.YtjomgdekkfabhaaDoor
open Go.RowKit Gram

def stepN (m : Nat) (_ : Stm) : Nat := m + 1
def okN (m : Nat) (_ : Stm) : Prop := m < 1048576
set_option maxHeartbeats 1000000 in
theorem visits_size : Visits 67 3 (fun n => .int .i64 n) stepN okN := by
  intro w S c a x ty pv ho hx hc
  have hlt := heap_lt hc
  have HC := Lib.hid hc
  have hoo : a < 1048576 := ho
  have q0 : w.cell? ⟨c, 0, none⟩ = some (.int .i64 a) := Lib.cell_of_heap hc 0
  have q1 : w.frozen? ⟨c, 0, none⟩ = false := Lib.frozen_of_heap hc 0
  clear hc ho hx
  go_enter Tryd.func67, Tryd.ntmps67
  go_wp2_with fail
  go_end0
  exact ⟨rfl, heap_set_same (k := 0) HC.out _, (But.refl c w).setCell 0 _⟩
theorem fold_size (l : List Stm) : ∀ m, l.foldl stepN m = m + l.length := by
  induction l with
  | nil => intro m; rfl
  | cons x t ih => intro m; rw [List.foldl_cons, ih, stepN, List.length_cons]; omega
theorem okAll_size (l : List Stm) : ∀ m, m + l.length ≤ 1048576 → okAll okN stepN m l := by
  induction l with
  | nil => intro m _; trivial
  | cons x t ih => intro m h; simp only [List.length_cons] at h; exact ⟨show m < 1048576 by omega, ih (m + 1) (by omega)⟩
theorem enters_size (args : Array Value) (w : World) : (callFunc 67 args).run Tryd.prog w = .ok (.enter 67 args) w :=
  enters_of Tryd.func67 (by kernel_rfl) rfl args w
/-- size: how many statements a body has, those within others too -/
theorem size_any {w : World} {S : Nat → Prop} {p : Pr} {v : Value} (hB : IsBody w S p.2 v) (hS : ∀ k, S k → k < w.heap.size) (hg : Good p) :
    Calls Tryd.prog 36 #[.agg #[.int .u8 p.1.toNat, v]] w fun e w' => e = .returned (.int .i64 (flats p.2).length) ∧ Below w.heap.size w w' := by
  obtain ⟨ba, bn, bc, rfl⟩ := hB.form
  have hfl := flats_le p.2
  have hlen := hg.2.2.1
  have hE : ∀ w2 : World, (∀ k, k < w.heap.size → w2.heap[k]? = w.heap[k]?) → w.heap.size + 1 < w2.heap.size → w2.heap[w.heap.size + 1]? = some (.cells #[.int .i64 ((0 : Nat) : Int)] 3 (0, 0)) → _ :=
    fun w2 hk hz hc => each_all 67 3 (fun n => .int .i64 n) stepN okN enters_size visits_size (flats p.2).length p.2 w2 S (.slice ba bn bc) (w.heap.size + 1) 0 (Nat.le_refl _) (by omega)
      (fun k hk' => by have := hS k hk'; omega) (hB.kept (fun k hk' => hk k (hS k hk')) (fun _ h => h)) hc (okAll_size _ 0 (by omega))
  have HE := Lib.hid hE
  have HF := Lib.hid (fold_size (flats p.2) 0)
  clear hE hfl hlen hB hS hg
  go_enter Tryd.func36, Tryd.ntmps36
  go_wp2_with fail
  refine (HE.out _ (two_old _ _ _) (two_size _ _ _) (two_cell _ _ _)).mono ?_
  rintro e w2 ⟨rfl, hc, hb⟩
  rw [HF.out, Nat.zero_add] at hc
  have q := Lib.cell_of_heap hc 0
  have q0 : w2.cell? ⟨w.heap.size + 1, 0, none⟩ = some (.int .i64 (flats p.2).length) := q
  have HW := Lib.hid (two_below hb)
  clear hc hb q
  go_wp2_with fail
  go_ret
  exact ⟨rfl, HW.out⟩
end Go.Proofs.YtjomgdekkfabhaaDoor
