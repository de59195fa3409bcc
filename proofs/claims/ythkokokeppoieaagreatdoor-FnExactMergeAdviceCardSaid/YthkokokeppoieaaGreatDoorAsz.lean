/- szAspect and toAspect: an aspect's size and its copy. Condition: its texts' lengths. -/
import Derived.Test.YthkokokeppoieaaGreatDoorIasp
import Derived.Test.YthkokokeppoieaaGreatDoorSasp
namespace Go.Proofs.YthkokokeppoieaaGreatDoor
open Go.RowKit Gram

set_option maxHeartbeats 1000000 in
theorem sz_fits (k n s : ByteArray) (w : World) (h : k.size + n.size + s.size ≤ 1048576) :
    Calls Tryz.prog 12 #[aspV k n s, .int .i64 1048576] w fun e w' => (∃ r : Nat, r ≤ 1048576 ∧ e = .returned (.int .i64 r)) ∧ Below w.heap.size w w' := by
  unfold aspV
  go_enter Tryz.func12, Tryz.ntmps12
  go_wp2_with fail
  go_ret
  exact ⟨⟨1048576 - (k.size + n.size + s.size), by omega, ret_int (by omega)⟩, (Below.refl _ _).alloc (Nat.le_refl _) _⟩

set_option maxHeartbeats 1000000 in
theorem sz_over (k n s : ByteArray) (w : World) (hk : k.size ≤ maxLen) (hn : n.size ≤ maxLen) (hs : s.size ≤ maxLen) (h : 1048576 < k.size + n.size + s.size) :
    Calls Tryz.prog 12 #[aspV k n s, .int .i64 1048576] w fun e w' => e = .returned (.int .i64 (-1)) ∧ Below w.heap.size w w' := by
  unfold aspV
  unfold maxLen at hk hn hs
  by_cases h1 : 1048576 < k.size
  · go_enter Tryz.func12, Tryz.ntmps12
    go_wp2_with fail
    go_ret
    exact ⟨rfl, (Below.refl _ _).alloc (Nat.le_refl _) _⟩
  · by_cases h2 : 1048576 < k.size + n.size
    · go_enter Tryz.func12, Tryz.ntmps12
      go_wp2_with fail
      go_ret
      exact ⟨rfl, (Below.refl _ _).alloc (Nat.le_refl _) _⟩
    · go_enter Tryz.func12, Tryz.ntmps12
      go_wp2_with fail
      go_ret
      exact ⟨rfl, (Below.refl _ _).alloc (Nat.le_refl _) _⟩

set_option maxHeartbeats 1000000 in
theorem to_any (k n s : ByteArray) (w : World) :
    Calls Tryz.prog 14 #[aspV k n s] w fun e w' => e = .returned (aspV k n s) ∧ Below w.heap.size w w' := by
  unfold aspV
  go_enter Tryz.func14, Tryz.ntmps14
  go_wp2_with fail
  refine bodyPost_ret (v := .agg #[.string k, .string n, .string s]) ?_ rfl ⟨rfl, (((Below.refl _ w).alloc (Nat.le_refl _) _).alloc (by simp) _).alloc (by simp; omega) _⟩
  simp [results, Tryz.results14, go_sem]
end Go.Proofs.YthkokokeppoieaaGreatDoor
