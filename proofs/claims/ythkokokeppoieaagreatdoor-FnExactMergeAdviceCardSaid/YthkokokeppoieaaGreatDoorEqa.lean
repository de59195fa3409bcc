/- eqAspect at twice the same aspect. No condition. -/
import Derived.Test.YthkokokeppoieaaGreatDoorOnly
namespace Go.Proofs.YthkokokeppoieaaGreatDoor
open Go.RowKit Gram

set_option maxHeartbeats 1000000 in
set_option maxRecDepth 100000 in
theorem eqasp_same (k c b : ByteArray) (w : World) :
    Calls Tryz.prog 16 #[aspV k c b, aspV k c b] w fun e w' => e = .returned (.bool true) ∧ Below w.heap.size w w' := by
  unfold aspV
  go_enter Tryz.func16, Tryz.ntmps16
  go_wp2_with fail
  go_ret
  exact ⟨rfl, ((Below.refl _ w).alloc (Nat.le_refl _) _).alloc (by simp) _⟩
end Go.Proofs.YthkokokeppoieaaGreatDoor
