/- The leaves of the model's reader of bodies: l1Digit beside those of Low. No condition. -/
import Derived.Test.YtfmmpahbjkiomaaGreatDoorLow
import Derived.Test.YtfmmpahbjkiomaaGreatDoorMach
namespace Go.Proofs.YtfmmpahbjkiomaaGreatDoor
open Go.RowKit Gram

set_option maxHeartbeats 400000 in
theorem digit_any (c : UInt8) (w : World) :
    Calls Tryz.prog 142 #[.int .u8 c.toNat] w fun e w' => e = .returned (.bool (isDig c)) ∧ w = w' := by
  have H := Lib.hid (isDig_int c)
  go_enter Tryz.func142, Tryz.ntmps142
  go_wp2
  all_goals go_ret
  · have h : (48 : Int) ≤ c.toNat := by assumption
    exact ⟨ret_bool (by rw [H.out]; simp [h]), rfl⟩
  · have h : (c.toNat : Int) < 48 := by assumption
    exact ⟨ret_bool (by rw [H.out]; simp; omega), rfl⟩

theorem digit_is (c : UInt8) (b : Bool) (h : isDig c = b) (w : World) :
    Calls Tryz.prog 142 #[.int .u8 c.toNat] w fun e w' => e = .returned (.bool b) ∧ w = w' := by
  subst h; exact digit_any c w
end Go.Proofs.YtfmmpahbjkiomaaGreatDoor
