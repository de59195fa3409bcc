/- The law FnExactProgramValid answers true at every text. Condition: the library's own number can be read. -/
import Derived.Test.YtjomgdekkfabhaaDoorPval
namespace Go.Proofs.YtjomgdekkfabhaaDoor
open Go.RowKit Gram

set_option maxHeartbeats 400000 in
theorem valid_long (s : ByteArray) (w : World) (hl : 1048576 < s.size) (hx : s.size ≤ maxLen) :
    Calls Tryd.prog 5 #[.string s] w fun e w' => e = .returned (.bool true) ∧ Below w.heap.size w w' := by
  unfold maxLen at hx
  go_enter Tryd.func5, Tryd.ntmps5
  go_wp2_with fail
  go_ret
  exact ⟨rfl, Below.refl _ _⟩
set_option maxHeartbeats 400000 in
theorem valid_short (s : ByteArray) (w : World) (hl : s.size ≤ 1048576) (hm : MaxCell w) :
    Calls Tryd.prog 5 #[.string s] w fun e w' => e = .returned (.bool true) ∧ Below w.heap.size w w' := by
  have HI := Lib.hid (fun w => impl_valid s w (by omega))
  have HS := Lib.hid (fun w => spec_valid s w (by omega))
  have HM := Lib.hid hm
  generalize (progOf s).isSome = b at *
  clear hm
  go_enter Tryd.func5, Tryd.ntmps5
  go_wp2_with fail
  refine (HS.out _).mono ?_
  rintro e w1 ⟨rfl, b1⟩
  have B1 := Lib.hid b1
  clear b1
  go_wp2_with fail
  refine (HI.out _ (HM.out.later B1.out)).mono ?_
  rintro e w2 ⟨rfl, b2⟩
  have B2 := Lib.hid (B1.out.trans (b2.mono B1.out.size))
  clear b2
  cases b
  all_goals
    go_wp2_with fail
    go_ret
    exact ⟨rfl, B2.out⟩
theorem valid_any (s : ByteArray) (w : World) (hx : s.size ≤ maxLen) (hm : MaxCell w) :
    Calls Tryd.prog 5 #[.string s] w fun e w' => e = .returned (.bool true) ∧ Below w.heap.size w w' := by
  by_cases h : s.size ≤ 1048576
  · exact valid_short s w h hm
  · exact valid_long s w (by omega) hx
end Go.Proofs.YtjomgdekkfabhaaDoor
