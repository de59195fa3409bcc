/- The law FnExactCallTree answers true at every two texts and number. Condition: the library's own number can be read. -/
import Derived.Test.YtomodlllmbkndaaGreatDoorTrt
namespace Go.Proofs.YtomodlllmbkndaaGreatDoor
open Go.RowKit Gram

theorem treV_form (s nm : ByteArray) (v : Int) : ∃ t b, treV s nm v = .tuple #[.string t, .bool b] := by
  unfold treV noT
  split
  · exact ⟨_, _, rfl⟩
  · split
    · exact ⟨_, _, rfl⟩
    · exact ⟨_, _, rfl⟩

set_option maxHeartbeats 400000 in
theorem trl_long1 (s nm : ByteArray) (v : Int) (w : World) (hl : 1048576 < s.size) (hx : s.size ≤ maxLen) :
    Calls Tryz.prog 7 #[.string s, .string nm, .int .i64 v] w fun e w' => e = .returned (.bool true) ∧ Below w.heap.size w w' := by
  unfold maxLen at hx
  go_enter Tryz.func7, Tryz.ntmps7
  go_wp2_with fail
  go_ret
  exact ⟨rfl, Below.refl _ _⟩
set_option maxHeartbeats 400000 in
theorem trl_long2 (s nm : ByteArray) (v : Int) (w : World) (hs : s.size ≤ 1048576) (hl : 1048576 < nm.size) (hx : nm.size ≤ maxLen) :
    Calls Tryz.prog 7 #[.string s, .string nm, .int .i64 v] w fun e w' => e = .returned (.bool true) ∧ Below w.heap.size w w' := by
  unfold maxLen at hx
  go_enter Tryz.func7, Tryz.ntmps7
  go_wp2_with fail
  go_ret
  exact ⟨rfl, Below.refl _ _⟩

set_option maxHeartbeats 1000000 in
set_option maxRecDepth 100000 in
theorem trl_short (s nm : ByteArray) (v : Int) (w : World) (hl : s.size ≤ 1048576) (hl2 : nm.size ≤ 1048576) (hm : MaxCell w) :
    Calls Tryz.prog 7 #[.string s, .string nm, .int .i64 v] w fun e w' => e = .returned (.bool true) ∧ Below w.heap.size w w' := by
  have HI := Lib.hid (fun w => impl_tree s nm v w (by omega))
  have HS := Lib.hid (fun w => spec_tree s nm v w (by omega) (by omega))
  have HM := Lib.hid hm
  obtain ⟨t, b, hp⟩ := treV_form s nm v
  rw [hp] at HS HI
  clear hp hm
  go_enter Tryz.func7, Tryz.ntmps7
  go_wp2_with fail
  refine (HS.out _).mono ?_
  rintro e w1 ⟨rfl, hb1⟩
  have HB1 := Lib.hid hb1
  clear hb1
  go_wp2_with fail
  refine (HI.out _ (HM.out.later HB1.out)).mono ?_
  rintro e w2 ⟨rfl, hb2⟩
  have HB2 := Lib.hid (HB1.out.trans (hb2.mono HB1.out.size))
  clear hb2
  go_wp2_with fail
  go_ret
  exact ⟨rfl, HB2.out⟩

theorem trl_any (s nm : ByteArray) (v : Int) (w : World) (hx : s.size ≤ maxLen) (hx2 : nm.size ≤ maxLen) (hm : MaxCell w) :
    Calls Tryz.prog 7 #[.string s, .string nm, .int .i64 v] w fun e w' => e = .returned (.bool true) ∧ Below w.heap.size w w' := by
  by_cases h : s.size ≤ 1048576
  · by_cases h2 : nm.size ≤ 1048576
    · exact trl_short s nm v w h h2 hm
    · exact trl_long2 s nm v w h (by omega) hx2
  · exact trl_long1 s nm v w (by omega) hx
end Go.Proofs.YtomodlllmbkndaaGreatDoor
