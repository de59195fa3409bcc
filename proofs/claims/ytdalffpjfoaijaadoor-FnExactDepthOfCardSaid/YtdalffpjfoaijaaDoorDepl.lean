/- The model's DepthOf; the law FnExactDepthOf answers true at every two texts and number. Condition: the library's own number can be read. -/
import Derived.Test.YtdalffpjfoaijaaDoorDep
import Derived.Test.YtdalffpjfoaijaaDoorMx
namespace Go.Proofs.YtdalffpjfoaijaaDoor
open Go.RowKit Gram

set_option maxHeartbeats 1000000 in
set_option maxRecDepth 100000 in
theorem spec_dep (s nm : ByteArray) (v : Int) (w : World) (hs : s.size ≤ 1073741824) :
    Calls Tryd.prog 4 #[.string s, .string nm, .int .i64 v] w fun e w' => e = .returned (.int .i64 (depP s nm v)) ∧ Below w.heap.size w w' := by
  have hba : Below w.heap.size w (w.alloc (Obj.cells #[] 89)) := (Below.refl _ _).alloc (Nat.le_refl _) _
  have HF := Lib.hid (start_any s nm v (some ⟨w.heap.size, 0, none⟩) 0 (w.alloc (Obj.cells #[] 89)) hs)
  have HA := Lib.hid hba
  clear hs hba
  cases hr : runP s nm v with
  | none =>
    have HR := Lib.hid (show depP s nm v = -1 by rw [depP, hr])
    go_enter Tryd.func4, Tryd.ntmps4
    go_wp2_with fail
    refine HF.out.mono ?_
    rintro e w1 ⟨hx, hb⟩
    rw [hr] at hx
    obtain ⟨rb, rfl⟩ := hx
    have HB := Lib.hid (HA.out.trans (hb.mono HA.out.size))
    clear hb hr
    go_wp2_with fail
    go_ret
    exact ⟨ret_int HR.out.symm, HB.out⟩
  | some r =>
    have HR := Lib.hid (show depP s nm v = (r.1.deep : Int) by rw [depP, hr])
    go_enter Tryd.func4, Tryd.ntmps4
    go_wp2_with fail
    refine HF.out.mono ?_
    rintro e w1 ⟨hx, hb⟩
    rw [hr] at hx
    obtain ⟨B, rb, pv, av, cv, oa, ja, oc, jc, rfl, hB, hD⟩ := hx
    have c9 : w1.cell? ⟨rb, 9, none⟩ = some (.int .i64 r.1.deep) := hD.cell 9
    have HB := Lib.hid (HA.out.trans (hb.mono HA.out.size))
    clear hb hr hB hD
    go_wp2_with fail
    go_ret
    exact ⟨ret_int HR.out.symm, HB.out⟩

set_option maxHeartbeats 400000 in
theorem depl_long1 (s nm : ByteArray) (v : Int) (w : World) (hl : 1048576 < s.size) (hx : s.size ≤ maxLen) :
    Calls Tryd.prog 3 #[.string s, .string nm, .int .i64 v] w fun e w' => e = .returned (.bool true) ∧ Below w.heap.size w w' := by
  unfold maxLen at hx
  go_enter Tryd.func3, Tryd.ntmps3
  go_wp2_with fail
  go_ret
  exact ⟨rfl, Below.refl _ _⟩
set_option maxHeartbeats 400000 in
theorem depl_long2 (s nm : ByteArray) (v : Int) (w : World) (hs : s.size ≤ 1048576) (hl : 1048576 < nm.size) (hx : nm.size ≤ maxLen) :
    Calls Tryd.prog 3 #[.string s, .string nm, .int .i64 v] w fun e w' => e = .returned (.bool true) ∧ Below w.heap.size w w' := by
  unfold maxLen at hx
  go_enter Tryd.func3, Tryd.ntmps3
  go_wp2_with fail
  go_ret
  exact ⟨rfl, Below.refl _ _⟩
set_option maxHeartbeats 400000 in
theorem depl_short (s nm : ByteArray) (v : Int) (w : World) (hl : s.size ≤ 1048576) (hl2 : nm.size ≤ 1048576) (hm : MaxCell w) :
    Calls Tryd.prog 3 #[.string s, .string nm, .int .i64 v] w fun e w' => e = .returned (.bool true) ∧ Below w.heap.size w w' := by
  have HI := Lib.hid (fun w => impl_dep s nm v w (by omega))
  have HS := Lib.hid (fun w => spec_dep s nm v w (by omega))
  have HM := Lib.hid hm
  generalize depP s nm v = d at *
  clear hm
  go_enter Tryd.func3, Tryd.ntmps3
  go_wp2_with fail
  refine (HS.out _).mono ?_
  rintro e w1 ⟨rfl, b1⟩
  have B1 := Lib.hid b1
  clear b1
  go_wp2_with fail
  refine (HI.out _ (HM.out.later B1.out)).mono ?_
  rintro e w2 ⟨rfl, b2⟩
  have B2 := Lib.hid (B1.out.trans (b2.mono B1.out.size))
  clear b2
  go_wp2_with fail
  go_ret
  exact ⟨rfl, B2.out⟩
theorem depl_any (s nm : ByteArray) (v : Int) (w : World) (hx : s.size ≤ maxLen) (hx2 : nm.size ≤ maxLen) (hm : MaxCell w) :
    Calls Tryd.prog 3 #[.string s, .string nm, .int .i64 v] w fun e w' => e = .returned (.bool true) ∧ Below w.heap.size w w' := by
  by_cases h : s.size ≤ 1048576
  · by_cases h2 : nm.size ≤ 1048576
    · exact depl_short s nm v w h h2 hm
    · exact depl_long2 s nm v w h (by omega) hx2
  · exact depl_long1 s nm v w (by omega) hx
end Go.Proofs.YtdalffpjfoaijaaDoor
