/- The law FnExactJoinPointsOf answers true at every two texts and number. Condition: the library's own number can be read. -/
import Derived.Test.YtdalffpjfoaijaaGreatDoorJo
import Derived.Test.YtdalffpjfoaijaaGreatDoorJmk
namespace Go.Proofs.YtdalffpjfoaijaaGreatDoor
open Go.RowKit Gram

/-- the texts of join points, laid flat -/
def jpF (js : List Jpt) : List ByteArray := js.flatMap fun j => [txtOf (if j.nm.isSome then [99, 97, 108, 108] else [112, 114, 105, 110, 116]), txtOf j.nm.toList, txtOf j.stk]
theorem jpF_cells (js : List Jpt) : jpC js = (jpF js).map Value.string := by
  induction js with
  | nil => rfl
  | cons p t ih => simp only [jpC, jpF, List.flatMap_cons, List.map_append, List.map_cons, List.map_nil] at ih ⊢; rw [ih]
theorem jpF_len (js : List Jpt) : (jpF js).length = js.length * 3 := by
  have := congrArg List.length (jpF_cells js)
  rw [jpC_len, List.length_map] at this
  exact this.symm
theorem ptsP_small (s nm : ByteArray) (v : Int) : (ptsP (runP s nm v)).length ≤ 501 := by
  cases h : runP s nm v with
  | none => simp [ptsP]
  | some r => exact (runP_small h).2

set_option maxHeartbeats 400000 in
theorem jpl_long1 (s nm : ByteArray) (v : Int) (w : World) (hl : 1048576 < s.size) (hx : s.size ≤ maxLen) :
    Calls Tryz.prog 4 #[.string s, .string nm, .int .i64 v] w fun e w' => e = .returned (.bool true) ∧ Below w.heap.size w w' := by
  unfold maxLen at hx
  go_enter Tryz.func4, Tryz.ntmps4
  go_wp2_with fail
  go_ret
  exact ⟨rfl, Below.refl _ _⟩
set_option maxHeartbeats 400000 in
theorem jpl_long2 (s nm : ByteArray) (v : Int) (w : World) (hs : s.size ≤ 1048576) (hl : 1048576 < nm.size) (hx : nm.size ≤ maxLen) :
    Calls Tryz.prog 4 #[.string s, .string nm, .int .i64 v] w fun e w' => e = .returned (.bool true) ∧ Below w.heap.size w w' := by
  unfold maxLen at hx
  go_enter Tryz.func4, Tryz.ntmps4
  go_wp2_with fail
  go_ret
  exact ⟨rfl, Below.refl _ _⟩

set_option maxHeartbeats 4000000 in
set_option maxRecDepth 100000 in
theorem jpl_short (s nm : ByteArray) (v : Int) (w : World) (hl : s.size ≤ 1048576) (hl2 : nm.size ≤ 1048576) (hm : MaxCell w) :
    Calls Tryz.prog 4 #[.string s, .string nm, .int .i64 v] w fun e w' => e = .returned (.bool true) ∧ Below w.heap.size w w' := by
  have HI := Lib.hid (fun w => impl_pts s nm v w (by omega))
  have HS := Lib.hid (fun w => spec_pts s nm v w (by omega))
  have HM := Lib.hid hm
  have hsm := ptsP_small s nm v
  unfold PtsTo at HI HS
  have hfl := jpF_len (ptsP (runP s nm v))
  rw [jpF_cells] at HI HS
  generalize jpF (ptsP (runP s nm v)) = ss at *
  generalize (ptsP (runP s nm v)).length = n at *
  generalize (runP s nm v).isSome = ok at *
  have HFL := Lib.hid hfl
  have HQ := Lib.hid (fun w a b c d B B' (h1 : w.ownsRow B 56 3 (.slice a n c) n (ss.map Value.string)) (h2 : w.ownsRow B' 56 3 (.slice b n d) n (ss.map Value.string)) => eqjps_same a b n c d B B' ss w (by omega) h1 h2)
  have HMk := Lib.hid (fun w a c B (h1 : w.ownsRow B 56 3 (.slice a n c) n (ss.map Value.string)) => marksJ_one a n c B ss w (by omega) h1)
  have HHd := Lib.hid (fun w a c B (h1 : w.ownsRow B 56 3 (.slice a n c) n ((marksTo 1 (n * 3) ss).map Value.string)) => heldJ_one a n c B ss w (by omega) hfl h1)
  clear hm hfl
  go_enter Tryz.func4, Tryz.ntmps4
  go_wp2_with fail
  refine (HS.out _).mono ?_
  rintro e w1 ⟨⟨a1, c1, rfl, q1⟩, b1⟩
  have Q1 := Lib.hid q1
  have B1 := Lib.hid b1
  clear q1 b1
  go_wp2_with fail
  refine (HI.out _ (HM.out.later B1.out)).mono ?_
  rintro e w2 ⟨⟨a2, c2, rfl, o2⟩, b2⟩
  have hne2 := Lib.hid (fun j (hj : (Value.slice a2 n c2).ownBlock = some j) => show w1.heap.size ≤ j from (row_block o2 hj).1)
  have hne1 := Lib.hid (fun j (hj : (Value.slice a1 n c1).ownBlock = some j) => show j < w1.heap.size from (Q1.out.lt j hj).2)
  have Q2 := Lib.hid (row_up Q1.out b2)
  have O2 := Lib.hid o2
  have B2 := Lib.hid (B1.out.trans (b2.mono B1.out.size))
  clear b2 o2 Q1
  go_wp2_with fail
  refine (HQ.out _ _ _ _ _ _ _ O2.out Q2.out).mono ?_
  rintro e w4 ⟨rfl, b4⟩
  have Q4 := Lib.hid (row_up Q2.out b4)
  have O4 := Lib.hid (row_up O2.out b4)
  have B4 := Lib.hid (B2.out.trans (b4.mono B2.out.size))
  clear b4 Q2 O2 B2
  cases ok
  all_goals
    go_wp2_with fail
    refine (HMk.out _ _ _ _ O4.out).mono ?_
    rintro e w5 ⟨rfl, o5, hg5⟩
    have Q5 := Lib.hid (row_under Q4.out hg5 (fun j hj h => by have := hne1.out _ hj; have := hne2.out _ h; omega))
    have O5 := Lib.hid o5
    have B5 := Lib.hid (B4.out.grown hg5 B4.out.size (fun j hj => by have := hne2.out _ hj; have := B1.out.size; omega))
    clear hg5 o5 Q4 O4 B4
    go_wp2_with fail
    refine (HHd.out _ _ _ _ O5.out).mono ?_
    rintro e w6 ⟨rfl, b6⟩
    have Q6 := Lib.hid (row_up Q5.out b6)
    have O6 := Lib.hid (row_up O5.out b6)
    have B6 := Lib.hid (B5.out.trans (b6.mono B5.out.size))
    clear b6 Q5 O5 B5
    go_wp2_with fail
    refine (HI.out _ (HM.out.later B6.out)).mono ?_
    rintro e w7 ⟨⟨a3, c3, rfl, o7⟩, b7⟩
    have Q8 := Lib.hid (row_up Q6.out b7)
    have O8 := Lib.hid (row_up O6.out b7)
    have R8 := Lib.hid o7
    have B8 := Lib.hid (B6.out.trans (b7.mono B6.out.size))
    clear b7 o7 Q6 O6 B6
    go_wp2_with fail
    refine (HQ.out _ _ _ _ _ _ _ R8.out Q8.out).mono ?_
    rintro e w9 ⟨rfl, b9⟩
    have O9 := Lib.hid (row_up O8.out b9)
    have B9 := Lib.hid (B8.out.trans (b9.mono B8.out.size))
    clear b9 Q8 O8 R8 B8
    go_wp2_with fail
    refine (HHd.out _ _ _ _ O9.out).mono ?_
    rintro e w10 ⟨rfl, b10⟩
    have B10 := Lib.hid (B9.out.trans (b10.mono B9.out.size))
    clear b10
    go_wp2_with fail
    go_ret
    exact ⟨rfl, B10.out⟩

theorem jpl_any (s nm : ByteArray) (v : Int) (w : World) (hx : s.size ≤ maxLen) (hx2 : nm.size ≤ maxLen) (hm : MaxCell w) :
    Calls Tryz.prog 4 #[.string s, .string nm, .int .i64 v] w fun e w' => e = .returned (.bool true) ∧ Below w.heap.size w w' := by
  by_cases h : s.size ≤ 1048576
  · by_cases h2 : nm.size ≤ 1048576
    · exact jpl_short s nm v w h h2 hm
    · exact jpl_long2 s nm v w h (by omega) hx2
  · exact jpl_long1 s nm v w (by omega) hx
end Go.Proofs.YtdalffpjfoaijaaGreatDoor
