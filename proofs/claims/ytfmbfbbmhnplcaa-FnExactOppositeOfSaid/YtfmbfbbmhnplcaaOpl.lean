/- OppositeOf of the model; the law FnExactOppositeOf answers true at every text. No condition. -/
import Derived.Test.YtfmbfbbmhnplcaaTrn
namespace Go.Proofs.Ytfmbfbbmhnplcaa
open Go.RowKit Gram

set_option maxHeartbeats 1000000 in
theorem spec_opp (s : ByteArray) (w : World) (hs : s.size ≤ 1048576) :
    Calls Try.prog 8 #[.string s] w fun e w' => e = .returned (.tuple #[.string (oppP s).1, .bool (oppP s).2]) ∧ Below w.heap.size w w' := by
  have HV := Lib.hid (fun w => spec_cval s w (by omega))
  cases hc : cutOf s with
  | none =>
    rw [hc] at HV
    have HT := Lib.hid (show oppP s = (⟨#[]⟩, false) by rw [oppP, hc])
    clear hc
    go_enter Try.func8, Try.ntmps8
    go_wp2_with fail
    refine (HV.out _).mono ?_
    rintro e w1 ⟨rfl, rfl⟩
    go_wp2_with fail
    go_ret2
    exact ⟨by rw [HT.out]; rfl, Below.refl _ _⟩
  | some x =>
    rw [hc] at HV
    obtain ⟨z1, z2, z3, z4⟩ := cutOf_some hc
    have HX := Lib.hid (fun w => turn_all x s 0 [] true w z3 (by show s.data.toList.drop 0 = _; rw [List.drop_zero, z2, List.append_nil]) hs)
    unfold TurnTo at HX
    have HT := Lib.hid (show oppP s = if (nnf true x).txt.length ≤ 40 then (txtOf (nnf true x).txt, true) else (⟨#[]⟩, false) by rw [oppP, hc])
    have hsz : (txtOf (nnf true x).txt).size = (nnf true x).txt.length := txtOf_size _
    have hnl := nnf_len x true
    have hxl : x.txt.length ≤ 40 := by rw [← z2]; exact z1
    rw [← hsz] at HT hnl
    change Hid (∀ w, Calls _ _ #[_, .int .i64 0, _] w _) at HX
    clear hc z1 z2 z3 z4 hsz
    generalize ((0 : Nat) : Int) + (x.txt.length : Int) = n at *
    generalize txtOf (nnf true x).txt = tx at *
    by_cases hlt : tx.size ≤ 40
    all_goals
      have HT2 := Lib.hid HT.out
      go_enter Try.func8, Try.ntmps8
      go_wp2_with fail
      refine (HV.out _).mono ?_
      rintro e w1 ⟨rfl, rfl⟩
      go_wp2_with fail
      refine (HX.out _).mono ?_
      rintro e w2 ⟨rfl, hb⟩
      have HB2 := Lib.hid hb
      clear hb
      go_wp2_with fail
      go_ret2
      refine ⟨?_, HB2.out⟩
      rw [HT2.out]
      first | (rw [if_pos hlt]; done) | (rw [if_neg hlt]; done) | (rw [if_pos hlt]; rfl) | (rw [if_neg hlt]; rfl)

set_option maxHeartbeats 400000 in
theorem opp_long (s : ByteArray) (w : World) (hl : 1048576 < s.size) (hx : s.size ≤ maxLen) :
    Calls Try.prog 4 #[.string s] w fun e w' => e = .returned (.bool true) ∧ Below w.heap.size w w' := by
  unfold maxLen at hx
  go_enter Try.func4, Try.ntmps4
  go_wp2_with fail
  go_ret
  exact ⟨rfl, Below.refl _ _⟩
set_option maxHeartbeats 400000 in
theorem opp_short (s : ByteArray) (w : World) (hl : s.size ≤ 1048576) :
    Calls Try.prog 4 #[.string s] w fun e w' => e = .returned (.bool true) ∧ Below w.heap.size w w' := by
  have HI := Lib.hid (fun w => impl_opp s w (by omega))
  have HS := Lib.hid (fun w => spec_opp s w (by omega))
  generalize (oppP s).1 = t at *
  generalize (oppP s).2 = b at *
  cases b
  all_goals
    go_enter Try.func4, Try.ntmps4
    go_wp2_with fail
    refine (HS.out _).mono ?_
    rintro e w1 ⟨rfl, b1⟩
    have B1 := Lib.hid b1
    clear b1
    go_wp2_with fail
    refine (HI.out _).mono ?_
    rintro e w2 ⟨rfl, b2⟩
    have B2 := Lib.hid (below_on B1.out b2)
    clear b2
    go_wp2_with fail
    go_ret
    exact ⟨rfl, B2.out⟩
theorem opp_any (s : ByteArray) (w : World) (hx : s.size ≤ maxLen) :
    Calls Try.prog 4 #[.string s] w fun e w' => e = .returned (.bool true) ∧ Below w.heap.size w w' := by
  by_cases h : s.size ≤ 1048576
  · exact opp_short s w h
  · exact opp_long s w (by omega) hx
end Go.Proofs.Ytfmbfbbmhnplcaa
