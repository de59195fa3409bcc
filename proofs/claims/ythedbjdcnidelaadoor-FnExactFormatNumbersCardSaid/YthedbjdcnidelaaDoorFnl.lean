/- The law FnExactFormatNumbers answers true at every list of numbers. Condition: the table of powers lies. -/
import Derived.Test.YthedbjdcnidelaaDoorFnm
namespace Go.Proofs.YthedbjdcnidelaaDoor
open Go.RowKit Gram

set_option maxHeartbeats 1000000 in
theorem fnl_over (w : World) (a : Option Addr) (n c : Nat) (hn : 1048576 < n) (hx : n ≤ maxLen) :
    Calls Tryd.prog 4 #[.slice a n c] w fun e w' => e = .returned (.bool true) ∧ Below w.heap.size w w' := by
  unfold maxLen at hx
  go_enter Tryd.func4, Tryd.ntmps4
  go_wp2_with fail
  go_ret
  exact ⟨rfl, Below.refl _ _⟩
set_option maxHeartbeats 1000000 in
theorem fnl_fits (w : World) (a : Option Addr) (n c : Nat) (zs : List Int) (hA : Ints w a n zs) (hn : n ≤ 1048576) (hz : ∀ z ∈ zs, Int64 z) (ht : Tab w) :
    Calls Tryd.prog 4 #[.slice a n c] w fun e w' => e = .returned (.bool true) ∧ Below w.heap.size w w' := by
  have HT := Lib.hid (fun w' hb => toInts_any w' a n c zs (Ints.later hA hb) hn)
  have HI := Lib.hid (fun w' g h hb => impl_nums w' (some ⟨g, 0, none⟩) n n zs h hn hz (tab_later ht hb))
  have HS := Lib.hid (fun w' g h => spec_nums w' (some ⟨g, 0, none⟩) n n zs h hn hz)
  have HE := Lib.hid (fun w' g g' hA hB => eqInts_any w' (some ⟨g, 0, none⟩) (some ⟨g', 0, none⟩) n n n n zs zs hA hB (by omega) (by omega))
  simp only [beq_self_eq_true] at HE
  clear hA hz ht
  generalize ntext zs = t at *
  go_enter Tryd.func4, Tryd.ntmps4
  go_wp2_with fail
  refine (HT.out _ (Below.refl _ _)).mono ?_
  rintro e w1 ⟨g1, _, rfl, i1, b1⟩
  have I1 := Lib.hid i1
  have B1 := Lib.hid b1
  clear i1 b1
  go_wp2_with fail
  refine (HS.out _ _ I1.out).mono ?_
  rintro e w2 ⟨rfl, b2⟩
  have B2 := Lib.hid (B1.out.trans (b2.mono B1.out.size))
  clear b2
  go_wp2_with fail
  refine (HT.out _ B2.out).mono ?_
  rintro e w3 ⟨g3, _, rfl, i3, b3⟩
  have I3 := Lib.hid i3
  have B3 := Lib.hid (B2.out.trans (b3.mono B2.out.size))
  clear i3 b3
  go_wp2_with fail
  refine (HI.out _ _ I3.out B3.out).mono ?_
  rintro e w4 ⟨rfl, b4⟩
  have I4 := Lib.hid (I3.out.later b4)
  have B4 := Lib.hid (B3.out.trans (b4.mono B3.out.size))
  clear b4
  go_wp2_with fail
  refine (HT.out _ B4.out).mono ?_
  rintro e w5 ⟨g5, _, rfl, i5, b5⟩
  have I5 := Lib.hid i5
  have I4' := Lib.hid (I4.out.later b5)
  have B5 := Lib.hid (B4.out.trans (b5.mono B4.out.size))
  clear i5 b5
  go_wp2_with fail
  refine (HE.out _ _ _ I4'.out I5.out).mono ?_
  rintro e w6 ⟨rfl, b6⟩
  have B6 := Lib.hid (B5.out.trans (b6.mono B5.out.size))
  clear b6
  go_wp2_with fail
  go_ret
  exact ⟨rfl, B6.out⟩
theorem fnl_any (w : World) (a : Option Addr) (n c : Nat) (zs : List Int) (hA : Ints w a n zs) (hx : n ≤ maxLen) (hz : ∀ z ∈ zs, Int64 z) (ht : Tab w) :
    Calls Tryd.prog 4 #[.slice a n c] w fun e w' => e = .returned (.bool true) ∧ Below w.heap.size w w' := by
  by_cases h : n ≤ 1048576
  · exact fnl_fits w a n c zs hA h hz ht
  · exact fnl_over w a n c (by omega) hx
end Go.Proofs.YthedbjdcnidelaaDoor
