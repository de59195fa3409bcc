/- The law FnExactIsPartOf answers true at every two lists. No condition but what a list of a machine is. -/
import Derived.Test.YtcahnffgpmanpaaIpt
namespace Go.Proofs.Ytcahnffgpmanpaa
open Go.RowKit

set_option maxHeartbeats 1000000 in
set_option maxRecDepth 100000 in
theorem ipt_over1 (w : World) (a b : Option Addr) (n c m d : Nat) (hn : 1048576 < n) (hx : n ≤ maxLen) :
    Calls Try.prog 4 #[.slice a n c, .slice b m d] w fun e w' => e = .returned (.bool true) ∧ Below w.heap.size w w' := by
  unfold maxLen at hx
  go_enter Try.func4, Try.ntmps4
  go_wp2_with fail
  go_ret
  exact ⟨rfl, Below.refl _ _⟩
set_option maxHeartbeats 1000000 in
set_option maxRecDepth 100000 in
theorem ipt_over2 (w : World) (a b : Option Addr) (n c m d : Nat) (hn : n ≤ 1048576) (hm : 1048576 < m) (hx : m ≤ maxLen) :
    Calls Try.prog 4 #[.slice a n c, .slice b m d] w fun e w' => e = .returned (.bool true) ∧ Below w.heap.size w w' := by
  unfold maxLen at hx
  go_enter Try.func4, Try.ntmps4
  go_wp2_with fail
  go_ret
  exact ⟨rfl, Below.refl _ _⟩

set_option maxHeartbeats 2000000 in
set_option maxRecDepth 100000 in
theorem ipt_fits (w : World) (a b : Option Addr) (n c m d : Nat) (zs ws : List Int) (hA : Ints w a n zs) (hB : Ints w b m ws) (hn : n ≤ 1048576) (hm : m ≤ 1048576) :
    Calls Try.prog 4 #[.slice a n c, .slice b m d] w fun e w' => e = .returned (.bool true) ∧ Below w.heap.size w w' := by
  have HT := Lib.hid (fun w' hb => toInts_any w' a n c zs (Ints.later hA hb) hn)
  have HT' := Lib.hid (fun w' hb => toInts_any w' b m d ws (Ints.later hB hb) hm)
  have HI := Lib.hid (fun w' g g' hA hB => part_impl w' (some ⟨g, 0, none⟩) (some ⟨g', 0, none⟩) n n m m zs ws hA hB (Nat.le_refl _) (by omega) (by omega))
  have HS := Lib.hid (fun w' g g' hA hB => part_spec w' (some ⟨g, 0, none⟩) (some ⟨g', 0, none⟩) n n m m zs ws hA hB (by omega) (by omega))
  have HE := Lib.hid (fun w' g g' hA hB => eqInts_any w' (some ⟨g, 0, none⟩) (some ⟨g', 0, none⟩) n n n n zs zs hA hB (by omega) (by omega))
  have HE' := Lib.hid (fun w' g g' hA hB => eqInts_any w' (some ⟨g, 0, none⟩) (some ⟨g', 0, none⟩) m m m m ws ws hA hB (by omega) (by omega))
  simp only [beq_self_eq_true] at HE HE'
  clear hA hB
  generalize zs.isSublist ws = r at *
  go_enter Try.func4, Try.ntmps4
  go_wp2_with fail
  refine (HT.out _ (Below.refl _ _)).mono ?_
  rintro e w1 ⟨g1, _, rfl, i1, b1⟩
  have I1 := Lib.hid i1
  have B1 := Lib.hid b1
  clear i1 b1
  go_wp2_with fail
  refine (HT'.out _ B1.out).mono ?_
  rintro e w2 ⟨g2, _, rfl, i2, b2⟩
  have I2 := Lib.hid i2
  have I1' := Lib.hid (I1.out.later b2)
  have B2 := Lib.hid (B1.out.trans (b2.mono B1.out.size))
  clear i2 b2
  go_wp2_with fail
  refine (HS.out _ _ _ I1'.out I2.out).mono ?_
  rintro e w3 ⟨rfl, rfl⟩
  go_wp2_with fail
  refine (HT.out _ B2.out).mono ?_
  rintro e w4 ⟨g4, _, rfl, i4, b4⟩
  have I4 := Lib.hid i4
  have B4 := Lib.hid (B2.out.trans (b4.mono B2.out.size))
  clear i4 b4
  go_wp2_with fail
  refine (HT'.out _ B4.out).mono ?_
  rintro e w5 ⟨g5, _, rfl, i5, b5⟩
  have I5 := Lib.hid i5
  have I4' := Lib.hid (I4.out.later b5)
  have B5 := Lib.hid (B4.out.trans (b5.mono B4.out.size))
  clear i5 b5
  go_wp2_with fail
  refine (HI.out _ _ _ I4'.out I5.out).mono ?_
  rintro e w6 ⟨rfl, rfl⟩
  have hr : (r != r) = false := by simp
  go_wp2_with fail
  refine (HT.out _ B5.out).mono ?_
  rintro e w7 ⟨g7, _, rfl, i7, b7⟩
  have I7 := Lib.hid i7
  have I4'' := Lib.hid (I4'.out.later b7)
  have I5' := Lib.hid (I5.out.later b7)
  have B7 := Lib.hid (B5.out.trans (b7.mono B5.out.size))
  clear i7 b7
  go_wp2_with fail
  refine (HE.out _ _ _ I4''.out I7.out).mono ?_
  rintro e w8 ⟨rfl, b8⟩
  have I5'' := Lib.hid (I5'.out.later b8)
  have B8 := Lib.hid (B7.out.trans (b8.mono B7.out.size))
  clear b8
  go_wp2_with fail
  refine (HT'.out _ B8.out).mono ?_
  rintro e w9 ⟨g9, _, rfl, i9, b9⟩
  have I9 := Lib.hid i9
  have I5''' := Lib.hid (I5''.out.later b9)
  have B9 := Lib.hid (B8.out.trans (b9.mono B8.out.size))
  clear i9 b9
  go_wp2_with fail
  refine (HE'.out _ _ _ I5'''.out I9.out).mono ?_
  rintro e w10 ⟨rfl, b10⟩
  have B10 := Lib.hid (B9.out.trans (b10.mono B9.out.size))
  clear b10
  go_wp2_with fail
  go_ret
  exact ⟨rfl, B10.out⟩

theorem law_ipt (w : World) (a b : Option Addr) (n c m d : Nat) (zs ws : List Int) (hA : Ints w a n zs) (hB : Ints w b m ws) (hn : n ≤ maxLen) (hm : m ≤ maxLen) :
    Calls Try.prog 4 #[.slice a n c, .slice b m d] w fun e w' => e = .returned (.bool true) ∧ Below w.heap.size w w' := by
  by_cases h : n ≤ 1048576
  · by_cases h' : m ≤ 1048576
    · exact ipt_fits w a b n c m d zs ws hA hB h h'
    · exact ipt_over2 w a b n c m d h (by omega) hm
  · exact ipt_over1 w a b n c m d (by omega) hn
end Go.Proofs.Ytcahnffgpmanpaa
