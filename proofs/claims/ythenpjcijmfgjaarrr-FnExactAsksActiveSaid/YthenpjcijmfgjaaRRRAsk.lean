/- AsksActive of the program and of the model; the law FnExactAsksActive answers true at every text. No condition. -/
import Derived.Test.YthenpjcijmfgjaaRRRBehind
import Derived.Test.YthenpjcijmfgjaaRRRCval
namespace Go.Proofs.YthenpjcijmfgjaaRRR
open Go.RowKit Gram

theorem setOf_zero (l : List UInt8) : ((setOf l : Int) != 0) = !l.isEmpty := by
  cases l with
  | nil => rfl
  | cons c t =>
    have h : (setOf (c :: t)).testBit (c.toNat - 97) = true := by rw [setOf_bit]; simp
    have h2 : setOf (c :: t) ≠ 0 := by
      intro h0
      rw [h0] at h
      simp at h
    show _ = true
    rw [bne_iff_ne]; omega

theorem has_F : ∀ (x : Ct), x.wf = true → x.txt.contains 70 = !(behind [70] x).isEmpty
  | .prt, _ => by decide
  | .fix true, _ => by decide
  | .fix false, _ => by decide
  | .lt g c, h => by
    simp only [Ct.wf, Bool.and_eq_true] at h
    have hc : c ≠ 70 := by
      intro e
      have := h.2
      rw [e] at this
      revert this; decide
    rcases cwf_or h.1 with rfl | rfl | rfl <;> simp [Ct.txt, behind, Ne.symm hc]
  | .opp x, h => by
    have := has_F x h
    simp only [Ct.txt, behind, List.contains_cons]
    rw [this]; simp
  | .two g x y, h => by
    simp only [Ct.wf, Bool.and_eq_true] at h
    have h1 := has_F x h.2.1
    have h2 := has_F y h.2.2
    have hg : (70 == g) = false := by
      have := h.1
      simp only [isAO, Bool.or_eq_true, beq_iff_eq] at this
      rcases this with rfl | rfl <;> decide
    simp only [Ct.txt, behind, List.contains_cons, hg, Bool.false_or]
    rw [show (x.txt ++ y.txt).contains 70 = (x.txt.contains 70 || y.txt.contains 70) by simp, h1, h2]
    cases behind [70] x <;> cases behind [70] y <;> rfl

/-- whether a text asks what is active -/
def asks (s : ByteArray) : Bool := match cutOf s with | some x => !(behind [70] x).isEmpty | none => false

set_option maxHeartbeats 400000 in
theorem impl_asks (s : ByteArray) (w : World) (hs : s.size ≤ 1073741824) :
    Calls Try.prog 25 #[.string s] w fun e w' => e = .returned (.bool (asks s)) ∧ Below w.heap.size w w' := by
  have HR := Lib.hid (read_cut s w hs)
  cases hc : cutOf s with
  | none =>
    have HC := Lib.hid hc
    have HT := Lib.hid (show asks s = false by rw [asks, hc])
    clear hc
    go_enter Try.func25, Try.ntmps25
    go_wp2_with fail
    refine HR.out.mono ?_
    rintro e w1 ⟨h1, hb⟩
    rw [HC.out] at h1
    subst h1
    go_wp2_with fail
    go_ret
    exact ⟨by rw [HT.out]; rfl, hb⟩
  | some x =>
    have HC := Lib.hid hc
    have HT := Lib.hid (show asks s = !(behind [70] x).isEmpty by rw [asks, hc])
    obtain ⟨z1, z2, z3, _⟩ := cutOf_some hc
    have HN := Lib.hid (names_behind x ⟨#[70]⟩ z3)
    have hz := setOf_zero (behind [70] x)
    rw [← HT.out] at hz
    clear hc z1 z2 z3
    change Hid (∀ w, Calls _ _ _ _ fun e w' => e = .returned (.int .u32 ((setOf (behind [70] x) : Nat) : Int)) ∧ _) at HN
    generalize setOf (behind [70] x) = m at *
    generalize asks s = b at *
    go_enter Try.func25, Try.ntmps25
    go_wp2_with fail
    refine HR.out.mono ?_
    rintro e w1 ⟨h1, hb⟩
    rw [HC.out] at h1
    subst h1
    unfold Ct.val at *
    generalize x.arg = ax at *
    have HBb := Lib.hid hb
    clear hb
    go_wp2_with fail
    refine (HN.out _).mono ?_
    rintro e w2 ⟨rfl, hb2⟩
    have HB := Lib.hid (HBb.out.trans (hb2.mono HBb.out.size))
    clear hb2
    go_wp2_with fail
    go_ret
    exact ⟨rfl, HB.out⟩

set_option maxHeartbeats 400000 in
theorem spec_asks (s : ByteArray) (w : World) (hs : s.size ≤ 1048576) :
    Calls Try.prog 24 #[.string s] w fun e w' => e = .returned (.bool (asks s)) ∧ w = w' := by
  have HV := Lib.hid (fun w => spec_cval s w (by omega))
  cases hc : cutOf s with
  | none =>
    rw [hc] at HV
    have HT := Lib.hid (show asks s = false by rw [asks, hc])
    clear hc
    go_enter Try.func24, Try.ntmps24
    go_wp2_with fail
    refine (HV.out _).mono ?_
    rintro e w1 ⟨rfl, rfl⟩
    go_wp2_with fail
    go_ret
    exact ⟨by rw [HT.out]; rfl, rfl⟩
  | some x =>
    rw [hc] at HV
    obtain ⟨z1, z2, z3, z4⟩ := cutOf_some hc
    have HH := Lib.hid (fun w => has_any s 70 (by omega) w)
    have HT := Lib.hid (show asks s = s.data.toList.contains 70 by rw [asks, hc, z2]; exact (has_F x z3).symm)
    rw [← HT.out] at HH
    clear hc z1 z2 z3 z4
    generalize asks s = b at *
    go_enter Try.func24, Try.ntmps24
    go_wp2_with fail
    refine (HV.out _).mono ?_
    rintro e w1 ⟨rfl, rfl⟩
    go_wp2_with fail
    refine (HH.out _).mono ?_
    rintro e w2 ⟨rfl, rfl⟩
    go_wp2_with fail
    go_ret
    exact ⟨rfl, rfl⟩

set_option maxHeartbeats 400000 in
theorem ask_long (s : ByteArray) (w : World) (hl : 1048576 < s.size) (hx : s.size ≤ maxLen) :
    Calls Try.prog 8 #[.string s] w fun e w' => e = .returned (.bool true) ∧ Below w.heap.size w w' := by
  unfold maxLen at hx
  go_enter Try.func8, Try.ntmps8
  go_wp2_with fail
  go_ret
  exact ⟨rfl, Below.refl _ _⟩
set_option maxHeartbeats 400000 in
theorem ask_short (s : ByteArray) (w : World) (hl : s.size ≤ 1048576) :
    Calls Try.prog 8 #[.string s] w fun e w' => e = .returned (.bool true) ∧ Below w.heap.size w w' := by
  have HI := Lib.hid (fun w => impl_asks s w (by omega))
  have HS := Lib.hid (fun w => spec_asks s w (by omega))
  generalize asks s = b at *
  go_enter Try.func8, Try.ntmps8
  go_wp2_with fail
  refine (HS.out _).mono ?_
  rintro e w1 ⟨rfl, rfl⟩
  go_wp2_with fail
  refine (HI.out _).mono ?_
  rintro e w2 ⟨rfl, b2⟩
  have B2 := Lib.hid b2
  clear b2
  go_wp2_with fail
  go_ret
  exact ⟨rfl, B2.out⟩
theorem ask_any (s : ByteArray) (w : World) (hx : s.size ≤ maxLen) :
    Calls Try.prog 8 #[.string s] w fun e w' => e = .returned (.bool true) ∧ Below w.heap.size w w' := by
  by_cases h : s.size ≤ 1048576
  · exact ask_short s w h
  · exact ask_long s w (by omega) hx
end Go.Proofs.YthenpjcijmfgjaaRRR
