/- CutValid of the program and of the model. Condition: texts of at most 2^30 bytes. -/
import Derived.Test.YtkdnbdgpcgookaaGreatDoorCr
import Derived.Test.YtkdnbdgpcgookaaGreatDoorCend
namespace Go.Proofs.YtkdnbdgpcgookaaGreatDoor
open Go.RowKit Gram

set_option maxHeartbeats 400000 in
theorem impl_cval (s : ByteArray) (w : World) (hs : s.size ≤ 1073741824) :
    Calls Tryz.prog 57 #[.string s] w fun e w' => e = .returned (.bool (cutOf s).isSome) ∧ Below w.heap.size w w' := by
  have HR := Lib.hid (read_cut s w hs)
  cases hc : cutOf s with
  | none =>
    have HC := Lib.hid hc
    clear hc
    go_enter Tryz.func57, Tryz.ntmps57
    go_wp2_with fail
    refine HR.out.mono ?_
    rintro e w1 ⟨h1, hb⟩
    rw [HC.out] at h1
    subst h1
    go_wp2_with fail
    go_ret
    exact ⟨rfl, hb⟩
  | some x =>
    have HC := Lib.hid hc
    clear hc
    go_enter Tryz.func57, Tryz.ntmps57
    go_wp2_with fail
    refine HR.out.mono ?_
    rintro e w1 ⟨h1, hb⟩
    rw [HC.out] at h1
    subst h1
    go_wp2_with fail
    go_ret
    exact ⟨rfl, hb⟩

theorem cval_end (s : ByteArray) (h0 : 0 < s.size) (h : s.size ≤ 40) : (endI s (cutAt (from_ s 0)) == (s.size : Int)) = (cutOf s).isSome := by
  have e : from_ s 0 = s.data.toList := rfl
  rw [e, cutOf, if_pos h]
  cases hc : cutAt s.data.toList with
  | none => simp only [endI]; rw [beq_eq_false_iff_ne.2 (by omega)]; rfl
  | some p =>
    obtain ⟨x, r⟩ := p
    cases r with
    | nil => simp [endI]
    | cons c r => simp only [endI, List.length_cons]; rw [beq_eq_false_iff_ne.2 (by omega)]; rfl
theorem cval_nil (s : ByteArray) (h : s.size = 0) : cutOf s = none := by
  have : s.data.toList = [] := List.eq_nil_of_length_eq_zero (by simpa using h)
  rw [cutOf, if_pos (by omega), this]; rfl

set_option maxHeartbeats 400000 in
theorem spec_cval (s : ByteArray) (w : World) (hs : s.size ≤ 1073741824) :
    Calls Tryz.prog 30 #[.string s] w fun e w' => e = .returned (.bool (cutOf s).isSome) ∧ w = w' := by
  by_cases h0 : s.size = 0
  · have HN := Lib.hid (cval_nil s h0)
    have he := text_none h0
    go_enter Tryz.func30, Tryz.ntmps30
    go_wp2_with fail
    go_ret
    exact ⟨by rw [HN.out]; rfl, rfl⟩
  · have he := text_some (s := s) (by omega)
    by_cases h1 : s.size ≤ 40
    · have HB := Lib.hid (cval_end s (by omega) h1)
      have HE := Lib.hid (fun w => cend_any s 0 w hs (by omega))
      generalize endI s (cutAt (from_ s 0)) = i at *
      go_enter Tryz.func30, Tryz.ntmps30
      go_wp2_with fail
      refine (HE.out _).mono ?_
      rintro e w1 ⟨rfl, rfl⟩
      go_wp2_with fail
      go_ret
      exact ⟨by rw [← HB.out]; rfl, rfl⟩
    · have HN := Lib.hid (show cutOf s = none by rw [cutOf, if_neg h1])
      go_enter Tryz.func30, Tryz.ntmps30
      go_wp2_with fail
      go_ret
      exact ⟨by rw [HN.out]; rfl, rfl⟩

end Go.Proofs.YtkdnbdgpcgookaaGreatDoor
