/- CutNames of the program and of the model; the law FnExactCutNames answers true at every text. No condition. -/
import Derived.Test.YtfmbfbbmhnplcaaBehind
import Derived.Test.YtfmbfbbmhnplcaaLset
import Derived.Test.YtfmbfbbmhnplcaaCval
namespace Go.Proofs.Ytfmbfbbmhnplcaa
open Go.RowKit Gram

theorem up_to_congr (l l' : List UInt8) (h : ∀ y, isLet y = true → l.contains y = l'.contains y) : setText l = setText l' := by
  rw [setText, setText, upTo, upTo]
  apply List.filter_congr
  intro y hy
  rw [List.mem_map] at hy
  obtain ⟨n, hn, rfl⟩ := hy
  rw [List.mem_range'_1] at hn
  apply h
  rw [isLet_int]
  have : (UInt8.ofNat n).toNat = n := by rw [UInt8.toNat_ofNat']; omega
  simp [this]; omega

theorem cwf_sg {g : UInt8} (h : isCWF g = true) : [67, 87, 70].contains g = true := by
  rcases cwf_or h with rfl | rfl | rfl <;> rfl
theorem not_let {y g : UInt8} (hy : isLet y = true) (hg : isLet g = false) : (y == g) = false := by
  rw [beq_eq_false_iff_ne]; rintro rfl; rw [hy] at hg; cases hg
theorem names_txt (y : UInt8) (hy : isLet y = true) : ∀ (x : Ct), x.wf = true → x.txt.contains y = (behind [67, 87, 70] x).contains y
  | .prt, _ => by
    show [(80 : UInt8)].contains y = _
    rw [List.contains_cons, not_let hy (by decide)]; rfl
  | .fix true, _ => by
    show [(84 : UInt8)].contains y = _
    rw [List.contains_cons, not_let hy (by decide)]; rfl
  | .fix false, _ => by
    show [(78 : UInt8)].contains y = _
    rw [List.contains_cons, not_let hy (by decide)]; rfl
  | .lt g c, h => by
    simp only [Ct.wf, Bool.and_eq_true] at h
    have hg : isLet g = false := by rcases cwf_or h.1 with rfl | rfl | rfl <;> decide
    show [g, c].contains y = _
    rw [behind, if_pos (cwf_sg h.1), List.contains_cons, not_let hy hg, Bool.false_or]
  | .opp x, h => by
    have := names_txt y hy x h
    show (33 :: x.txt).contains y = (behind _ x).contains y
    rw [List.contains_cons, not_let hy (by decide), Bool.false_or, this]
  | .two g a b, h => by
    simp only [Ct.wf, Bool.and_eq_true] at h
    have h1 := names_txt y hy a h.2.1
    have h2 := names_txt y hy b h.2.2
    have hg : isLet g = false := by
      have := h.1
      simp only [isAO, Bool.or_eq_true, beq_iff_eq] at this
      rcases this with rfl | rfl <;> decide
    show (g :: (a.txt ++ b.txt)).contains y = (behind _ a ++ behind _ b).contains y
    rw [List.contains_cons, not_let hy hg, Bool.false_or]
    rw [show ∀ l m : List UInt8, (l ++ m).contains y = (l.contains y || m.contains y) from fun l m => by simp, h1, h2]
    simp

/-- the text that CutNames tells -/
def cnamT (s : ByteArray) : ByteArray := match cutOf s with | some x => txtOf (setText (behind [67, 87, 70] x)) | none => ⟨#[]⟩

set_option maxHeartbeats 400000 in
theorem impl_cnam (s : ByteArray) (w : World) (hs : s.size ≤ 1073741824) :
    Calls Try.prog 11 #[.string s] w fun e w' => e = .returned (.string (cnamT s)) ∧ Below w.heap.size w w' := by
  have HR := Lib.hid (read_cut s w hs)
  cases hc : cutOf s with
  | none =>
    have HC := Lib.hid hc
    have HT := Lib.hid (show cnamT s = ⟨#[]⟩ by rw [cnamT, hc])
    clear hc
    go_enter Try.func11, Try.ntmps11
    go_wp2_with fail
    refine HR.out.mono ?_
    rintro e w1 ⟨h1, hb⟩
    rw [HC.out] at h1
    subst h1
    go_wp2_with fail
    go_ret
    exact ⟨by rw [HT.out]; rfl, hb⟩
  | some x =>
    have HC := Lib.hid hc
    have HT := Lib.hid (show cnamT s = txtOf (setText (behind [67, 87, 70] x)) by rw [cnamT, hc])
    obtain ⟨z1, z2, z3, _⟩ := cutOf_some hc
    have HN := Lib.hid (names_behind x ⟨#[67, 87, 70]⟩ z3)
    have HX := Lib.hid (text_set _ (behind_lets [67, 87, 70] x z3))
    clear hc z1 z2 z3
    change Hid (∀ w, Calls _ _ _ _ fun e w' => e = .returned (.int .u32 ((setOf (behind [67, 87, 70] x) : Nat) : Int)) ∧ _) at HN
    change Hid (∀ w, Calls _ _ _ _ fun e w' => e = .returned (.string (txtOf (setText (behind [67, 87, 70] x)))) ∧ _) at HX
    rw [← HT.out] at HX
    generalize setOf (behind [67, 87, 70] x) = m at *
    generalize cnamT s = b at *
    go_enter Try.func11, Try.ntmps11
    go_wp2_with fail
    refine HR.out.mono ?_
    rintro e w1 ⟨h1, hb⟩
    rw [HC.out] at h1
    subst h1
    unfold Ct.val at *
    generalize x.arg = ax at *
    have HBb := Lib.hid hb
    clear hb
    go_wp2_with fail
    refine (HN.out _).mono ?_
    rintro e w2 ⟨rfl, hb2⟩
    have HB := Lib.hid (HBb.out.trans (hb2.mono HBb.out.size))
    clear hb2
    go_wp2_with fail
    refine (HX.out _).mono ?_
    rintro e w3 ⟨rfl, hb3⟩
    have HB3 := Lib.hid (HB.out.trans (hb3.mono HB.out.size))
    clear hb3
    go_wp2_with fail
    go_ret
    exact ⟨rfl, HB3.out⟩

set_option maxHeartbeats 400000 in
theorem spec_cnam (s : ByteArray) (w : World) (hs : s.size ≤ 1048576) :
    Calls Try.prog 10 #[.string s] w fun e w' => e = .returned (.string (cnamT s)) ∧ Below w.heap.size w w' := by
  have HV := Lib.hid (fun w => spec_cval s w (by omega))
  cases hc : cutOf s with
  | none =>
    rw [hc] at HV
    have HT := Lib.hid (show cnamT s = ⟨#[]⟩ by rw [cnamT, hc])
    clear hc
    go_enter Try.func10, Try.ntmps10
    go_wp2_with fail
    refine (HV.out _).mono ?_
    rintro e w1 ⟨rfl, rfl⟩
    go_wp2_with fail
    go_ret
    exact ⟨by rw [HT.out]; rfl, Below.refl _ _⟩
  | some x =>
    rw [hc] at HV
    obtain ⟨z1, z2, z3, z4⟩ := cutOf_some hc
    have HH := Lib.hid (fun w => l1set_any s w (by omega))
    have HT := Lib.hid (show cnamT s = txtOf (setText s.data.toList) by
      rw [cnamT, hc, z2]
      simp only
      rw [up_to_congr _ _ (fun y hy => names_txt y hy x z3)])
    rw [← HT.out] at HH
    clear hc z1 z2 z3 z4
    generalize cnamT s = b at *
    go_enter Try.func10, Try.ntmps10
    go_wp2_with fail
    refine (HV.out _).mono ?_
    rintro e w1 ⟨rfl, rfl⟩
    go_wp2_with fail
    refine (HH.out _).mono ?_
    rintro e w2 ⟨rfl, hb⟩
    have HB := Lib.hid hb
    clear hb
    go_wp2_with fail
    go_ret
    exact ⟨rfl, HB.out⟩

set_option maxHeartbeats 400000 in
theorem cnam_long (s : ByteArray) (w : World) (hl : 1048576 < s.size) (hx : s.size ≤ maxLen) :
    Calls Try.prog 5 #[.string s] w fun e w' => e = .returned (.bool true) ∧ Below w.heap.size w w' := by
  unfold maxLen at hx
  go_enter Try.func5, Try.ntmps5
  go_wp2_with fail
  go_ret
  exact ⟨rfl, Below.refl _ _⟩
set_option maxHeartbeats 400000 in
theorem cnam_short (s : ByteArray) (w : World) (hl : s.size ≤ 1048576) :
    Calls Try.prog 5 #[.string s] w fun e w' => e = .returned (.bool true) ∧ Below w.heap.size w w' := by
  have HI := Lib.hid (fun w => impl_cnam s w (by omega))
  have HS := Lib.hid (fun w => spec_cnam s w (by omega))
  generalize cnamT s = b at *
  go_enter Try.func5, Try.ntmps5
  go_wp2_with fail
  refine (HS.out _).mono ?_
  rintro e w1 ⟨rfl, b1⟩
  have B1 := Lib.hid b1
  clear b1
  go_wp2_with fail
  refine (HI.out _).mono ?_
  rintro e w2 ⟨rfl, b2⟩
  have B2 := Lib.hid (B1.out.trans (b2.mono B1.out.size))
  clear b2
  go_wp2_with fail
  go_ret
  exact ⟨rfl, B2.out⟩
theorem cnam_any (s : ByteArray) (w : World) (hx : s.size ≤ maxLen) :
    Calls Try.prog 5 #[.string s] w fun e w' => e = .returned (.bool true) ∧ Below w.heap.size w w' := by
  by_cases h : s.size ≤ 1048576
  · exact cnam_short s w h
  · exact cnam_long s w (by omega) hx
end Go.Proofs.Ytfmbfbbmhnplcaa
