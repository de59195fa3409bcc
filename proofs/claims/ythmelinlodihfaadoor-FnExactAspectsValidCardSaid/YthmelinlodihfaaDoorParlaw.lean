/- The law FnExactParseAspect answers true at every text. Conditions: the errors lie where start-up laid them; the library's own number can be read. -/
import Derived.Test.YthmelinlodihfaaDoorSpa
namespace Go.Proofs.YthmelinlodihfaaDoor
open Go.RowKit Gram

set_option maxHeartbeats 1000000 in
set_option maxRecDepth 100000 in
theorem eqasp_same (k c b : ByteArray) (w : World) :
    Calls Tryd.prog 30 #[aspV k c b, aspV k c b] w fun e w' => e = .returned (.bool true) ∧ Below w.heap.size w w' := by
  unfold aspV
  go_enter Tryd.func30, Tryd.ntmps30
  go_wp2_with fail
  go_ret
  exact ⟨rfl, ((Below.refl _ w).alloc (Nat.le_refl _) _).alloc (by simp) _⟩

theorem cuts_le (l : List UInt8) : ∀ n, l.length ≤ n → ∀ t ∈ w_cuts l, t.length ≤ l.length := by
  intro n
  induction n generalizing l with
  | zero =>
    intro h t ht
    have : l = [] := List.eq_nil_of_length_eq_zero (by omega)
    subst this
    simp [w_cuts, w_cutsP] at ht
    simp [ht]
  | succ n ih =>
    intro h t ht
    rcases cut_cases l with ⟨_, _, h2⟩ | ⟨a, r, hm, h1, h2⟩
    · rw [h2] at ht
      simp at ht; rw [ht]; exact Nat.le_refl _
    · have hl := cut_le l [32]
      have hr : r.length < l.length := by
        have h3 : (Lib.cut l [32]).2.1 = r := by rw [h1]
        rcases w_index_cases 32 l with ⟨_, h4⟩ | ⟨a', b', h4, _, h6⟩
        · exact absurd hm h4
        · have : r = b' := by
            rw [← h3]; unfold Lib.cut; rw [h6, if_pos (by omega)]
            show l.drop (a'.length + 1) = b'
            rw [h4]; simp
          rw [this, h4]; simp; omega
      rw [h2] at ht
      rcases List.mem_cons.1 ht with rfl | ht
      · rw [h1] at hl; exact hl.1
      · exact Nat.le_trans (ih r (by omega) t ht) (by omega)

/-- the two results of a text that is parsed -/
theorem parV_two (s : ByteArray) : ∃ k c b t, parV (parA s) = .tuple #[aspV k c b, .bool t] := by
  cases parA s with
  | none => exact ⟨_, _, _, _, rfl⟩
  | some p => obtain ⟨k, c, b⟩ := p; exact ⟨_, _, _, _, rfl⟩

set_option maxHeartbeats 1000000 in
set_option maxRecDepth 100000 in
theorem pa_over (s : ByteArray) (w : World) (hs : s.size ≤ maxLen) (h : 1048576 < s.size) :
    Calls Tryd.prog 7 #[.string s] w fun e w' => e = .returned (.bool true) ∧ Below w.heap.size w w' := by
  unfold maxLen at hs
  go_enter Tryd.func7, Tryd.ntmps7
  go_wp2_with fail
  go_ret
  exact ⟨rfl, Below.refl _ _⟩
set_option maxHeartbeats 1000000 in
set_option maxRecDepth 100000 in
theorem pa_fits (s : ByteArray) (w : World) (h : s.size ≤ 1048576) (ek ec eb el ep : Addr) (he : Errs w ek ec eb el ep) (hm : MaxCell w) :
    Calls Tryd.prog 7 #[.string s] w fun e w' => e = .returned (.bool true) ∧ Below w.heap.size w w' := by
  have hs' : s.data.toList.length ≤ 1048576 := by simpa using h
  have HI := Lib.hid (fun w' (hw : Below w.heap.size w w') => par_any s w' ek ec eb el ep (he.later hw) (hm.later hw) (by omega))
  have HS := Lib.hid (fun w => spec_par s w (by omega) (fun t ht => by have := cuts_le _ _ (Nat.le_refl _) t ht; omega))
  have HE := Lib.hid eqasp_same
  obtain ⟨k, c, b, t, hp⟩ := parV_two s
  rw [hp] at HI HS
  unfold aspV at *
  clear he hm hp hs'
  go_enter Tryd.func7, Tryd.ntmps7
  go_wp2_with fail
  refine (HS.out _).mono ?_
  rintro e w1 ⟨rfl, hb1⟩
  have HB1 := Lib.hid hb1
  clear hb1
  go_wp2_with fail
  obtain ⟨w5, hw5⟩ : ∃ w5, w5 = w1.alloc (Obj.cells #[.string k, .string c, .string b] 24) := ⟨_, rfl⟩
  have HG := Lib.hid (show Cell3 w5 w1.heap.size (.string k) (.string c) (.string b) by rw [hw5]; exact Cell3.new _ _ _ _)
  have HB5 := Lib.hid (show Below w.heap.size w w5 by rw [hw5]; exact HB1.out.alloc HB1.out.size _)
  clear HB1
  rw [← hw5]
  clear hw5
  refine (HI.out _ HB5.out).mono ?_
  rintro e w2 ⟨rfl, hb2⟩
  have HG2 := Lib.hid (HG.out.later hb2)
  have HB2 := Lib.hid (HB5.out.trans (hb2.mono HB5.out.size))
  clear hb2 HG HB5
  have HB6 := Lib.hid (HB2.out.alloc HB2.out.size (Obj.cells #[.string k, .string c, .string b] 24))
  obtain ⟨f0, f1, f2, f3⟩ := (Cell3.new w2 (.string k) (.string c) (.string b)).read
  obtain ⟨g0, g1, g2, g3⟩ := (HG2.out.later ((Below.refl _ _).alloc (Nat.le_refl _) (Obj.cells #[.string k, .string c, .string b] 24))).read
  go_wp2_with fail
  refine (HE.out _ _ _ _).mono ?_
  rintro e w3 ⟨rfl, hb3⟩
  have HB3 := Lib.hid (HB6.out.trans (hb3.mono HB6.out.size))
  clear hb3
  go_wp2_with fail
  go_ret
  exact ⟨rfl, HB3.out⟩
theorem pa_any (s : ByteArray) (w : World) (hs : s.size ≤ maxLen) (ek ec eb el ep : Addr) (he : Errs w ek ec eb el ep) (hm : MaxCell w) :
    Calls Tryd.prog 7 #[.string s] w fun e w' => e = .returned (.bool true) ∧ Below w.heap.size w w' := by
  by_cases h : s.size ≤ 1048576
  · exact pa_fits s w h ek ec eb el ep he hm
  · exact pa_over s w hs (by omega)
end Go.Proofs.YthmelinlodihfaaDoor
