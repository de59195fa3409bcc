/- The model's l3End answers where the cut at an index ends, as the plain reading cutAt does; else -1. Condition: texts of at most 2^30 bytes, indices up to 2^31. -/
import Derived.Test.YtkdnbdgpcgookaaGreatDoorLow
import Derived.Test.YtkdnbdgpcgookaaGreatDoorCt
namespace Go.Proofs.YtkdnbdgpcgookaaGreatDoor
open Go.RowKit Gram

set_option maxHeartbeats 400000 in
theorem cend_neg (s : ByteArray) (w : World) :
    Calls Tryz.prog 61 #[.string s, .int .i64 (-1)] w fun e w' => e = .returned (.int .i64 (-1)) ∧ w = w' := by
  go_enter Tryz.func61, Tryz.ntmps61
  go_wp2_with fail
  go_ret
  exact ⟨rfl, rfl⟩

section
variable (s : ByteArray) (k : Nat) (w : World) (hb : (k : Int) ≤ 2147483648)
include hb

set_option maxHeartbeats 400000 in
theorem cend_one (d : UInt8) (hd : d = 80 ∨ d = 84 ∨ d = 78) (H0 : byteAt s k = d) :
    Calls Tryz.prog 61 #[.string s, .int .i64 k] w fun e w' => e = .returned (.int .i64 ((k : Int) + 1)) ∧ w = w' := by
  have HB := Lib.hid (fun w => byte_at s k k rfl (by omega) (d.toNat : Int) (by rw [H0]) w)
  clear H0
  rcases hd with rfl | rfl | rfl
  all_goals
    go_enter Tryz.func61, Tryz.ntmps61
    go_wp2_with fail
    refine (HB.out _).mono ?_
    rintro e w' ⟨rfl, rfl⟩
    go_wp2_with fail
    go_ret
    exact ⟨rfl, rfl⟩

set_option maxHeartbeats 400000 in
theorem cend_lit (d : UInt8) (hd : d = 67 ∨ d = 87 ∨ d = 70) (H0 : byteAt s k = d) :
    Calls Tryz.prog 61 #[.string s, .int .i64 k] w fun e w' => e = .returned (.int .i64 (if isLet (byteAt s (k + 1)) = true then (k : Int) + 2 else -1)) ∧ w = w' := by
  have HB := Lib.hid (fun w => byte_at s k k rfl (by omega) (d.toNat : Int) (by rw [H0]) w)
  have HB1 := Lib.hid (fun w => byte_at s (k + 1) (k + 1) (by omega) (by omega) ((byteAt s (k + 1)).toNat : Int) rfl w)
  have HL := Lib.hid (fun w => letter_any (byteAt s (k + 1)) w)
  clear H0
  generalize byteAt s (k + 1) = c at *
  cases hc : isLet c with
  | true =>
    rw [hc] at HL
    simp only [if_true]
    clear hc
    rcases hd with rfl | rfl | rfl
    all_goals
      go_enter Tryz.func61, Tryz.ntmps61
      go_wp2_with fail
      refine (HB.out _).mono ?_
      rintro e w' ⟨rfl, rfl⟩
      go_wp2_with fail
      refine (HB1.out _).mono ?_
      rintro e w' ⟨rfl, rfl⟩
      go_wp2_with fail
      refine (HL.out _).mono ?_
      rintro e w' ⟨rfl, rfl⟩
      go_wp2_with fail
      go_ret
      exact ⟨rfl, rfl⟩
  | false =>
    rw [hc] at HL
    simp only [Bool.false_eq_true, if_false]
    clear hc
    rcases hd with rfl | rfl | rfl
    all_goals
      go_enter Tryz.func61, Tryz.ntmps61
      go_wp2_with fail
      refine (HB.out _).mono ?_
      rintro e w' ⟨rfl, rfl⟩
      go_wp2_with fail
      refine (HB1.out _).mono ?_
      rintro e w' ⟨rfl, rfl⟩
      go_wp2_with fail
      refine (HL.out _).mono ?_
      rintro e w' ⟨rfl, rfl⟩
      go_wp2_with fail
      go_ret
      exact ⟨rfl, rfl⟩

set_option maxHeartbeats 400000 in
theorem cend_opp (H0 : byteAt s k = 33) (v : Int) (hv : ∀ w, Calls Tryz.prog 61 #[.string s, .int .i64 ((k : Int) + 1)] w fun e w' => e = .returned (.int .i64 v) ∧ w = w') :
    Calls Tryz.prog 61 #[.string s, .int .i64 k] w fun e w' => e = .returned (.int .i64 v) ∧ w = w' := by
  have HB := Lib.hid (fun w => byte_at s k k rfl (by omega) 33 (by rw [H0]; rfl) w)
  have HV := Lib.hid hv
  clear H0 hv
  go_enter Tryz.func61, Tryz.ntmps61
  go_wp2_with fail
  refine (HB.out _).mono ?_
  rintro e w' ⟨rfl, rfl⟩
  go_wp2_with fail
  refine (HV.out _).mono ?_
  rintro e w' ⟨rfl, rfl⟩
  go_wp2_with fail
  go_ret
  exact ⟨rfl, rfl⟩

set_option maxHeartbeats 400000 in
theorem cend_two (d : UInt8) (hd : d = 38 ∨ d = 124) (H0 : byteAt s k = d) (u v : Int) (hu : ∀ w, Calls Tryz.prog 61 #[.string s, .int .i64 ((k : Int) + 1)] w fun e w' => e = .returned (.int .i64 u) ∧ w = w')
    (hv : ∀ w, Calls Tryz.prog 61 #[.string s, .int .i64 u] w fun e w' => e = .returned (.int .i64 v) ∧ w = w') :
    Calls Tryz.prog 61 #[.string s, .int .i64 k] w fun e w' => e = .returned (.int .i64 v) ∧ w = w' := by
  have HB := Lib.hid (fun w => byte_at s k k rfl (by omega) (d.toNat : Int) (by rw [H0]) w)
  have HU := Lib.hid hu
  have HV := Lib.hid hv
  clear H0 hu hv
  rcases hd with rfl | rfl
  all_goals
    go_enter Tryz.func61, Tryz.ntmps61
    go_wp2_with fail
    refine (HB.out _).mono ?_
    rintro e w' ⟨rfl, rfl⟩
    go_wp2_with fail
    refine (HU.out _).mono ?_
    rintro e w' ⟨rfl, rfl⟩
    go_wp2_with fail
    refine (HV.out _).mono ?_
    rintro e w' ⟨rfl, rfl⟩
    go_wp2_with fail
    go_ret
    exact ⟨rfl, rfl⟩

set_option maxHeartbeats 400000 in
theorem cend_no (c : UInt8) (H0 : byteAt s k = c) (h1 : c ≠ 80) (h2 : c ≠ 84) (h3 : c ≠ 78) (h4 : isCWF c = false) (h5 : c ≠ 33) (h6 : isAO c = false) :
    Calls Tryz.prog 61 #[.string s, .int .i64 k] w fun e w' => e = .returned (.int .i64 (-1)) ∧ w = w' := by
  have HB := Lib.hid (fun w => byte_at s k k rfl (by omega) (c.toNat : Int) (by rw [H0]) w)
  simp only [isCWF, isAO, Bool.or_eq_false_iff, beq_eq_false_iff_ne] at h4 h6
  have g0 := ne_int h1
  have g1 := ne_int h2
  have g2 := ne_int h3
  have g3 := ne_int h4.1.1
  have g4 := ne_int h4.1.2
  have g5 := ne_int h4.2
  have g6 := ne_int h5
  have g7 := ne_int h6.1
  have g8 := ne_int h6.2
  simp only [UInt8.reduceToNat, Int.cast_ofNat_Int] at g0 g1 g2 g3 g4 g5 g6 g7 g8
  clear H0 h1 h2 h3 h4 h5 h6
  go_enter Tryz.func61, Tryz.ntmps61
  go_wp2_with fail
  refine (HB.out _).mono ?_
  rintro e w' ⟨rfl, rfl⟩
  go_wp2_with fail
  go_ret
  exact ⟨rfl, rfl⟩
end

def SaidC (m : Nat) : Prop := ∀ (s : ByteArray) (k : Nat) (w : World), s.size ≤ 1073741824 → (k : Int) ≤ 2147483648 → s.size - k < m →
    Calls Tryz.prog 61 #[.string s, .int .i64 k] w fun e w' => e = .returned (.int .i64 (endI s (cutAt (from_ s k)))) ∧ w = w'

theorem cend_step (m : Nat) (h : SaidC m) : SaidC (m + 1) := by
  intro s k w hs hk hm
  cases hf : from_ s k with
  | nil =>
    obtain ⟨h0, _⟩ := from_nil hf
    refine (cend_no s k w hk 0 h0 (by decide) (by decide) (by decide) (by decide) (by decide) (by decide)).mono ?_
    rintro e w' ⟨rfl, rfl⟩
    exact ⟨rfl, rfl⟩
  | cons c r =>
    obtain ⟨h0, hlt, hf1⟩ := from_cons hf
    have hrl : r.length = s.size - (k + 1) := by rw [← hf1, from_len]
    rw [cutAt_cons]
    by_cases h1 : c = 80
    · rw [if_pos h1]
      refine (cend_one s k w hk c (.inl h1) h0).mono ?_
      rintro e w' ⟨rfl, rfl⟩
      exact ⟨ret_int (by simp only [endI]; omega), rfl⟩
    rw [if_neg h1]
    by_cases h2 : c = 84
    · rw [if_pos h2]
      refine (cend_one s k w hk c (.inr (.inl h2)) h0).mono ?_
      rintro e w' ⟨rfl, rfl⟩
      exact ⟨ret_int (by simp only [endI]; omega), rfl⟩
    rw [if_neg h2]
    by_cases h3 : c = 78
    · rw [if_pos h3]
      refine (cend_one s k w hk c (.inr (.inr h3)) h0).mono ?_
      rintro e w' ⟨rfl, rfl⟩
      exact ⟨ret_int (by simp only [endI]; omega), rfl⟩
    rw [if_neg h3]
    by_cases h4 : isCWF c = true
    · rw [if_pos h4]
      have h4' : c = 67 ∨ c = 87 ∨ c = 70 := by
        simp only [isCWF, Bool.or_eq_true, beq_iff_eq] at h4
        rcases h4 with (h | h) | h
        · exact .inl h
        · exact .inr (.inl h)
        · exact .inr (.inr h)
      refine (cend_lit s k w hk c h4' h0).mono ?_
      rintro e w' ⟨rfl, rfl⟩
      refine ⟨ret_int ?_, rfl⟩
      cases r with
      | nil =>
        rw [(from_nil hf1).1]; rfl
      | cons d t =>
        rw [(from_cons hf1).1]
        by_cases hd : isLet d = true
        · simp only [litC, if_pos hd, endI]; simp at hrl; omega
        · simp only [litC, if_neg hd, endI]
    rw [if_neg h4]
    by_cases h5 : c = 33
    · rw [if_pos h5]
      have ih := fun w => h s (k + 1) w hs (by omega) (by omega)
      rw [hf1] at ih
      have e1 : ((k + 1 : Nat) : Int) = (k : Int) + 1 := by omega
      rw [e1] at ih
      refine (cend_opp s k w hk (h0.trans h5) _ ih).mono ?_
      rintro e w' ⟨rfl, rfl⟩
      refine ⟨ret_int ?_, rfl⟩
      cases cutAt r with
      | none => rfl
      | some p => rfl
    rw [if_neg h5]
    by_cases h6 : isAO c = true
    · rw [if_pos h6]
      have h6' : c = 38 ∨ c = 124 := by
        simpa only [isAO, Bool.or_eq_true, beq_iff_eq] using h6
      have ih := fun w => h s (k + 1) w hs (by omega) (by omega)
      rw [hf1] at ih
      have e1 : ((k + 1 : Nat) : Int) = (k : Int) + 1 := by omega
      rw [e1] at ih
      cases hx : cutAt r with
      | none =>
        rw [hx] at ih
        refine (cend_two s k w hk c h6' h0 (-1) (-1) ih (fun w => cend_neg s w)).mono ?_
        rintro e w' ⟨rfl, rfl⟩
        exact ⟨rfl, rfl⟩
      | some p =>
        obtain ⟨x, r1⟩ := p
        rw [hx] at ih
        have hsx := (cutAt_sound hx).1
        have hsh := cutAt_shorter hx
        obtain ⟨q1, q2, q3⟩ := from_suffix (hf1.trans hsx)
        have ih2 := fun w => h s (s.size - r1.length) w hs (by omega) (by omega)
        rw [q1] at ih2
        have e2 : ((s.size - r1.length : Nat) : Int) = (s.size : Int) - r1.length := by omega
        rw [e2] at ih2
        refine (cend_two s k w hk c h6' h0 _ _ ih ih2).mono ?_
        rintro e w' ⟨rfl, rfl⟩
        refine ⟨ret_int ?_, rfl⟩
        simp only
        cases cutAt r1 with
        | none => rfl
        | some p => rfl
    · rw [if_neg h6]
      refine (cend_no s k w hk c h0 h1 h2 h3 (by simpa using h4) h5 (by simpa using h6)).mono ?_
      rintro e w' ⟨rfl, rfl⟩
      exact ⟨rfl, rfl⟩

theorem cend_all (m : Nat) : SaidC m := by
  induction m with
  | zero => intro s k w _ _ h; omega
  | succ m ih => exact cend_step m ih

/-- l3End at an index -/
theorem cend_any (s : ByteArray) (k : Nat) (w : World) (hs : s.size ≤ 1073741824) (hk : (k : Int) ≤ 2147483648) :
    Calls Tryz.prog 61 #[.string s, .int .i64 k] w fun e w' => e = .returned (.int .i64 (endI s (cutAt (from_ s k)))) ∧ w = w' :=
  cend_all (s.size - k + 1) s k w hs hk (by omega)
end Go.Proofs.YtkdnbdgpcgookaaGreatDoor
