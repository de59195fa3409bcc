/- The leaves of the model's reader of bodies: l1Digit beside those of Low. No condition. l1End and l1Block, which call each other, answer where the first statement, or the body in brackets, ends, as the plain readings pS and pK do; else -1. Condition: texts of at most 2^30 bytes, indices up to 2^31. The model's l1Split and StatementsOf: the statements of a body, each as its text, or none. Condition: texts of at most 2^30 bytes. -/
import Derived.Test.YtkdnbdgpcgookaaGreatDoorLow
import Derived.Test.YtkdnbdgpcgookaaGreatDoorMach
namespace Go.Proofs.YtkdnbdgpcgookaaGreatDoor
open Go.RowKit Gram

set_option maxHeartbeats 400000 in
theorem digit_any (c : UInt8) (w : World) :
    Calls Tryz.prog 106 #[.int .u8 c.toNat] w fun e w' => e = .returned (.bool (isDig c)) ∧ w = w' := by
  have H := Lib.hid (isDig_int c)
  go_enter Tryz.func106, Tryz.ntmps106
  go_wp2
  all_goals go_ret
  · have h : (48 : Int) ≤ c.toNat := by assumption
    exact ⟨ret_bool (by rw [H.out]; simp [h]), rfl⟩
  · have h : (c.toNat : Int) < 48 := by assumption
    exact ⟨ret_bool (by rw [H.out]; simp; omega), rfl⟩

theorem digit_is (c : UInt8) (b : Bool) (h : isDig c = b) (w : World) :
    Calls Tryz.prog 106 #[.int .u8 c.toNat] w fun e w' => e = .returned (.bool b) ∧ w = w' := by
  subst h; exact digit_any c w
end Go.Proofs.YtkdnbdgpcgookaaGreatDoor
namespace Go.Proofs.YtkdnbdgpcgookaaGreatDoor
open Go.RowKit Gram

def SaidEnd (m : Nat) : Prop := ∀ (s : ByteArray) (k : Nat) (i : Int) (w : World), i = k → s.size ≤ 1073741824 → i ≤ 2147483648 → s.size - k < m →
    Calls Tryz.prog 88 #[.string s, .int .i64 i] w fun e w' => e = .returned (.int .i64 (endI s (pS (from_ s k)))) ∧ w = w'
def SaidBlock (m : Nat) : Prop := ∀ (s : ByteArray) (k : Nat) (i : Int) (w : World), i = k → s.size ≤ 1073741824 → i ≤ 2147483648 → s.size - k < m →
    Calls Tryz.prog 107 #[.string s, .int .i64 i] w fun e w' => e = .returned (.int .i64 (endI s (pK (from_ s k)))) ∧ w = w'

set_option maxHeartbeats 400000 in
theorem end_plus (s : ByteArray) (k : Nat) (w : World) (r : List UInt8) (hb : (k : Int) ≤ 2147483648) (hk : k < s.size) (H0 : Hid (byteAt s k = 43)) (HB1 : Hid (byteAt s (k + 1) = hdB r)) (hr : r.length = s.size - (k + 1)) :
    Calls Tryz.prog 88 #[.string s, .int .i64 k] w fun e w' => e = .returned (.int .i64 (endI s (pS (43 :: r)))) ∧ w = w' := by
  have hsg : isSgn 43 = true := rfl
  cases r with
  | nil =>
    have hfin := Lib.hid (show endI s (pS [43]) = -1 by rw [pS_sgn _ _ hsg]; rfl)
    clear hsg
    · have hd := Lib.hid (show isDig (hdB []) = false from rfl)
      go_enter Tryz.func88, Tryz.ntmps88
      go_wp2_with fail
      refine (byte_at s _ k rfl (by omega) 43 (by rw [H0.out]; rfl) _).mono ?_
      rintro e w' ⟨rfl, rfl⟩
      go_wp2_with fail
      refine (byte_at s _ (k + 1) (by omega) (by omega) (hdB []).toNat (by rw [HB1.out]) _).mono ?_
      rintro e w' ⟨rfl, rfl⟩
      go_wp2_with fail
      refine (digit_is _ false hd.out _).mono ?_
      rintro e w' ⟨rfl, rfl⟩
      go_wp2_with fail
      go_ret
      exact ⟨ret_int hfin.out.symm, rfl⟩
  | cons d t =>
    by_cases hdg : isDig d = true
    · have hfin := Lib.hid (show endI s (pS (43 :: d :: t)) = (k : Int) + 2 by
        rw [pS_sgn _ _ hsg]; simp only [List.headD_cons, hdg, if_true, List.tail_cons, endI]; simp at hr; omega)
      have hd := Lib.hid (show isDig (hdB (d :: t)) = true from hdg)
      clear hsg hdg
      go_enter Tryz.func88, Tryz.ntmps88
      go_wp2_with fail
      refine (byte_at s _ k rfl (by omega) 43 (by rw [H0.out]; rfl) _).mono ?_
      rintro e w' ⟨rfl, rfl⟩
      go_wp2_with fail
      refine (byte_at s _ (k + 1) (by omega) (by omega) (hdB (d :: t)).toNat (by rw [HB1.out]) _).mono ?_
      rintro e w' ⟨rfl, rfl⟩
      go_wp2_with fail
      refine (digit_is _ true hd.out _).mono ?_
      rintro e w' ⟨rfl, rfl⟩
      go_wp2_with fail
      go_ret
      exact ⟨ret_int hfin.out.symm, rfl⟩
    · have hfin := Lib.hid (show endI s (pS (43 :: d :: t)) = -1 by
        rw [pS_sgn _ _ hsg]; simp [hdg, endI])
      have hd := Lib.hid (show isDig (hdB (d :: t)) = false by simpa [hdB] using hdg)
      clear hsg hdg
      go_enter Tryz.func88, Tryz.ntmps88
      go_wp2_with fail
      refine (byte_at s _ k rfl (by omega) 43 (by rw [H0.out]; rfl) _).mono ?_
      rintro e w' ⟨rfl, rfl⟩
      go_wp2_with fail
      refine (byte_at s _ (k + 1) (by omega) (by omega) (hdB (d :: t)).toNat (by rw [HB1.out]) _).mono ?_
      rintro e w' ⟨rfl, rfl⟩
      go_wp2_with fail
      refine (digit_is _ false hd.out _).mono ?_
      rintro e w' ⟨rfl, rfl⟩
      go_wp2_with fail
      go_ret
      exact ⟨ret_int hfin.out.symm, rfl⟩

set_option maxHeartbeats 400000 in
theorem end_minus (s : ByteArray) (k : Nat) (w : World) (r : List UInt8) (hb : (k : Int) ≤ 2147483648) (hk : k < s.size) (H0 : Hid (byteAt s k = 45)) (HB1 : Hid (byteAt s (k + 1) = hdB r)) (hr : r.length = s.size - (k + 1)) :
    Calls Tryz.prog 88 #[.string s, .int .i64 k] w fun e w' => e = .returned (.int .i64 (endI s (pS (45 :: r)))) ∧ w = w' := by
  have hsg : isSgn 45 = true := rfl
  cases r with
  | nil =>
    have hfin := Lib.hid (show endI s (pS [45]) = -1 by rw [pS_sgn _ _ hsg]; rfl)
    clear hsg
    · have hd := Lib.hid (show isDig (hdB []) = false from rfl)
      go_enter Tryz.func88, Tryz.ntmps88
      go_wp2_with fail
      refine (byte_at s _ k rfl (by omega) 45 (by rw [H0.out]; rfl) _).mono ?_
      rintro e w' ⟨rfl, rfl⟩
      go_wp2_with fail
      refine (byte_at s _ (k + 1) (by omega) (by omega) (hdB []).toNat (by rw [HB1.out]) _).mono ?_
      rintro e w' ⟨rfl, rfl⟩
      go_wp2_with fail
      refine (digit_is _ false hd.out _).mono ?_
      rintro e w' ⟨rfl, rfl⟩
      go_wp2_with fail
      go_ret
      exact ⟨ret_int hfin.out.symm, rfl⟩
  | cons d t =>
    by_cases hdg : isDig d = true
    · have hfin := Lib.hid (show endI s (pS (45 :: d :: t)) = (k : Int) + 2 by
        rw [pS_sgn _ _ hsg]; simp only [List.headD_cons, hdg, if_true, List.tail_cons, endI]; simp at hr; omega)
      have hd := Lib.hid (show isDig (hdB (d :: t)) = true from hdg)
      clear hsg hdg
      go_enter Tryz.func88, Tryz.ntmps88
      go_wp2_with fail
      refine (byte_at s _ k rfl (by omega) 45 (by rw [H0.out]; rfl) _).mono ?_
      rintro e w' ⟨rfl, rfl⟩
      go_wp2_with fail
      refine (byte_at s _ (k + 1) (by omega) (by omega) (hdB (d :: t)).toNat (by rw [HB1.out]) _).mono ?_
      rintro e w' ⟨rfl, rfl⟩
      go_wp2_with fail
      refine (digit_is _ true hd.out _).mono ?_
      rintro e w' ⟨rfl, rfl⟩
      go_wp2_with fail
      go_ret
      exact ⟨ret_int hfin.out.symm, rfl⟩
    · have hfin := Lib.hid (show endI s (pS (45 :: d :: t)) = -1 by
        rw [pS_sgn _ _ hsg]; simp [hdg, endI])
      have hd := Lib.hid (show isDig (hdB (d :: t)) = false by simpa [hdB] using hdg)
      clear hsg hdg
      go_enter Tryz.func88, Tryz.ntmps88
      go_wp2_with fail
      refine (byte_at s _ k rfl (by omega) 45 (by rw [H0.out]; rfl) _).mono ?_
      rintro e w' ⟨rfl, rfl⟩
      go_wp2_with fail
      refine (byte_at s _ (k + 1) (by omega) (by omega) (hdB (d :: t)).toNat (by rw [HB1.out]) _).mono ?_
      rintro e w' ⟨rfl, rfl⟩
      go_wp2_with fail
      refine (digit_is _ false hd.out _).mono ?_
      rintro e w' ⟨rfl, rfl⟩
      go_wp2_with fail
      go_ret
      exact ⟨ret_int hfin.out.symm, rfl⟩

set_option maxHeartbeats 400000 in
theorem end_times (s : ByteArray) (k : Nat) (w : World) (r : List UInt8) (hb : (k : Int) ≤ 2147483648) (hk : k < s.size) (H0 : Hid (byteAt s k = 42)) (HB1 : Hid (byteAt s (k + 1) = hdB r)) (hr : r.length = s.size - (k + 1)) :
    Calls Tryz.prog 88 #[.string s, .int .i64 k] w fun e w' => e = .returned (.int .i64 (endI s (pS (42 :: r)))) ∧ w = w' := by
  have hsg : isSgn 42 = true := rfl
  cases r with
  | nil =>
    have hfin := Lib.hid (show endI s (pS [42]) = -1 by rw [pS_sgn _ _ hsg]; rfl)
    clear hsg
    · have hd := Lib.hid (show isDig (hdB []) = false from rfl)
      go_enter Tryz.func88, Tryz.ntmps88
      go_wp2_with fail
      refine (byte_at s _ k rfl (by omega) 42 (by rw [H0.out]; rfl) _).mono ?_
      rintro e w' ⟨rfl, rfl⟩
      go_wp2_with fail
      refine (byte_at s _ (k + 1) (by omega) (by omega) (hdB []).toNat (by rw [HB1.out]) _).mono ?_
      rintro e w' ⟨rfl, rfl⟩
      go_wp2_with fail
      refine (digit_is _ false hd.out _).mono ?_
      rintro e w' ⟨rfl, rfl⟩
      go_wp2_with fail
      go_ret
      exact ⟨ret_int hfin.out.symm, rfl⟩
  | cons d t =>
    by_cases hdg : isDig d = true
    · have hfin := Lib.hid (show endI s (pS (42 :: d :: t)) = (k : Int) + 2 by
        rw [pS_sgn _ _ hsg]; simp only [List.headD_cons, hdg, if_true, List.tail_cons, endI]; simp at hr; omega)
      have hd := Lib.hid (show isDig (hdB (d :: t)) = true from hdg)
      clear hsg hdg
      go_enter Tryz.func88, Tryz.ntmps88
      go_wp2_with fail
      refine (byte_at s _ k rfl (by omega) 42 (by rw [H0.out]; rfl) _).mono ?_
      rintro e w' ⟨rfl, rfl⟩
      go_wp2_with fail
      refine (byte_at s _ (k + 1) (by omega) (by omega) (hdB (d :: t)).toNat (by rw [HB1.out]) _).mono ?_
      rintro e w' ⟨rfl, rfl⟩
      go_wp2_with fail
      refine (digit_is _ true hd.out _).mono ?_
      rintro e w' ⟨rfl, rfl⟩
      go_wp2_with fail
      go_ret
      exact ⟨ret_int hfin.out.symm, rfl⟩
    · have hfin := Lib.hid (show endI s (pS (42 :: d :: t)) = -1 by
        rw [pS_sgn _ _ hsg]; simp [hdg, endI])
      have hd := Lib.hid (show isDig (hdB (d :: t)) = false by simpa [hdB] using hdg)
      clear hsg hdg
      go_enter Tryz.func88, Tryz.ntmps88
      go_wp2_with fail
      refine (byte_at s _ k rfl (by omega) 42 (by rw [H0.out]; rfl) _).mono ?_
      rintro e w' ⟨rfl, rfl⟩
      go_wp2_with fail
      refine (byte_at s _ (k + 1) (by omega) (by omega) (hdB (d :: t)).toNat (by rw [HB1.out]) _).mono ?_
      rintro e w' ⟨rfl, rfl⟩
      go_wp2_with fail
      refine (digit_is _ false hd.out _).mono ?_
      rintro e w' ⟨rfl, rfl⟩
      go_wp2_with fail
      go_ret
      exact ⟨ret_int hfin.out.symm, rfl⟩

set_option maxHeartbeats 400000 in
theorem end_prt (s : ByteArray) (k : Nat) (w : World) (r : List UInt8) (hb : (k : Int) ≤ 2147483648) (hk : k < s.size) (H0 : Hid (byteAt s k = 80)) (hr : r.length = s.size - (k + 1)) :
    Calls Tryz.prog 88 #[.string s, .int .i64 k] w fun e w' => e = .returned (.int .i64 (endI s (pS (80 :: r)))) ∧ w = w' := by
  have hfin := Lib.hid (show endI s (pS (80 :: r)) = (k : Int) + 1 by rw [pS_prt]; simp only [endI]; omega)
  ·
      go_enter Tryz.func88, Tryz.ntmps88
      go_wp2_with fail
      refine (byte_at s _ k rfl (by omega) 80 (by rw [H0.out]; rfl) _).mono ?_
      rintro e w' ⟨rfl, rfl⟩
      go_wp2_with fail
      go_ret
      exact ⟨ret_int hfin.out.symm, rfl⟩

set_option maxHeartbeats 400000 in
theorem end_pro (s : ByteArray) (k : Nat) (w : World) (r : List UInt8) (hb : (k : Int) ≤ 2147483648) (hk : k < s.size) (H0 : Hid (byteAt s k = 75)) (hr : r.length = s.size - (k + 1)) :
    Calls Tryz.prog 88 #[.string s, .int .i64 k] w fun e w' => e = .returned (.int .i64 (endI s (pS (75 :: r)))) ∧ w = w' := by
  have hfin := Lib.hid (show endI s (pS (75 :: r)) = (k : Int) + 1 by rw [pS_pro]; simp only [endI]; omega)
  ·
      go_enter Tryz.func88, Tryz.ntmps88
      go_wp2_with fail
      refine (byte_at s _ k rfl (by omega) 75 (by rw [H0.out]; rfl) _).mono ?_
      rintro e w' ⟨rfl, rfl⟩
      go_wp2_with fail
      go_ret
      exact ⟨ret_int hfin.out.symm, rfl⟩

set_option maxHeartbeats 400000 in
theorem end_call (s : ByteArray) (k : Nat) (w : World) (r : List UInt8) (hb : (k : Int) ≤ 2147483648) (hk : k < s.size) (H0 : Hid (byteAt s k = 67)) (HB1 : Hid (byteAt s (k + 1) = hdB r)) (hr : r.length = s.size - (k + 1)) :
    Calls Tryz.prog 88 #[.string s, .int .i64 k] w fun e w' => e = .returned (.int .i64 (endI s (pS (67 :: r)))) ∧ w = w' := by
  by_cases hdg : isLet (hdB r) = true
  · have hfin := Lib.hid (show endI s (pS (67 :: r)) = (k : Int) + 2 by
      rw [pS_call]; change endI s (if isLet (hdB r) = true then _ else _) = _
      cases r with
      | nil => simp [hdB, isLet] at hdg
      | cons d t => simp only [hdg, if_true, List.tail_cons, endI]; simp at hr; omega)
    · have hd := Lib.hid hdg
      clear hdg
      go_enter Tryz.func88, Tryz.ntmps88
      go_wp2_with fail
      refine (byte_at s _ k rfl (by omega) 67 (by rw [H0.out]; rfl) _).mono ?_
      rintro e w' ⟨rfl, rfl⟩
      go_wp2_with fail
      refine (byte_at s _ (k + 1) (by omega) (by omega) (hdB r).toNat (by rw [HB1.out]) _).mono ?_
      rintro e w' ⟨rfl, rfl⟩
      go_wp2_with fail
      refine (letter_is _ true hd.out _).mono ?_
      rintro e w' ⟨rfl, rfl⟩
      go_wp2_with fail
      go_ret
      exact ⟨ret_int hfin.out.symm, rfl⟩
  · have hfin := Lib.hid (show endI s (pS (67 :: r)) = -1 by
      rw [pS_call]; change endI s (if isLet (hdB r) = true then _ else _) = _
      rw [if_neg hdg]; rfl)
    · have hd := Lib.hid (show isLet (hdB r) = false by simpa using hdg)
      clear hdg
      go_enter Tryz.func88, Tryz.ntmps88
      go_wp2_with fail
      refine (byte_at s _ k rfl (by omega) 67 (by rw [H0.out]; rfl) _).mono ?_
      rintro e w' ⟨rfl, rfl⟩
      go_wp2_with fail
      refine (byte_at s _ (k + 1) (by omega) (by omega) (hdB r).toNat (by rw [HB1.out]) _).mono ?_
      rintro e w' ⟨rfl, rfl⟩
      go_wp2_with fail
      refine (letter_is _ false hd.out _).mono ?_
      rintro e w' ⟨rfl, rfl⟩
      go_wp2_with fail
      go_ret
      exact ⟨ret_int hfin.out.symm, rfl⟩

set_option maxHeartbeats 400000 in
theorem end_cho (s : ByteArray) (k : Nat) (w : World) (r : List UInt8) (hs : s.size ≤ 1073741824) (hb : (k : Int) ≤ 2147483648) (hk : k < s.size) (H0 : Hid (byteAt s k = 63)) (m : Nat) (hm : s.size - (k + 1) < m) (ih : SaidBlock m) (hfr : Hid (from_ s (k + 1) = r)) :
    Calls Tryz.prog 88 #[.string s, .int .i64 k] w fun e w' => e = .returned (.int .i64 (endI s (pS (63 :: r)))) ∧ w = w' := by
  have ih' := Lib.hid ih
  clear ih
  cases h1 : pK r with
  | none =>
    have hfin := Lib.hid (show endI s (pS (63 :: r)) = -1 by rw [pS_cho, h1]; rfl)
    have hn := Lib.hid (show endI s (pK (from_ s (k + 1))) = -1 by rw [hfr.out, h1]; rfl)
    clear h1
    ·
      go_enter Tryz.func88, Tryz.ntmps88
      go_wp2_with fail
      refine (byte_at s _ k rfl (by omega) 63 (by rw [H0.out]; rfl) _).mono ?_
      rintro e w' ⟨rfl, rfl⟩
      go_wp2_with fail
      refine (ih'.out s (k + 1) _ _ (by omega) hs (by omega) (by omega)).mono ?_
      rintro e w' ⟨rfl, rfl⟩
      rw [hn.out]
      go_wp2_with fail
      go_ret
      exact ⟨ret_int hfin.out.symm, rfl⟩
  | some p =>
    obtain ⟨a, r1⟩ := p
    obtain ⟨e1, _⟩ := pK_sound h1
    have hsf := from_suffix (s := s) (k := k + 1) (p := 91 :: (txts a ++ [93])) (r := r1) (by rw [hfr.out, e1]; simp)
    obtain ⟨f1, f2, f3⟩ := hsf
    have f3 := f3 (by omega)
    simp at f3
    generalize hk1 : s.size - r1.length = k1 at *
    have hn := Lib.hid (show endI s (pK (from_ s (k + 1))) = k1 by rw [hfr.out, h1]; simp only [endI]; omega)
    have hfin := Lib.hid (show endI s (pS (63 :: r)) = endI s (pK (from_ s k1)) by
      rw [pS_cho, h1]; dsimp only; rw [f1]
      cases pK r1 with
      | none => rfl
      | some q => rfl)
    have hk1s : k1 ≤ s.size := by omega
    have hk1l : k + 1 < k1 := by omega
    clear h1 e1 f1 f2 f3 hk1
    ·
      go_enter Tryz.func88, Tryz.ntmps88
      go_wp2_with fail
      refine (byte_at s _ k rfl (by omega) 63 (by rw [H0.out]; rfl) _).mono ?_
      rintro e w' ⟨rfl, rfl⟩
      go_wp2_with fail
      refine (ih'.out s (k + 1) _ _ (by omega) hs (by omega) (by omega)).mono ?_
      rintro e w' ⟨rfl, rfl⟩
      rw [hn.out]
      go_wp2_with fail
      refine (ih'.out s k1 _ _ rfl hs (by omega) (by omega)).mono ?_
      rintro e w' ⟨rfl, rfl⟩
      go_wp2_with fail
      go_ret
      exact ⟨ret_int hfin.out.symm, rfl⟩

set_option maxHeartbeats 400000 in
theorem end_bad (s : ByteArray) (k : Nat) (w : World) (c : UInt8) (l : List UInt8) (hb : (k : Int) ≤ 2147483648) (H0 : Hid (byteAt s k = c)) (HL : Hid (pS l = none)) (h1 : isSgn c = false) (h2 : c ≠ 80) (h3 : c ≠ 75) (h4 : c ≠ 67) (h5 : c ≠ 63) :
    Calls Tryz.prog 88 #[.string s, .int .i64 k] w fun e w' => e = .returned (.int .i64 (endI s (pS l))) ∧ w = w' := by
  simp [isSgn] at h1
  have g1 := ne_int h1.1.1; have g2 := ne_int h1.1.2; have g3 := ne_int h1.2
  have g4 := ne_int h2; have g5 := ne_int h3; have g6 := ne_int h4; have g7 := ne_int h5
  simp only [UInt8.reduceToNat, Int.cast_ofNat_Int] at g1 g2 g3 g4 g5 g6 g7
  clear h1 h2 h3 h4 h5
  go_enter Tryz.func88, Tryz.ntmps88
  go_wp2_with fail
  refine (byte_at s _ k rfl (by omega) c.toNat (by rw [H0.out]) _).mono ?_
  rintro e w' ⟨rfl, rfl⟩
  go_wp2_with fail
  go_ret
  exact ⟨ret_int (by rw [HL.out]; rfl), rfl⟩

theorem end_step (m : Nat) (ih : SaidBlock m) : SaidEnd (m + 1) := by
  intro s k i w hi hs hb hm
  subst hi
  cases hl : from_ s k with
  | nil =>
    obtain ⟨h0, _⟩ := from_nil hl
    exact end_bad s k w 0 [] hb h0 rfl rfl (by decide) (by decide) (by decide) (by decide)
  | cons c r =>
    obtain ⟨h0, hk, hr⟩ := from_cons hl
    have hb1 := byte_head s (k + 1)
    rw [hr] at hb1
    have hlen : r.length = s.size - (k + 1) := by rw [← hr, from_len]
    by_cases h1 : isSgn c = true
    · have h1' := h1
      simp [isSgn] at h1'
      rcases h1' with (rfl | rfl) | rfl
      · exact end_plus s k w r hb hk h0 hb1 hlen
      · exact end_minus s k w r hb hk h0 hb1 hlen
      · exact end_times s k w r hb hk h0 hb1 hlen
    · by_cases h2 : c = 80
      · subst h2; exact end_prt s k w r hb hk h0 hlen
      · by_cases h3 : c = 75
        · subst h3; exact end_pro s k w r hb hk h0 hlen
        · by_cases h4 : c = 67
          · subst h4; exact end_call s k w r hb hk h0 hb1 hlen
          · by_cases h5 : c = 63
            · subst h5; exact end_cho s k w r hs hb hk h0 m (by omega) ih hr
            · exact end_bad s k w c (c :: r) hb h0 (pS_bad c r (by simpa using h1) h2 h3 h4 h5) (by simpa using h1) h2 h3 h4 h5

theorem endB_end {s : ByteArray} {k : Nat} (h : byteAt s k = 93) : k < s.size ∧ endI s (pB (from_ s k)) = (k : Int) + 1 := by
  cases hl : from_ s k with
  | nil => rw [(from_nil hl).1] at h; exact absurd h (by decide)
  | cons c r =>
    obtain ⟨h0, hk, hr⟩ := from_cons hl
    rw [h] at h0; subst h0
    refine ⟨hk, ?_⟩
    have := from_len s (k + 1)
    rw [hr] at this
    rw [pB_end]; simp only [endI]; omega
theorem endB_step {s : ByteArray} {k : Nat} (h : byteAt s k ≠ 93) (hk : k ≤ s.size) :
    (endI s (pS (from_ s k)) = -1 ∧ endI s (pB (from_ s k)) = -1) ∨
      ∃ k2, endI s (pS (from_ s k)) = (k2 : Nat) ∧ k < k2 ∧ k2 ≤ s.size ∧ endI s (pB (from_ s k)) = endI s (pB (from_ s k2)) := by
  have hb := byte_head s k
  rw [hb] at h
  cases h1 : pS (from_ s k) with
  | none => left; rw [pB_step _ h, h1]; exact ⟨rfl, rfl⟩
  | some p =>
    obtain ⟨x, r1⟩ := p
    right
    obtain ⟨e1, _⟩ := pS_sound h1
    obtain ⟨f1, f2, f3⟩ := from_suffix e1
    have hx := x.txt_len
    have f3 := f3 hk
    refine ⟨s.size - r1.length, ?_, by omega, by omega, ?_⟩
    · simp only [endI]; omega
    · rw [pB_step _ h, h1]; dsimp only; rw [f1]
      cases pB r1 with
      | none => rfl
      | some q => rfl

set_option maxHeartbeats 400000 in
theorem block_step (m : Nat) (ih : SaidEnd m) : SaidBlock (m + 1) := by
  intro s k i w hi hs hb hm
  subst hi
  have ih' := Lib.hid ih
  clear ih
  by_cases h91 : byteAt s k = 91
  · cases hl : from_ s k with
    | nil => rw [(from_nil hl).1] at h91; exact absurd h91 (by decide)
    | cons c r =>
      obtain ⟨h0, hk, hr⟩ := from_cons hl
      rw [h91] at h0; subst h0
      rw [pK_open, ← hr]
      have H0 := Lib.hid h91
      clear h91 hl hr
      go_enter Tryz.func107, Tryz.ntmps107
      go_wp2_with fail
      refine (byte_at s _ k rfl (by omega) 91 (by rw [H0.out]; rfl) _).mono ?_
      rintro e w' ⟨rfl, rfl⟩
      go_wp2_with fail
      go_loop [1] (fun at_ => ∃ k1 : Nat, at_ = .int .i64 k1 ∧ k < k1 ∧ k1 ≤ s.size ∧ Hid (endI s (pB (from_ s k1)) = endI s (pB (from_ s (k + 1))))) (fun at_ => s.size - (intOf at_).toNat)
      case atStart => exact ⟨k + 1, by go_num, by omega, by omega, rfl⟩
      case round =>
        obtain ⟨k1, rfl, hk1, hk2, hR⟩ := hrel
        by_cases h93 : byteAt s k1 = 93
        · obtain ⟨hlt, he⟩ := endB_end h93
          have H1 := Lib.hid h93
          have HE := Lib.hid (he.symm.trans hR.out)
          clear h93 he
          go_wp2_with fail
          refine (byte_at s _ k1 rfl (by omega) 93 (by rw [H1.out]; rfl) _).mono ?_
          rintro e w' ⟨rfl, rfl⟩
          go_wp2_with fail
          go_ret
          exact ⟨ret_int HE.out, rfl⟩
        · have hne := ne_int h93
          simp only [UInt8.reduceToNat, Int.cast_ofNat_Int] at hne
          rcases endB_step h93 hk2 with ⟨hs1, hs2⟩ | ⟨k2, hs1, hlt, hle, hs2⟩
          · have HS := Lib.hid hs1
            have HE := Lib.hid (hs2.symm.trans hR.out)
            clear h93 hs1 hs2
            go_wp2_with fail
            refine (byte_at s _ k1 rfl (by omega) _ rfl _).mono ?_
            rintro e w' ⟨rfl, rfl⟩
            go_wp2_with fail
            refine (ih'.out s k1 _ _ rfl hs (by omega) (by omega)).mono ?_
            rintro e w' ⟨rfl, rfl⟩
            rw [HS.out]
            go_wp2_with fail
            go_ret
            exact ⟨ret_int HE.out, rfl⟩
          · have HS := Lib.hid hs1
            have HE := Lib.hid (hs2.symm.trans hR.out)
            clear h93 hs1 hs2
            go_wp2_with fail
            refine (byte_at s _ k1 rfl (by omega) _ rfl _).mono ?_
            rintro e w' ⟨rfl, rfl⟩
            go_wp2_with fail
            refine (ih'.out s k1 _ _ rfl hs (by omega) (by omega)).mono ?_
            rintro e w' ⟨rfl, rfl⟩
            rw [HS.out]
            go_wp2_with fail
            go_round
            case rel => exact ⟨k2, rfl, by omega, hle, HE.out⟩
            case measure => simp [intOf]; omega
  · have hne := ne_int h91
    simp only [UInt8.reduceToNat, Int.cast_ofNat_Int] at hne
    have HE := Lib.hid (show endI s (pK (from_ s k)) = -1 by
      rw [pK_bad _ (by rw [byte_head] at h91; exact h91)]; rfl)
    have hne2 : (((byteAt s k).toNat : Int) != 91) = true := by simp only [bne, hne]; rfl
    clear h91
    go_enter Tryz.func107, Tryz.ntmps107
    go_wp2_with fail
    refine (byte_at s _ k rfl (by omega) _ rfl _).mono ?_
    rintro e w' ⟨rfl, rfl⟩
    go_wp2_with fail
    go_ret
    exact ⟨ret_int HE.out.symm, rfl⟩

theorem both_all (m : Nat) : SaidEnd m ∧ SaidBlock m := by
  induction m with
  | zero => exact ⟨fun _ _ _ _ _ _ _ h => absurd h (Nat.not_lt_zero _), fun _ _ _ _ _ _ _ h => absurd h (Nat.not_lt_zero _)⟩
  | succ m ih => exact ⟨end_step m ih.2, block_step m ih.1⟩

theorem end_any (s : ByteArray) (k : Nat) (i : Int) (w : World) (hi : i = k) (hs : s.size ≤ 1073741824) (hb : i ≤ 2147483648) :
    Calls Tryz.prog 88 #[.string s, .int .i64 i] w fun e w' => e = .returned (.int .i64 (endI s (pS (from_ s k)))) ∧ w = w' :=
  (both_all (s.size - k + 1)).1 s k i w hi hs hb (by omega)
end Go.Proofs.YtkdnbdgpcgookaaGreatDoor
namespace Go.Proofs.YtkdnbdgpcgookaaGreatDoor
open Go.RowKit Gram

theorem info_str : (Tryz.prog.info? 9).map (fun i => (i.zero, i.size, i.bytes)) = some (some (.string ⟨#[]⟩), 1, 16) := by kernel_rfl

/-- a text as a value -/
def strV (l : List UInt8) : Value := .string ⟨l.toArray⟩
/-- the texts of statements as values -/
def stmVs (xs : List Stm) : List Value := xs.map fun x => strV x.txt

theorem stmVs_len (xs : List Stm) : (stmVs xs).length = xs.length := by simp [stmVs]
theorem stmVs_snoc (xs : List Stm) (x : Stm) : stmVs (xs ++ [x]) = stmVs xs ++ [strV x.txt] := by simp [stmVs]

/-- what a piece of a text is -/
theorem extract_from (s : ByteArray) (k j : Nat) : s.extract k j = ⟨((from_ s k).take (j - k)).toArray⟩ := by
  apply ByteArray.ext
  simp [from_]
  apply Array.ext'
  simp [Array.toList_extract, List.extract_eq_take_drop]

theorem split_step {s : ByteArray} {k : Nat} (hk : k < s.size) :
    (pS (from_ s k) = none ∧ pA (from_ s k) = none) ∨
      ∃ x k2, endI s (pS (from_ s k)) = (k2 : Nat) ∧ k < k2 ∧ k2 ≤ s.size ∧ s.extract k k2 = ⟨x.txt.toArray⟩ ∧ pA (from_ s k) = (pA (from_ s k2)).map (x :: ·) := by
  cases hl : from_ s k with
  | nil => have := (from_nil hl).2; omega
  | cons c t =>
    cases h1 : pS (c :: t) with
    | none => left; exact ⟨rfl, by rw [pA_cons, h1]⟩
    | some p =>
      obtain ⟨x, r1⟩ := p
      right
      obtain ⟨e1, _⟩ := pS_sound h1
      rw [← hl] at e1
      obtain ⟨f1, f2, f3⟩ := from_suffix e1
      have hx := x.txt_len
      have f3 := f3 (by omega)
      refine ⟨x, s.size - r1.length, ?_, by omega, by omega, ?_, ?_⟩
      · simp only [endI]; omega
      · rw [extract_from s k _, f3, e1]
        simp
      · rw [pA_cons, h1]; dsimp only; rw [f1]
        cases pA r1 <;> rfl

set_option maxHeartbeats 1000000 in
set_option maxRecDepth 100000 in
theorem split_any (s : ByteArray) (w : World) (hs : s.size ≤ 1073741824) :
    Calls Tryz.prog 62 #[.string s] w fun e w' => ∃ v b xs, e = .returned (.tuple #[v, .bool b]) ∧ Hid ((b = false ∧ pA (from_ s 0) = none ∧ xs = []) ∨ (b = true ∧ pA (from_ s 0) = some xs)) ∧
      w'.ownsRow w.heap.size 9 1 v xs.length (stmVs xs) ∧ Below w.heap.size w w' := by
  obtain ⟨i0, hi, hz0, hz1, hz2⟩ := info_parts info_str
  go_enter Tryz.func62, Tryz.ntmps62
  go_wp2_with fail
  go_loopw [4, 5] (fun v at_ wr => ∃ (k : Nat) (ys : List Stm), at_ = .int .i64 k ∧ k ≤ s.size ∧ ys.length ≤ k ∧ wr.ownsRow w.heap.size 9 1 v ys.length (stmVs ys) ∧ Below w.heap.size w wr ∧ Hid (pA (from_ s 0) = (pA (from_ s k)).map (ys ++ ·))) (fun _ at_ _ => s.size - (intOf at_).toNat)
  case atStart =>
    refine ⟨0, [], by go_num, by omega, by simp, ?_, (Below.refl _ _).alloc (Nat.le_refl _) _, by show _ = _; cases pA (from_ s 0) <;> simp⟩
    exact ⟨by simp [stmVs], .inr ⟨w.heap.size, 0, #[], rfl, Nat.le_refl _, heap_alloc_new w _, Nat.le_refl _, by simp [maxLen], by simp, by simp [stmVs]⟩⟩
  case round =>
    obtain ⟨k, ys, rfl, hk, hys, hown, hbw, hP⟩ := hrel
    have hsz := hbw.size
    by_cases hlt : k < s.size
    · rcases split_step hlt with ⟨h1, h2⟩ | ⟨x, k2, h1, hk2, hk3, hx, hp⟩
      · have HS := Lib.hid (show endI s (pS (from_ s k)) = -1 by rw [h1]; rfl)
        have HN := Lib.hid (show pA (from_ s 0) = none by rw [hP.out, h2]; rfl)
        clear h1 h2 hP
        go_wp2_with fail
        refine (end_any s k _ _ rfl hs (by omega)).mono ?_
        rintro e w' ⟨rfl, rfl⟩
        rw [HS.out]
        go_wp2_with fail
        go_ret2
        refine ⟨_, _, [], rfl, .inl ⟨rfl, HN.out, rfl⟩, ?_, (hbw.alloc (by omega) _)⟩
        exact ⟨by simp [stmVs], .inr ⟨wr.heap.size, 0, #[], rfl, hsz, heap_alloc_new wr _, Nat.le_refl _, by simp [maxLen], by simp, by simp [stmVs]⟩⟩
      · have HS := Lib.hid h1
        have HX := Lib.hid hx
        have HP := Lib.hid (show pA (from_ s 0) = (pA (from_ s k2)).map (ys ++ [x] ++ ·) by rw [hP.out, hp]; cases pA (from_ s k2) <;> simp)
        clear h1 hx hp hP
        go_wp2_with fail
        refine (end_any s k _ _ rfl hs (by omega)).mono ?_
        rintro e w' ⟨rfl, rfl⟩
        rw [HS.out]
        go_wp2_with (at_builtin; refine wpList_append_own _ rfl _ _ 39 rfl w.heap.size 9 i0 (.string ⟨#[]⟩) 1 16 Tryz.underlying39 hi hz0 hz1 hz2 rfl (by decide) _ _ _ rfl (hown.alloc _) ⟨wr.heap.size, 0, none⟩ 1 1 [.string (s.extract k k2)] rfl rfl ?c1 ?c2 ?c3 ?c4 ?c5 ?_)
        case c1 => exact cell_one_new _ _ _
        case c2 => intro u hu; simp at hu; subst hu; rfl
        case c3 => unfold maxLen; omega
        case c4 => omega
        case c5 => simp; omega
        intro v' w1 hown' hgrow _
        go_wp2_with fail
        go_roundw
        case rel =>
          refine ⟨k2, ys ++ [x], rfl, hk3, by simp; omega, ?_, (hbw.alloc (by omega) _).grown hgrow (by simp; omega) (fun j hj => (hown.lt j hj).1), HP.out⟩
          rw [stmVs_snoc, strV, ← HX.out]; simpa using hown'
        case measure => simp [intOf]; omega
    · have hN := Lib.hid (show pA (from_ s 0) = some ys by
        rw [hP.out]; have : from_ s k = [] := by simp [from_]; omega
        rw [this, pA_nil]; simp)
      clear hP
      go_wp2_with fail
      go_ret2
      exact ⟨_, _, ys, rfl, .inr ⟨rfl, hN.out⟩, hown, hbw⟩

/-- what StatementsOf tells: the statements, if the text is a body -/
def bodyOf (s : ByteArray) : Option (List Stm) := if s.size ≤ 400 then reads false s.data.toList else none

theorem from_zero (s : ByteArray) : from_ s 0 = s.data.toList := by simp [from_]

theorem bodyOf_some {s : ByteArray} {xs : List Stm} (h : bodyOf s = some xs) : s.size ≤ 400 ∧ s.data.toList = txts xs ∧ wfs xs = true ∧ nks xs = true := by
  unfold bodyOf at h
  split at h
  · obtain ⟨h1, h2, h3⟩ := reads_sound false _ _ h
    exact ⟨by assumption, h1, h2, by rw [← fks_false]; exact h3⟩
  · cases h

end Go.Proofs.YtkdnbdgpcgookaaGreatDoor
