/- The model's l3Words, l3Show and ShowCut tell a cut's words. Condition: texts of at most 2^20 bytes. -/
import Derived.Test.YthenpjcijmfgjaaRRRWord
import Derived.Test.YthenpjcijmfgjaaRRRCend
import Derived.Test.YthenpjcijmfgjaaRRRCval
namespace Go.Proofs.YthenpjcijmfgjaaRRR
open Go.RowKit Gram

def small : Ct → Bool
  | .opp _ => false
  | .two _ _ _ => false
  | _ => true

set_option maxHeartbeats 400000 in
theorem lwords_one (t : ByteArray) (d : UInt8) (hd : d = 80 ∨ d = 84 ∨ d = 78) (hz : t.size = 1) (h0 : ∀ h : 0 < t.size, t[0] = d) (w : World) :
    Calls Try.prog 45 #[.string t] w fun e w' => e = .returned (.string (wordsT (one d))) ∧ w = w' := by
  rcases hd with rfl | rfl | rfl
  all_goals
    go_enter Try.func45, Try.ntmps45
    go_wp2_with fail
    go_ret
    exact ⟨rfl, rfl⟩

set_option maxHeartbeats 400000 in
theorem lwords_lit (t : ByteArray) (g c : UInt8) (hg : g = 67 ∨ g = 87 ∨ g = 70) (hz : t.size = 2) (h0 : ∀ h : 0 < t.size, t[0] = g) (ht : t.extract 1 2 = ⟨#[c]⟩) (w : World) :
    Calls Try.prog 45 #[.string t] w fun e w' => e = .returned (.string (wordsT (.lt g c))) ∧ w = w' := by
  have e1 := str_sum ⟨#[99, 97, 108, 108, 32]⟩ ⟨#[c]⟩ (by show 5 + 1 ≤ 9223372036854775807; decide)
  have e2 := str_sum ⟨#[119, 105, 116, 104, 105, 110, 32]⟩ ⟨#[c]⟩ (by show 7 + 1 ≤ 9223372036854775807; decide)
  have e3 := str_sum ⟨#[97, 99, 116, 105, 118, 101, 32]⟩ ⟨#[c]⟩ (by show 7 + 1 ≤ 9223372036854775807; decide)
  rcases hg with rfl | rfl | rfl
  all_goals
    go_enter Try.func45, Try.ntmps45
    go_wp2_with fail
    go_ret
    exact ⟨rfl, rfl⟩

theorem lwords_any (x : Ct) (hw : x.wf = true) (hs : small x = true) (w : World) :
    Calls Try.prog 45 #[.string (txtOf x.txt)] w fun e w' => e = .returned (.string (wordsT x)) ∧ w = w' := by
  cases x with
  | prt => exact lwords_one _ 80 (.inl rfl) rfl (fun _ => rfl) w
  | fix b =>
    cases b with
    | true => exact lwords_one _ 84 (.inr (.inl rfl)) rfl (fun _ => rfl) w
    | false => exact lwords_one _ 78 (.inr (.inr rfl)) rfl (fun _ => rfl) w
  | lt g c =>
    simp only [Ct.wf, Bool.and_eq_true] at hw
    exact lwords_lit _ g c (cwf_or hw.1) rfl (fun _ => rfl) rfl w
  | opp x => cases hs
  | two g x y => cases hs

/-- the cut at an index -/
structure At (s : ByteArray) (k : Nat) (x : Ct) (r : List UInt8) : Prop where
  cut : cutAt (from_ s k) = some (x, r)
  lt : k < s.size
  wf : x.wf = true
  text : from_ s k = x.txt ++ r
  end_ : s.size - r.length = k + x.txt.length
  rest : r.length ≤ s.size
theorem at_of {s : ByteArray} {k : Nat} {x : Ct} {r : List UInt8} (h : cutAt (from_ s k) = some (x, r)) : At s k x r := by
  obtain ⟨h1, h2⟩ := cutAt_sound h
  have hk : k < s.size := by
    have := from_len s k
    rw [h1] at this
    have := x.txt_pos
    simp at *
    omega
  obtain ⟨_, q2, q3⟩ := from_suffix h1
  exact ⟨h, hk, h2, h1, q3 (by omega), q2⟩
theorem at_of_text {s : ByteArray} {k : Nat} {x : Ct} {r : List UInt8} (hw : x.wf = true) (h : from_ s k = x.txt ++ r) : At s k x r := at_of (by rw [h]; exact cutAt_complete x r hw)
theorem At.seg {s : ByteArray} {k : Nat} {x : Ct} {r : List UInt8} (h : At s k x r) : s.extract k (k + x.txt.length) = txtOf x.txt := by
  apply ByteArray.ext
  apply Array.ext'
  have := h.text
  simp only [from_] at this
  simp [txtOf, Array.toList_extract, List.extract_eq_take_drop, this]
theorem At.first {s : ByteArray} {k : Nat} {x : Ct} {r : List UInt8} (h : At s k x r) : ∀ hh : k < s.size, s[k] = x.txt.headD 0 := by
  intro hh
  have h1 := h.text
  have h2 : s.data.toList[k]'(by simpa using hh) = x.txt.headD 0 := by
    have h3 : s.data.toList[k]? = some (x.txt.headD 0) := by
      have := congrArg (fun l => l[0]?) h1
      simp only [from_, List.getElem?_drop, Nat.add_zero] at this
      rw [this]
      have := x.txt_pos
      cases hx : x.txt with
      | nil => rw [hx] at this; simp at this
      | cons a t => rfl
    rw [List.getElem?_eq_some_iff] at h3
    exact h3.2
  exact h2
theorem At.opp {s : ByteArray} {k : Nat} {x : Ct} {r : List UInt8} (h : At s k (.opp x) r) : At s (k + 1) x r := by
  have h1 := h.text
  simp only [Ct.txt, List.cons_append] at h1
  exact at_of_text h.wf (from_cons h1).2.2
theorem At.two {s : ByteArray} {k : Nat} {g : UInt8} {x y : Ct} {r : List UInt8} (h : At s k (.two g x y) r) : At s (k + 1) x (y.txt ++ r) ∧ At s (k + 1 + x.txt.length) y r := by
  have h1 := h.text
  have hw := h.wf
  simp only [Ct.wf, Bool.and_eq_true] at hw
  simp only [Ct.txt, List.cons_append, List.append_assoc] at h1
  have h2 := (from_cons h1).2.2
  refine ⟨at_of_text hw.2.1 h2, at_of_text hw.2.2 ?_⟩
  have := congrArg (List.drop x.txt.length) h2
  simpa [from_, Nat.add_comm, Nat.add_left_comm] using this

set_option maxHeartbeats 400000 in
theorem show_small (s : ByteArray) (k : Nat) (x : Ct) (r : List UInt8) (h : At s k x r) (hs : small x = true) (hz : s.size ≤ 1048576) (w : World) :
    Calls Try.prog 34 #[.string s, .int .i64 k] w fun e w' => e = .returned (.tuple #[.string (wordsT x), .int .i64 ((k + x.txt.length : Nat) : Int)]) ∧ w = w' := by
  have hk := h.lt
  have hf := h.first
  have HE := Lib.hid (fun w => cend_any s k w (by omega) (by omega))
  have HZ := Lib.hid (show endI s (cutAt (from_ s k)) = ((k + x.txt.length : Nat) : Int) by
    rw [h.cut]; simp only [endI]; have := h.end_; have := h.rest; omega)
  have HW := Lib.hid (lwords_any x h.wf hs)
  have HS := Lib.hid h.seg
  have hle : k + x.txt.length ≤ s.size := by have := h.end_; omega
  have hlen : x.txt.length ≤ 2 := by
    cases x <;> first | (simp [Ct.txt]; done) | cases hs
  have hne : x.txt.headD 0 ≠ 33 ∧ x.txt.headD 0 ≠ 38 ∧ x.txt.headD 0 ≠ 124 := by
    have hw := h.wf
    cases x with
    | prt => decide
    | fix b => cases b <;> decide
    | lt g c =>
      simp only [Ct.wf, Bool.and_eq_true] at hw
      rcases cwf_or hw.1 with rfl | rfl | rfl <;> (simp [Ct.txt])
    | opp x => cases hs
    | two g x y => cases hs
  obtain ⟨n1, n2, n3⟩ := hne
  have g1 := ne_int n1
  have g2 := ne_int n2
  have g3 := ne_int n3
  simp only [UInt8.reduceToNat, Int.cast_ofNat_Int] at g1 g2 g3
  rw [HZ.out] at HE
  rw [← HS.out] at HW
  clear n1 n2 n3 h
  generalize x.txt.headD 0 = d at *
  generalize x.txt.length = n at *
  go_enter Try.func34, Try.ntmps34
  go_wp2_with fail
  refine (HE.out _).mono ?_
  rintro e w2 ⟨rfl, rfl⟩
  go_wp2_with fail
  refine (HW.out _).mono ?_
  rintro e w2 ⟨rfl, rfl⟩
  go_wp2_with fail
  go_ret2
  exact ⟨by simp, rfl⟩

def SaidShow (s : ByteArray) (k : Nat) (x : Ct) : Prop := ∀ (i : Int) (w : World), i = (k : Int) →
  Calls Try.prog 34 #[.string s, .int .i64 i] w fun e w' => e = .returned (.tuple #[.string (wordsT x), .int .i64 ((k : Int) + (x.txt.length : Int))]) ∧ w = w'

set_option maxHeartbeats 400000 in
theorem show_opp (s : ByteArray) (k : Nat) (x : Ct) (r : List UInt8) (h : At s k (.opp x) r) (hz : s.size ≤ 1048576) (hx : x.txt.length ≤ 1048576) (ih : SaidShow s (k + 1) x) (w : World) :
    Calls Try.prog 34 #[.string s, .int .i64 k] w fun e w' => e = .returned (.tuple #[.string (wordsT (.opp x)), .int .i64 ((k : Int) + ((Ct.opp x).txt.length : Int))]) ∧ w = w' := by
  have hk := h.lt
  have hf := h.first
  simp only [Ct.txt, List.headD_cons] at hf
  have HI := Lib.hid ih
  have HT := Lib.hid (show wordsT (.opp x) = ⟨#[110, 111, 116, 32]⟩ ++ wordsT x by
    apply ByteArray.ext; apply Array.ext'; simp [wordsT, txtOf, Ct.words])
  have hl := x.words_len
  have e1 := str_sum ⟨#[110, 111, 116, 32]⟩ (wordsT x) (by rw [wordsT, lit_size, show (⟨#[110, 111, 116, 32]⟩ : ByteArray).size = 4 from rfl]; omega)
  have HL := Lib.hid (show (((Ct.opp x).txt.length : Nat) : Int) = 1 + (x.txt.length : Int) by simp only [Ct.txt, List.length_cons]; omega)
  clear h ih hl
  unfold SaidShow at HI
  rw [HT.out, HL.out]
  generalize wordsT x = tx at *
  generalize x.txt.length = n at *
  go_enter Try.func34, Try.ntmps34
  go_wp2_with fail
  refine (HI.out _ _ (by omega)).mono ?_
  rintro e w2 ⟨rfl, rfl⟩
  go_wp2_with fail
  go_ret2
  exact ⟨by simp; omega, rfl⟩

set_option maxHeartbeats 1000000 in
theorem show_two (s : ByteArray) (k : Nat) (g : UInt8) (x y : Ct) (r : List UInt8) (h : At s k (.two g x y) r) (hg : g = 38 ∨ g = 124) (hz : s.size ≤ 1048576) (hx : x.txt.length + y.txt.length ≤ 1048576) (ih : SaidShow s (k + 1) x) (ih2 : SaidShow s (k + 1 + x.txt.length) y) (w : World) :
    Calls Try.prog 34 #[.string s, .int .i64 k] w fun e w' => e = .returned (.tuple #[.string (wordsT (.two g x y)), .int .i64 ((k : Int) + ((Ct.two g x y).txt.length : Int))]) ∧ w = w' := by
  have hk := h.lt
  have hf := h.first
  simp only [Ct.txt, List.headD_cons] at hf
  have HI := Lib.hid ih
  have HI2 := Lib.hid ih2
  have hl := x.words_len
  have hl2 := y.words_len
  have zx : (wordsT x).size ≤ 8388608 := by rw [wordsT, lit_size]; omega
  have zy : (wordsT y).size ≤ 8388608 := by rw [wordsT, lit_size]; omega
  have z1 : (⟨#[40]⟩ : ByteArray).size = 1 := rfl
  have z2 : (⟨#[41]⟩ : ByteArray).size = 1 := rfl
  have e1 := str_sum ⟨#[40]⟩ (wordsT x) (by omega)
  have HL := Lib.hid (show (((Ct.two g x y).txt.length : Nat) : Int) = 1 + (x.txt.length : Int) + (y.txt.length : Int) by simp only [Ct.txt, List.length_cons, List.length_append]; omega)
  have hxl : x.txt.length ≤ 1048576 := by omega
  have hyl : y.txt.length ≤ 1048576 := by omega
  clear h ih ih2 hl hl2 hx
  unfold SaidShow at HI HI2
  rw [HL.out]
  rcases hg with rfl | rfl
  · have HT := Lib.hid (show wordsT (.two 38 x y) = ⟨#[40]⟩ ++ wordsT x ++ ⟨#[32, 97, 110, 100, 32]⟩ ++ wordsT y ++ ⟨#[41]⟩ by
      apply ByteArray.ext; apply Array.ext'; simp [wordsT, txtOf, Ct.words])
    have z3 : (⟨#[32, 97, 110, 100, 32]⟩ : ByteArray).size = 5 := rfl
    have e2 := str_sum (⟨#[40]⟩ ++ wordsT x) ⟨#[32, 97, 110, 100, 32]⟩ (by simp; omega)
    have e3 := str_sum (⟨#[40]⟩ ++ wordsT x ++ ⟨#[32, 97, 110, 100, 32]⟩) (wordsT y) (by simp; omega)
    have e4 := str_sum (⟨#[40]⟩ ++ wordsT x ++ ⟨#[32, 97, 110, 100, 32]⟩ ++ wordsT y) ⟨#[41]⟩ (by simp; omega)
    rw [HT.out]
    clear z1 z2 z3 zx zy HL
    generalize wordsT x = tx at *
    generalize wordsT y = ty at *
    generalize x.txt.length = n at *
    generalize y.txt.length = m at *
    go_enter Try.func34, Try.ntmps34
    go_wp2_with fail
    refine (HI.out _ _ (by omega)).mono ?_
    rintro e w2 ⟨rfl, rfl⟩
    go_wp2_with fail
    refine (HI2.out _ _ (by omega)).mono ?_
    rintro e w2 ⟨rfl, rfl⟩
    go_wp2_with fail
    go_ret2
    exact ⟨by simp; omega, rfl⟩
  · have HT := Lib.hid (show wordsT (.two 124 x y) = ⟨#[40]⟩ ++ wordsT x ++ ⟨#[32, 111, 114, 32]⟩ ++ wordsT y ++ ⟨#[41]⟩ by
      apply ByteArray.ext; apply Array.ext'; simp [wordsT, txtOf, Ct.words])
    have z3 : (⟨#[32, 111, 114, 32]⟩ : ByteArray).size = 4 := rfl
    have e2 := str_sum (⟨#[40]⟩ ++ wordsT x) ⟨#[32, 111, 114, 32]⟩ (by simp; omega)
    have e3 := str_sum (⟨#[40]⟩ ++ wordsT x ++ ⟨#[32, 111, 114, 32]⟩) (wordsT y) (by simp; omega)
    have e4 := str_sum (⟨#[40]⟩ ++ wordsT x ++ ⟨#[32, 111, 114, 32]⟩ ++ wordsT y) ⟨#[41]⟩ (by simp; omega)
    rw [HT.out]
    clear z1 z2 z3 zx zy HL
    generalize wordsT x = tx at *
    generalize wordsT y = ty at *
    generalize x.txt.length = n at *
    generalize y.txt.length = m at *
    go_enter Try.func34, Try.ntmps34
    go_wp2_with fail
    refine (HI.out _ _ (by omega)).mono ?_
    rintro e w2 ⟨rfl, rfl⟩
    go_wp2_with fail
    refine (HI2.out _ _ (by omega)).mono ?_
    rintro e w2 ⟨rfl, rfl⟩
    go_wp2_with fail
    go_ret2
    exact ⟨by simp; omega, rfl⟩

theorem show_all (s : ByteArray) (hz : s.size ≤ 1048576) : ∀ (x : Ct) (k : Nat) (r : List UInt8), At s k x r → SaidShow s k x
  | .prt, k, r, h => by
    rintro i w rfl
    refine (show_small s k _ r h rfl hz w).mono ?_
    rintro e w' ⟨rfl, hw⟩
    exact ⟨by simp, hw⟩
  | .fix b, k, r, h => by
    rintro i w rfl
    refine (show_small s k _ r h rfl hz w).mono ?_
    rintro e w' ⟨rfl, hw⟩
    exact ⟨by simp, hw⟩
  | .lt g c, k, r, h => by
    rintro i w rfl
    refine (show_small s k _ r h rfl hz w).mono ?_
    rintro e w' ⟨rfl, hw⟩
    exact ⟨by simp, hw⟩
  | .opp x, k, r, h => by
    rintro i w rfl
    have hl := h.end_
    simp only [Ct.txt, List.length_cons] at hl
    exact show_opp s k x r h hz (by omega) (show_all s hz x (k + 1) r h.opp) w
  | .two g x y, k, r, h => by
    rintro i w rfl
    have hl := h.end_
    have hw := h.wf
    simp only [Ct.wf, Bool.and_eq_true] at hw
    simp only [Ct.txt, List.length_cons, List.length_append] at hl
    obtain ⟨h1, h2⟩ := h.two
    exact show_two s k g x y r h (by simpa only [isAO, Bool.or_eq_true, beq_iff_eq] using hw.1) hz (by omega) (show_all s hz x _ _ h1) (show_all s hz y _ _ h2) w

set_option maxHeartbeats 400000 in
theorem spec_show (s : ByteArray) (w : World) (hs : s.size ≤ 1048576) :
    Calls Try.prog 20 #[.string s] w fun e w' => e = .returned (.string (showT s)) ∧ w = w' := by
  have HV := Lib.hid (fun w => spec_cval s w (by omega))
  cases hc : cutOf s with
  | none =>
    rw [hc] at HV
    have HT := Lib.hid (show showT s = ⟨#[]⟩ by rw [showT, hc])
    clear hc
    go_enter Try.func20, Try.ntmps20
    go_wp2_with fail
    refine (HV.out _).mono ?_
    rintro e w1 ⟨rfl, rfl⟩
    go_wp2_with fail
    go_ret
    exact ⟨by rw [HT.out]; rfl, rfl⟩
  | some x =>
    rw [hc] at HV
    have HT := Lib.hid (show showT s = wordsT x by rw [showT, hc])
    obtain ⟨z1, z2, z3, z4⟩ := cutOf_some hc
    have HA := Lib.hid (fun w => show_all s hs x 0 [] (at_of (k := 0) z4) 0 w rfl)
    clear hc z1 z2 z3 z4
    generalize x.txt.length = n at *
    go_enter Try.func20, Try.ntmps20
    go_wp2_with fail
    refine (HV.out _).mono ?_
    rintro e w1 ⟨rfl, rfl⟩
    go_wp2_with fail
    refine (HA.out _).mono ?_
    rintro e w2 ⟨rfl, rfl⟩
    go_wp2_with fail
    go_ret
    exact ⟨by rw [HT.out]; rfl, rfl⟩

set_option maxHeartbeats 400000 in
theorem show_long (s : ByteArray) (w : World) (hl : 1048576 < s.size) (hx : s.size ≤ maxLen) :
    Calls Try.prog 6 #[.string s] w fun e w' => e = .returned (.bool true) ∧ Below w.heap.size w w' := by
  unfold maxLen at hx
  go_enter Try.func6, Try.ntmps6
  go_wp2_with fail
  go_ret
  exact ⟨rfl, Below.refl _ _⟩
set_option maxHeartbeats 400000 in
theorem show_short (s : ByteArray) (w : World) (hl : s.size ≤ 1048576) :
    Calls Try.prog 6 #[.string s] w fun e w' => e = .returned (.bool true) ∧ Below w.heap.size w w' := by
  have HI := Lib.hid (fun w => impl_show s w (by omega))
  have HS := Lib.hid (fun w => spec_show s w (by omega))
  generalize showT s = b at *
  go_enter Try.func6, Try.ntmps6
  go_wp2_with fail
  refine (HS.out _).mono ?_
  rintro e w1 ⟨rfl, rfl⟩
  go_wp2_with fail
  refine (HI.out _).mono ?_
  rintro e w2 ⟨rfl, b2⟩
  have B2 := Lib.hid b2
  clear b2
  go_wp2_with fail
  go_ret
  exact ⟨rfl, B2.out⟩
theorem show_any (s : ByteArray) (w : World) (hx : s.size ≤ maxLen) :
    Calls Try.prog 6 #[.string s] w fun e w' => e = .returned (.bool true) ∧ Below w.heap.size w w' := by
  by_cases h : s.size ≤ 1048576
  · exact show_short s w h
  · exact show_long s w (by omega) hx
end Go.Proofs.YthenpjcijmfgjaaRRR
