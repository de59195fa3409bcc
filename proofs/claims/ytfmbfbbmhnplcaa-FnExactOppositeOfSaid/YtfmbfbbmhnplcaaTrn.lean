/- The model's l11Turn and OppositeOf. Condition: texts of at most 2^20 bytes. -/
import Derived.Test.YtfmbfbbmhnplcaaIbs
import Derived.Test.YtfmbfbbmhnplcaaCend
namespace Go.Proofs.Ytfmbfbbmhnplcaa
open Go.RowKit Gram

/-- what l11Turn hands back -/
def TurnTo (T : ByteArray) (v : Int) (w : World) (e : Ending) (w' : World) : Prop := e = .returned (.tuple #[.string T, .int .i64 v]) ∧ Below w.heap.size w w'

theorem not_T (w : World) : Calls Try.prog 24 #[.string ⟨#[84]⟩] w fun e w' => e = .returned (.string ⟨#[78]⟩) ∧ w = w' := by
  go_enter Try.func24, Try.ntmps24
  go_wp2_with fail
  go_ret
  exact ⟨rfl, rfl⟩
theorem not_N (w : World) : Calls Try.prog 24 #[.string ⟨#[78]⟩] w fun e w' => e = .returned (.string ⟨#[84]⟩) ∧ w = w' := by
  go_enter Try.func24, Try.ntmps24
  go_wp2_with fail
  go_ret
  exact ⟨rfl, rfl⟩

section
variable (s : ByteArray) (k : Nat) (w : World) (hk : k < s.size) (hz : s.size ≤ 1048576)
include hk hz

set_option maxHeartbeats 400000 in
theorem turn_opp (hb : (s[k]'hk).toNat = 33) (t : Bool) (T : ByteArray) (v : Int) (hv : ∀ w, Calls Try.prog 15 #[.string s, .int .i64 ((k : Int) + 1), .bool (!t)] w (TurnTo T v w)) :
    Calls Try.prog 15 #[.string s, .int .i64 k, .bool t] w (TurnTo T v w) := by
  have HV := Lib.hid hv
  unfold TurnTo at HV
  clear hv
  cases t
  all_goals
    go_enter Try.func15, Try.ntmps15
    go_wp2_with fail
    refine (HV.out _).mono ?_
    rintro e w2 ⟨rfl, hb2⟩
    have HB := Lib.hid hb2
    clear hb2
    go_wp2_with fail
    go_ret2
    exact ⟨rfl, HB.out⟩

set_option maxHeartbeats 400000 in
theorem turn_leaf (c : UInt8) (hb : (s[k]'hk).toNat = c.toNat) (hc : c = 80 ∨ c = 67 ∨ c = 87 ∨ c = 70) (t : Bool) (m : Nat) (X : ByteArray) (hm : k + m ≤ s.size) (hX : s.extract k (k + m) = X) (hE : ∀ w, Calls Try.prog 23 #[.string s, .int .i64 k] w fun e w' => e = .returned (.int .i64 ((k : Int) + (m : Int))) ∧ w = w') :
    Calls Try.prog 15 #[.string s, .int .i64 k, .bool t] w (TurnTo (if t then ⟨#[33]⟩ ++ X else X) ((k : Int) + (m : Int)) w) := by
  have HE := Lib.hid hE
  have e1 := str_sum ⟨#[33]⟩ X (by rw [← hX]; simp; have : (⟨#[33]⟩ : ByteArray).size = 1 := rfl; omega)
  clear hE
  cases t
  all_goals
    rcases hc with rfl | rfl | rfl | rfl
    all_goals
      go_enter Try.func15, Try.ntmps15
      go_wp2_with fail
      refine (HE.out _).mono ?_
      rintro e w2 ⟨rfl, rfl⟩
      go_wp2_with fail
      go_ret2
      exact ⟨rfl, Below.refl _ _⟩

set_option maxHeartbeats 400000 in
theorem turn_fix (b : Bool) (hb : (s[k]'hk).toNat = if b then 84 else 78) (t : Bool) (hX : s.extract k (k + 1) = ⟨#[if b then 84 else 78]⟩) :
    Calls Try.prog 15 #[.string s, .int .i64 k, .bool t] w (TurnTo ⟨#[if (b != t) then 84 else 78]⟩ ((k : Int) + 1) w) := by
  have HT := Lib.hid not_T
  have HN := Lib.hid not_N
  cases t
  · cases b
    all_goals
      simp only [Bool.false_eq_true, if_false, if_true] at hb hX
      go_enter Try.func15, Try.ntmps15
      go_wp2_with fail
      go_ret2
      exact ⟨rfl, Below.refl _ _⟩
  · cases b
    · simp only [Bool.false_eq_true, if_false, if_true] at hb hX
      clear HT
      go_enter Try.func15, Try.ntmps15
      go_wp2_with fail
      refine (HN.out _).mono ?_
      rintro e w2 ⟨rfl, rfl⟩
      go_wp2_with fail
      go_ret2
      exact ⟨rfl, Below.refl _ _⟩
    · simp only [Bool.false_eq_true, if_false, if_true] at hb hX
      clear HN
      go_enter Try.func15, Try.ntmps15
      go_wp2_with fail
      refine (HT.out _).mono ?_
      rintro e w2 ⟨rfl, rfl⟩
      go_wp2_with fail
      go_ret2
      exact ⟨rfl, Below.refl _ _⟩
omit hk hz in
theorem convO (g : UInt8) (w : World) (b : Nat) (hb : b = w.heap.size) :
    (convert 48 9 (.slice (some ⟨b, 0, none⟩) 1 1)).run Try.prog (w.alloc (Obj.cells #[.int .u8 (g.toNat : Int)] 5)) =
      .ok (.string (txtOf [g])) (w.alloc (Obj.cells #[.int .u8 (g.toNat : Int)] 5)) := by
  subst hb
  exact run_convert_bytes_back (P := Try.prog) _ 48 9 5 ⟨w.heap.size, 0, none⟩ 1 [g] Try.underlying48 Try.underlying5 Try.underlying9 (bytes_cellsS (e := 5) (heap_alloc_new _ _))

set_option maxHeartbeats 1000000 in
set_option maxRecDepth 100000 in
theorem turn_two (g : UInt8) (hg : g = 38 ∨ g = 124) (hb : (s[k]'hk).toNat = g.toNat) (t : Bool) (T1 T2 : ByteArray) (n1 n2 : Int) (z1 : T1.size ≤ 4194304) (z2 : T2.size ≤ 4194304)
    (h1 : ∀ w, Calls Try.prog 15 #[.string s, .int .i64 ((k : Int) + 1), .bool t] w (TurnTo T1 n1 w))
    (h2 : ∀ w, Calls Try.prog 15 #[.string s, .int .i64 n1, .bool t] w (TurnTo T2 n2 w)) :
    Calls Try.prog 15 #[.string s, .int .i64 k, .bool t] w (TurnTo (txtOf [if t then 162 - g else g] ++ T1 ++ T2) n2 w) := by
  have H1 := Lib.hid h1
  have H2 := Lib.hid h2
  unfold TurnTo at H1 H2
  have y1 : ∀ c : UInt8, (txtOf [c]).size = 1 := fun _ => rfl
  have e1 := fun c : UInt8 => str_sum (txtOf [c]) T1 (by rw [y1]; omega)
  have e2 := fun c : UInt8 => str_sum (txtOf [c] ++ T1) T2 (by rw [ByteArray.size_append, y1]; omega)
  clear h1 h2 z1 z2 y1
  cases t
  all_goals
    rcases hg with rfl | rfl
    all_goals
      go_enter Try.func15, Try.ntmps15
      go_wp2_with fail
      refine (H1.out _).mono ?_
      rintro e w2 ⟨rfl, hb2⟩
      have HB2 := Lib.hid hb2
      clear hb2
      go_wp2_with fail
      refine (H2.out _).mono ?_
      rintro e w3 ⟨rfl, hb3⟩
      have HB3 := Lib.hid (below_on HB2.out hb3)
      clear hb3
      go_wp2_with fail
      first
        | (have hcv := convO 38 w3 w3.heap.size rfl
           simp only [UInt8.reduceToNat, Int.cast_ofNat_Int] at hcv
           rw [hcv])
        | (have hcv := convO 124 w3 w3.heap.size rfl
           simp only [UInt8.reduceToNat, Int.cast_ofNat_Int] at hcv
           rw [hcv])
      simp only [Result.andThen]
      rw [Oper.upon_value]
      go_wp2_with fail
      go_ret2
      exact ⟨rfl, HB3.out.alloc HB3.out.size _⟩
end

theorem from_at {s : ByteArray} {k : Nat} {c : UInt8} {r : List UInt8} (h : from_ s k = c :: r) : ∃ hk : k < s.size, s[k]'hk = c := by
  obtain ⟨h1, h2, _⟩ := from_cons h
  refine ⟨h2, ?_⟩
  have : s.data.toList[k]? = some c := by
    have := congrArg (fun l => l[0]?) h
    simpa [from_] using this
  rw [List.getElem?_eq_some_iff] at this
  obtain ⟨_, h3⟩ := this
  rw [← h3]; simp; rfl
theorem from_seg {s : ByteArray} {k : Nat} {p r : List UInt8} (h : from_ s k = p ++ r) : s.extract k (k + p.length) = txtOf p := by
  apply ByteArray.ext
  apply Array.ext'
  have : s.data.toList.drop k = p ++ r := h
  simp [txtOf, Array.toList_extract, List.extract_eq_take_drop, this]
theorem from_le {s : ByteArray} {k : Nat} {p r : List UInt8} (h : from_ s k = p ++ r) (hp : 1 ≤ p.length) : k + p.length ≤ s.size := by
  have := from_len s k
  rw [h, List.length_append] at this; omega
theorem from_skip {s : ByteArray} {k : Nat} {p r : List UInt8} (h : from_ s k = p ++ r) : from_ s (k + p.length) = r := by
  have : s.data.toList.drop k = p ++ r := h
  rw [from_, ← List.drop_drop, this, List.drop_left]

/-- l11Turn at a cut -/
theorem turn_all : ∀ (x : Ct) (s : ByteArray) (k : Nat) (r : List UInt8) (t : Bool) (w : World), x.wf = true → from_ s k = x.txt ++ r → s.size ≤ 1048576 →
    Calls Try.prog 15 #[.string s, .int .i64 k, .bool t] w (TurnTo (txtOf (nnf t x).txt) ((k : Int) + (x.txt.length : Int)) w)
  | .prt, s, k, r, t, w, hw, hf, hs => by
    obtain ⟨hk, hb⟩ := from_at (c := 80) (r := r) hf
    have hl := from_le (p := [80]) hf (by decide)
    have hE := fun w => cend_any s k w (by omega) (by omega)
    rw [hf, cutAt_complete _ r hw] at hE
    have hrl := from_len s k
    rw [hf, List.length_append] at hrl
    refine (turn_leaf s k w hk hs 80 (by rw [hb]) (.inl rfl) t 1 (txtOf [80]) (by simpa using hl) (from_seg (p := [80]) hf) (fun w => (hE w).mono ?_)).mono ?_
    · rintro e w' ⟨rfl, rfl⟩
      exact ⟨ret_int (by simp only [endI, Ct.txt, List.length_cons, List.length_nil] at hrl hl ⊢; omega), rfl⟩
    · rintro e w' ⟨rfl, h⟩
      exact ⟨by cases t <;> rfl, h⟩
  | .lt g c, s, k, r, t, w, hw, hf, hs => by
    obtain ⟨hk, hb⟩ := from_at (c := g) (r := c :: r) hf
    have hl := from_le (p := [g, c]) hf (by simp)
    have hE := fun w => cend_any s k w (by omega) (by omega)
    rw [hf, cutAt_complete _ r hw] at hE
    have hrl := from_len s k
    rw [hf, List.length_append] at hrl
    simp only [Ct.wf, Bool.and_eq_true] at hw
    refine (turn_leaf s k w hk hs g (by rw [hb]) (.inr (cwf_or hw.1)) t 2 (txtOf [g, c]) (by simpa using hl) (from_seg (p := [g, c]) hf) (fun w => (hE w).mono ?_)).mono ?_
    · rintro e w' ⟨rfl, rfl⟩
      exact ⟨ret_int (by simp only [endI, Ct.txt, List.length_cons, List.length_nil] at hrl hl ⊢; omega), rfl⟩
    · rintro e w' ⟨rfl, h⟩
      refine ⟨?_, h⟩
      cases t
      · rfl
      · simp only [if_true]
        congr 2
  | .fix b, s, k, r, t, w, hw, hf, hs => by
    obtain ⟨hk, hb⟩ := from_at (c := if b then 84 else 78) (r := r) hf
    refine (turn_fix s k w hk hs b (by rw [hb]; cases b <;> rfl) t (from_seg (p := [if b then 84 else 78]) hf)).mono ?_
    rintro e w' ⟨rfl, h⟩
    exact ⟨by cases b <;> cases t <;> rfl, h⟩
  | .opp x, s, k, r, t, w, hw, hf, hs => by
    obtain ⟨hk, hb⟩ := from_at (c := 33) (r := x.txt ++ r) hf
    have h2 := (from_cons (c := 33) (r := x.txt ++ r) hf).2.2
    have ih := fun w => turn_all x s (k + 1) r (!t) w hw h2 hs
    refine turn_opp s k w hk hs (by rw [hb]; rfl) t _ _ (fun w => ?_)
    refine (ih w).mono ?_
    rintro e w' ⟨rfl, h⟩
    refine ⟨?_, h⟩
    have e1 : (((k + 1 : Nat) : Int) + (x.txt.length : Int)) = (k : Int) + ((Ct.opp x).txt.length : Int) := by simp only [Ct.txt, List.length_cons]; omega
    rw [e1]; rfl
  | .two g x y, s, k, r, t, w, hw, hf, hs => by
    have hf' : from_ s k = g :: (x.txt ++ (y.txt ++ r)) := by rw [hf]; simp [Ct.txt]
    obtain ⟨hk, hb⟩ := from_at hf'
    have h2 := (from_cons hf').2.2
    have h3 := from_skip h2
    simp only [Ct.wf, Bool.and_eq_true] at hw
    have hlen := from_le (p := (Ct.two g x y).txt) hf (Ct.txt_pos _)
    simp only [Ct.txt, List.length_cons, List.length_append] at hlen
    have ihx := fun w => turn_all x s (k + 1) (y.txt ++ r) t w hw.2.1 h2 hs
    have ihy := fun w => turn_all y s (k + 1 + x.txt.length) r t w hw.2.2 h3 hs
    have zx := nnf_len x t
    have zy := nnf_len y t
    refine (turn_two s k w hk hs g (by simpa only [isAO, Bool.or_eq_true, beq_iff_eq] using hw.1) (by rw [hb]) t (txtOf (nnf t x).txt) (txtOf (nnf t y).txt) ((k : Int) + 1 + (x.txt.length : Int)) ((k : Int) + 1 + (x.txt.length : Int) + (y.txt.length : Int)) (by rw [txtOf_size]; omega) (by rw [txtOf_size]; omega) (fun w => ?_) (fun w => ?_)).mono ?_
    · exact ihx w
    · exact ihy w
    · rintro e w' ⟨rfl, h⟩
      refine ⟨?_, h⟩
      have e1 : txtOf [if t = true then 162 - g else g] ++ txtOf (nnf t x).txt ++ txtOf (nnf t y).txt = txtOf (nnf t (.two g x y)).txt := by
        apply ByteArray.ext; apply Array.ext'; simp [txtOf, nnf, Ct.txt]
      have e2 : ((k : Int) + 1 + (x.txt.length : Int) + (y.txt.length : Int)) = (k : Int) + ((Ct.two g x y).txt.length : Int) := by simp only [Ct.txt, List.length_cons, List.length_append]; omega
      rw [e1, e2]
end Go.Proofs.Ytfmbfbbmhnplcaa
