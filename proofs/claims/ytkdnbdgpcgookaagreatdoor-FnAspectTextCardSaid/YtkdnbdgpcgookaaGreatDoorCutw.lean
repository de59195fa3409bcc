/- The model's l13Cut at a space: the parts of a text; what strings.Cut at a space makes of it. Condition: a text of at most 2^30 bytes. -/
import Derived.Test.YtkdnbdgpcgookaaGreatDoorEx
import Derived.Lib.Split
namespace Go.Proofs.YtkdnbdgpcgookaaGreatDoor
open Go.RowKit Gram

/-- the parts of a text, the first one begun with p -/
def w_cutsP (p : List UInt8) : List UInt8 → List (List UInt8)
  | [] => [p]
  | c :: t => if c = 32 then p :: w_cutsP [] t else w_cutsP (p ++ [c]) t
def w_cuts (l : List UInt8) : List (List UInt8) := w_cutsP [] l

theorem w_cutsP_none (l : List UInt8) : ∀ p, 32 ∉ l → w_cutsP p l = [p ++ l] := by
  induction l with
  | nil => intro p _; simp [w_cutsP]
  | cons c t ih =>
    intro p h
    simp only [List.mem_cons, not_or] at h
    rw [w_cutsP, if_neg (Ne.symm h.1), ih _ h.2]
    simp
theorem w_cutsP_hit (a b : List UInt8) : ∀ p, 32 ∉ a → w_cutsP p (a ++ 32 :: b) = (p ++ a) :: w_cuts b := by
  induction a with
  | nil => intro p _; simp [w_cutsP, w_cuts]
  | cons c t ih =>
    intro p h
    simp only [List.mem_cons, not_or] at h
    rw [List.cons_append, w_cutsP, if_neg (Ne.symm h.1), ih _ h.2]
    simp

theorem w_index_cases (x : UInt8) (l : List UInt8) : (Lib.index l [x] = -1 ∧ x ∉ l) ∨ ∃ a b, l = a ++ x :: b ∧ x ∉ a ∧ Lib.index l [x] = (a.length : Int) := by
  induction l with
  | nil => exact .inl ⟨rfl, by simp⟩
  | cons c t ih =>
    unfold Lib.index
    by_cases hc : x = c
    · subst hc
      refine .inr ⟨[], t, rfl, by simp, ?_⟩
      simp [List.isPrefixOf]
    · have hp : [x].isPrefixOf (c :: t) = false := by simp [List.isPrefixOf, hc]
      rw [hp]
      rcases ih with ⟨h1, h2⟩ | ⟨a, b, h1, h2, h3⟩
      · left
        rw [h1]
        exact ⟨rfl, by simp [hc, h2]⟩
      · right
        refine ⟨c :: a, b, by rw [h1]; rfl, by simp [hc, h2], ?_⟩
        rw [h3]
        have : ((a.length : Int) == -1) = false := by rw [beq_eq_false_iff_ne]; omega
        simp [this]

def w_txtV (l : List UInt8) : Value := .string ⟨l.toArray⟩
def w_partVs (ps : List (List UInt8)) : List Value := ps.map w_txtV
theorem w_partVs_snoc (ps : List (List UInt8)) (p : List UInt8) : w_partVs (ps ++ [p]) = w_partVs ps ++ [w_txtV p] := by simp [w_partVs]
theorem w_partVs_len (ps : List (List UInt8)) : (w_partVs ps).length = ps.length := by simp [w_partVs]

/-- the sign at an index -/
def w_sgn (s : ByteArray) (i : Nat) : UInt8 := s.data.toList.getD i 0
def w_seg (s : ByteArray) (f i : Nat) : List UInt8 := (s.data.toList.drop f).take (i - f)
theorem w_seg_V (s : ByteArray) (f i : Nat) : Value.string (s.extract f i) = w_txtV (w_seg s f i) := by
  rw [w_txtV]
  congr 1
  apply ByteArray.ext
  apply Array.ext'
  simp [w_seg, Array.toList_extract, List.extract_eq_take_drop]
theorem w_seg_nil (s : ByteArray) (f : Nat) : w_seg s f f = [] := by simp [w_seg]

/-- what is read so far -/
def WCutTo (s : ByteArray) (f i : Nat) (outs : List (List UInt8)) : Prop :=
  outs.length ≤ i ∧ ((i ≤ s.size ∧ f ≤ i ∧ w_cuts s.data.toList = outs ++ w_cutsP (w_seg s f i) (s.data.toList.drop i)) ∨ (i = s.size + 1 ∧ w_cuts s.data.toList = outs))

theorem w_cutTo_start (s : ByteArray) : WCutTo s 0 0 [] := ⟨Nat.le_refl _, .inl ⟨Nat.zero_le _, Nat.le_refl _, by simp [w_seg, w_cuts]⟩⟩
theorem w_drop_sgn (s : ByteArray) (i : Nat) (h : i < s.size) : s.data.toList.drop i = w_sgn s i :: s.data.toList.drop (i + 1) := by
  have hl : i < s.data.toList.length := by simpa using h
  rw [List.drop_eq_getElem_cons hl, w_sgn, List.getD_eq_getElem?_getD, List.getElem?_eq_getElem hl]; rfl
theorem w_cutTo_end {s : ByteArray} {f : Nat} {outs : List (List UInt8)} (h : WCutTo s f s.size outs) : f ≤ s.size ∧ WCutTo s (s.size + 1) (s.size + 1) (outs ++ [w_seg s f s.size]) := by
  obtain ⟨h0, ⟨h1, h2, h3⟩ | ⟨h1, _⟩⟩ := h
  · refine ⟨h2, by simp; omega, .inr ⟨rfl, ?_⟩⟩
    rw [h3, List.drop_of_length_le (by simp), w_cutsP]
  · omega
theorem w_cutTo_hit {s : ByteArray} {f i : Nat} {outs : List (List UInt8)} (h : WCutTo s f i outs) (hi : i < s.size) (hc : w_sgn s i = 32) : f ≤ i ∧ WCutTo s (i + 1) (i + 1) (outs ++ [w_seg s f i]) := by
  obtain ⟨h0, ⟨h1, h2, h3⟩ | ⟨h1, _⟩⟩ := h
  · refine ⟨h2, by simp; omega, .inl ⟨hi, Nat.le_refl _, ?_⟩⟩
    rw [h3, w_drop_sgn s i hi, hc, w_cutsP, if_pos rfl, w_seg_nil]
    simp
  · omega
theorem w_cutTo_pass {s : ByteArray} {f i : Nat} {outs : List (List UInt8)} (h : WCutTo s f i outs) (hi : i < s.size) (hc : w_sgn s i ≠ 32) : WCutTo s f (i + 1) outs := by
  obtain ⟨h0, ⟨h1, h2, h3⟩ | ⟨h1, _⟩⟩ := h
  · refine ⟨by omega, .inl ⟨hi, by omega, ?_⟩⟩
    have hs : w_seg s f (i + 1) = w_seg s f i ++ [w_sgn s i] := by
      have hl : i - f < (s.data.toList.drop f).length := by simp; omega
      rw [w_seg, w_seg, show i + 1 - f = (i - f) + 1 by omega, List.take_add_one, List.getElem?_eq_getElem hl, w_sgn, List.getD_eq_getElem?_getD, List.getElem_drop]
      simp [show f + (i - f) = i by omega]
      rw [Array.getElem?_eq_getElem (by simpa using hi)]; rfl
    rw [h3, w_drop_sgn s i hi, w_cutsP, if_neg hc, hs]
  · omega

theorem w_sgn_at (s : ByteArray) (i : Nat) (h : i < s.size) : s[i] = w_sgn s i := by
  have hl : i < s.data.toList.length := by simpa using h
  rw [w_sgn, List.getD_eq_getElem?_getD, List.getElem?_eq_getElem hl]; rfl
theorem w_sgn_is (s : ByteArray) (i : Nat) (h : i < s.size) (c : UInt8) : ((s[i].toNat : Int) == (c.toNat : Int)) = (w_sgn s i == c) := by rw [toNat_beq, w_sgn_at]

set_option maxHeartbeats 1000000 in
set_option maxRecDepth 100000 in
theorem w_cut_any (s : ByteArray) (w : World) (hs : s.size ≤ 1073741824) :
    Calls Tryz.prog 37 #[.string s, .int .u8 32] w fun e w' => ∃ v, e = .returned v ∧
      w'.ownsRow w.heap.size 9 1 v (w_cuts s.data.toList).length (w_partVs (w_cuts s.data.toList)) ∧ Below w.heap.size w w' := by
  obtain ⟨i0, hi, hz0, hz1, hz2⟩ := info_parts info_str
  go_enter Tryz.func37, Tryz.ntmps37
  go_wp2_with fail
  go_loopw [5, 6, 7] (fun v f_ i_ wr => ∃ (f i : Nat) (ys : List (List UInt8)), f_ = .int .i64 f ∧ i_ = .int .i64 i ∧ i ≤ s.size + 1 ∧ wr.ownsRow w.heap.size 9 1 v ys.length (w_partVs ys) ∧ Below w.heap.size w wr ∧ Hid (WCutTo s f i ys)) (fun _ _ i_ _ => s.size + 1 - (intOf i_).toNat)
  case atStart =>
    refine ⟨0, 0, [], by go_num, by go_num, by omega, ?_, (Below.refl _ _).alloc (Nat.le_refl _) _, w_cutTo_start s⟩
    exact ⟨by simp [w_partVs], .inr ⟨w.heap.size, 0, #[], rfl, Nat.le_refl _, heap_alloc_new w _, Nat.le_refl _, by simp [maxLen], by simp, by simp [w_partVs]⟩⟩
  case round =>
    obtain ⟨f, i, ys, rfl, rfl, hk, hown, hbw, hC⟩ := hrel
    have hsz := hbw.size
    have hyl : ys.length ≤ i := hC.out.1
    by_cases hle : i ≤ s.size
    · by_cases hlt : i < s.size
      · by_cases hc : w_sgn s i = 32
        · have hb : ((s[i].toNat : Int) == 32) = true := by rw [show (32 : Int) = ((32 : UInt8).toNat : Int) from rfl, w_sgn_is s i hlt 32, hc]; rfl
          obtain ⟨hfi, hn⟩ := w_cutTo_hit hC.out hlt hc
          have HN := Lib.hid hn
          have HV := Lib.hid (w_seg_V s f i)
          clear hn hC hc
          go_wp2_with (at_builtin; refine wpList_append_own _ rfl _ _ 39 rfl w.heap.size 9 i0 (.string ⟨#[]⟩) 1 16 Tryz.underlying39 hi hz0 hz1 hz2 rfl (by decide) _ _ _ rfl (hown.alloc _) ⟨wr.heap.size, 0, none⟩ 1 1 [.string (s.extract f i)] rfl rfl ?c1 ?c2 ?c3 ?c4 ?c5 ?_)
          case c1 => exact cell_one_new _ _ _
          case c2 => intro u hu; simp at hu; subst hu; rfl
          case c3 => unfold maxLen; omega
          case c4 => omega
          case c5 => simp; omega
          intro v' w1 hown' hgrow _
          go_wp2_with fail
          go_roundw
          case rel =>
            refine ⟨i + 1, i + 1, ys ++ [w_seg s f i], by go_num, by go_num, by omega, ?_, (hbw.alloc (by omega) _).grown hgrow (by simp; omega) (fun j hj => (hown.lt j hj).1), HN.out⟩
            rw [w_partVs_snoc, ← HV.out]; simpa using hown'
          case measure => simp [intOf] <;> omega
        · have hb : ((s[i].toNat : Int) == 32) = false := by rw [show (32 : Int) = ((32 : UInt8).toNat : Int) from rfl, w_sgn_is s i hlt 32, beq_eq_false_iff_ne]; exact hc
          have HN := Lib.hid (w_cutTo_pass hC.out hlt hc)
          clear hC hc
          go_wp2_with fail
          go_roundw
          case rel => exact ⟨f, i + 1, ys, by go_num, by go_num, by omega, hown, hbw, HN.out⟩
          case measure => simp [intOf] <;> omega
      · have hie : i = s.size := by omega
        subst hie
        obtain ⟨hfi, hn⟩ := w_cutTo_end hC.out
        have HN := Lib.hid hn
        have HV := Lib.hid (w_seg_V s f s.size)
        clear hn hC
        go_wp2_with (at_builtin; refine wpList_append_own _ rfl _ _ 39 rfl w.heap.size 9 i0 (.string ⟨#[]⟩) 1 16 Tryz.underlying39 hi hz0 hz1 hz2 rfl (by decide) _ _ _ rfl (hown.alloc _) ⟨wr.heap.size, 0, none⟩ 1 1 [.string (s.extract f s.size)] rfl rfl ?c1 ?c2 ?c3 ?c4 ?c5 ?_)
        case c1 => exact cell_one_new _ _ _
        case c2 => intro u hu; simp at hu; subst hu; rfl
        case c3 => unfold maxLen; omega
        case c4 => omega
        case c5 => simp; omega
        intro v' w1 hown' hgrow _
        go_wp2_with fail
        go_roundw
        case rel =>
          refine ⟨s.size + 1, s.size + 1, ys ++ [w_seg s f s.size], by go_num, by go_num, by omega, ?_, (hbw.alloc (by omega) _).grown hgrow (by simp; omega) (fun j hj => (hown.lt j hj).1), HN.out⟩
          rw [w_partVs_snoc, ← HV.out]; simpa using hown'
        case measure => simp [intOf] <;> omega
    · have hN := Lib.hid (show w_cuts s.data.toList = ys by
        obtain ⟨_, ⟨h1, _⟩ | ⟨_, h2⟩⟩ := hC.out
        · omega
        · exact h2)
      clear hC
      go_wp2_with fail
      go_ret
      exact ⟨_, rfl, by rw [hN.out]; exact hown, hbw⟩
end Go.Proofs.YtkdnbdgpcgookaaGreatDoor
