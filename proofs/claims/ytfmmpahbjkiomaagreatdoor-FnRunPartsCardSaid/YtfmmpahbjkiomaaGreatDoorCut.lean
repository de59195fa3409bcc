/- The model's l13Cut at ';': the parts of a text. Condition: a text of at most 2^30 bytes. -/
import Derived.Test.YtfmmpahbjkiomaaGreatDoorParts
namespace Go.Proofs.YtfmmpahbjkiomaaGreatDoor
open Go.RowKit Gram

def txtV (l : List UInt8) : Value := .string ⟨l.toArray⟩
def partVs (ps : List (List UInt8)) : List Value := ps.map txtV
theorem partVs_snoc (ps : List (List UInt8)) (p : List UInt8) : partVs (ps ++ [p]) = partVs ps ++ [txtV p] := by simp [partVs]
theorem partVs_len (ps : List (List UInt8)) : (partVs ps).length = ps.length := by simp [partVs]

/-- the sign at an index -/
def sgn (s : ByteArray) (i : Nat) : UInt8 := s.data.toList.getD i 0
def seg (s : ByteArray) (f i : Nat) : List UInt8 := (s.data.toList.drop f).take (i - f)
theorem seg_V (s : ByteArray) (f i : Nat) : Value.string (s.extract f i) = txtV (seg s f i) := by
  rw [txtV]
  congr 1
  apply ByteArray.ext
  apply Array.ext'
  simp [seg, Array.toList_extract, List.extract_eq_take_drop]
theorem seg_nil (s : ByteArray) (f : Nat) : seg s f f = [] := by simp [seg]

/-- what is read so far -/
def CutTo (s : ByteArray) (f i : Nat) (outs : List (List UInt8)) : Prop :=
  outs.length ≤ i ∧ ((i ≤ s.size ∧ f ≤ i ∧ cuts s.data.toList = outs ++ cutsP (seg s f i) (s.data.toList.drop i)) ∨ (i = s.size + 1 ∧ cuts s.data.toList = outs))

theorem cutTo_start (s : ByteArray) : CutTo s 0 0 [] := ⟨Nat.le_refl _, .inl ⟨Nat.zero_le _, Nat.le_refl _, by simp [seg, cuts]⟩⟩
theorem drop_sgn (s : ByteArray) (i : Nat) (h : i < s.size) : s.data.toList.drop i = sgn s i :: s.data.toList.drop (i + 1) := by
  have hl : i < s.data.toList.length := by simpa using h
  rw [List.drop_eq_getElem_cons hl, sgn, List.getD_eq_getElem?_getD, List.getElem?_eq_getElem hl]; rfl
theorem cutTo_end {s : ByteArray} {f : Nat} {outs : List (List UInt8)} (h : CutTo s f s.size outs) : f ≤ s.size ∧ CutTo s (s.size + 1) (s.size + 1) (outs ++ [seg s f s.size]) := by
  obtain ⟨h0, ⟨h1, h2, h3⟩ | ⟨h1, _⟩⟩ := h
  · refine ⟨h2, by simp; omega, .inr ⟨rfl, ?_⟩⟩
    rw [h3, List.drop_of_length_le (by simp), cutsP]
  · omega
theorem cutTo_hit {s : ByteArray} {f i : Nat} {outs : List (List UInt8)} (h : CutTo s f i outs) (hi : i < s.size) (hc : sgn s i = 59) : f ≤ i ∧ CutTo s (i + 1) (i + 1) (outs ++ [seg s f i]) := by
  obtain ⟨h0, ⟨h1, h2, h3⟩ | ⟨h1, _⟩⟩ := h
  · refine ⟨h2, by simp; omega, .inl ⟨hi, Nat.le_refl _, ?_⟩⟩
    rw [h3, drop_sgn s i hi, hc, cutsP, if_pos rfl, seg_nil]
    simp
  · omega
theorem cutTo_pass {s : ByteArray} {f i : Nat} {outs : List (List UInt8)} (h : CutTo s f i outs) (hi : i < s.size) (hc : sgn s i ≠ 59) : CutTo s f (i + 1) outs := by
  obtain ⟨h0, ⟨h1, h2, h3⟩ | ⟨h1, _⟩⟩ := h
  · refine ⟨by omega, .inl ⟨hi, by omega, ?_⟩⟩
    have hs : seg s f (i + 1) = seg s f i ++ [sgn s i] := by
      have hl : i - f < (s.data.toList.drop f).length := by simp; omega
      rw [seg, seg, show i + 1 - f = (i - f) + 1 by omega, List.take_add_one, List.getElem?_eq_getElem hl, sgn, List.getD_eq_getElem?_getD, List.getElem_drop]
      simp [show f + (i - f) = i by omega]
      rw [Array.getElem?_eq_getElem (by simpa using hi)]; rfl
    rw [h3, drop_sgn s i hi, cutsP, if_neg hc, hs]
  · omega

theorem sgn_at (s : ByteArray) (i : Nat) (h : i < s.size) : s[i] = sgn s i := by
  have hl : i < s.data.toList.length := by simpa using h
  rw [sgn, List.getD_eq_getElem?_getD, List.getElem?_eq_getElem hl]; rfl
theorem sgn_is (s : ByteArray) (i : Nat) (h : i < s.size) (c : UInt8) : ((s[i].toNat : Int) == (c.toNat : Int)) = (sgn s i == c) := by rw [toNat_beq, sgn_at]

set_option maxHeartbeats 1000000 in
set_option maxRecDepth 100000 in
theorem cut_any (s : ByteArray) (w : World) (hs : s.size ≤ 1073741824) :
    Calls Tryz.prog 61 #[.string s, .int .u8 59] w fun e w' => ∃ v, e = .returned v ∧
      w'.ownsRow w.heap.size 9 1 v (cuts s.data.toList).length (partVs (cuts s.data.toList)) ∧ Below w.heap.size w w' := by
  obtain ⟨i0, hi, hz0, hz1, hz2⟩ := info_parts info_str
  go_enter Tryz.func61, Tryz.ntmps61
  go_wp2_with fail
  go_loopw [5, 6, 7] (fun v f_ i_ wr => ∃ (f i : Nat) (ys : List (List UInt8)), f_ = .int .i64 f ∧ i_ = .int .i64 i ∧ i ≤ s.size + 1 ∧ wr.ownsRow w.heap.size 9 1 v ys.length (partVs ys) ∧ Below w.heap.size w wr ∧ Hid (CutTo s f i ys)) (fun _ _ i_ _ => s.size + 1 - (intOf i_).toNat)
  case atStart =>
    refine ⟨0, 0, [], by go_num, by go_num, by omega, ?_, (Below.refl _ _).alloc (Nat.le_refl _) _, cutTo_start s⟩
    exact ⟨by simp [partVs], .inr ⟨w.heap.size, 0, #[], rfl, Nat.le_refl _, heap_alloc_new w _, Nat.le_refl _, by simp [maxLen], by simp, by simp [partVs]⟩⟩
  case round =>
    obtain ⟨f, i, ys, rfl, rfl, hk, hown, hbw, hC⟩ := hrel
    have hsz := hbw.size
    have hyl : ys.length ≤ i := hC.out.1
    by_cases hle : i ≤ s.size
    · by_cases hlt : i < s.size
      · by_cases hc : sgn s i = 59
        · have hb : ((s[i].toNat : Int) == 59) = true := by rw [show (59 : Int) = ((59 : UInt8).toNat : Int) from rfl, sgn_is s i hlt 59, hc]; rfl
          obtain ⟨hfi, hn⟩ := cutTo_hit hC.out hlt hc
          have HN := Lib.hid hn
          have HV := Lib.hid (seg_V s f i)
          clear hn hC hc
          go_wp2_with (at_builtin; refine wpList_append_own _ rfl _ _ 41 rfl w.heap.size 9 i0 (.string ⟨#[]⟩) 1 16 Tryz.underlying41 hi hz0 hz1 hz2 rfl (by decide) _ _ _ rfl (hown.alloc _) ⟨wr.heap.size, 0, none⟩ 1 1 [.string (s.extract f i)] rfl rfl ?c1 ?c2 ?c3 ?c4 ?c5 ?_)
          case c1 => exact cell_one_new _ _ _
          case c2 => intro u hu; simp at hu; subst hu; rfl
          case c3 => unfold maxLen; omega
          case c4 => omega
          case c5 => simp; omega
          intro v' w1 hown' hgrow _
          go_wp2_with fail
          go_roundw
          case rel =>
            refine ⟨i + 1, i + 1, ys ++ [seg s f i], by go_num, by go_num, by omega, ?_, (hbw.alloc (by omega) _).grown hgrow (by simp; omega) (fun j hj => (hown.lt j hj).1), HN.out⟩
            rw [partVs_snoc, ← HV.out]; simpa using hown'
          case measure => simp [intOf] <;> omega
        · have hb : ((s[i].toNat : Int) == 59) = false := by rw [show (59 : Int) = ((59 : UInt8).toNat : Int) from rfl, sgn_is s i hlt 59, beq_eq_false_iff_ne]; exact hc
          have HN := Lib.hid (cutTo_pass hC.out hlt hc)
          clear hC hc
          go_wp2_with fail
          go_roundw
          case rel => exact ⟨f, i + 1, ys, by go_num, by go_num, by omega, hown, hbw, HN.out⟩
          case measure => simp [intOf] <;> omega
      · have hie : i = s.size := by omega
        subst hie
        obtain ⟨hfi, hn⟩ := cutTo_end hC.out
        have HN := Lib.hid hn
        have HV := Lib.hid (seg_V s f s.size)
        clear hn hC
        go_wp2_with (at_builtin; refine wpList_append_own _ rfl _ _ 41 rfl w.heap.size 9 i0 (.string ⟨#[]⟩) 1 16 Tryz.underlying41 hi hz0 hz1 hz2 rfl (by decide) _ _ _ rfl (hown.alloc _) ⟨wr.heap.size, 0, none⟩ 1 1 [.string (s.extract f s.size)] rfl rfl ?c1 ?c2 ?c3 ?c4 ?c5 ?_)
        case c1 => exact cell_one_new _ _ _
        case c2 => intro u hu; simp at hu; subst hu; rfl
        case c3 => unfold maxLen; omega
        case c4 => omega
        case c5 => simp; omega
        intro v' w1 hown' hgrow _
        go_wp2_with fail
        go_roundw
        case rel =>
          refine ⟨s.size + 1, s.size + 1, ys ++ [seg s f s.size], by go_num, by go_num, by omega, ?_, (hbw.alloc (by omega) _).grown hgrow (by simp; omega) (fun j hj => (hown.lt j hj).1), HN.out⟩
          rw [partVs_snoc, ← HV.out]; simpa using hown'
        case measure => simp [intOf] <;> omega
    · have hN := Lib.hid (show cuts s.data.toList = ys by
        obtain ⟨_, ⟨h1, _⟩ | ⟨_, h2⟩⟩ := hC.out
        · omega
        · exact h2)
      clear hC
      go_wp2_with fail
      go_ret
      exact ⟨_, rfl, by rw [hN.out]; exact hown, hbw⟩
end Go.Proofs.YtfmmpahbjkiomaaGreatDoor
