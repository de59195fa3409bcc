/- The model's l1Split and StatementsOf: the statements of a body, each as its text, or none. Condition: texts of at most 2^30 bytes. -/
import Derived.Test.YtfmmpahbjkiomaaGreatDoorEnd
namespace Go.Proofs.YtfmmpahbjkiomaaGreatDoor
open Go.RowKit Gram

theorem info_str : (Tryz.prog.info? 9).map (fun i => (i.zero, i.size, i.bytes)) = some (some (.string ⟨#[]⟩), 1, 16) := by kernel_rfl

/-- a text as a value -/
def strV (l : List UInt8) : Value := .string ⟨l.toArray⟩
/-- the texts of statements as values -/
def stmVs (xs : List Stm) : List Value := xs.map fun x => strV x.txt

theorem stmVs_len (xs : List Stm) : (stmVs xs).length = xs.length := by simp [stmVs]
theorem stmVs_snoc (xs : List Stm) (x : Stm) : stmVs (xs ++ [x]) = stmVs xs ++ [strV x.txt] := by simp [stmVs]

/-- what a piece of a text is -/
theorem extract_from (s : ByteArray) (k j : Nat) : s.extract k j = ⟨((from_ s k).take (j - k)).toArray⟩ := by
  apply ByteArray.ext
  simp [from_]
  apply Array.ext'
  simp [Array.toList_extract, List.extract_eq_take_drop]

theorem split_step {s : ByteArray} {k : Nat} (hk : k < s.size) :
    (pS (from_ s k) = none ∧ pA (from_ s k) = none) ∨
      ∃ x k2, endI s (pS (from_ s k)) = (k2 : Nat) ∧ k < k2 ∧ k2 ≤ s.size ∧ s.extract k k2 = ⟨x.txt.toArray⟩ ∧ pA (from_ s k) = (pA (from_ s k2)).map (x :: ·) := by
  cases hl : from_ s k with
  | nil => have := (from_nil hl).2; omega
  | cons c t =>
    cases h1 : pS (c :: t) with
    | none => left; exact ⟨rfl, by rw [pA_cons, h1]⟩
    | some p =>
      obtain ⟨x, r1⟩ := p
      right
      obtain ⟨e1, _⟩ := pS_sound h1
      rw [← hl] at e1
      obtain ⟨f1, f2, f3⟩ := from_suffix e1
      have hx := x.txt_len
      have f3 := f3 (by omega)
      refine ⟨x, s.size - r1.length, ?_, by omega, by omega, ?_, ?_⟩
      · simp only [endI]; omega
      · rw [extract_from s k _, f3, e1]
        simp
      · rw [pA_cons, h1]; dsimp only; rw [f1]
        cases pA r1 <;> rfl

set_option maxHeartbeats 1000000 in
set_option maxRecDepth 100000 in
theorem split_any (s : ByteArray) (w : World) (hs : s.size ≤ 1073741824) :
    Calls Tryz.prog 98 #[.string s] w fun e w' => ∃ v b xs, e = .returned (.tuple #[v, .bool b]) ∧ Hid ((b = false ∧ pA (from_ s 0) = none ∧ xs = []) ∨ (b = true ∧ pA (from_ s 0) = some xs)) ∧
      w'.ownsRow w.heap.size 9 1 v xs.length (stmVs xs) ∧ Below w.heap.size w w' := by
  obtain ⟨i0, hi, hz0, hz1, hz2⟩ := info_parts info_str
  go_enter Tryz.func98, Tryz.ntmps98
  go_wp2_with fail
  go_loopw [4, 5] (fun v at_ wr => ∃ (k : Nat) (ys : List Stm), at_ = .int .i64 k ∧ k ≤ s.size ∧ ys.length ≤ k ∧ wr.ownsRow w.heap.size 9 1 v ys.length (stmVs ys) ∧ Below w.heap.size w wr ∧ Hid (pA (from_ s 0) = (pA (from_ s k)).map (ys ++ ·))) (fun _ at_ _ => s.size - (intOf at_).toNat)
  case atStart =>
    refine ⟨0, [], by go_num, by omega, by simp, ?_, (Below.refl _ _).alloc (Nat.le_refl _) _, by show _ = _; cases pA (from_ s 0) <;> simp⟩
    exact ⟨by simp [stmVs], .inr ⟨w.heap.size, 0, #[], rfl, Nat.le_refl _, heap_alloc_new w _, Nat.le_refl _, by simp [maxLen], by simp, by simp [stmVs]⟩⟩
  case round =>
    obtain ⟨k, ys, rfl, hk, hys, hown, hbw, hP⟩ := hrel
    have hsz := hbw.size
    by_cases hlt : k < s.size
    · rcases split_step hlt with ⟨h1, h2⟩ | ⟨x, k2, h1, hk2, hk3, hx, hp⟩
      · have HS := Lib.hid (show endI s (pS (from_ s k)) = -1 by rw [h1]; rfl)
        have HN := Lib.hid (show pA (from_ s 0) = none by rw [hP.out, h2]; rfl)
        clear h1 h2 hP
        go_wp2_with fail
        refine (end_any s k _ _ rfl hs (by omega)).mono ?_
        rintro e w' ⟨rfl, rfl⟩
        rw [HS.out]
        go_wp2_with fail
        go_ret2
        refine ⟨_, _, [], rfl, .inl ⟨rfl, HN.out, rfl⟩, ?_, (hbw.alloc (by omega) _)⟩
        exact ⟨by simp [stmVs], .inr ⟨wr.heap.size, 0, #[], rfl, hsz, heap_alloc_new wr _, Nat.le_refl _, by simp [maxLen], by simp, by simp [stmVs]⟩⟩
      · have HS := Lib.hid h1
        have HX := Lib.hid hx
        have HP := Lib.hid (show pA (from_ s 0) = (pA (from_ s k2)).map (ys ++ [x] ++ ·) by rw [hP.out, hp]; cases pA (from_ s k2) <;> simp)
        clear h1 hx hp hP
        go_wp2_with fail
        refine (end_any s k _ _ rfl hs (by omega)).mono ?_
        rintro e w' ⟨rfl, rfl⟩
        rw [HS.out]
        go_wp2_with (at_builtin; refine wpList_append_own _ rfl _ _ 41 rfl w.heap.size 9 i0 (.string ⟨#[]⟩) 1 16 Tryz.underlying41 hi hz0 hz1 hz2 rfl (by decide) _ _ _ rfl (hown.alloc _) ⟨wr.heap.size, 0, none⟩ 1 1 [.string (s.extract k k2)] rfl rfl ?c1 ?c2 ?c3 ?c4 ?c5 ?_)
        case c1 => exact cell_one_new _ _ _
        case c2 => intro u hu; simp at hu; subst hu; rfl
        case c3 => unfold maxLen; omega
        case c4 => omega
        case c5 => simp; omega
        intro v' w1 hown' hgrow _
        go_wp2_with fail
        go_roundw
        case rel =>
          refine ⟨k2, ys ++ [x], rfl, hk3, by simp; omega, ?_, (hbw.alloc (by omega) _).grown hgrow (by simp; omega) (fun j hj => (hown.lt j hj).1), HP.out⟩
          rw [stmVs_snoc, strV, ← HX.out]; simpa using hown'
        case measure => simp [intOf]; omega
    · have hN := Lib.hid (show pA (from_ s 0) = some ys by
        rw [hP.out]; have : from_ s k = [] := by simp [from_]; omega
        rw [this, pA_nil]; simp)
      clear hP
      go_wp2_with fail
      go_ret2
      exact ⟨_, _, ys, rfl, .inr ⟨rfl, hN.out⟩, hown, hbw⟩

/-- what StatementsOf tells: the statements, if the text is a body -/
def bodyOf (s : ByteArray) : Option (List Stm) := if s.size ≤ 400 then reads false s.data.toList else none

theorem from_zero (s : ByteArray) : from_ s 0 = s.data.toList := by simp [from_]

theorem bodyOf_some {s : ByteArray} {xs : List Stm} (h : bodyOf s = some xs) : s.size ≤ 400 ∧ s.data.toList = txts xs ∧ wfs xs = true ∧ nks xs = true := by
  unfold bodyOf at h
  split at h
  · obtain ⟨h1, h2, h3⟩ := reads_sound false _ _ h
    exact ⟨by assumption, h1, h2, by rw [← fks_false]; exact h3⟩
  · cases h

end Go.Proofs.YtfmmpahbjkiomaaGreatDoor
