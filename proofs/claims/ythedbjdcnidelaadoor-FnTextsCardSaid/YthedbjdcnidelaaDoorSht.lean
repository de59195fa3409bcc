/- FormatShadow and FormatCopy of the program and of the model. Condition: texts of at most 2^20 bytes. -/
import Derived.Test.YthedbjdcnidelaaDoorJp3
namespace Go.Proofs.YthedbjdcnidelaaDoor
open Go.RowKit Gram

/-- the text of a shadow -/
def stext (k n s : ByteArray) : ByteArray := if s.size = 1 then ptext k n s else ⟨#[]⟩
/-- whether it can be one -/
def svalid (k n s : ByteArray) : Bool := s.size == 1 && pvalid k n s
theorem stext_not {k n s : ByteArray} (h : svalid k n s = false) : stext k n s = ⟨#[]⟩ := by
  unfold stext
  split
  · rename_i h1
    rw [svalid, h1] at h
    have h2 : pvalid k n s = false := by simpa using h
    rw [ptext, h2]; rfl
  · rfl
theorem stext_is {k n s : ByteArray} (h : svalid k n s = true) : stext k n s = ptext k n s ∧ pvalid k n s = true := by
  simp only [svalid, Bool.and_eq_true, beq_iff_eq] at h
  exact ⟨by rw [stext, if_pos h.1], h.2⟩

set_option maxHeartbeats 400000 in
theorem shpt_any (k n s : ByteArray) (w : World) :
    Calls Tryd.prog 24 #[pV k n s] w fun e w' => e = .returned (pV k n s) ∧ Below w.heap.size w w' := by
  unfold pV
  go_enter Tryd.func24, Tryd.ntmps24
  go_wp2_with fail
  refine bodyPost_ret (v := .agg #[.string k, .string n, .string s]) ?_ rfl ⟨rfl, ((Below.refl _ w).alloc (Nat.le_refl _) _).alloc (by simp) _⟩
  simp [results, Tryd.results24, go_sem]
set_option maxHeartbeats 400000 in
theorem l6pt_any (k n s : ByteArray) (w : World) :
    Calls Tryd.prog 26 #[pV k n s] w fun e w' => e = .returned (pV k n s) ∧ Below w.heap.size w w' := by
  unfold pV
  go_enter Tryd.func26, Tryd.ntmps26
  go_wp2_with fail
  refine bodyPost_ret (v := .agg #[.string k, .string n, .string s]) ?_ rfl ⟨rfl, ((Below.refl _ w).alloc (Nat.le_refl _) _).alloc (by simp) _⟩
  simp [results, Tryd.results26, go_sem]

set_option maxHeartbeats 1000000 in
theorem impl_svalid (k n s : ByteArray) (w : World) :
    Calls Tryd.prog 22 #[pV k n s] w fun e w' => e = .returned (.bool (svalid k n s)) ∧ Below w.heap.size w w' := by
  have HV := Lib.hid (fun w => impl_pvalid k n s w)
  have HP := Lib.hid (fun w => shpt_any k n s w)
  by_cases h1 : s.size = 1
  · have hb : ((s.size : Int) == 1) = true := by rw [beq_iff_eq]; omega
    have HN := Lib.hid (show svalid k n s = pvalid k n s by simp [svalid, h1])
    unfold pV at *
    clear h1
    go_enter Tryd.func22, Tryd.ntmps22
    go_wp2_with fail
    refine (HP.out _).mono ?_
    rintro e w2 ⟨rfl, hb2⟩
    have HB2 := Lib.hid (((Below.refl _ w).alloc (Nat.le_refl _) _).trans (hb2.mono (by simp)))
    clear hb2
    go_wp2_with fail
    refine (HV.out _).mono ?_
    rintro e w3 ⟨rfl, hb3⟩
    have HB3 := Lib.hid (HB2.out.trans (hb3.mono HB2.out.size))
    clear hb3
    go_wp2_with fail
    go_ret
    exact ⟨by rw [HN.out]; rfl, HB3.out⟩
  · have hb : ((s.size : Int) == 1) = false := by rw [beq_eq_false_iff_ne]; omega
    have HN := Lib.hid (show svalid k n s = false by simp [svalid, h1])
    unfold pV at *
    clear h1
    go_enter Tryd.func22, Tryd.ntmps22
    go_wp2_with fail
    go_ret
    exact ⟨by rw [HN.out]; rfl, (Below.refl _ _).alloc (Nat.le_refl _) _⟩

set_option maxHeartbeats 1000000 in
theorem impl_stext (k n s : ByteArray) (w : World) :
    Calls Tryd.prog 8 #[pV k n s] w fun e w' => e = .returned (.string (stext k n s)) ∧ Below w.heap.size w w' := by
  have HV := Lib.hid (fun w => impl_svalid k n s w)
  have HP := Lib.hid (fun w => shpt_any k n s w)
  have HT := Lib.hid (fun w => impl_ptext k n s w)
  unfold pV at *
  cases hv : svalid k n s with
  | false =>
    have HN := Lib.hid (stext_not hv)
    rw [hv] at HV
    clear hv
    go_enter Tryd.func8, Tryd.ntmps8
    go_wp2_with fail
    refine (HV.out _).mono ?_
    rintro e w2 ⟨rfl, hb2⟩
    have HB := Lib.hid (((Below.refl _ w).alloc (Nat.le_refl _) _).trans (hb2.mono (by simp)))
    clear hb2
    go_wp2_with fail
    go_ret
    exact ⟨by rw [HN.out]; rfl, HB.out⟩
  | true =>
    have HN := Lib.hid (stext_is hv).1
    rw [hv] at HV
    clear hv
    go_enter Tryd.func8, Tryd.ntmps8
    go_wp2_with fail
    refine (HV.out _).mono ?_
    rintro e w2 ⟨rfl, hb2⟩
    have HB := Lib.hid (((Below.refl _ w).alloc (Nat.le_refl _) _).trans (hb2.mono (by simp)))
    have hc := pv_cells w k n s 24
    have hc2 : w2.heap[w.heap.size]? = _ := (hb2.block _ (by simp)).trans hc
    have c0 : w2.cell? ⟨w.heap.size, 0, none⟩ = some (.string k) := by rw [Lib.cell_of_heap hc2]; rfl
    have c1 : w2.cell? ⟨w.heap.size, 1, none⟩ = some (.string n) := by rw [Lib.cell_of_heap hc2]; rfl
    have c2 : w2.cell? ⟨w.heap.size, 2, none⟩ = some (.string s) := by rw [Lib.cell_of_heap hc2]; rfl
    clear hb2 hc hc2
    go_wp2_with fail
    refine (HP.out _).mono ?_
    rintro e w3 ⟨rfl, hb3⟩
    have HB3 := Lib.hid (HB.out.trans (hb3.mono HB.out.size))
    clear hb3 c0 c1 c2
    go_wp2_with fail
    refine (HT.out _).mono ?_
    rintro e w4 ⟨rfl, hb4⟩
    have HB4 := Lib.hid (HB3.out.trans (hb4.mono HB3.out.size))
    clear hb4
    go_wp2_with fail
    go_ret
    exact ⟨by rw [HN.out]; rfl, HB4.out⟩

set_option maxHeartbeats 1000000 in
theorem spec_stext (k n s : ByteArray) (w : World) (hs : s.size ≤ 1073741824) :
    Calls Tryd.prog 9 #[pV k n s] w fun e w' => e = .returned (.string (stext k n s)) ∧ Below w.heap.size w w' := by
  have HV := Lib.hid (fun w => spec_pvalid k n s w hs)
  have HP := Lib.hid (fun w => l6pt_any k n s w)
  unfold pV at *
  cases hv : pvalid k n s with
  | false =>
    rw [hv] at HV
    have HN := Lib.hid (show stext k n s = ⟨#[]⟩ from stext_not (by rw [svalid, hv, Bool.and_false]))
    clear hv
    go_enter Tryd.func9, Tryd.ntmps9
    go_wp2_with fail
    refine (HP.out _).mono ?_
    rintro e w2 ⟨rfl, hb2⟩
    have HB2 := Lib.hid (((Below.refl _ w).alloc (Nat.le_refl _) _).trans (hb2.mono (by simp)))
    clear hb2
    go_wp2_with fail
    refine (HV.out _).mono ?_
    rintro e w3 ⟨rfl, hb3⟩
    have HB3 := Lib.hid (HB2.out.trans (hb3.mono HB2.out.size))
    clear hb3
    go_wp2_with fail
    go_ret
    exact ⟨by rw [HN.out]; rfl, HB3.out⟩
  | true =>
    rw [hv] at HV
    by_cases h1 : s.size = 1
    · have hb : ((s.size : Int) == 1) = true := by rw [beq_iff_eq]; omega
      obtain ⟨z1, z2, z3⟩ := pv_size hv
      cases hk : isCall k with
      | true =>
        have HN := Lib.hid (show stext k n s = _ by rw [stext, if_pos h1, ptext, if_pos hv, if_pos hk])
        have zn := z2 hk
        have hp := not_both hk
        clear hv z2 z3
        have y1 : (⟨#[99, 97, 108, 108, 32]⟩ : ByteArray).size = 5 := rfl
        have y2 : (⟨#[32, 105, 110, 32]⟩ : ByteArray).size = 4 := rfl
        have e1 := str_sum ⟨#[99, 97, 108, 108, 32]⟩ n (by omega)
        have e2 := str_sum (⟨#[99, 97, 108, 108, 32]⟩ ++ n) ⟨#[32, 105, 110, 32]⟩ (by simp; omega)
        have e3 := str_sum (⟨#[99, 97, 108, 108, 32]⟩ ++ n ++ ⟨#[32, 105, 110, 32]⟩) s (by simp; omega)
        unfold isPrint at hp
        clear y1 y2 hk h1
        go_enter Tryd.func9, Tryd.ntmps9
        go_wp2_with fail
        refine (HP.out _).mono ?_
        rintro e w2 ⟨rfl, hb2⟩
        have HB2 := Lib.hid (((Below.refl _ w).alloc (Nat.le_refl _) _).trans (hb2.mono (by simp)))
        have HC := Lib.hid ((hb2.block _ (by simp)).trans (pv_cells w k n s 24))
        clear hb2
        go_wp2_with fail
        refine (HV.out _).mono ?_
        rintro e w3 ⟨rfl, hb3⟩
        have HB3 := Lib.hid (HB2.out.trans (hb3.mono HB2.out.size))
        have hc3 := (hb3.block _ (Array.getElem?_eq_some_iff.1 HC.out).1).trans HC.out
        have c0 : w3.cell? ⟨w.heap.size, 0, none⟩ = some (.string k) := by rw [Lib.cell_of_heap hc3]; rfl
        have c1 : w3.cell? ⟨w.heap.size, 1, none⟩ = some (.string n) := by rw [Lib.cell_of_heap hc3]; rfl
        have c2 : w3.cell? ⟨w.heap.size, 2, none⟩ = some (.string s) := by rw [Lib.cell_of_heap hc3]; rfl
        clear hb3 hc3 HC
        go_wp2_with fail
        go_ret
        exact ⟨by rw [HN.out]; rfl, HB3.out⟩
      | false =>
        have HN := Lib.hid (show stext k n s = _ by rw [stext, if_pos h1, ptext, if_pos hv, if_neg (by rw [hk]; decide)])
        have hp := z3 hk
        clear hv z2 z3
        have y1 : (⟨#[112, 114, 105, 110, 116, 32, 105, 110, 32]⟩ : ByteArray).size = 9 := rfl
        have e1 := str_sum ⟨#[112, 114, 105, 110, 116, 32, 105, 110, 32]⟩ s (by omega)
        unfold isPrint at hp
        clear y1 hk h1
        go_enter Tryd.func9, Tryd.ntmps9
        go_wp2_with fail
        refine (HP.out _).mono ?_
        rintro e w2 ⟨rfl, hb2⟩
        have HB2 := Lib.hid (((Below.refl _ w).alloc (Nat.le_refl _) _).trans (hb2.mono (by simp)))
        have HC := Lib.hid ((hb2.block _ (by simp)).trans (pv_cells w k n s 24))
        clear hb2
        go_wp2_with fail
        refine (HV.out _).mono ?_
        rintro e w3 ⟨rfl, hb3⟩
        have HB3 := Lib.hid (HB2.out.trans (hb3.mono HB2.out.size))
        have hc3 := (hb3.block _ (Array.getElem?_eq_some_iff.1 HC.out).1).trans HC.out
        have c0 : w3.cell? ⟨w.heap.size, 0, none⟩ = some (.string k) := by rw [Lib.cell_of_heap hc3]; rfl
        have c1 : w3.cell? ⟨w.heap.size, 1, none⟩ = some (.string n) := by rw [Lib.cell_of_heap hc3]; rfl
        have c2 : w3.cell? ⟨w.heap.size, 2, none⟩ = some (.string s) := by rw [Lib.cell_of_heap hc3]; rfl
        clear hb3 hc3 HC
        go_wp2_with fail
        go_ret
        exact ⟨by rw [HN.out]; rfl, HB3.out⟩
    · have hb : ((s.size : Int) == 1) = false := by rw [beq_eq_false_iff_ne]; omega
      have HN := Lib.hid (show stext k n s = ⟨#[]⟩ from stext_not (by simp [svalid, h1]))
      clear hv h1
      go_enter Tryd.func9, Tryd.ntmps9
      go_wp2_with fail
      refine (HP.out _).mono ?_
      rintro e w2 ⟨rfl, hb2⟩
      have HB2 := Lib.hid (((Below.refl _ w).alloc (Nat.le_refl _) _).trans (hb2.mono (by simp)))
      have HC := Lib.hid ((hb2.block _ (by simp)).trans (pv_cells w k n s 24))
      clear hb2
      go_wp2_with fail
      refine (HV.out _).mono ?_
      rintro e w3 ⟨rfl, hb3⟩
      have HB3 := Lib.hid (HB2.out.trans (hb3.mono HB2.out.size))
      have hc3 := (hb3.block _ (Array.getElem?_eq_some_iff.1 HC.out).1).trans HC.out
      have c2 : w3.cell? ⟨w.heap.size, 2, none⟩ = some (.string s) := by rw [Lib.cell_of_heap hc3]; rfl
      clear hb3 hc3 HC
      go_wp2_with fail
      go_ret
      exact ⟨by rw [HN.out]; rfl, HB3.out⟩
end Go.Proofs.YthedbjdcnidelaaDoor
