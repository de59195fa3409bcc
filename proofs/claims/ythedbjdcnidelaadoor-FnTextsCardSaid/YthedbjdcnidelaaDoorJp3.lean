/- FormatPoint of the program; JoinPointValid and FormatPoint of the model. Condition: stacks of at most 2^30 bytes. -/
import Derived.Test.YthedbjdcnidelaaDoorJp2
namespace Go.Proofs.YthedbjdcnidelaaDoor
open Go.RowKit Gram

/-- the text of a join point -/
def ptext (k n s : ByteArray) : ByteArray :=
  if pvalid k n s = true then (if isCall k = true then ⟨#[99, 97, 108, 108, 32]⟩ ++ n ++ ⟨#[32, 105, 110, 32]⟩ ++ s else ⟨#[112, 114, 105, 110, 116, 32, 105, 110, 32]⟩ ++ s) else ⟨#[]⟩

theorem pv_size {k n s : ByteArray} (h : pvalid k n s = true) : s.size ≤ 20 ∧ (isCall k = true → n.size = 1) ∧ (isCall k = false → isPrint k = true) := by
  simp only [pvalid, Bool.and_eq_true, decide_eq_true_eq] at h
  refine ⟨h.1.2.2, fun hc => ?_, fun hc => ?_⟩
  · have := h.2
    rw [if_pos hc] at this
    cases hn : nameOf n.data.toList with
    | none => rw [hn] at this; cases this
    | some c =>
      unfold nameOf at hn
      split at hn
      · rename_i d hd
        have : n.data.toList.length = 1 := by rw [hd]; rfl
        simpa using this
      · cases hn
  · have := h.2
    rw [if_neg (by rw [hc]; decide)] at this
    simp only [Bool.and_eq_true] at this
    exact this.1
theorem not_both {k : ByteArray} (h : isCall k = true) : isPrint k = false := by
  simp only [isCall, isPrint, beq_iff_eq] at h ⊢
  rw [h]; decide

set_option maxHeartbeats 1000000 in
theorem impl_ptext (k n s : ByteArray) (w : World) :
    Calls Tryd.prog 23 #[pV k n s] w fun e w' => e = .returned (.string (ptext k n s)) ∧ Below w.heap.size w w' := by
  have HV := Lib.hid (fun w => impl_pvalid k n s w)
  unfold pV at *
  cases hv : pvalid k n s with
  | false =>
    rw [hv] at HV
    have HN := Lib.hid (show ptext k n s = ⟨#[]⟩ by rw [ptext, hv]; rfl)
    clear hv
    go_enter Tryd.func23, Tryd.ntmps23
    go_wp2_with fail
    refine (HV.out _).mono ?_
    rintro e w2 ⟨rfl, hb2⟩
    have HB := Lib.hid (((Below.refl _ w).alloc (Nat.le_refl _) _).trans (hb2.mono (by simp)))
    clear hb2
    go_wp2_with fail
    go_ret
    exact ⟨by rw [HN.out]; rfl, HB.out⟩
  | true =>
    rw [hv] at HV
    obtain ⟨z1, z2, z3⟩ := pv_size hv
    cases hk : isCall k with
    | true =>
      have HN := Lib.hid (show ptext k n s = _ by rw [ptext, if_pos hv, if_pos hk])
      have zn := z2 hk
      clear hv z2 z3
      have y1 : (⟨#[99, 97, 108, 108, 32]⟩ : ByteArray).size = 5 := rfl
      have y2 : (⟨#[32, 105, 110, 32]⟩ : ByteArray).size = 4 := rfl
      have e1 := str_sum ⟨#[99, 97, 108, 108, 32]⟩ n (by omega)
      have e2 := str_sum (⟨#[99, 97, 108, 108, 32]⟩ ++ n) ⟨#[32, 105, 110, 32]⟩ (by simp; omega)
      have e3 := str_sum (⟨#[99, 97, 108, 108, 32]⟩ ++ n ++ ⟨#[32, 105, 110, 32]⟩) s (by simp; omega)
      unfold isCall at hk
      clear y1 y2
      go_enter Tryd.func23, Tryd.ntmps23
      go_wp2_with fail
      refine (HV.out _).mono ?_
      rintro e w2 ⟨rfl, hb2⟩
      have HB := Lib.hid (((Below.refl _ w).alloc (Nat.le_refl _) _).trans (hb2.mono (by simp)))
      have hc := pv_cells w k n s 48
      have hc2 : w2.heap[w.heap.size]? = _ := (hb2.block _ (by simp)).trans hc
      have c0 : w2.cell? ⟨w.heap.size, 0, none⟩ = some (.string k) := by rw [Lib.cell_of_heap hc2]; rfl
      have c1 : w2.cell? ⟨w.heap.size, 1, none⟩ = some (.string n) := by rw [Lib.cell_of_heap hc2]; rfl
      have c2 : w2.cell? ⟨w.heap.size, 2, none⟩ = some (.string s) := by rw [Lib.cell_of_heap hc2]; rfl
      clear hb2 hc hc2
      go_wp2_with fail
      go_ret
      exact ⟨by rw [HN.out]; rfl, HB.out⟩
    | false =>
      have HN := Lib.hid (show ptext k n s = _ by rw [ptext, if_pos hv, if_neg (by rw [hk]; decide)])
      clear hv z2 z3
      have y1 : (⟨#[112, 114, 105, 110, 116, 32, 105, 110, 32]⟩ : ByteArray).size = 9 := rfl
      have e1 := str_sum ⟨#[112, 114, 105, 110, 116, 32, 105, 110, 32]⟩ s (by omega)
      unfold isCall at hk
      clear y1
      go_enter Tryd.func23, Tryd.ntmps23
      go_wp2_with fail
      refine (HV.out _).mono ?_
      rintro e w2 ⟨rfl, hb2⟩
      have HB := Lib.hid (((Below.refl _ w).alloc (Nat.le_refl _) _).trans (hb2.mono (by simp)))
      have hc := pv_cells w k n s 48
      have hc2 : w2.heap[w.heap.size]? = _ := (hb2.block _ (by simp)).trans hc
      have c0 : w2.cell? ⟨w.heap.size, 0, none⟩ = some (.string k) := by rw [Lib.cell_of_heap hc2]; rfl
      have c1 : w2.cell? ⟨w.heap.size, 1, none⟩ = some (.string n) := by rw [Lib.cell_of_heap hc2]; rfl
      have c2 : w2.cell? ⟨w.heap.size, 2, none⟩ = some (.string s) := by rw [Lib.cell_of_heap hc2]; rfl
      clear hb2 hc hc2
      go_wp2_with fail
      go_ret
      exact ⟨by rw [HN.out]; rfl, HB.out⟩

set_option maxHeartbeats 400000 in
theorem in_any (n a b : Int) (w : World) :
    Calls Tryd.prog 32 #[.int .i64 n, .int .i64 a, .int .i64 b] w fun e w' => e = .returned (.bool (decide (a ≤ n) && decide (n ≤ b))) ∧ w = w' := by
  go_enter Tryd.func32, Tryd.ntmps32
  go_wp2
  all_goals go_ret
  · have h : a ≤ n := by assumption
    exact ⟨ret_bool (by simp [h]), rfl⟩
  · have h : n < a := by assumption
    exact ⟨ret_bool (by simp; intros; omega), rfl⟩

set_option maxHeartbeats 1000000 in
set_option maxRecDepth 100000 in
theorem spec_pvalid (k n s : ByteArray) (w : World) (hs : s.size ≤ 1073741824) :
    Calls Tryd.prog 25 #[pV k n s] w fun e w' => e = .returned (.bool (pvalid k n s)) ∧ Below w.heap.size w w' := by
  unfold pV
  go_enter Tryd.func25, Tryd.ntmps25
  go_wp2_with fail
  go_loop [7] (fun i => ∃ j : Nat, j ≤ s.size ∧ i = .int .i64 j ∧ Hid ((s.data.toList.take j).all isLet = true)) (fun i => s.size - (intOf i).toNat)
  case atStart => exact ⟨0, Nat.zero_le _, rfl, rfl⟩
  case round =>
    obtain ⟨j, hj, rfl, hT⟩ := hrel
    by_cases hlt : j < s.size
    · have hlast := all_take s.data.toList j (by simpa using hlt)
      rw [hT.out, Bool.true_and] at hlast
      have hlast2 : (s.data.toList.take (j + 1)).all isLet = isLet s[j] := hlast
      have HL := Lib.hid (fun w => letter_any (s[j]'hlt) w)
      cases hL : isLet (s[j]'hlt) with
      | true =>
        rw [hL] at HL hlast2
        have HN := Lib.hid hlast2
        clear hL hlast hlast2
        go_wp2_with fail
        refine (HL.out _).mono ?_
        rintro e w2 ⟨rfl, rfl⟩
        go_wp2_with fail
        go_round
        case rel => exact ⟨j + 1, by omega, by go_num, HN.out⟩
        case measure => simp [intOf]; omega
      | false =>
        have HN := Lib.hid (pv_bad k n s (by
          rw [List.all_eq_false]
          exact ⟨s[j], by show s.data[j] ∈ _; simp, by rw [hL]; decide⟩))
        rw [hL] at HL
        clear hL hlast hlast2
        go_wp2_with fail
        refine (HL.out _).mono ?_
        rintro e w2 ⟨rfl, rfl⟩
        go_wp2_with fail
        go_ret
        exact ⟨ret_bool HN.out.symm, (Below.refl _ _).alloc (Nat.le_refl _) _⟩
    · have hall : s.data.toList.all isLet = true := by
        have := hT.out
        rw [List.take_of_length_le (by simp; omega)] at this
        exact this
      have HI := Lib.hid (fun w => in_any s.size 1 20 w)
      by_cases hz : 1 ≤ s.size ∧ s.size ≤ 20
      · have hin : (decide ((1 : Int) ≤ s.size) && decide ((s.size : Int) ≤ 20)) = true := by simp; omega
        rw [hin] at HI
        have HN := Lib.hid (pv_good k n s hall hz.1 hz.2)
        clear hall hin hT
        cases hk : isCall k with
        | true =>
          rw [hk, if_pos rfl] at HN
          unfold isCall at hk
          by_cases h1 : n.size = 1
          · have h0 : 0 < n.size := by omega
            have hN : nameOf n.data.toList = if isLet n[0] = true then some n[0] else none := by
              have hl : n.data.toList.length = 1 := by simpa using h1
              obtain ⟨c, hc⟩ := List.length_eq_one_iff.1 hl
              have h2 : n[0] = c := by
                have : n.data.toList[0]'(by omega) = c := by simp only [hc]; rfl
                rw [← this]; rfl
              rw [hc, h2]; rfl
            have HL := Lib.hid (fun w => letter_any (n[0]'h0) w)
            have HN2 := Lib.hid (show pvalid k n s = isLet (n[0]'h0) by
              rw [HN.out, hN]
              cases isLet (n[0]'h0) <;> rfl)
            generalize isLet (n[0]'h0) = b at *
            clear hN
            go_wp2_with fail
            refine (HI.out _).mono ?_
            rintro e w2 ⟨rfl, rfl⟩
            go_wp2_with fail
            refine (HL.out _).mono ?_
            rintro e w2 ⟨rfl, rfl⟩
            go_wp2_with fail
            go_ret
            exact ⟨ret_bool HN2.out.symm, (Below.refl _ _).alloc (Nat.le_refl _) _⟩
          · have hn : nameOf n.data.toList = none := by
              unfold nameOf
              split
              · rename_i d he
                have : n.data.toList.length = 1 := by rw [he]; rfl
                simp at this; exact absurd this h1
              · rfl
            rw [hn] at HN
            have hb : ((n.size : Int) == 1) = false := by rw [beq_eq_false_iff_ne]; omega
            clear hn
            go_wp2_with fail
            refine (HI.out _).mono ?_
            rintro e w2 ⟨rfl, rfl⟩
            go_wp2_with fail
            go_ret
            exact ⟨ret_bool HN.out.symm, (Below.refl _ _).alloc (Nat.le_refl _) _⟩
        | false =>
          rw [hk, if_neg (by decide)] at HN
          unfold isCall at hk
          unfold isPrint at HN
          cases hp : k.toList == [112, 114, 105, 110, 116]
          all_goals
            rw [hp] at HN
            go_wp2_with fail
            refine (HI.out _).mono ?_
            rintro e w2 ⟨rfl, rfl⟩
            go_wp2_with fail
            go_ret
            exact ⟨ret_bool HN.out.symm, (Below.refl _ _).alloc (Nat.le_refl _) _⟩
      · have hin : (decide ((1 : Int) ≤ s.size) && decide ((s.size : Int) ≤ 20)) = false := by
          simp only [Bool.and_eq_false_iff, decide_eq_false_iff_not]; omega
        rw [hin] at HI
        have HN := Lib.hid (show pvalid k n s = false by
          by_cases h0 : s.size = 0
          · exact pv_empty k n s h0
          · exact pv_long k n s (by omega))
        clear hall hin hT
        go_wp2_with fail
        refine (HI.out _).mono ?_
        rintro e w2 ⟨rfl, rfl⟩
        go_wp2_with fail
        go_ret
        exact ⟨ret_bool HN.out.symm, (Below.refl _ _).alloc (Nat.le_refl _) _⟩

end Go.Proofs.YthedbjdcnidelaaDoor
