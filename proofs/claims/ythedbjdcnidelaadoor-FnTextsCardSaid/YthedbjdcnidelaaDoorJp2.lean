/- JoinPointValid and FormatPoint of the program answer as the plain functions pvalid and ptext do. Condition: texts of at most 2^30 bytes. -/
import Derived.Test.YthedbjdcnidelaaDoorJp
namespace Go.Proofs.YthedbjdcnidelaaDoor
open Go.RowKit Gram

def pV (k n s : ByteArray) : Value := .agg #[.string k, .string n, .string s]

theorem pv_empty (k n s : ByteArray) (h : s.size = 0) : pvalid k n s = false := by simp [pvalid, h]
theorem pv_long (k n s : ByteArray) (h : 20 < s.size) : pvalid k n s = false := by simp [pvalid]; intros; omega
theorem pv_bad (k n s : ByteArray) (h : s.data.toList.all isLet = false) : pvalid k n s = false := by simp only [pvalid, h, Bool.false_and]
theorem pv_good (k n s : ByteArray) (h : s.data.toList.all isLet = true) (h1 : 1 ≤ s.size) (h2 : s.size ≤ 20) : pvalid k n s = (if isCall k = true then (nameOf n.data.toList).isSome else isPrint k && n.toList.isEmpty) := by
  simp only [pvalid, h, h1, h2, decide_true, Bool.true_and]
theorem pv_cells (w : World) (k n s : ByteArray) (t : TypeId) : (w.alloc (Obj.cells #[Value.string k, Value.string n, Value.string s] t)).heap[w.heap.size]? = some (Obj.cells #[Value.string k, Value.string n, Value.string s] t (0, 0)) := heap_alloc_new _ _

set_option maxHeartbeats 1000000 in
theorem pv_early (k n s : ByteArray) (w : World) (h : s.size = 0 ∨ 20 < s.size) :
    Calls Tryd.prog 30 #[pV k n s] w fun e w' => e = .returned (.bool (pvalid k n s)) ∧ Below w.heap.size w w' := by
  unfold pV
  rcases h with h | h
  · have HN := Lib.hid (pv_empty k n s h)
    have he := text_none h
    go_enter Tryd.func30, Tryd.ntmps30
    go_wp2_with fail
    go_ret
    exact ⟨by rw [HN.out]; rfl, (Below.refl _ _).alloc (Nat.le_refl _) _⟩
  · have HN := Lib.hid (pv_long k n s h)
    have he := text_some (s := s) (by omega)
    have hl : decide ((20 : Int) < s.size) = true := by rw [decide_eq_true_eq]; omega
    go_enter Tryd.func30, Tryd.ntmps30
    go_wp2_with fail
    go_ret
    exact ⟨by rw [HN.out]; rfl, (Below.refl _ _).alloc (Nat.le_refl _) _⟩

set_option maxHeartbeats 1000000 in
theorem pv_late (k n s : ByteArray) (w : World) (h1 : 1 ≤ s.size) (h2 : s.size ≤ 20) :
    Calls Tryd.prog 30 #[pV k n s] w fun e w' => e = .returned (.bool (pvalid k n s)) ∧ Below w.heap.size w w' := by
  unfold pV
  have HA := Lib.hid (fun w => allLetters_any s w)
  have he := text_some (s := s) (by omega)
  have hl : decide ((20 : Int) < s.size) = false := by rw [decide_eq_false_iff_not]; omega
  have HL := Lib.hid (letter_of n)
  cases hb : s.data.toList.all isLet with
  | false =>
    have HN := Lib.hid (pv_bad k n s hb)
    rw [hb] at HA
    clear hb
    go_enter Tryd.func30, Tryd.ntmps30
    go_wp2_with fail
    refine (HA.out _).mono ?_
    rintro e w2 ⟨rfl, hb2⟩
    have HB := Lib.hid (((Below.refl _ w).alloc (Nat.le_refl _) _).trans (hb2.mono (by simp)))
    clear hb2
    go_wp2_with fail
    go_ret
    exact ⟨by rw [HN.out]; rfl, HB.out⟩
  | true =>
    have HN := Lib.hid (pv_good k n s hb h1 h2)
    rw [hb] at HA
    clear hb
    cases hk : isCall k with
    | true =>
      rw [hk, if_pos rfl] at HN
      unfold isCall at hk
      generalize nameOf n.data.toList = nn at *
      go_enter Tryd.func30, Tryd.ntmps30
      go_wp2_with fail
      refine (HA.out _).mono ?_
      rintro e w2 ⟨rfl, hb2⟩
      have HB := Lib.hid (((Below.refl _ w).alloc (Nat.le_refl _) _).trans (hb2.mono (by simp)))
      have hc := pv_cells w k n s 48
      have hc2 : w2.heap[w.heap.size]? = _ := (hb2.block _ (by simp)).trans hc
      have c0 : w2.cell? ⟨w.heap.size, 0, none⟩ = some (.string k) := by rw [Lib.cell_of_heap hc2]; rfl
      have c1 : w2.cell? ⟨w.heap.size, 1, none⟩ = some (.string n) := by rw [Lib.cell_of_heap hc2]; rfl
      clear hb2 hc hc2
      go_wp2_with fail
      refine (HL.out _).mono ?_
      rintro e w3 ⟨rfl, rfl⟩
      go_wp2_with fail
      go_ret
      exact ⟨ret_bool HN.out.symm, HB.out⟩
    | false =>
      rw [hk, if_neg (by decide)] at HN
      unfold isCall at hk
      unfold isPrint at HN
      cases hp : k.toList == [112, 114, 105, 110, 116]
      all_goals
        rw [hp] at HN
        go_enter Tryd.func30, Tryd.ntmps30
        go_wp2_with fail
        refine (HA.out _).mono ?_
        rintro e w2 ⟨rfl, hb2⟩
        have HB := Lib.hid (((Below.refl _ w).alloc (Nat.le_refl _) _).trans (hb2.mono (by simp)))
        have hc := pv_cells w k n s 48
        have hc2 : w2.heap[w.heap.size]? = _ := (hb2.block _ (by simp)).trans hc
        have c0 : w2.cell? ⟨w.heap.size, 0, none⟩ = some (.string k) := by rw [Lib.cell_of_heap hc2]; rfl
        have c1 : w2.cell? ⟨w.heap.size, 1, none⟩ = some (.string n) := by rw [Lib.cell_of_heap hc2]; rfl
        clear hb2 hc hc2
        go_wp2_with fail
        go_ret
        exact ⟨ret_bool HN.out.symm, HB.out⟩

theorem impl_pvalid (k n s : ByteArray) (w : World) :
    Calls Tryd.prog 30 #[pV k n s] w fun e w' => e = .returned (.bool (pvalid k n s)) ∧ Below w.heap.size w w' := by
  by_cases h : 1 ≤ s.size ∧ s.size ≤ 20
  · exact pv_late k n s w h.1 h.2
  · exact pv_early k n s w (by omega)
end Go.Proofs.YthedbjdcnidelaaDoor
