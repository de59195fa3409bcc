/- The model's StatementsOf. Condition: texts of at most 2^30 bytes. -/
import Derived.Test.YtfmmpahbjkiomaaGreatDoorEx
namespace Go.Proofs.YtfmmpahbjkiomaaGreatDoor
open Go.RowKit Gram

set_option maxHeartbeats 1000000 in
set_option maxRecDepth 100000 in
theorem spec_statements (s : ByteArray) (w : World) (hs : s.size ≤ 1073741824) :
    Calls Tryz.prog 62 #[.string s] w fun e w' => ∃ v b xs, e = .returned (.tuple #[v, .bool b]) ∧ Hid ((b = false ∧ bodyOf s = none ∧ xs = []) ∨ (b = true ∧ bodyOf s = some xs)) ∧
      w'.ownsRow w.heap.size 9 1 v xs.length (stmVs xs) ∧ Below w.heap.size w w' := by
  have hfail : ∀ (wr : World), Below w.heap.size w wr → (wr.alloc (.cells #[] 9)).ownsRow w.heap.size 9 1 (.slice (some ⟨wr.heap.size, 0, none⟩) 0 0) (List.length ([] : List Stm)) (stmVs []) ∧ Below w.heap.size w (wr.alloc (.cells #[] 9)) := by
    intro wr hb
    have := hb.size
    refine ⟨?_, hb.alloc (by omega) _⟩
    exact ⟨by simp [stmVs], .inr ⟨wr.heap.size, 0, #[], rfl, by omega, heap_alloc_new wr _, Nat.le_refl _, by simp [maxLen], by simp, by simp [stmVs]⟩⟩
  have hF := Lib.hid hfail
  clear hfail
  go_enter Tryz.func62, Tryz.ntmps62
  go_wp2_with fail
  refine (split_any s w hs).mono ?_
  rintro e w1 ⟨v, b, xs, rfl, hr, hown, hb⟩
  cases b with
  | false =>
    have hN := Lib.hid (show bodyOf s = none by
      rcases hr.out with ⟨_, h, _⟩ | ⟨h, _⟩
      · unfold bodyOf; split
        · rw [reads_eq, ← from_zero, h]; simp
        · rfl
      · cases h)
    clear hr
    go_wp2_with fail
    go_ret2
    exact ⟨_, _, [], rfl, .inl ⟨rfl, hN.out, rfl⟩, hF.out _ hb⟩
  | true =>
    have hA := Lib.hid (show pA (from_ s 0) = some xs by
      rcases hr.out with ⟨h, _⟩ | ⟨_, h⟩
      · cases h
      · exact h)
    clear hr
    go_wp2_with fail
    refine (has_any s 75 (by omega) _).mono ?_
    rintro e w' ⟨rfl, rfl⟩
    cases hc : s.data.toList.contains 75 with
    | true =>
      have hN := Lib.hid (show bodyOf s = none by
        unfold bodyOf; split
        · rw [reads_eq, hc]; rfl
        · rfl)
      clear hc
      go_wp2_with fail
      go_ret2
      exact ⟨_, _, [], rfl, .inl ⟨rfl, hN.out, rfl⟩, hF.out _ hb⟩
    | false =>
      by_cases h400 : s.size ≤ 400
      · have hN := Lib.hid (show bodyOf s = some xs by
          unfold bodyOf; rw [if_pos h400, reads_eq, hc, ← from_zero, hA.out]; rfl)
        clear hc
        go_wp2_with fail
        go_ret2
        exact ⟨_, _, xs, rfl, .inr ⟨rfl, hN.out⟩, hown, hb⟩
      · have hN := Lib.hid (show bodyOf s = none by unfold bodyOf; rw [if_neg h400])
        clear hc
        go_wp2_with fail
        go_ret2
        exact ⟨_, _, [], rfl, .inl ⟨rfl, hN.out, rfl⟩, hF.out _ hb⟩
end Go.Proofs.YtfmmpahbjkiomaaGreatDoor
