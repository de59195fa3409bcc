/- The law FnExactFormatCopy answers true at every copy. No condition. -/
import Derived.Test.YthedbjdcnidelaaCpt
namespace Go.Proofs.Ythedbjdcnidelaa
open Go.RowKit Gram

set_option maxHeartbeats 1000000 in
theorem sz_fitsC (k n s : ByteArray) (w : World) (h : k.size + n.size + s.size ≤ 1048576) :
    Calls Try.prog 9 #[pV k n s, .int .i64 1048576] w fun e w' => (∃ r : Nat, r ≤ 1048576 ∧ e = .returned (.int .i64 r)) ∧ Below w.heap.size w w' := by
  unfold pV
  go_enter Try.func9, Try.ntmps9
  go_wp2_with fail
  go_ret
  exact ⟨⟨1048576 - (k.size + n.size + s.size), by omega, ret_int (by omega)⟩, (Below.refl _ _).alloc (Nat.le_refl _) _⟩

set_option maxHeartbeats 1000000 in
theorem sz_overC (k n s : ByteArray) (w : World) (hk : k.size ≤ maxLen) (hn : n.size ≤ maxLen) (hs : s.size ≤ maxLen) (h : 1048576 < k.size + n.size + s.size) :
    Calls Try.prog 9 #[pV k n s, .int .i64 1048576] w fun e w' => e = .returned (.int .i64 (-1)) ∧ Below w.heap.size w w' := by
  unfold pV
  unfold maxLen at hk hn hs
  by_cases h1 : 1048576 < k.size
  · go_enter Try.func9, Try.ntmps9
    go_wp2_with fail
    go_ret
    exact ⟨rfl, (Below.refl _ _).alloc (Nat.le_refl _) _⟩
  · by_cases h2 : 1048576 < k.size + n.size
    · go_enter Try.func9, Try.ntmps9
      go_wp2_with fail
      go_ret
      exact ⟨rfl, (Below.refl _ _).alloc (Nat.le_refl _) _⟩
    · go_enter Try.func9, Try.ntmps9
      go_wp2_with fail
      go_ret
      exact ⟨rfl, (Below.refl _ _).alloc (Nat.le_refl _) _⟩

set_option maxHeartbeats 1000000 in
theorem to_anyC (k n s : ByteArray) (w : World) :
    Calls Try.prog 11 #[pV k n s] w fun e w' => e = .returned (pV k n s) ∧ Below w.heap.size w w' := by
  unfold pV
  go_enter Try.func11, Try.ntmps11
  go_wp2_with fail
  refine bodyPost_ret (v := .agg #[.string k, .string n, .string s]) ?_ rfl ⟨rfl, (((Below.refl _ w).alloc (Nat.le_refl _) _).alloc (by simp) _).alloc (by simp; omega) _⟩
  simp [results, Try.results11, go_sem]
theorem heap_ltC' {w : World} {g : Nat} {o : Obj} (h : w.heap[g]? = some o) : g < w.heap.size := (Array.getElem?_eq_some_iff.1 h).1

set_option maxHeartbeats 1000000 in
theorem fpt_overC (k n s : ByteArray) (w : World) (hk : k.size ≤ maxLen) (hn : n.size ≤ maxLen) (hs : s.size ≤ maxLen) (h : 1048576 < k.size + n.size + s.size) :
    Calls Try.prog 4 #[pV k n s] w fun e w' => e = .returned (.bool true) ∧ Below w.heap.size w w' := by
  have HZ := Lib.hid (fun w => sz_overC k n s w hk hn hs h)
  unfold pV at *
  clear hk hn hs h
  go_enter Try.func4, Try.ntmps4
  go_wp2_with fail
  refine (HZ.out _).mono ?_
  rintro e w2 ⟨rfl, hb2⟩
  have HB := Lib.hid (((Below.refl _ w).alloc (Nat.le_refl _) _).trans (hb2.mono (by simp)))
  clear hb2
  go_wp2_with fail
  go_ret
  exact ⟨rfl, HB.out⟩
set_option maxHeartbeats 1000000 in
theorem fpt_fitsC (k n s : ByteArray) (w : World) (h : k.size + n.size + s.size ≤ 1048576) :
    Calls Try.prog 4 #[pV k n s] w fun e w' => e = .returned (.bool true) ∧ Below w.heap.size w w' := by
  have HZ := Lib.hid (fun w => sz_fitsC k n s w h)
  have HT := Lib.hid (fun w => to_anyC k n s w)
  have HI := Lib.hid (fun w => impl_ctext k n s w h)
  have HS := Lib.hid (fun w => spec_ctext k n s w h)
  unfold pV at *
  clear h
  generalize ctext k n s = b at *
  go_enter Try.func4, Try.ntmps4
  go_wp2_with fail
  refine (HZ.out _).mono ?_
  rintro e w2 ⟨⟨r, hr, rfl⟩, hb2⟩
  have HB2 := Lib.hid (((Below.refl _ w).alloc (Nat.le_refl _) _).trans (hb2.mono (by simp)))
  have HC := Lib.hid ((hb2.block _ (by simp)).trans (pv_cells w k n s 30))
  clear hb2
  have q0 : w2.cell? ⟨w.heap.size, 0, none⟩ = some (.string k) := by rw [Lib.cell_of_heap HC.out]; rfl
  have q1 : w2.cell? ⟨w.heap.size, 1, none⟩ = some (.string n) := by rw [Lib.cell_of_heap HC.out]; rfl
  have q2 : w2.cell? ⟨w.heap.size, 2, none⟩ = some (.string s) := by rw [Lib.cell_of_heap HC.out]; rfl
  go_wp2_with fail
  refine (HT.out _).mono ?_
  rintro e w3 ⟨rfl, hb3⟩
  have HL3 := Lib.hid hb3
  clear hb3
  go_wp2_with fail
  refine (HS.out _).mono ?_
  rintro e w4 ⟨rfl, hb4⟩
  have HL4 := Lib.hid (HL3.out.trans (hb4.mono HL3.out.size))
  clear hb4
  have HC4 := Lib.hid ((HL4.out.block _ (heap_ltC' HC.out)).trans HC.out)
  have p0 : w4.cell? ⟨w.heap.size, 0, none⟩ = some (.string k) := by rw [Lib.cell_of_heap HC4.out]; rfl
  have p1 : w4.cell? ⟨w.heap.size, 1, none⟩ = some (.string n) := by rw [Lib.cell_of_heap HC4.out]; rfl
  have p2 : w4.cell? ⟨w.heap.size, 2, none⟩ = some (.string s) := by rw [Lib.cell_of_heap HC4.out]; rfl
  go_wp2_with fail
  refine (HT.out _).mono ?_
  rintro e w5 ⟨rfl, hb5⟩
  have HL5 := Lib.hid (HL4.out.trans (hb5.mono HL4.out.size))
  clear hb5
  go_wp2_with fail
  refine (HI.out _).mono ?_
  rintro e w6 ⟨rfl, hb6⟩
  have HL6 := Lib.hid (HL5.out.trans (hb6.mono HL5.out.size))
  clear hb6
  go_wp2_with fail
  go_ret
  exact ⟨rfl, HB2.out.trans (HL6.out.mono HB2.out.size)⟩
theorem fpt_anyC (k n s : ByteArray) (w : World) (hk : k.size ≤ maxLen) (hn : n.size ≤ maxLen) (hs : s.size ≤ maxLen) :
    Calls Try.prog 4 #[pV k n s] w fun e w' => e = .returned (.bool true) ∧ Below w.heap.size w w' := by
  by_cases h : k.size + n.size + s.size ≤ 1048576
  · exact fpt_fitsC k n s w h
  · exact fpt_overC k n s w hk hn hs (by omega)
end Go.Proofs.Ythedbjdcnidelaa
