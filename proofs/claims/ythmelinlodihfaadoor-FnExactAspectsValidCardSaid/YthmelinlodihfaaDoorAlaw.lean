/- The laws on one aspect that answer a bool: FnExactAspectValid, ChangesValue, PrintsIn: true at every aspect. Condition: the errors lie where start-up laid them. -/
import Derived.Test.YthmelinlodihfaaDoorIasp
import Derived.Test.YthmelinlodihfaaDoorSasp
namespace Go.Proofs.YthmelinlodihfaaDoor
open Go.RowKit Gram

set_option maxHeartbeats 1000000 in
theorem sz_fits (k n s : ByteArray) (w : World) (h : k.size + n.size + s.size ≤ 1048576) :
    Calls Tryd.prog 18 #[aspV k n s, .int .i64 1048576] w fun e w' => (∃ r : Nat, r ≤ 1048576 ∧ e = .returned (.int .i64 r)) ∧ Below w.heap.size w w' := by
  unfold aspV
  go_enter Tryd.func18, Tryd.ntmps18
  go_wp2_with fail
  go_ret
  exact ⟨⟨1048576 - (k.size + n.size + s.size), by omega, ret_int (by omega)⟩, (Below.refl _ _).alloc (Nat.le_refl _) _⟩

set_option maxHeartbeats 1000000 in
theorem sz_over (k n s : ByteArray) (w : World) (hk : k.size ≤ maxLen) (hn : n.size ≤ maxLen) (hs : s.size ≤ maxLen) (h : 1048576 < k.size + n.size + s.size) :
    Calls Tryd.prog 18 #[aspV k n s, .int .i64 1048576] w fun e w' => e = .returned (.int .i64 (-1)) ∧ Below w.heap.size w w' := by
  unfold aspV
  unfold maxLen at hk hn hs
  by_cases h1 : 1048576 < k.size
  · go_enter Tryd.func18, Tryd.ntmps18
    go_wp2_with fail
    go_ret
    exact ⟨rfl, (Below.refl _ _).alloc (Nat.le_refl _) _⟩
  · by_cases h2 : 1048576 < k.size + n.size
    · go_enter Tryd.func18, Tryd.ntmps18
      go_wp2_with fail
      go_ret
      exact ⟨rfl, (Below.refl _ _).alloc (Nat.le_refl _) _⟩
    · go_enter Tryd.func18, Tryd.ntmps18
      go_wp2_with fail
      go_ret
      exact ⟨rfl, (Below.refl _ _).alloc (Nat.le_refl _) _⟩

set_option maxHeartbeats 1000000 in
theorem to_any (k n s : ByteArray) (w : World) :
    Calls Tryd.prog 20 #[aspV k n s] w fun e w' => e = .returned (aspV k n s) ∧ Below w.heap.size w w' := by
  unfold aspV
  go_enter Tryd.func20, Tryd.ntmps20
  go_wp2_with fail
  refine bodyPost_ret (v := .agg #[.string k, .string n, .string s]) ?_ rfl ⟨rfl, (((Below.refl _ w).alloc (Nat.le_refl _) _).alloc (by simp) _).alloc (by simp; omega) _⟩
  simp [results, Tryd.results20, go_sem]


set_option maxHeartbeats 1000000 in
theorem av_over (k n s : ByteArray) (w : World) (hk : k.size ≤ maxLen) (hn : n.size ≤ maxLen) (hs : s.size ≤ maxLen) (h : 1048576 < k.size + n.size + s.size) :
    Calls Tryd.prog 4 #[aspV k n s] w fun e w' => e = .returned (.bool true) ∧ Below w.heap.size w w' := by
  have HZ := Lib.hid (fun w => sz_over k n s w hk hn hs h)
  unfold aspV at *
  clear hk hn hs h
  go_enter Tryd.func4, Tryd.ntmps4
  go_wp2_with fail
  refine (HZ.out _).mono ?_
  rintro e w2 ⟨rfl, hb2⟩
  have HB := Lib.hid (((Below.refl _ w).alloc (Nat.le_refl _) _).trans (hb2.mono (by simp)))
  clear hb2
  go_wp2_with fail
  go_ret
  exact ⟨rfl, HB.out⟩
set_option maxHeartbeats 1000000 in
theorem av_fits (k n s : ByteArray) (w : World) (h : k.size + n.size + s.size ≤ 1048576) (ek ec eb el ep : Addr) (he : Errs w ek ec eb el ep) :
    Calls Tryd.prog 4 #[aspV k n s] w fun e w' => e = .returned (.bool true) ∧ Below w.heap.size w w' := by
  have HZ := Lib.hid (fun w => sz_fits k n s w h)
  have HT := Lib.hid (fun w => to_any k n s w)
  have HI := Lib.hid (fun w' (hw : Below w.heap.size w w') => impl_asp k n s w' ek ec eb el ep (he.later hw) (by omega) (by omega))
  have HS := Lib.hid (fun w => spec_asp k n s w (by omega) (by omega))
  unfold aspV at *
  clear h he
  generalize (aspOf k n s).isSome = b at *
  go_enter Tryd.func4, Tryd.ntmps4
  go_wp2_with fail
  refine (HZ.out _).mono ?_
  rintro e w2 ⟨⟨r, hr, rfl⟩, hb2⟩
  have HB2 := Lib.hid (((Below.refl _ w).alloc (Nat.le_refl _) _).trans (hb2.mono (by simp)))
  have HC := Lib.hid ((hb2.block _ (by simp)).trans (heap_alloc_new w (Obj.cells #[.string k, .string n, .string s] 31)))
  clear hb2
  have q0 : w2.cell? ⟨w.heap.size, 0, none⟩ = some (.string k) := by rw [Lib.cell_of_heap HC.out]; rfl
  have q1 : w2.cell? ⟨w.heap.size, 1, none⟩ = some (.string n) := by rw [Lib.cell_of_heap HC.out]; rfl
  have q2 : w2.cell? ⟨w.heap.size, 2, none⟩ = some (.string s) := by rw [Lib.cell_of_heap HC.out]; rfl
  go_wp2_with fail
  refine (HT.out _).mono ?_
  rintro e w3 ⟨rfl, hb3⟩
  have HL3 := Lib.hid hb3
  clear hb3
  go_wp2_with fail
  refine (HS.out _).mono ?_
  rintro e w4 ⟨rfl, hb4⟩
  have HL4 := Lib.hid (HL3.out.trans (hb4.mono HL3.out.size))
  clear hb4
  have HC4 := Lib.hid ((HL4.out.block _ (heap_lt HC.out)).trans HC.out)
  have p0 : w4.cell? ⟨w.heap.size, 0, none⟩ = some (.string k) := by rw [Lib.cell_of_heap HC4.out]; rfl
  have p1 : w4.cell? ⟨w.heap.size, 1, none⟩ = some (.string n) := by rw [Lib.cell_of_heap HC4.out]; rfl
  have p2 : w4.cell? ⟨w.heap.size, 2, none⟩ = some (.string s) := by rw [Lib.cell_of_heap HC4.out]; rfl
  go_wp2_with fail
  refine (HT.out _).mono ?_
  rintro e w5 ⟨rfl, hb5⟩
  have HL5 := Lib.hid (HL4.out.trans (hb5.mono HL4.out.size))
  clear hb5
  go_wp2_with fail
  refine (HI.out _ (HB2.out.trans (HL5.out.mono HB2.out.size))).mono ?_
  rintro e w6 ⟨rfl, hb6⟩
  have HL6 := Lib.hid (HL5.out.trans (hb6.mono HL5.out.size))
  clear hb6
  go_wp2_with fail
  go_ret
  exact ⟨rfl, HB2.out.trans (HL6.out.mono HB2.out.size)⟩
theorem av_any (k n s : ByteArray) (w : World) (hk : k.size ≤ maxLen) (hn : n.size ≤ maxLen) (hs : s.size ≤ maxLen) (ek ec eb el ep : Addr) (he : Errs w ek ec eb el ep) :
    Calls Tryd.prog 4 #[aspV k n s] w fun e w' => e = .returned (.bool true) ∧ Below w.heap.size w w' := by
  by_cases h : k.size + n.size + s.size ≤ 1048576
  · exact av_fits k n s w h ek ec eb el ep he
  · exact av_over k n s w hk hn hs (by omega)
end Go.Proofs.YthmelinlodihfaaDoor
