/- The law FnExactAroundOf answers true at every aspect. Condition: the errors lie where start-up laid them. -/
import Derived.Test.YtecifbncfglckaaDoorAsz
import Derived.Test.YtecifbncfglckaaDoorArof
import Derived.Test.YtecifbncfglckaaDoorSarof
import Derived.Test.YtecifbncfglckaaDoorEqa
namespace Go.Proofs.YtecifbncfglckaaDoor
open Go.RowKit Gram

/-- the two results -/
theorem parV_of (o : Option (ByteArray × ByteArray × ByteArray)) : ∃ k c b t, parV o = .tuple #[aspV k c b, .bool t] := by
  cases o with
  | none => exact ⟨_, _, _, _, rfl⟩
  | some p => obtain ⟨k, c, b⟩ := p; exact ⟨_, _, _, _, rfl⟩

set_option maxHeartbeats 1000000 in
theorem ar_over (k n s : ByteArray) (w : World) (hk : k.size ≤ maxLen) (hn : n.size ≤ maxLen) (hs : s.size ≤ maxLen) (h : 1048576 < k.size + n.size + s.size) :
    Calls Tryd.prog 4 #[aspV k n s] w fun e w' => e = .returned (.bool true) ∧ Below w.heap.size w w' := by
  have HZ := Lib.hid (fun w => sz_over k n s w hk hn hs h)
  unfold aspV at *
  clear hk hn hs h
  go_enter Tryd.func4, Tryd.ntmps4
  go_wp2_with fail
  refine (HZ.out _).mono ?_
  rintro e w2 ⟨rfl, hb2⟩
  have HB := Lib.hid (((Below.refl _ w).alloc (Nat.le_refl _) _).trans (hb2.mono (by simp)))
  clear hb2
  go_wp2_with fail
  go_ret
  exact ⟨rfl, HB.out⟩
set_option maxHeartbeats 2000000 in
set_option maxRecDepth 100000 in
theorem ar_fits (k n s : ByteArray) (w : World) (h : k.size + n.size + s.size ≤ 1048576) (ek ec eb el ep : Addr) (he : Errs w ek ec eb el ep) :
    Calls Tryd.prog 4 #[aspV k n s] w fun e w' => e = .returned (.bool true) ∧ Below w.heap.size w w' := by
  have HZ := Lib.hid (fun w => sz_fits k n s w h)
  have HT := Lib.hid (fun w => to_any k n s w)
  have HI := Lib.hid (fun w' (hw : Below w.heap.size w w') => impl_ard k n s w' ek ec eb el ep (he.later hw) (by omega) (by omega))
  have HS := Lib.hid (fun w => spec_ard k n s w (by omega) (by omega))
  have HE := Lib.hid eqasp_same
  obtain ⟨K, C, B, t, hp⟩ := parV_of (ardA k n s)
  rw [hp] at HI HS
  unfold aspV at *
  clear h he hp
  go_enter Tryd.func4, Tryd.ntmps4
  go_wp2_with fail
  refine (HZ.out _).mono ?_
  rintro e w2 ⟨⟨r, hr, rfl⟩, hb2⟩
  have HB2 := Lib.hid (((Below.refl _ w).alloc (Nat.le_refl _) _).trans (hb2.mono (by simp)))
  have HC := Lib.hid ((hb2.block _ (by simp)).trans (heap_alloc_new w (Obj.cells #[.string k, .string n, .string s] 31)))
  clear hb2
  have q0 : w2.cell? ⟨w.heap.size, 0, none⟩ = some (.string k) := by rw [Lib.cell_of_heap HC.out]; rfl
  have q1 : w2.cell? ⟨w.heap.size, 1, none⟩ = some (.string n) := by rw [Lib.cell_of_heap HC.out]; rfl
  have q2 : w2.cell? ⟨w.heap.size, 2, none⟩ = some (.string s) := by rw [Lib.cell_of_heap HC.out]; rfl
  go_wp2_with fail
  refine (HT.out _).mono ?_
  rintro e w3 ⟨rfl, hb3⟩
  have HL3 := Lib.hid hb3
  clear hb3
  go_wp2_with fail
  refine (HS.out _).mono ?_
  rintro e w4 ⟨rfl, hb4⟩
  have HL4 := Lib.hid (HL3.out.trans (hb4.mono HL3.out.size))
  clear hb4
  have HC4 := Lib.hid ((HL4.out.block _ (heap_lt HC.out)).trans HC.out)
  obtain ⟨w5, hw5⟩ : ∃ w5, w5 = w4.alloc (Obj.cells #[.string K, .string C, .string B] 24) := ⟨_, rfl⟩
  have HG := Lib.hid (show Cell3 w5 w4.heap.size (.string K) (.string C) (.string B) by rw [hw5]; exact Cell3.new _ _ _ _)
  have HL5 := Lib.hid (show Below w2.heap.size w2 w5 by rw [hw5]; exact HL4.out.alloc HL4.out.size _)
  have HC5 := Lib.hid (show w5.heap[w.heap.size]? = some (.cells #[.string k, .string n, .string s] 31 (0, 0)) by rw [hw5, alloc_heap _ _ (heap_lt HC4.out)]; exact HC4.out)
  have HE5 := Lib.hid hw5
  clear hw5
  have p0 : (w4.alloc (Obj.cells #[.string K, .string C, .string B] 24)).cell? ⟨w.heap.size, 0, none⟩ = some (.string k) := by rw [← HE5.out, Lib.cell_of_heap HC5.out]; rfl
  have p1 : (w4.alloc (Obj.cells #[.string K, .string C, .string B] 24)).cell? ⟨w.heap.size, 1, none⟩ = some (.string n) := by rw [← HE5.out, Lib.cell_of_heap HC5.out]; rfl
  have p2 : (w4.alloc (Obj.cells #[.string K, .string C, .string B] 24)).cell? ⟨w.heap.size, 2, none⟩ = some (.string s) := by rw [← HE5.out, Lib.cell_of_heap HC5.out]; rfl
  go_wp2_with fail
  rw [← HE5.out]
  refine (HT.out _).mono ?_
  rintro e w6 ⟨rfl, hb6⟩
  have HL6 := Lib.hid (HL5.out.trans (hb6.mono HL5.out.size))
  have HG6 := Lib.hid (HG.out.later hb6)
  clear hb6
  go_wp2_with fail
  refine (HI.out _ (HB2.out.trans (HL6.out.mono HB2.out.size))).mono ?_
  rintro e w7 ⟨rfl, hb7⟩
  have HL7 := Lib.hid (HL6.out.trans (hb7.mono HL6.out.size))
  have HG7 := Lib.hid (HG6.out.later hb7)
  clear hb7
  have HL8 := Lib.hid (HL7.out.alloc HL7.out.size (Obj.cells #[.string K, .string C, .string B] 24))
  obtain ⟨f0, f1, f2, f3⟩ := (Cell3.new w7 (.string K) (.string C) (.string B)).read
  obtain ⟨g0, g1, g2, g3⟩ := (HG7.out.later ((Below.refl _ _).alloc (Nat.le_refl _) (Obj.cells #[.string K, .string C, .string B] 24))).read
  go_wp2_with fail
  refine (HE.out _ _ _ _).mono ?_
  rintro e w9 ⟨rfl, hb9⟩
  have HB9 := Lib.hid (HB2.out.trans ((HL8.out.trans (hb9.mono HL8.out.size)).mono HB2.out.size))
  clear hb9
  go_wp2_with fail
  go_ret
  exact ⟨rfl, HB9.out⟩
theorem ar_any (k n s : ByteArray) (w : World) (hk : k.size ≤ maxLen) (hn : n.size ≤ maxLen) (hs : s.size ≤ maxLen) (ek ec eb el ep : Addr) (he : Errs w ek ec eb el ep) :
    Calls Tryd.prog 4 #[aspV k n s] w fun e w' => e = .returned (.bool true) ∧ Below w.heap.size w w' := by
  by_cases h : k.size + n.size + s.size ≤ 1048576
  · exact ar_fits k n s w h ek ec eb el ep he
  · exact ar_over k n s w hk hn hs (by omega)
end Go.Proofs.YtecifbncfglckaaDoor
