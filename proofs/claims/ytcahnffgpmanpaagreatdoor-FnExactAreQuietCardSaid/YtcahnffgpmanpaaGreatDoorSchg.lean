/- The model's ChangesValue and PrintsIn, as the plain aspOf says. Condition: texts of at most 2^30 bytes. -/
import Derived.Test.YtcahnffgpmanpaaGreatDoorIcp
import Derived.Test.YtcahnffgpmanpaaGreatDoorIasp
import Derived.Test.YtcahnffgpmanpaaGreatDoorSasp
namespace Go.Proofs.YtcahnffgpmanpaaGreatDoor
open Go.RowKit Gram

theorem deedIs_prt (k c b : ByteArray) : deedIs Dd.prt k c b = ((aspOf k c b).isSome && b.data.toList.contains 80) := by
  unfold deedIs
  cases ho : aspOf k c b with
  | none => rfl
  | some p =>
    obtain ⟨n, xs⟩ := p
    obtain ⟨_, _, ha, _⟩ := aspOf_some ho
    obtain ⟨_, _, _, ht⟩ := advOf_some ha
    rw [← ht.prt]; rfl
theorem deedIs_chg (k c b : ByteArray) : deedIs Dd.chg k c b = ((aspOf k c b).isSome && (b.data.toList.contains 43 || b.data.toList.contains 45 || b.data.toList.contains 42)) := by
  unfold deedIs
  cases ho : aspOf k c b with
  | none => rfl
  | some p =>
    obtain ⟨n, xs⟩ := p
    obtain ⟨_, _, ha, _⟩ := aspOf_some ho
    obtain ⟨_, _, _, ht⟩ := advOf_some ha
    rw [← ht.chg]; rfl

set_option maxHeartbeats 2000000 in
set_option maxRecDepth 100000 in
theorem spec_prt (k c b : ByteArray) (w : World) (hc : c.size ≤ 1073741824) (hb : b.size ≤ 1073741824) :
    Calls Tryz.prog 21 #[aspV k c b] w fun e w' => e = .returned (.bool (deedIs Dd.prt k c b)) ∧ Below w.heap.size w w' := by
  have HA := Lib.hid (fun w => spec_asp k c b w hc hb)
  have HH := Lib.hid (fun w => has_any b 80 (by omega) w)
  rw [deedIs_prt]
  generalize (aspOf k c b).isSome = t at *
  generalize b.data.toList.contains 80 = t2 at *
  unfold aspV
  clear hc hb
  cases t with
  | false =>
    go_enter Tryz.func21, Tryz.ntmps21
    go_wp2_with fail
    refine (HA.out _).mono ?_
    rintro e w1 ⟨rfl, hb1⟩
    have HB := Lib.hid (((Below.refl _ w).alloc (Nat.le_refl _) _).trans (hb1.mono (by simp)))
    clear hb1
    go_wp2_with fail
    go_ret
    exact ⟨rfl, HB.out⟩
  | true =>
    go_enter Tryz.func21, Tryz.ntmps21
    go_wp2_with fail
    refine (HA.out _).mono ?_
    rintro e w1 ⟨rfl, hb1⟩
    have HB := Lib.hid (((Below.refl _ w).alloc (Nat.le_refl _) _).trans (hb1.mono (by simp)))
    have HC := Lib.hid ((hb1.block _ (by simp)).trans (heap_alloc_new w (Obj.cells #[.string k, .string c, .string b] 32)))
    have q2 : w1.cell? ⟨w.heap.size, 2, none⟩ = some (.string b) := by rw [Lib.cell_of_heap HC.out]; rfl
    clear hb1
    go_wp2_with fail
    refine (HH.out _).mono ?_
    rintro e w2 ⟨rfl, rfl⟩
    go_wp2_with fail
    go_ret
    exact ⟨rfl, HB.out⟩

set_option maxHeartbeats 2000000 in
set_option maxRecDepth 100000 in
theorem spec_chg (k c b : ByteArray) (w : World) (hc : c.size ≤ 1073741824) (hb : b.size ≤ 1073741824) :
    Calls Tryz.prog 24 #[aspV k c b] w fun e w' => e = .returned (.bool (deedIs Dd.chg k c b)) ∧ Below w.heap.size w w' := by
  have HA := Lib.hid (fun w => spec_asp k c b w hc hb)
  have H1 := Lib.hid (fun w => has_any b 43 (by omega) w)
  have H2 := Lib.hid (fun w => has_any b 45 (by omega) w)
  have H3 := Lib.hid (fun w => has_any b 42 (by omega) w)
  rw [deedIs_chg]
  generalize (aspOf k c b).isSome = t at *
  generalize b.data.toList.contains 43 = t1 at *
  generalize b.data.toList.contains 45 = t2 at *
  generalize b.data.toList.contains 42 = t3 at *
  unfold aspV
  clear hc hb
  cases t with
  | false =>
    go_enter Tryz.func24, Tryz.ntmps24
    go_wp2_with fail
    refine (HA.out _).mono ?_
    rintro e w1 ⟨rfl, hb1⟩
    have HB := Lib.hid (((Below.refl _ w).alloc (Nat.le_refl _) _).trans (hb1.mono (by simp)))
    clear hb1
    go_wp2_with fail
    go_ret
    exact ⟨rfl, HB.out⟩
  | true =>
    go_enter Tryz.func24, Tryz.ntmps24
    go_wp2_with fail
    refine (HA.out _).mono ?_
    rintro e w1 ⟨rfl, hb1⟩
    have HB := Lib.hid (((Below.refl _ w).alloc (Nat.le_refl _) _).trans (hb1.mono (by simp)))
    have HC := Lib.hid ((hb1.block _ (by simp)).trans (heap_alloc_new w (Obj.cells #[.string k, .string c, .string b] 32)))
    have q2 : w1.cell? ⟨w.heap.size, 2, none⟩ = some (.string b) := by rw [Lib.cell_of_heap HC.out]; rfl
    clear hb1
    go_wp2_with fail
    refine (H1.out _).mono ?_
    rintro e w2 ⟨rfl, rfl⟩
    cases t1 with
    | true =>
      go_wp2_with fail
      go_ret
      exact ⟨rfl, HB.out⟩
    | false =>
      go_wp2_with fail
      refine (H2.out _).mono ?_
      rintro e w2 ⟨rfl, rfl⟩
      cases t2 with
      | true =>
        go_wp2_with fail
        go_ret
        exact ⟨rfl, HB.out⟩
      | false =>
        go_wp2_with fail
        refine (H3.out _).mono ?_
        rintro e w2 ⟨rfl, rfl⟩
        go_wp2_with fail
        go_ret
        exact ⟨rfl, HB.out⟩
end Go.Proofs.YtcahnffgpmanpaaGreatDoor
