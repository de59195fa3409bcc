/- FormatAspect of the program and of the model, as the plain fmtA says. Conditions: texts of at most 2^30 bytes; the errors lie where start-up laid them. -/
import Derived.Test.YtkdnbdgpcgookaaGreatDoorIasp
import Derived.Test.YtkdnbdgpcgookaaGreatDoorSasp
import Derived.Test.YtkdnbdgpcgookaaGreatDoorTxt
namespace Go.Proofs.YtkdnbdgpcgookaaGreatDoor
open Go.RowKit Gram

/-- the text of an aspect -/
def fmtA (k c b : ByteArray) : ByteArray := if (aspOf k c b).isSome = true then k ++ ⟨#[32]⟩ ++ c ++ ⟨#[32]⟩ ++ b else ⟨#[]⟩

set_option maxHeartbeats 2000000 in
set_option maxRecDepth 100000 in
theorem impl_fmt (k c b : ByteArray) (w : World) (ek ec eb el ep : Addr) (h : Errs w ek ec eb el ep) (hk : k.size ≤ 1073741824) (hc : c.size ≤ 1073741824) (hb : b.size ≤ 1073741824) :
    Calls Tryz.prog 7 #[aspV k c b] w fun e w' => e = .returned (.string (fmtA k c b)) ∧ Below w.heap.size w w' := by
  have HA := Lib.hid (fun w' (hw : Below w.heap.size w w') => impl_asp k c b w' ek ec eb el ep (h.later hw) hc hb)
  have e1 := str_sum k ⟨#[32]⟩ (by show _ + 1 ≤ _; omega)
  have e2 := str_sum (k ++ ⟨#[32]⟩) c (by rw [ByteArray.size_append]; show _ + 1 + _ ≤ _; omega)
  have e3 := str_sum (k ++ ⟨#[32]⟩ ++ c) ⟨#[32]⟩ (by rw [ByteArray.size_append, ByteArray.size_append]; show _ + 1 + _ + 1 ≤ _; omega)
  have e4 := str_sum (k ++ ⟨#[32]⟩ ++ c ++ ⟨#[32]⟩) b (by rw [ByteArray.size_append, ByteArray.size_append, ByteArray.size_append]; show _ + 1 + _ + 1 + _ ≤ _; omega)
  unfold fmtA aspV at *
  clear hk hc hb h
  generalize (aspOf k c b).isSome = t at *
  cases t with
  | false =>
    rw [if_neg (by decide)]
    go_enter Tryz.func7, Tryz.ntmps7
    go_wp2_with fail
    refine (HA.out _ ((Below.refl _ w).alloc (Nat.le_refl _) _)).mono ?_
    rintro e w1 ⟨rfl, hb1⟩
    have HB := Lib.hid (((Below.refl _ w).alloc (Nat.le_refl _) _).trans (hb1.mono (by simp)))
    clear hb1
    go_wp2_with fail
    go_ret
    exact ⟨rfl, HB.out⟩
  | true =>
    rw [if_pos rfl]
    go_enter Tryz.func7, Tryz.ntmps7
    go_wp2_with fail
    refine (HA.out _ ((Below.refl _ w).alloc (Nat.le_refl _) _)).mono ?_
    rintro e w1 ⟨rfl, hb1⟩
    have HB := Lib.hid (((Below.refl _ w).alloc (Nat.le_refl _) _).trans (hb1.mono (by simp)))
    have HC := Lib.hid ((hb1.block _ (by simp)).trans (heap_alloc_new w (Obj.cells #[.string k, .string c, .string b] 24)))
    have q0 : w1.cell? ⟨w.heap.size, 0, none⟩ = some (.string k) := by rw [Lib.cell_of_heap HC.out]; rfl
    have q1 : w1.cell? ⟨w.heap.size, 1, none⟩ = some (.string c) := by rw [Lib.cell_of_heap HC.out]; rfl
    have q2 : w1.cell? ⟨w.heap.size, 2, none⟩ = some (.string b) := by rw [Lib.cell_of_heap HC.out]; rfl
    clear hb1
    go_wp2_with fail
    go_ret
    exact ⟨rfl, HB.out⟩

set_option maxHeartbeats 2000000 in
set_option maxRecDepth 100000 in
theorem spec_fmt (k c b : ByteArray) (w : World) (hk : k.size ≤ 1073741824) (hc : c.size ≤ 1073741824) (hb : b.size ≤ 1073741824) :
    Calls Tryz.prog 8 #[aspV k c b] w fun e w' => e = .returned (.string (fmtA k c b)) ∧ Below w.heap.size w w' := by
  have HA := Lib.hid (fun w => spec_asp k c b w hc hb)
  have e1 := str_sum k ⟨#[32]⟩ (by show _ + 1 ≤ _; omega)
  have e2 := str_sum (k ++ ⟨#[32]⟩) c (by rw [ByteArray.size_append]; show _ + 1 + _ ≤ _; omega)
  have e3 := str_sum (k ++ ⟨#[32]⟩ ++ c) ⟨#[32]⟩ (by rw [ByteArray.size_append, ByteArray.size_append]; show _ + 1 + _ + 1 ≤ _; omega)
  have e4 := str_sum (k ++ ⟨#[32]⟩ ++ c ++ ⟨#[32]⟩) b (by rw [ByteArray.size_append, ByteArray.size_append, ByteArray.size_append]; show _ + 1 + _ + 1 + _ ≤ _; omega)
  unfold fmtA aspV at *
  clear hk hc hb
  generalize (aspOf k c b).isSome = t at *
  cases t with
  | false =>
    rw [if_neg (by decide)]
    go_enter Tryz.func8, Tryz.ntmps8
    go_wp2_with fail
    refine (HA.out _).mono ?_
    rintro e w1 ⟨rfl, hb1⟩
    have HB := Lib.hid (((Below.refl _ w).alloc (Nat.le_refl _) _).trans (hb1.mono (by simp)))
    clear hb1
    go_wp2_with fail
    go_ret
    exact ⟨rfl, HB.out⟩
  | true =>
    rw [if_pos rfl]
    go_enter Tryz.func8, Tryz.ntmps8
    go_wp2_with fail
    refine (HA.out _).mono ?_
    rintro e w1 ⟨rfl, hb1⟩
    have HB := Lib.hid (((Below.refl _ w).alloc (Nat.le_refl _) _).trans (hb1.mono (by simp)))
    have HC := Lib.hid ((hb1.block _ (by simp)).trans (heap_alloc_new w (Obj.cells #[.string k, .string c, .string b] 24)))
    have q0 : w1.cell? ⟨w.heap.size, 0, none⟩ = some (.string k) := by rw [Lib.cell_of_heap HC.out]; rfl
    have q1 : w1.cell? ⟨w.heap.size, 1, none⟩ = some (.string c) := by rw [Lib.cell_of_heap HC.out]; rfl
    have q2 : w1.cell? ⟨w.heap.size, 2, none⟩ = some (.string b) := by rw [Lib.cell_of_heap HC.out]; rfl
    clear hb1
    go_wp2_with fail
    go_ret
    exact ⟨rfl, HB.out⟩
end Go.Proofs.YtkdnbdgpcgookaaGreatDoor
