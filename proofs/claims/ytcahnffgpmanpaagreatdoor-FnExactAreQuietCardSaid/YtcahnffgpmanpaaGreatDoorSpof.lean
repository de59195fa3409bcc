/- The model's ProceedsOf, as the plain pof says. Condition: texts of at most 2^30 bytes. -/
import Derived.Test.YtcahnffgpmanpaaGreatDoorPof
import Derived.Test.YtcahnffgpmanpaaGreatDoorLp
namespace Go.Proofs.YtcahnffgpmanpaaGreatDoor
open Go.RowKit Gram

theorem around_is {k : ByteArray} {n : Nat} (hk : kindOf k = some n) : isAround k = (n == 2) := by
  rcases kindOf_cases hk with ⟨rfl, h⟩ | ⟨rfl, h, _⟩ | ⟨rfl, h, _⟩
  · have e := eq_of_beq h
    rw [isAround, e]; rfl
  · have e := eq_of_beq h
    rw [isAround, e]; rfl
  · rw [h]; rfl

set_option maxHeartbeats 2000000 in
set_option maxRecDepth 100000 in
theorem spec_pof (k c b : ByteArray) (w : World) (hc : c.size ≤ 1073741824) (hb : b.size ≤ 1073741824) :
    Calls Tryz.prog 23 #[aspV k c b] w fun e w' => e = .returned (pairV (pof k c b)) ∧ Below w.heap.size w w' := by
  have HA := Lib.hid (fun w => spec_asp k c b w hc hb)
  unfold pairV pof aspV at *
  cases ho : aspOf k c b with
  | none =>
    rw [ho] at HA
    clear ho hc hb
    go_enter Tryz.func23, Tryz.ntmps23
    go_wp2_with fail
    refine (HA.out _).mono ?_
    rintro e w1 ⟨rfl, hb1⟩
    have HB := Lib.hid (((Below.refl _ w).alloc (Nat.le_refl _) _).trans (hb1.mono (by simp)))
    clear hb1
    go_wp2_with fail
    go_ret2
    exact ⟨rfl, HB.out⟩
  | some p =>
    obtain ⟨n, xs⟩ := p
    obtain ⟨hk, _, ha, _⟩ := aspOf_some ho
    obtain ⟨hb60, htx, hwf, _⟩ := advOf_some ha
    have hlen : (txts xs).length ≤ 400 := by rw [← htx]; simp; omega
    have hbt : b = txtOf (txts xs) := by
      apply ByteArray.ext
      apply Array.ext'
      rw [htx]; rfl
    have HP := Lib.hid (fun w' => lp_any xs w' hlen hwf)
    rw [← hbt] at HP
    rw [ho] at HA
    have har := around_is hk
    clear ho hc hb hb60 htx hwf hlen ha hk hbt
    dsimp only
    unfold pofN
    by_cases hn : n = 2
    · subst hn
      obtain ⟨a2, b2⟩ := word_is k _ _ har
      simp only [beq_self_eq_true] at a2 b2
      rw [if_pos rfl]
      clear har
      go_enter Tryz.func23, Tryz.ntmps23
      go_wp2_with fail
      refine (HA.out _).mono ?_
      rintro e w1 ⟨rfl, hb1⟩
      have HB := Lib.hid (((Below.refl _ w).alloc (Nat.le_refl _) _).trans (hb1.mono (by simp)))
      have HC := Lib.hid ((hb1.block _ (by simp)).trans (heap_alloc_new w (Obj.cells #[.string k, .string c, .string b] 32)))
      have q0 : w1.cell? ⟨w.heap.size, 0, none⟩ = some (.string k) := by rw [Lib.cell_of_heap HC.out]; rfl
      have q2 : w1.cell? ⟨w.heap.size, 2, none⟩ = some (.string b) := by rw [Lib.cell_of_heap HC.out]; rfl
      clear hb1
      go_wp2_with fail
      refine (HP.out _).mono ?_
      rintro e w2 ⟨rfl, hb2⟩
      have HB2 := Lib.hid (HB.out.trans (hb2.mono HB.out.size))
      clear hb2
      go_wp2_with fail
      go_ret2
      exact ⟨rfl, HB2.out⟩
    · have hnb : (n == 2) = false := by rw [beq_eq_false_iff_ne]; exact hn
      rw [hnb] at har
      obtain ⟨a2, b2⟩ := word_is k _ _ har
      rw [if_neg hn]
      clear har
      go_enter Tryz.func23, Tryz.ntmps23
      go_wp2_with fail
      refine (HA.out _).mono ?_
      rintro e w1 ⟨rfl, hb1⟩
      have HB := Lib.hid (((Below.refl _ w).alloc (Nat.le_refl _) _).trans (hb1.mono (by simp)))
      have HC := Lib.hid ((hb1.block _ (by simp)).trans (heap_alloc_new w (Obj.cells #[.string k, .string c, .string b] 32)))
      have q0 : w1.cell? ⟨w.heap.size, 0, none⟩ = some (.string k) := by rw [Lib.cell_of_heap HC.out]; rfl
      clear hb1
      go_wp2_with fail
      go_ret2
      exact ⟨rfl, HB.out⟩
end Go.Proofs.YtcahnffgpmanpaaGreatDoor
