/- adviceKindOf, fault, permits: the kind that a word says; what is wrong with deeds. Condition: the errors lie where start-up laid them. -/
import Derived.Test.YtkdnbdgpcgookaaGreatDoorErr
import Derived.Test.YtkdnbdgpcgookaaGreatDoorDdc
import Derived.Test.YtkdnbdgpcgookaaGreatDoorAsp
namespace Go.Proofs.YtkdnbdgpcgookaaGreatDoor
open Go.RowKit Gram

theorem word_is (k : ByteArray) (l : List UInt8) (b : Bool) (h : (k.toList == l) = b) : (k.toList == l) = b ∧ (l == k.toList) = b := by
  refine ⟨h, ?_⟩
  rw [← h, Bool.eq_iff_iff]
  simp only [beq_iff_eq]
  exact eq_comm

set_option maxHeartbeats 1000000 in
set_option maxRecDepth 100000 in
theorem kind_any (k : ByteArray) (w : World) (ek ec eb el ep : Addr) (h : Errs w ek ec eb el ep) :
    Calls Tryz.prog 56 #[.string k] w fun e w' => e = .returned (match kindOf k with
      | some n => .tuple #[.int .i64 n, .nilIface]
      | none => .tuple #[.int .i64 0, errV ek]) ∧ Below w.heap.size w w' := by
  have he := fun o => cell_stays (g := 2) ((Below.refl w.heap.size w).alloc (Nat.le_refl _) o) h.kind
  clear h
  unfold errV at *
  unfold kindOf
  cases h0 : isBefore k with
  | true =>
    obtain ⟨a0, b0⟩ := word_is k _ _ h0
    clear h0
    go_enter Tryz.func56, Tryz.ntmps56
    go_wp2
    refine wp_loop_rounds 1 ?_
    rw [rounds_succ]
    go_wp2
    go_ret2
    exact ⟨rfl, (Below.refl _ _).alloc (Nat.le_refl _) _⟩
  | false =>
    obtain ⟨a0, b0⟩ := word_is k _ _ h0
    clear h0
    cases h1 : isAfter k with
    | true =>
      obtain ⟨a1, b1⟩ := word_is k _ _ h1
      clear h1
      go_enter Tryz.func56, Tryz.ntmps56
      go_wp2
      refine wp_loop_rounds 2 ?_
      rw [rounds_succ]
      go_wp2
      rw [rounds_succ]
      go_wp2
      go_ret2
      exact ⟨rfl, (Below.refl _ _).alloc (Nat.le_refl _) _⟩
    | false =>
      obtain ⟨a1, b1⟩ := word_is k _ _ h1
      clear h1
      cases h2 : isAround k with
      | true =>
        obtain ⟨a2, b2⟩ := word_is k _ _ h2
        clear h2
        go_enter Tryz.func56, Tryz.ntmps56
        go_wp2
        refine wp_loop_rounds 3 ?_
        rw [rounds_succ]
        go_wp2
        rw [rounds_succ]
        go_wp2
        rw [rounds_succ]
        go_wp2
        go_ret2
        exact ⟨rfl, (Below.refl _ _).alloc (Nat.le_refl _) _⟩
      | false =>
        obtain ⟨a2, b2⟩ := word_is k _ _ h2
        clear h2
        go_enter Tryz.func56, Tryz.ntmps56
        go_wp2
        refine wp_loop_rounds 4 ?_
        rw [rounds_succ]
        go_wp2
        rw [rounds_succ]
        go_wp2
        rw [rounds_succ]
        go_wp2
        rw [rounds_succ]
        go_wp2
        go_quiet (fail)
        go_wp2
        go_ret2
        exact ⟨rfl, ((Below.refl _ _).alloc (Nat.le_refl _) _).trans ⟨rfl, rfl, rfl, Nat.le_refl _, fun _ _ => rfl⟩⟩
end Go.Proofs.YtkdnbdgpcgookaaGreatDoor
