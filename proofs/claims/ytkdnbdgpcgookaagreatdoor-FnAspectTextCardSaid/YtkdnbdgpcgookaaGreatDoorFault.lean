/- fault and permits: what is wrong with deeds, and whether a kind of advice permits it. Condition: the errors lie where start-up laid them. -/
import Derived.Test.YtkdnbdgpcgookaaGreatDoorKind
namespace Go.Proofs.YtkdnbdgpcgookaaGreatDoor
open Go.RowKit Gram

/-- what is wrong with deeds -/
def faultV (el ep : Addr) (d : Dd) : Value := if d.call = true then errV el else if 0 < d.most then errV ep else .nilIface

set_option maxHeartbeats 1000000 in
set_option maxRecDepth 100000 in
theorem fault_any (d : Dd) (w : World) (ek ec eb el ep : Addr) (h : Errs w ek ec eb el ep) (hm : d.most ≤ 1000) :
    Calls Tryz.prog 59 #[ddV d] w fun e w' => e = .returned (faultV el ep d) ∧ Below w.heap.size w w' := by
  have h1 := fun o => cell_stays (g := 3) ((Below.refl w.heap.size w).alloc (Nat.le_refl _) o) h.calls
  have h2 := fun o => cell_stays (g := 4) ((Below.refl w.heap.size w).alloc (Nat.le_refl _) o) h.proc
  have h3 := h.calls
  have h4 := h.proc
  clear h
  obtain ⟨le, mo, ch, pr, ca⟩ := d
  simp only at hm
  unfold faultV errV ddV ddC at *
  cases ca with
  | true =>
    go_enter Tryz.func59, Tryz.ntmps59
    go_wp2_with fail
    go_ret
    exact ⟨rfl, (Below.refl _ _).alloc (Nat.le_refl _) _⟩
  | false =>
    by_cases h0 : 0 < mo
    · go_enter Tryz.func59, Tryz.ntmps59
      go_wp2_with fail
      go_ret
      exact ⟨by simp, (Below.refl _ _).alloc (Nat.le_refl _) _⟩
    · have h5 : mo = 0 := by omega
      subst h5
      go_enter Tryz.func59, Tryz.ntmps59
      go_wp2_with fail
      go_ret
      exact ⟨by simp, (Below.refl _ _).alloc (Nat.le_refl _) _⟩

set_option maxHeartbeats 1000000 in
set_option maxRecDepth 100000 in
theorem permits_no (n : Nat) (x : Addr) (w : World) (hn : ((n : Int) == 2) = false) :
    Calls Tryz.prog 60 #[.int .i64 n, errV x] w fun e w' => e = .returned (.bool false) ∧ Below w.heap.size w w' := by
  unfold errV
  go_enter Tryz.func60, Tryz.ntmps60
  go_wp2_with fail
  go_ret
  exact ⟨rfl, Below.refl _ _⟩

set_option maxHeartbeats 1000000 in
set_option maxRecDepth 100000 in
theorem permits_around (x : Addr) (b : Bool) (w : World) (ek ec eb el ep : Addr) (h : Errs w ek ec eb el ep) (hx : x = ep ∧ b = true ∨ x = el ∧ b = false) :
    Calls Tryz.prog 60 #[.int .i64 2, errV x] w fun e w' => e = .returned (.bool b) ∧ Below w.heap.size w w' := by
  have h2 := h.proc
  have HI := Lib.hid (show Calls Tryz.prog 85 #[errV x, errV ep] w fun e w' => e = .returned (.bool b) ∧ w = w' by
    rcases hx with ⟨rfl, rfl⟩ | ⟨rfl, rfl⟩
    · exact is_same _ _
    · obtain ⟨c1, t1, h1⟩ := h.hl
      obtain ⟨c2, t2, h3⟩ := h.hp
      exact is_other _ _ _ _ _ _ _ h.ne h1 h3)
  clear h hx
  unfold errV at *
  go_enter Tryz.func60, Tryz.ntmps60
  go_wp2_with (go_at_call 85; refine HI.out.mono ?_; rintro e w' ⟨rfl, rfl⟩)
  all_goals
    go_ret
    exact ⟨rfl, Below.refl _ _⟩

theorem permits_any (n : Nat) (d : Dd) (x : Addr) (w : World) (ek ec eb el ep : Addr) (h : Errs w ek ec eb el ep) (hf : faultV el ep d = errV x) :
    Calls Tryz.prog 60 #[.int .i64 n, errV x] w fun e w' => e = .returned (.bool (n == 2 && !d.call)) ∧ Below w.heap.size w w' := by
  by_cases hn : n = 2
  · subst hn
    refine permits_around x _ w ek ec eb el ep h ?_
    unfold faultV errV at hf
    cases hc : d.call with
    | true =>
      rw [if_pos hc] at hf
      injection hf with _ hf
      injection hf with hf
      injection hf with hf
      exact .inr ⟨hf.symm, rfl⟩
    | false =>
      rw [if_neg (by rw [hc]; decide)] at hf
      split at hf
      · injection hf with _ hf
        injection hf with hf
        injection hf with hf
        exact .inl ⟨hf.symm, rfl⟩
      · cases hf
  · refine (permits_no n x w (by rw [beq_eq_false_iff_ne]; omega)).mono ?_
    rintro e w' ⟨rfl, hb⟩
    refine ⟨?_, hb⟩
    have : (n == 2) = false := by rw [beq_eq_false_iff_ne]; exact hn
    rw [this]; rfl
end Go.Proofs.YtkdnbdgpcgookaaGreatDoor
