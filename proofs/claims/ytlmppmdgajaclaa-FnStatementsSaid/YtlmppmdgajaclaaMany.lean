/- The model's l13Many: a text as often as said. Condition: at most 100000 bytes. -/
import Derived.Test.YtlmppmdgajaclaaDrawS
import Derived.Test.YtlmppmdgajaclaaTxt
namespace Go.Proofs.Ytlmppmdgajaclaa
open Go.RowKit

theorem many_odd (x y j N : Nat) (h : x * j + y = N) (ho : j % 2 = 1) : (x + x) * (j / 2) + (y + x) = N ∧ x ≤ N ∧ y + x ≤ N := by
  obtain ⟨t, rfl⟩ : ∃ t, j = 2 * t + 1 := ⟨j / 2, by omega⟩
  have e : (2 * t + 1) / 2 = t := by omega
  rw [e]
  have e1 : x * (2 * t + 1) = 2 * (x * t) + x := by rw [Nat.mul_add, Nat.mul_one, Nat.mul_left_comm]
  have e2 : (x + x) * t = 2 * (x * t) := by rw [Nat.add_mul]; omega
  omega
theorem many_even (x y j N : Nat) (h : x * j + y = N) (h0 : 0 < j) (ho : j % 2 = 0) : (x + x) * (j / 2) + y = N ∧ x ≤ N ∧ y ≤ N := by
  obtain ⟨t, rfl⟩ : ∃ t, j = 2 * t := ⟨j / 2, by omega⟩
  have e : 2 * t / 2 = t := by omega
  rw [e]
  have e1 : x * (2 * t) = 2 * (x * t) := Nat.mul_left_comm x 2 t
  have e2 : (x + x) * t = 2 * (x * t) := by rw [Nat.add_mul]; omega
  have e3 : x ≤ x * t := Nat.le_mul_of_pos_right x (by omega)
  omega

set_option maxHeartbeats 400000 in
set_option maxRecDepth 100000 in
theorem many_any (s0 : ByteArray) (n0 N : Nat) (w : World) (hN : s0.size * n0 = N) (hNb : N ≤ 100000) (hs0 : s0.size ≤ N) (hn0 : n0 ≤ 100000) :
    Calls Try.prog 14 #[.string s0, .int .i64 n0] w fun e w' => (∃ s : ByteArray, e = .returned (.string s) ∧ s.size = N) ∧ w = w' := by
  go_enter Try.func14, Try.ntmps14
  go_wp2_with fail
  go_loop [0, 1, 5] (fun s n o => ∃ (x y : ByteArray) (j : Nat), s = .string x ∧ n = .int .i64 j ∧ o = .string y ∧ Hid (x.size * j + y.size = N) ∧ x.size ≤ 2 * N ∧ j ≤ n0 ∧ y.size ≤ N) (fun _ n _ => (intOf n).toNat)
  case atStart => exact ⟨s0, ⟨#[]⟩, n0, rfl, rfl, rfl, by show _ = _; rw [hN]; rfl, by omega, Nat.le_refl _, Nat.zero_le _⟩
  case round =>
    obtain ⟨x, y, j, rfl, rfl, rfl, hI, hx, hj, hy⟩ := hrel
    by_cases h0 : 0 < j
    · have e1 := str_sum y x (by omega)
      have e2 := str_sum x x (by omega)
      by_cases ho : j % 2 = 1
      · have hob : ((j : Int) % 2 == 1) = true := by rw [beq_iff_eq]; omega
        have hm := Lib.hid (many_odd _ _ _ _ hI.out ho)
        clear ho
        go_wp2_with fail
        obtain ⟨m1, m2, m3⟩ := hm.out
        exact ⟨⟨x ++ x, y ++ x, j / 2, rfl, by go_num, rfl, by show _ = _; simpa using m1, by simp; omega, by omega, by simpa using m3⟩, by simp [intOf]; omega⟩
      · have hob : ((j : Int) % 2 == 1) = false := by rw [beq_eq_false_iff_ne]; omega
        have hm := Lib.hid (many_even _ _ _ _ hI.out h0 (by omega))
        clear ho
        go_wp2_with fail
        obtain ⟨m1, m2, m3⟩ := hm.out
        exact ⟨⟨x ++ x, y, j / 2, rfl, by go_num, rfl, by show _ = _; simpa using m1, by simp; omega, by omega, m3⟩, by simp [intOf]; omega⟩
    · go_wp2_with fail
      go_ret
      have : j = 0 := by omega
      subst this
      exact ⟨⟨y, rfl, by have := hI.out; omega⟩, rfl⟩
end Go.Proofs.Ytlmppmdgajaclaa
