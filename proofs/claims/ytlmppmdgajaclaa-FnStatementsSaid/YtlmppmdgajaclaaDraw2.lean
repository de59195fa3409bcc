/- The model's draws of bodies: whatever the source holds, they return, and their texts are short. Conditions: counts up to 90000, depth at most 2. -/
import Derived.Test.YtlmppmdgajaclaaDrawS
import Derived.Test.YtlmppmdgajaclaaGrow
namespace Go.Proofs.Ytlmppmdgajaclaa
open Go.RowKit

set_option maxHeartbeats 400000 in
set_option maxRecDepth 100000 in
theorem dec_digit (d : Int) (h0 : 0 ≤ d) (h9 : d ≤ 9) (w : World) :
    Calls Try.prog 26 #[.int .i64 d] w fun e w' => (∃ s : ByteArray, e = .returned (.string s) ∧ s.size = 1) ∧ Below w.heap.size w w' := by
  obtain ⟨k, rfl⟩ := Int.eq_ofNat_of_zero_le h0
  have hk9 : k ≤ 9 := by omega
  obtain ⟨c, hcd⟩ : ∃ c : UInt8, c = UInt8.ofNat (48 + k) := ⟨_, rfl⟩
  have hs := str1 c w w.heap.size rfl (48 + (k : Int)) (by rw [hcd]; simp; omega)
  have e1 := str_add ⟨#[c]⟩ ⟨#[]⟩ (by have : (⟨#[c]⟩ : ByteArray).size = 1 := rfl; have : (⟨#[]⟩ : ByteArray).size = 0 := rfl; omega)
  clear hcd
  go_enter Try.func26, Try.ntmps26
  go_wp2_with fail
  refine wp_loop_rounds 1 ?_
  rw [rounds_succ]
  go_wp2_with fail
  go_ret
  exact ⟨⟨_, rfl, rfl⟩, (Below.refl _ _).alloc (Nat.le_refl _) _⟩
end Go.Proofs.Ytlmppmdgajaclaa
