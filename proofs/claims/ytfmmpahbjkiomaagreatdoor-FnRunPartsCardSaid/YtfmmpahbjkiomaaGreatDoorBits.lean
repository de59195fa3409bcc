/- oneLetter and has of sets of letters. Condition: letters. -/
import Derived.Test.YtfmmpahbjkiomaaGreatDoorSets
import Derived.Shelf.Abstract
namespace Go.Proofs.YtfmmpahbjkiomaaGreatDoor
open Go.RowKit Gram

set_option maxHeartbeats 400000 in
theorem one_letter (c : UInt8) (h : isLet c = true) (w : World) :
    Calls Tryz.prog 42 #[.int .u8 c.toNat] w fun e w' => e = .returned (.int .u32 (bitOf c)) ∧ w = w' := by
  obtain ⟨h1, h2⟩ := let_rng h
  have hlt := bit_lt h
  have e1 : IntKind.u8.wrap ((c.toNat : Int) - 97) = ((c.toNat - 97 : Nat) : Int) := by rw [IntWalk.u8_in _ (by omega)]; omega
  have HB := Lib.hid (by
    have h3 : ((1 : Int) * 2 ^ (c.toNat - 97)) = (bitOf c : Int) := by rw [bitOf]; simp
    rw [Int.toNat_natCast, h3, IntWalk.u32_in _ (by omega)] : IntKind.u32.wrap (1 * 2 ^ (((c.toNat - 97 : Nat) : Int)).toNat) = (bitOf c : Int))
  go_enter Tryz.func42, Tryz.ntmps42
  go_wp2_with fail
  go_ret
  refine ⟨ret_int ?_, rfl⟩
  have h3 : ((2 : Int) ^ (c.toNat - 97)) = (bitOf c : Int) := by rw [bitOf]; simp
  rw [h3]; omega

theorem and_bit (m i : Nat) : m &&& 2 ^ i = if m.testBit i = true then 2 ^ i else 0 := by
  apply Nat.eq_of_testBit_eq
  intro j
  rw [Nat.testBit_and, Nat.testBit_two_pow]
  by_cases h : i = j
  · subst h
    cases hb : m.testBit i <;> simp
  · cases hb : m.testBit i <;> simp [h]
theorem has_bit (l : List UInt8) (c : UInt8) (hl : lets l) (hc : isLet c = true) : (bits .and .u32 (setOf l : Int) (bitOf c : Int) != 0) = l.contains c := by
  have h1 := setOf_lt l hl
  have h2 := bit_lt hc
  rw [and32 _ _ (by omega) (by omega), bitOf, and_bit, set_has l c hl hc]
  cases l.contains c with
  | true =>
    have := Nat.two_pow_pos (c.toNat - 97)
    rw [if_pos rfl, bne_iff_ne]
    omega
  | false => simp

set_option maxHeartbeats 400000 in
theorem has_set (l : List UInt8) (c : UInt8) (hl : lets l) (hc : isLet c = true) (w : World) :
    Calls Tryz.prog 29 #[.int .u32 (setOf l), .int .u8 c.toNat] w fun e w' => e = .returned (.bool (l.contains c)) ∧ w = w' := by
  have HO := Lib.hid (fun w => one_letter c hc w)
  have HB := Lib.hid (has_bit l c hl hc)
  generalize l.contains c = b at *
  go_enter Tryz.func29, Tryz.ntmps29
  go_wp2_with fail
  refine (HO.out _).mono ?_
  rintro e w2 ⟨rfl, rfl⟩
  have hb := HB.out
  go_wp2_with fail
  go_ret
  exact ⟨rfl, rfl⟩
end Go.Proofs.YtfmmpahbjkiomaaGreatDoor
