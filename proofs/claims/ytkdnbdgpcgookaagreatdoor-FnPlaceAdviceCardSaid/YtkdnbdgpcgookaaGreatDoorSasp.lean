/- The model's l4Body and AspectValid: whether an aspect is valid, as the plain aspOf says. Condition: texts of at most 2^30 bytes. -/
import Derived.Test.YtkdnbdgpcgookaaGreatDoorAsp
import Derived.Test.YtkdnbdgpcgookaaGreatDoorHx
import Derived.Test.YtkdnbdgpcgookaaGreatDoorFx
namespace Go.Proofs.YtkdnbdgpcgookaaGreatDoor
open Go.RowKit Gram

/-- the model's word on a body of advice -/
def bodyB (k b : ByteArray) : Bool := (pA b.data.toList).isSome && (decide (b.size ≤ 60) && (!b.data.toList.contains 67 && (isAround k || !b.data.toList.contains 75)))

set_option maxHeartbeats 2000000 in
set_option maxRecDepth 100000 in
theorem l4body_any (k b : ByteArray) (w : World) (hb : b.size ≤ 1073741824) :
    Calls Tryz.prog 31 #[.string k, .string b] w fun e w' => e = .returned (.bool (bodyB k b)) ∧ Below w.heap.size w w' := by
  have HS := Lib.hid (split_any b w hb)
  have HC := Lib.hid (fun w => has_any b 67 (by omega) w)
  have HK := Lib.hid (fun w => has_any b 75 (by omega) w)
  obtain ⟨q, hq⟩ : ∃ q, q = bodyB k b := ⟨_, rfl⟩
  rw [← hq]
  have HB := Lib.hid (show q = ((pA b.data.toList).isSome && (decide (b.size ≤ 60) && (!b.data.toList.contains 67 && (isAround k || !b.data.toList.contains 75)))) from hq)
  clear hq
  generalize b.data.toList.contains 67 = c67 at *
  generalize b.data.toList.contains 75 = c75 at *
  go_enter Tryz.func31, Tryz.ntmps31
  go_wp2_with fail
  refine HS.out.mono ?_
  rintro e w1 ⟨v, ok, xs, rfl, hr, _, hb1⟩
  have HW := Lib.hid hb1
  have HR := Lib.hid hr
  clear hr hb1
  have ho : (pA b.data.toList).isSome = ok := by
    rw [← from_zero]
    rcases HR.out.out with ⟨h1, h2, _⟩ | ⟨h1, h2⟩
    · rw [h2, h1]; rfl
    · rw [h2, h1]; rfl
  have HO := Lib.hid ho
  clear ho
  cases ok with
  | false =>
    go_wp2_with fail
    go_ret
    exact ⟨ret_bool (by rw [HB.out, HO.out]; rfl), HW.out⟩
  | true =>
    by_cases hs : b.size ≤ 60
    · have hd : decide ((b.size : Int) ≤ 60) = true := by simp; omega
      cases c67 with
      | true =>
        go_wp2_with (go_at_call 63; refine (HC.out _).mono ?_; rintro e w2 ⟨rfl, rfl⟩)
        go_ret
        exact ⟨ret_bool (by rw [HB.out, HO.out, decide_eq_true hs]; rfl), HW.out⟩
      | false =>
        cases ha : isAround k with
        | true =>
          obtain ⟨a2, b2⟩ := word_is k _ _ ha
          rw [ha] at HB
          clear ha
          go_wp2_with (go_at_call 63; refine (HC.out _).mono ?_; rintro e w2 ⟨rfl, rfl⟩)
          go_ret
          exact ⟨ret_bool (by rw [HB.out, HO.out, decide_eq_true hs]; rfl), HW.out⟩
        | false =>
          obtain ⟨a2, b2⟩ := word_is k _ _ ha
          rw [ha] at HB
          clear ha
          go_wp2_with (go_at_call 63; first | (refine (HC.out _).mono ?_; rintro e w2 ⟨rfl, rfl⟩) | (refine (HK.out _).mono ?_; rintro e w2 ⟨rfl, rfl⟩))
          go_ret
          exact ⟨ret_bool (by rw [HB.out, HO.out, decide_eq_true hs]; rfl), HW.out⟩
    · have hd : decide ((b.size : Int) ≤ 60) = false := by simp; omega
      go_wp2_with fail
      go_ret
      exact ⟨ret_bool (by rw [HB.out, HO.out, decide_eq_false hs]; rfl), HW.out⟩

/-- the two words are one -/
theorem bodyB_is {k b : ByteArray} {n : Nat} (hk : kindOf k = some n) : bodyB k b = ((advOf b).any fun xs => mayStand n xs) := by
  have ha : isAround k = (n == 2) := by
    rcases kindOf_cases hk with ⟨rfl, h⟩ | ⟨rfl, h, _⟩ | ⟨rfl, h, _⟩
    · have e := eq_of_beq h
      rw [isAround, e]; rfl
    · have e := eq_of_beq h
      rw [isAround, e]; rfl
    · rw [h]; rfl
  by_cases hs : b.size ≤ 60
  · cases hp : pA b.data.toList with
    | none => simp [bodyB, hp, advOf]
    | some xs =>
      have h1 : advOf b = some xs := by rw [advOf, if_pos hs, hp]
      obtain ⟨_, _, _, ht⟩ := advOf_some h1
      rw [h1, Option.any_some, mayStand_says ht, bodyB, hp, decide_eq_true hs, ha]
      rfl
  · rw [bodyB, decide_eq_false hs, advOf, if_neg hs]
    simp

theorem asp_isSome (k c b : ByteArray) : (aspOf k c b).isSome = match kindOf k with
    | some _ => (cutOf c).isSome && bodyB k b
    | none => false := by
  cases hk : kindOf k with
  | none => simp only [aspOf, hk]; rfl
  | some n =>
    rw [bodyB_is hk]
    cases hc : (cutOf c).isSome with
    | false => simp only [aspOf, hk, hc]; rfl
    | true =>
      cases ha : advOf b with
      | none => simp only [aspOf, hk, hc, ha]; rfl
      | some xs =>
        rw [aspOf_is hk hc ha]
        by_cases hm : mayStand n xs = true
        · rw [if_pos hm]; simp [hm]
        · rw [if_neg hm]; simp [hm]

set_option maxHeartbeats 2000000 in
set_option maxRecDepth 100000 in
theorem spec_asp (k c b : ByteArray) (w : World) (hc : c.size ≤ 1073741824) (hb : b.size ≤ 1073741824) :
    Calls Tryz.prog 10 #[.agg #[.string k, .string c, .string b]] w fun e w' => e = .returned (.bool (aspOf k c b).isSome) ∧ Below w.heap.size w w' := by
  have HC := Lib.hid (fun w => spec_cval c w hc)
  have HB := Lib.hid (fun w => l4body_any k b w hb)
  obtain ⟨q, hq⟩ : ∃ q, q = (aspOf k c b).isSome := ⟨_, rfl⟩
  rw [← hq]
  rw [asp_isSome] at hq
  unfold kindOf at hq
  cases h0 : isBefore k with
  | true =>
    obtain ⟨a0, b0⟩ := word_is k _ _ h0
    rw [if_pos h0] at hq
    clear h0
    have HQ := Lib.hid hq
    clear hq
    generalize bodyB k b = bb at *
    generalize (cutOf c).isSome = cc at *
    go_enter Tryz.func10, Tryz.ntmps10
    go_wp2_with fail
    refine (HC.out _).mono ?_
    rintro e w1 ⟨rfl, rfl⟩
    cases cc with
    | false =>
      go_wp2_with fail
      go_ret
      exact ⟨ret_bool (by rw [HQ.out]; rfl), (Below.refl _ _).alloc (Nat.le_refl _) _⟩
    | true =>
      go_wp2_with fail
      refine (HB.out _).mono ?_
      rintro e w2 ⟨rfl, hb2⟩
      have HW := Lib.hid (((Below.refl _ w).alloc (Nat.le_refl _) _).trans (hb2.mono (by simp)))
      clear hb2
      go_wp2_with fail
      go_ret
      exact ⟨ret_bool (by rw [HQ.out]; rfl), HW.out⟩
  | false =>
    obtain ⟨a0, b0⟩ := word_is k _ _ h0
    rw [if_neg (by rw [h0]; decide)] at hq
    clear h0
    cases h1 : isAfter k with
    | true =>
      obtain ⟨a1, b1⟩ := word_is k _ _ h1
      rw [if_pos h1] at hq
      clear h1
      have HQ := Lib.hid hq
      clear hq
      generalize bodyB k b = bb at *
      generalize (cutOf c).isSome = cc at *
      go_enter Tryz.func10, Tryz.ntmps10
      go_wp2_with fail
      refine (HC.out _).mono ?_
      rintro e w1 ⟨rfl, rfl⟩
      cases cc with
      | false =>
        go_wp2_with fail
        go_ret
        exact ⟨ret_bool (by rw [HQ.out]; rfl), (Below.refl _ _).alloc (Nat.le_refl _) _⟩
      | true =>
        go_wp2_with fail
        refine (HB.out _).mono ?_
        rintro e w2 ⟨rfl, hb2⟩
        have HW := Lib.hid (((Below.refl _ w).alloc (Nat.le_refl _) _).trans (hb2.mono (by simp)))
        clear hb2
        go_wp2_with fail
        go_ret
        exact ⟨ret_bool (by rw [HQ.out]; rfl), HW.out⟩
    | false =>
      obtain ⟨a1, b1⟩ := word_is k _ _ h1
      rw [if_neg (by rw [h1]; decide)] at hq
      clear h1
      cases h2 : isAround k with
      | true =>
        obtain ⟨a2, b2⟩ := word_is k _ _ h2
        rw [if_pos h2] at hq
        clear h2
        have HQ := Lib.hid hq
        clear hq
        generalize bodyB k b = bb at *
        generalize (cutOf c).isSome = cc at *
        go_enter Tryz.func10, Tryz.ntmps10
        go_wp2_with fail
        refine (HC.out _).mono ?_
        rintro e w1 ⟨rfl, rfl⟩
        cases cc with
        | false =>
          go_wp2_with fail
          go_ret
          exact ⟨ret_bool (by rw [HQ.out]; rfl), (Below.refl _ _).alloc (Nat.le_refl _) _⟩
        | true =>
          go_wp2_with fail
          refine (HB.out _).mono ?_
          rintro e w2 ⟨rfl, hb2⟩
          have HW := Lib.hid (((Below.refl _ w).alloc (Nat.le_refl _) _).trans (hb2.mono (by simp)))
          clear hb2
          go_wp2_with fail
          go_ret
          exact ⟨ret_bool (by rw [HQ.out]; rfl), HW.out⟩
      | false =>
        obtain ⟨a2, b2⟩ := word_is k _ _ h2
        rw [if_neg (by rw [h2]; decide)] at hq
        clear h2
        have HQ := Lib.hid hq
        clear hq
        go_enter Tryz.func10, Tryz.ntmps10
        go_wp2_with fail
        go_ret
        exact ⟨ret_bool (by rw [HQ.out]), (Below.refl _ _).alloc (Nat.le_refl _) _⟩
end Go.Proofs.YtkdnbdgpcgookaaGreatDoor
