/- The model's AroundOf, as the plain ardA says. Condition: texts of at most 2^30 bytes less one. -/
import Derived.Test.YtpahbkjogljndaaGreatDoorSasp
import Derived.Test.YtpahbkjogljndaaGreatDoorArp
namespace Go.Proofs.YtpahbkjogljndaaGreatDoor
open Go.RowKit Gram

set_option maxHeartbeats 4000000 in
set_option maxRecDepth 100000 in
theorem sard_road (k c b B : ByteArray) (bef aft : Bool) (hbef : isBefore k = bef) (haft : isAfter k = aft) (hB : B = bodyA bef aft b) (w : World) (hc : c.size ≤ 1073741824) (hb : b.size ≤ 1073741823) :
    Calls Tryz.prog 20 #[aspV k c b] w fun e w' => e = .returned (parV (if (aspOf k c b).isSome = true then (if (aspOf aroundS c B).isSome = true then some (aroundS, c, B) else none) else none)) ∧ Below w.heap.size w w' := by
  have hBs : B.size ≤ 1073741824 := by
    have z : (⟨#[75]⟩ : ByteArray).size = 1 := rfl
    rw [hB]; unfold bodyA; split
    · rw [ByteArray.size_append]; omega
    · split
      · rw [ByteArray.size_append]; omega
      · omega
  have HA := Lib.hid (fun w' => spec_asp k c b w' hc (by omega))
  have HO := Lib.hid (fun w' => spec_asp aroundS c B w' hc hBs)
  have e1 := str_sum b ⟨#[75]⟩ (by have z : (⟨#[75]⟩ : ByteArray).size = 1 := rfl; omega)
  have e2 := str_sum ⟨#[75]⟩ b (by have z : (⟨#[75]⟩ : ByteArray).size = 1 := rfl; omega)
  obtain ⟨w2, hw2⟩ : ∃ w2, w2 = ((w.alloc (.cells #[.string k, .string c, .string b] 34)).alloc (.cells #[.string ⟨#[]⟩, .string ⟨#[]⟩, .string ⟨#[]⟩] 34)).alloc (.cells #[.string aroundS, .string c, .string B] 34) := ⟨_, rfl⟩
  have Z1 : (w.alloc (.cells #[.string k, .string c, .string b] 34)).heap.size = w.heap.size + 1 := alloc_size' _ _
  have Z2 : ((w.alloc (.cells #[.string k, .string c, .string b] 34)).alloc (.cells #[.string ⟨#[]⟩, .string ⟨#[]⟩, .string ⟨#[]⟩] 34)).heap.size = w.heap.size + 1 + 1 := by rw [alloc_size', Z1]
  have HR2 := Lib.hid (show Cell3 w2 (w.heap.size + 1) (.string ⟨#[]⟩) (.string ⟨#[]⟩) (.string ⟨#[]⟩) by
    rw [hw2, ← Z1]; exact (Cell3.new _ _ _ _).later ((Below.refl _ _).alloc (Nat.le_refl _) _))
  have HN2 := Lib.hid (show Cell3 w2 (w.heap.size + 1 + 1) (.string aroundS) (.string c) (.string B) by rw [hw2, ← Z2]; exact Cell3.new _ _ _ _)
  have HW2 := Lib.hid (show Below w.heap.size w w2 by rw [hw2]; exact (((Below.refl _ w).alloc (Nat.le_refl _) _).alloc (by simp) _).alloc (by simp; omega) _)
  have HE := Lib.hid hw2
  clear hc hb hBs Z1 Z2 hw2
  obtain ⟨rv, hrv⟩ : ∃ rv, rv = parV (if (aspOf k c b).isSome = true then (if (aspOf aroundS c B).isSome = true then some (aroundS, c, B) else none) else none) := ⟨_, rfl⟩
  rw [← hrv]
  have HV := Lib.hid hrv
  clear hrv
  unfold parV at HV
  unfold aspV aroundS at *
  obtain ⟨a0, b0⟩ := word_is k _ _ hbef
  obtain ⟨a1, b1⟩ := word_is k _ _ haft
  clear hbef haft
  generalize (aspOf k c b).isSome = p at *
  generalize (aspOf ⟨#[97, 114, 111, 117, 110, 100]⟩ c B).isSome = q at *
  have h3 : (bef = true ∧ B = b ++ ⟨#[75]⟩) ∨ (bef = false ∧ aft = true ∧ B = ⟨#[75]⟩ ++ b) ∨ (bef = false ∧ aft = false ∧ B = b) := by
    cases bef with
    | true => exact .inl ⟨rfl, hB⟩
    | false => cases aft with
      | true => exact .inr (.inl ⟨rfl, rfl, hB⟩)
      | false => exact .inr (.inr ⟨rfl, rfl, hB⟩)
  clear hB
  rcases h3 with ⟨rfl, rfl⟩ | ⟨rfl, rfl, rfl⟩ | ⟨rfl, rfl, rfl⟩
  all_goals
    go_enter Tryz.func20, Tryz.ntmps20
    go_wp2_with fail
    rw [← HE.out]
    refine (HA.out _).mono ?_
    rintro e w3 ⟨rfl, hb3⟩
    have HR3 := Lib.hid (HR2.out.later hb3)
    have HN3 := Lib.hid (HN2.out.later hb3)
    have HW3 := Lib.hid (HW2.out.trans (hb3.mono HW2.out.size))
    clear hb3
    cases p with
    | false =>
      have HV0 := Lib.hid (show rv = .tuple #[.agg #[.string ⟨#[]⟩, .string ⟨#[]⟩, .string ⟨#[]⟩], .bool false] from HV.out)
      obtain ⟨q0, q1, q2, f0, f1, f2⟩ := HR3.out.read
      go_wp2_with fail
      obtain ⟨r0, r1, r2, _⟩ := (HR3.out.put (.string ⟨#[]⟩) (.string ⟨#[]⟩) (.string ⟨#[]⟩)).read
      refine bodyPost_ret (v := .tuple #[.agg #[.string ⟨#[]⟩, .string ⟨#[]⟩, .string ⟨#[]⟩], .bool false]) ?_ rfl ⟨by rw [HV0.out], ((HW3.out.setCell (by simp) _).setCell (by simp) _).setCell (by simp) _⟩
      simp [results, Tryz.results20, go_sem, r0, r1, r2]
    | true =>
      obtain ⟨q0, q1, q2, f0, f1, f2⟩ := HN3.out.read
      go_wp2_with fail
      refine (HO.out _).mono ?_
      rintro e w4 ⟨rfl, hb4⟩
      have HR4 := Lib.hid (HR3.out.later hb4)
      have HN4 := Lib.hid (HN3.out.later hb4)
      have HW4 := Lib.hid (HW3.out.trans (hb4.mono HW3.out.size))
      clear hb4 q0 q1 q2 f0 f1 f2
      obtain ⟨q0, q1, q2, f0, f1, f2⟩ := HN4.out.read
      obtain ⟨x0, x1, x2, y0, y1, y2⟩ := HR4.out.read
      cases q with
      | false =>
        have HV0 := Lib.hid (show rv = .tuple #[.agg #[.string ⟨#[]⟩, .string ⟨#[]⟩, .string ⟨#[]⟩], .bool false] from HV.out)
        go_wp2_with fail
        obtain ⟨r0, r1, r2, _⟩ := (HR4.out.put (.string ⟨#[]⟩) (.string ⟨#[]⟩) (.string ⟨#[]⟩)).read
        refine bodyPost_ret (v := .tuple #[.agg #[.string ⟨#[]⟩, .string ⟨#[]⟩, .string ⟨#[]⟩], .bool false]) ?_ rfl ⟨by rw [HV0.out], ((HW4.out.setCell (by simp) _).setCell (by simp) _).setCell (by simp) _⟩
        simp [results, Tryz.results20, go_sem, r0, r1, r2]
      | true =>
        first
        | (have HV0 := Lib.hid (show rv = .tuple #[.agg #[.string ⟨#[97, 114, 111, 117, 110, 100]⟩, .string c, .string (b ++ ⟨#[75]⟩)], .bool true] from HV.out)
           go_wp2_with fail
           obtain ⟨r0, r1, r2, _⟩ := (HR4.out.put (.string ⟨#[97, 114, 111, 117, 110, 100]⟩) (.string c) (.string (b ++ ⟨#[75]⟩))).read
           refine bodyPost_ret (v := .tuple #[.agg #[.string ⟨#[97, 114, 111, 117, 110, 100]⟩, .string c, .string (b ++ ⟨#[75]⟩)], .bool true]) ?_ rfl ⟨by rw [HV0.out], ((HW4.out.setCell (by simp) _).setCell (by simp) _).setCell (by simp) _⟩)
        | (have HV0 := Lib.hid (show rv = .tuple #[.agg #[.string ⟨#[97, 114, 111, 117, 110, 100]⟩, .string c, .string (⟨#[75]⟩ ++ b)], .bool true] from HV.out)
           go_wp2_with fail
           obtain ⟨r0, r1, r2, _⟩ := (HR4.out.put (.string ⟨#[97, 114, 111, 117, 110, 100]⟩) (.string c) (.string (⟨#[75]⟩ ++ b))).read
           refine bodyPost_ret (v := .tuple #[.agg #[.string ⟨#[97, 114, 111, 117, 110, 100]⟩, .string c, .string (⟨#[75]⟩ ++ b)], .bool true]) ?_ rfl ⟨by rw [HV0.out], ((HW4.out.setCell (by simp) _).setCell (by simp) _).setCell (by simp) _⟩)
        | (have HV0 := Lib.hid (show rv = .tuple #[.agg #[.string ⟨#[97, 114, 111, 117, 110, 100]⟩, .string c, .string B], .bool true] from HV.out)
           go_wp2_with fail
           obtain ⟨r0, r1, r2, _⟩ := (HR4.out.put (.string ⟨#[97, 114, 111, 117, 110, 100]⟩) (.string c) (.string B)).read
           refine bodyPost_ret (v := .tuple #[.agg #[.string ⟨#[97, 114, 111, 117, 110, 100]⟩, .string c, .string B], .bool true]) ?_ rfl ⟨by rw [HV0.out], ((HW4.out.setCell (by simp) _).setCell (by simp) _).setCell (by simp) _⟩)
        simp [results, Tryz.results20, go_sem, r0, r1, r2]

theorem spec_ard (k c b : ByteArray) (w : World) (hc : c.size ≤ 1073741824) (hb : b.size ≤ 1073741823) :
    Calls Tryz.prog 20 #[aspV k c b] w fun e w' => e = .returned (parV (ardA k c b)) ∧ Below w.heap.size w w' := by
  rw [ardA_is]
  exact sard_road k c b _ _ _ rfl rfl rfl w hc hb
end Go.Proofs.YtpahbkjogljndaaGreatDoor
