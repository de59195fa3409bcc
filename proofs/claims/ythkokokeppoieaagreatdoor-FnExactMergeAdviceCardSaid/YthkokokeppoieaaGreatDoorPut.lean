/- The model's l5Put: a text with another one in place of each K. Condition: texts of at most 2^20 bytes. -/
import Derived.Test.YthkokokeppoieaaGreatDoorMga
namespace Go.Proofs.YthkokokeppoieaaGreatDoor
open Go.RowKit Gram

theorem slice_byte (s : ByteArray) (k : Nat) (h : k < s.data.toList.length) : s.extract k (k + 1) = ⟨#[s.data.toList[k]]⟩ := by
  apply ByteArray.ext
  apply Array.ext'
  rw [ByteArray.data_extract, Array.toList_extract, List.extract_eq_take_drop, show k + 1 - k = 1 by omega, List.drop_eq_getElem_cons h]
  rfl

set_option maxHeartbeats 1000000 in
set_option maxRecDepth 100000 in
theorem put_any (s t : ByteArray) (hs : s.size ≤ 1048576) (ht : t.size ≤ 1048576) (w : World) :
    Calls Tryz.prog 37 #[.string s, .string t] w fun e w' => e = .returned (.string (txtOf (putK s.data.toList t.data.toList))) ∧ w = w' := by
  have hsl : s.data.toList.length = s.size := by simp
  have htl : t.data.toList.length = t.size := by simp
  have HTL := Lib.hid htl
  go_enter Tryz.func37, Tryz.ntmps37
  go_wp2_with fail
  go_loopw [5, 9] (fun o i wr => ∃ (k : Nat) (pre : List UInt8), k ≤ s.size ∧ i = .int .i64 k ∧ o = .string (txtOf pre) ∧ pre.length ≤ 1100000000000 ∧ Hid (pre = putK (s.data.toList.take k) t.data.toList) ∧ w = wr) (fun _ i _ => s.size - (intOf i).toNat)
  case atStart => exact ⟨0, [], Nat.zero_le _, by go_num, rfl, by simp, by show _ = _; simp [putK], rfl⟩
  case round =>
    obtain ⟨k, pre, hk, rfl, rfl, hp, hH, rfl⟩ := hrel
    by_cases hlt : k < s.size
    · have hq : ((s[k].toNat : Int) == 75) = (s.data.toList[k] == 75) := toNat_beq s[k] 75
      have HK := Lib.hid (putK_take s.data.toList t.data.toList k (by omega))
      have hbd : (putK (s.data.toList.take (k + 1)) t.data.toList).length ≤ 1100000000000 := by
        refine Nat.le_trans (putK_len _ _) ?_
        rw [List.length_take, htl]
        exact Nat.le_trans (Nat.mul_le_mul (show min (k + 1) s.data.toList.length ≤ 1048576 by omega) (show t.size + 1 ≤ 1048577 by omega)) (by decide)
      have hx := slice_byte s k (by omega)
      have e1 := str_sum (txtOf pre) (s.extract k (k + 1)) (by rw [hx, txtOf_size, show (⟨#[s.data.toList[k]]⟩ : ByteArray).size = 1 from rfl]; omega)
      have e2 := str_sum (txtOf pre) t (by rw [txtOf_size]; omega)
      cases hb : (s.data.toList[k] == 75) with
      | false =>
        rw [hb] at hq HK
        rw [if_neg (by decide), ← hH.out] at HK
        rw [HK.out] at hbd
        have HE := Lib.hid (show txtOf pre ++ s.extract k (k + 1) = txtOf (pre ++ [s.data.toList[k]]) by rw [hx]; apply ByteArray.ext; apply Array.ext'; simp [txtOf])
        clear hb hx
        generalize s.data.toList[k] = ch at *
        go_wp2_with fail
        exact ⟨⟨k + 1, pre ++ [ch], by omega, by go_num, by rw [← HE.out], hbd, HK.out.symm, trivial⟩, by simp [intOf]; omega⟩
      | true =>
        rw [hb] at hq HK
        rw [if_pos rfl, ← hH.out] at HK
        rw [HK.out] at hbd
        have HE := Lib.hid (show txtOf pre ++ t = txtOf (pre ++ t.data.toList) by apply ByteArray.ext; apply Array.ext'; simp [txtOf])
        clear hb hx
        go_wp2_with fail
        exact ⟨⟨k + 1, pre ++ t.data.toList, by omega, by go_num, by rw [← HE.out], hbd, HK.out.symm, trivial⟩, by simp [intOf]; omega⟩
    · have HE := Lib.hid (show putK s.data.toList t.data.toList = pre by
        have h1 := hH.out
        rw [List.take_of_length_le (by omega)] at h1
        exact h1.symm)
      go_wp2_with fail
      go_ret
      exact ⟨by rw [HE.out]; rfl, rfl⟩
end Go.Proofs.YthkokokeppoieaaGreatDoor
