/- The model's l1Set. Condition: texts of at most 2^40 bytes. -/
import Derived.Test.YtihjkkoaccmefaaDoorBset
namespace Go.Proofs.YtihjkkoaccmefaaDoor
open Go.RowKit Gram

set_option maxHeartbeats 2000000 in
set_option maxRecDepth 100000 in
theorem l1set_any (s : ByteArray) (w : World) (hs : s.size ≤ 1099511627776) :
    Calls Tryd.prog 58 #[.string s] w fun e w' => e = .returned (.string (txtOf (setText s.data.toList))) ∧ Below w.heap.size w w' := by
  go_enter Tryd.func58, Tryd.ntmps58
  go_wp2_with fail
  go_loopw [3, 4] (fun o i wr => ∃ n : Nat, 97 ≤ n ∧ n ≤ 123 ∧ i = .int .u8 n ∧ o = .string (txtOf (upTo s.data.toList n)) ∧ Hid (Below w.heap.size w wr)) (fun _ i _ => 123 - (intOf i).toNat)
  case atStart => exact ⟨97, by omega, by omega, by go_num, rfl, Below.refl _ _⟩
  case round =>
    obtain ⟨n, h97, h123, rfl, rfl, hb⟩ := hrel
    by_cases hlt : n ≤ 122
    · obtain ⟨c, rfl⟩ : ∃ c : UInt8, n = c.toNat := ⟨UInt8.ofNat n, by rw [UInt8.toNat_ofNat']; omega⟩
      have HH := Lib.hid (fun w => has_any s c hs w)
      have HT := Lib.hid (upTo_step s.data.toList c h97)
      have e1 : IntKind.u8.wrap ((c.toNat : Int) + 1) = ((c.toNat + 1 : Nat) : Int) := by rw [IntWalk.u8_in _ (by omega)]; omega
      have hlen := upTo_len s.data.toList c.toNat
      have e2 := str_sum (txtOf (upTo s.data.toList c.toNat)) ⟨#[c]⟩ (by rw [txtOf_size, show (⟨#[c]⟩ : ByteArray).size = 1 from rfl]; omega)
      have e3 := chr1 c wr wr.heap.size rfl
      cases hin : s.data.toList.contains c with
      | true =>
        rw [hin] at HH HT
        clear hin
        have HT2 := Lib.hid (by rw [HT.out, if_pos rfl]; apply ByteArray.ext; apply Array.ext'; simp [txtOf] : txtOf (upTo s.data.toList (c.toNat + 1)) = txtOf (upTo s.data.toList c.toNat) ++ ⟨#[c]⟩)
        generalize txtOf (upTo s.data.toList c.toNat) = tx at *
        go_wp2_with fail
        refine (HH.out _).mono ?_
        rintro e w2 ⟨rfl, rfl⟩
        go_wp2_with fail
        go_roundw
        case rel => exact ⟨c.toNat + 1, by omega, by omega, by go_num, by rw [HT2.out], hb.out.alloc hb.out.size _⟩
        case measure => simp [intOf]; omega
      | false =>
        rw [hin] at HH HT
        clear hin
        have HT2 := Lib.hid (by rw [HT.out, if_neg (by decide), List.append_nil] : txtOf (upTo s.data.toList (c.toNat + 1)) = txtOf (upTo s.data.toList c.toNat))
        generalize txtOf (upTo s.data.toList c.toNat) = tx at *
        go_wp2_with fail
        refine (HH.out _).mono ?_
        rintro e w2 ⟨rfl, rfl⟩
        go_wp2_with fail
        go_roundw
        case rel => exact ⟨c.toNat + 1, by omega, by omega, by go_num, by rw [HT2.out], hb.out⟩
        case measure => simp [intOf]; omega
    · have hn : n = 123 := by omega
      subst hn
      go_wp2_with fail
      go_ret
      exact ⟨rfl, hb.out⟩
end Go.Proofs.YtihjkkoaccmefaaDoor
