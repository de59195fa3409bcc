/- Join points: allLetters, JoinPointValid and FormatPoint of the program and of the model answer as the plain functions pvalid and ptext do. Condition: stacks of at most 2^30 bytes. -/
import Derived.Test.YthedbjdcnidelaaDoorTxt
import Derived.Test.YthedbjdcnidelaaDoorLet
import Derived.Lib.OthersKept
namespace Go.Proofs.YthedbjdcnidelaaDoor
open Go.RowKit Gram

def isCall (k : ByteArray) : Bool := k.toList == [99, 97, 108, 108]
def isPrint (k : ByteArray) : Bool := k.toList == [112, 114, 105, 110, 116]
/-- whether a join point of kind k, name n and stack s can be one -/
def pvalid (k n s : ByteArray) : Bool :=
  s.data.toList.all isLet && (decide (1 ≤ s.size) && decide (s.size ≤ 20)) && (if isCall k = true then (nameOf n.data.toList).isSome else isPrint k && n.toList.isEmpty)

theorem all_take (l : List UInt8) (j : Nat) (h : j < l.length) : (l.take (j + 1)).all isLet = ((l.take j).all isLet && isLet l[j]) := by
  rw [List.take_succ_eq_append_getElem h, List.all_append]; simp

set_option maxHeartbeats 1000000 in
set_option maxRecDepth 100000 in
theorem allLetters_any (s : ByteArray) (w : World) :
    Calls Tryd.prog 35 #[.string s] w fun e w' => e = .returned (.bool (s.data.toList.all isLet)) ∧ Below w.heap.size w w' := by
  go_enter Tryd.func35, Tryd.ntmps35
  go_wp2_with fail
  go_loopw [] (fun wr => ∃ pos : Nat, wr.heap[w.heap.size]? = some (Obj.stringIter s pos) ∧ pos ≤ s.size ∧ Hid (Below w.heap.size w wr) ∧ Hid ((s.data.toList.take pos).all isLet = true)) (fun wr => s.size - wr.iterPos w.heap.size)
  case atStart =>
    exact ⟨0, heap_alloc_new _ _, Nat.zero_le _, (Below.refl _ _).alloc (Nat.le_refl _) _, rfl⟩
  case round =>
    obtain ⟨pos, hit, hpos, hb, hT⟩ := hrel
    by_cases hp : pos < s.size
    · have hnx : ∀ ty, (Instr.next (.pointer (some ⟨w.heap.size, 0, none⟩)) true ty).run Tryd.prog wr = _ := fun ty => Lib.run_next_any_at wr w.heap.size s pos ty hit hp
      have hit2 := Lib.iterAt_heap wr w.heap.size s pos (pos + (Utf8.decode s pos).2) hit
      have HB2 := Lib.hid (Lib.below_iterAt hb.out (k := w.heap.size) (by omega) s (pos + (Utf8.decode s pos).2))
      have hlast := all_take s.data.toList pos (by simpa using hp)
      by_cases ha : (s[pos]'hp).toNat < 128
      · have hdec := decode_ascii s pos hp ha
        have hd1 : ((Utf8.decode s pos).1 : Int) = (s[pos]'hp).toNat := by rw [hdec]
        have HD := Lib.hid (show (Utf8.decode s pos).2 = 1 by rw [hdec])
        cases hL : isLet (s[pos]'hp) with
        | true =>
          have hL2 := hL
          rw [isLet_int] at hL2
          simp only [Bool.and_eq_true, decide_eq_true_eq] at hL2
          obtain ⟨l1, l2⟩ := hL2
          rw [← hd1] at l1 l2
          have HN := Lib.hid (show (s.data.toList.take (pos + 1)).all isLet = true by rw [hlast, hT.out]; exact hL)
          clear hL hlast hdec hd1 ha
          generalize Utf8.decode s pos = dd at *
          go_wp2_with fail
          go_roundw
          case rel => exact ⟨pos + dd.2, hit2, by rw [HD.out]; omega, HB2.out, by rw [HD.out]; exact HN.out⟩
          case measure =>
            simp only [World.iterPos, hit2, hit]
            rw [HD.out]; omega
        | false =>
          have hL2 := hL
          rw [isLet_int] at hL2
          have HN := Lib.hid (show s.data.toList.all isLet = false by
            rw [List.all_eq_false]
            exact ⟨s[pos], by show s.data[pos] ∈ _; simp, by rw [hL]; decide⟩)
          have hlo : ((Utf8.decode s pos).1 : Int) < 97 ∨ 122 < ((Utf8.decode s pos).1 : Int) := by
            rw [hd1]
            simp only [Bool.and_eq_false_iff, decide_eq_false_iff_not] at hL2
            omega
          clear hL hL2 hlast hdec hd1 ha HD
          generalize Utf8.decode s pos = dd at *
          rcases hlo with hlo | hlo
          all_goals
            go_wp2_with fail
            go_ret
            exact ⟨ret_bool HN.out.symm, HB2.out⟩
      · obtain ⟨d1, d2⟩ := decode_high s pos hp (by omega)
        have HN := Lib.hid (show s.data.toList.all isLet = false by
          rw [List.all_eq_false]
          refine ⟨s[pos], by show s.data[pos] ∈ _; simp, ?_⟩
          rw [isLet_int]; simp; omega)
        have hlo : 122 < ((Utf8.decode s pos).1 : Int) := by omega
        clear d1 d2 hlast ha
        generalize Utf8.decode s pos = dd at *
        go_wp2_with fail
        go_ret
        exact ⟨ret_bool HN.out.symm, HB2.out⟩
    · have hnx : ∀ ty, (Instr.next (.pointer (some ⟨w.heap.size, 0, none⟩)) true ty).run Tryd.prog wr = _ := fun ty => Lib.run_next_end_at wr w.heap.size s pos ty hit hp
      have HN := Lib.hid (show s.data.toList.all isLet = true by
        have := hT.out
        rw [List.take_of_length_le (by simp; omega)] at this
        exact this)
      go_wp2_with fail
      go_ret
      exact ⟨ret_bool HN.out.symm, hb.out⟩
end Go.Proofs.YthedbjdcnidelaaDoor
