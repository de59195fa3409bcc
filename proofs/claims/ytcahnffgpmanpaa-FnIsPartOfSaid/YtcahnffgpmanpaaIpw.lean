/- The law FnIsPartOf answers true, whatever bytes it is given. No condition but that the bytes can be read. -/
import Derived.Test.YtcahnffgpmanpaaIpm
import Derived.Test.YtcahnffgpmanpaaIpt
namespace Go.Proofs.Ytcahnffgpmanpaa
open Go.RowKit

set_option maxHeartbeats 4000000 in
set_option maxRecDepth 100000 in
theorem ipw_any (w : World) (a b : Option Addr) (n c l d : Nat) (hn : n ≤ 1048576) (hl : l ≤ 1048576) (hd : Calls Try.prog 5 #[.slice a n c] w (DrewTwo w)) :
    Calls Try.prog 3 #[.slice a n c, .slice b l d] w fun e w' => e = .returned (.bool true) ∧ Below w.heap.size w w' := by
  have HD := Lib.hid hd
  have HI := Lib.hid (@part_impl)
  have HS := Lib.hid (@part_spec)
  clear hd
  go_enter Try.func3, Try.ntmps3
  go_wp2_with fail
  refine HD.out.mono ?_
  rintro e w1 ⟨ga, gb, ca, cb, zs, ws, rfl, ra, rb, hwl, hzl, bel⟩
  have HB := Lib.hid bel
  have RB := Lib.hid rb
  have hra := ra.room
  have hrb := rb.room
  have IA := Lib.hid ra.ints
  have IB := Lib.hid rb.ints
  clear ra rb bel HD
  have hw1 := HB.out.size
  have HM := Lib.hid (fun (x : Int) (h : zs.isSublist ws = true) => sub_more x h)
  generalize hr : zs.isSublist ws = r at *
  go_wp2_with fail
  refine (HI.out w1 _ _ _ _ _ _ zs ws IA.out IB.out hra.1 (by omega)).mono ?_
  rintro e _ ⟨rfl, rfl⟩
  go_wp2_with fail
  refine (HS.out w1 _ _ _ _ _ _ zs ws IA.out IB.out (by omega) (by omega)).mono ?_
  rintro e _ ⟨rfl, rfl⟩
  have hrr : (zs.isSublist ws != zs.isSublist ws) = false := by simp
  rw [hr] at hrr ⊢
  obtain ⟨g2, c2, w2, run2, R2, G2, E2⟩ := more_ints (w1.alloc (Obj.cells #[] 3)) w1.heap.size w1.heap.size 0 [] (Irow.made w1 w1.heap.size (Nat.le_refl _)) (some ⟨gb, 0, none⟩) ws.length cb ws (IB.out.later ((Below.refl _ _).alloc (Nat.le_refl _) _)) (by simp; omega) (by rw [alloc_size']; omega)
  simp only [List.length_nil, Nat.zero_add, List.nil_append] at run2 R2
  have RUN2 := Lib.hid run2
  have BEL2 := Lib.hid (show Below w1.heap.size w1 w2 from ((Below.refl _ _).alloc (Nat.le_refl _) _).grown G2 (by rw [alloc_size']; omega) (fun j hj => by injection hj with hj; omega))
  have RR2 := Lib.hid R2
  have hg2 : w1.heap.size ≤ g2 := R2.lt.1
  obtain ⟨g3, c3, w3, run3, R3, G3, E3⟩ := more_ints (w2.alloc (Obj.cells #[.int .i64 ((l : Int) % 3)] 3)) w1.heap.size g2 c2 ws (R2.keep (alloc_heap _ _ R2.lt.2)) (some ⟨w2.heap.size, 0, none⟩) 1 1 [(l : Int) % 3] (Irow.one w2 0 ((l : Int) % 3) (Nat.zero_le _)).ints (by omega) (by rw [alloc_size']; have := BEL2.out.size; omega)
  have RUN3 := Lib.hid run3
  have BEL3 := Lib.hid (show Below w1.heap.size w1 w3 from (BEL2.out.alloc BEL2.out.size _).grown G3 (by rw [alloc_size']; have := BEL2.out.size; omega) (fun j hj => by injection hj with hj; omega))
  have hrr3 := R3.room
  have IL := Lib.hid R3.ints
  simp only [List.length_append, List.length_singleton] at IL hrr3
  have hz3 := BEL3.out.size
  obtain ⟨g4, c4, w4, run4, R4, G4, E4⟩ := more_ints (w3.alloc (Obj.cells #[.int .i64 ((l : Int) % 3)] 3)) w3.heap.size w3.heap.size 1 [(l : Int) % 3] (Irow.one w3 w3.heap.size ((l : Int) % 3) (Nat.le_refl _)) (some ⟨gb, 0, none⟩) ws.length cb ws
    ((IB.out.later BEL3.out).later ((Below.refl _ _).alloc (Nat.le_refl _) _)) (by simp; omega) (by rw [alloc_size']; omega)
  simp only [List.length_singleton] at run4
  have RUN4 := Lib.hid run4
  have hg4 : w3.heap.size ≤ g4 := R4.lt.1
  have hb4 : Below w3.heap.size w3 w4 := ((Below.refl _ _).alloc (Nat.le_refl _) _).grown G4 (by rw [alloc_size']; omega) (fun j hj => by injection hj with hj; omega)
  have IL4 := Lib.hid (IL.out.later hb4)
  have BEL4 := Lib.hid (BEL3.out.trans (hb4.mono hz3))
  have IB4 := Lib.hid (IB.out.later BEL4.out)
  have IA4 := Lib.hid (IA.out.later BEL4.out)
  have hrr4 := R4.room
  have IM4 := Lib.hid R4.ints
  simp only [List.length_append, List.length_singleton] at IM4 hrr4
  have CBB := Lib.hid (part_impl w4 _ _ _ cb _ cb ws ws IB4.out IB4.out hrb.1 (by omega))
  have CBL := Lib.hid (part_impl w4 _ _ _ cb _ c3 ws _ IB4.out IL4.out hrb.1 (by omega))
  have CLB := Lib.hid (part_impl w4 _ _ _ c3 _ cb _ ws IL4.out IB4.out hrr3.1 (by omega))
  have CTB := Lib.hid (part_impl w4 _ _ _ cb _ cb _ ws (IB4.out.take (ws.length / 2) (by omega)) IB4.out (by omega) (by omega))
  have CAL := Lib.hid (part_impl w4 _ _ _ ca _ c3 zs _ IA4.out IL4.out hra.1 (by omega))
  have CAA := Lib.hid (part_impl w4 _ _ _ ca _ c4 zs _ IA4.out IM4.out hra.1 (by omega))
  rw [sub_self] at CBB
  rw [sub_behind] at CBL
  rw [sub_long] at CLB
  rw [sub_take] at CTB
  clear run2 R2 G2 E2 run3 R3 G3 E3 run4 R4 G4 E4 hb4 IL RR2
  cases r with
  | false =>
    clear HM CAL CAA
    go_wp2_with (at_builtin; first
      | (refine Lib.wpList_append_run _ rfl (.tmp 31) (.tmp 32) 23 23 rfl _ _ rfl rfl _ _ RUN2.out ?_)
      | (refine Lib.wpList_append_run _ rfl (.tmp 33) (.tmp 37) 23 23 rfl _ _ rfl rfl _ _ RUN3.out ?_)
      | (refine Lib.wpList_append_run _ rfl (.tmp 42) (.tmp 43) 23 23 rfl _ _ rfl rfl _ _ RUN4.out ?_))
    refine CBB.out.mono ?_
    rintro e _ ⟨rfl, rfl⟩
    go_wp2_with fail
    refine CBL.out.mono ?_
    rintro e _ ⟨rfl, rfl⟩
    go_wp2_with fail
    refine CLB.out.mono ?_
    rintro e _ ⟨rfl, rfl⟩
    go_wp2_with fail
    refine CTB.out.mono ?_
    rintro e _ ⟨rfl, rfl⟩
    go_wp2_with fail
    go_ret
    exact ⟨rfl, HB.out.trans (BEL4.out.mono hw1)⟩
  | true =>
    obtain ⟨hle, m1, m2⟩ := HM.out ((l : Int) % 3) rfl
    rw [m1] at CAL
    rw [m2] at CAA
    clear HM m1 m2
    go_wp2_with (at_builtin; first
      | (refine Lib.wpList_append_run _ rfl (.tmp 31) (.tmp 32) 23 23 rfl _ _ rfl rfl _ _ RUN2.out ?_)
      | (refine Lib.wpList_append_run _ rfl (.tmp 33) (.tmp 37) 23 23 rfl _ _ rfl rfl _ _ RUN3.out ?_)
      | (refine Lib.wpList_append_run _ rfl (.tmp 42) (.tmp 43) 23 23 rfl _ _ rfl rfl _ _ RUN4.out ?_))
    refine CAL.out.mono ?_
    rintro e _ ⟨rfl, rfl⟩
    go_wp2_with fail
    refine CAA.out.mono ?_
    rintro e _ ⟨rfl, rfl⟩
    go_wp2_with fail
    refine CBB.out.mono ?_
    rintro e _ ⟨rfl, rfl⟩
    go_wp2_with fail
    refine CBL.out.mono ?_
    rintro e _ ⟨rfl, rfl⟩
    go_wp2_with fail
    refine CLB.out.mono ?_
    rintro e _ ⟨rfl, rfl⟩
    go_wp2_with fail
    refine CTB.out.mono ?_
    rintro e _ ⟨rfl, rfl⟩
    go_wp2_with fail
    go_ret
    exact ⟨rfl, HB.out.trans (BEL4.out.mono hw1)⟩

set_option maxHeartbeats 1000000 in
theorem ipw_long (w : World) (a b : Option Addr) (n c l d : Nat) (h : 1048576 < n ∨ 1048576 < l) (hx : n ≤ 9223372036854775807) (hy : l ≤ 9223372036854775807) :
    Calls Try.prog 3 #[.slice a n c, .slice b l d] w fun e w' => e = .returned (.bool true) ∧ Below w.heap.size w w' := by
  by_cases h1 : 1048576 < n
  · clear h
    go_enter Try.func3, Try.ntmps3
    go_wp2_with fail
    go_ret
    exact ⟨rfl, Below.refl _ _⟩
  · have h2 : 1048576 < l := by omega
    clear h
    go_enter Try.func3, Try.ntmps3
    go_wp2_with fail
    go_ret
    exact ⟨rfl, Below.refl _ _⟩

theorem law_ipw_any (w : World) (a : Option Addr) (n c : Nat) (b : Option Addr) (l d : Nat) (h : BytesAt w a n) (hn : n ≤ c) (hc : c ≤ 9223372036854775807) (hnil : a = none → n = 0) (_ : BytesAt w b l) (hl : l ≤ d) (hd : d ≤ 9223372036854775807) (_ : b = none → l = 0) :
    Calls Try.prog 3 #[.slice a n c, .slice b l d] w fun e w' => e = .returned (.bool true) ∧ Below w.heap.size w w' := by
  by_cases h1 : n ≤ 1048576
  · by_cases h2 : l ≤ 1048576
    · exact ipw_any w a b n c l d h1 h2 (drawTwo_any w a n c h hn hc hnil)
    · exact ipw_long w a b n c l d (.inr (by omega)) (by omega) (by omega)
  · exact ipw_long w a b n c l d (.inl (by omega)) (by omega) (by omega)
end Go.Proofs.Ytcahnffgpmanpaa
