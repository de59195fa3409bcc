/- The law FnExactSameOutcome answers true at every two outcomes. Condition: sizes below 2^40 (the model's own bound). -/
import Derived.Test.YtlocampfgkdohaaSame
import Derived.Deep.RegionHeld3
namespace Go.Proofs.Ytlocampfgkdohaa
open Go.RowKit

theorem lie_step {w w2 w3 : World} {o o' : Obj} (h : Below (w.heap.size + 1 + 1) ((w.alloc o).alloc o') w2) (h' : Below w2.heap.size w2 w3) : Below (w.heap.size + 1 + 1) ((w.alloc o).alloc o') w3 := by
  have hs := h.size
  rw [alloc_size', alloc_size'] at hs
  exact h.trans (h'.mono hs)
/-- both arguments lie where the call laid them -/
theorem lie_facts {w w3 : World} {x0 x1 x2 x3 y0 y1 y2 y3 : Value} {t t' : TypeId} (hb : Below (w.heap.size + 1 + 1) ((w.alloc (Obj.cells #[x0, x1, x2, x3] t)).alloc (Obj.cells #[y0, y1, y2, y3] t')) w3) :
    w3.cell? ⟨w.heap.size, 0, none⟩ = some x0 ∧ w3.cell? ⟨w.heap.size, 1, none⟩ = some x1 ∧ w3.cell? ⟨w.heap.size, 2, none⟩ = some x2 ∧ w3.cell? ⟨w.heap.size, 3, none⟩ = some x3 ∧
    w3.cell? ⟨w.heap.size + 1, 0, none⟩ = some y0 ∧ w3.cell? ⟨w.heap.size + 1, 1, none⟩ = some y1 ∧ w3.cell? ⟨w.heap.size + 1, 2, none⟩ = some y2 ∧ w3.cell? ⟨w.heap.size + 1, 3, none⟩ = some y3 ∧
    Below (w.heap.size + 1 + 1) ((w.alloc (Obj.cells #[x0, x1, x2, x3] t)).alloc (Obj.cells #[y0, y1, y2, y3] t')) w3 := by
  obtain ⟨l0, l1, _⟩ := two_lie hb
  obtain ⟨a0, a1, a2, a3⟩ := read4 l0
  obtain ⟨b0, b1, b2, b3⟩ := read4 l1
  exact ⟨a0, a1, a2, a3, b0, b1, b2, b3, hb⟩
theorem lie_later {w w2 w3 : World} {x0 x1 x2 x3 y0 y1 y2 y3 : Value} {t t' : TypeId}
    (h : w2.cell? ⟨w.heap.size, 0, none⟩ = some x0 ∧ w2.cell? ⟨w.heap.size, 1, none⟩ = some x1 ∧ w2.cell? ⟨w.heap.size, 2, none⟩ = some x2 ∧ w2.cell? ⟨w.heap.size, 3, none⟩ = some x3 ∧
    w2.cell? ⟨w.heap.size + 1, 0, none⟩ = some y0 ∧ w2.cell? ⟨w.heap.size + 1, 1, none⟩ = some y1 ∧ w2.cell? ⟨w.heap.size + 1, 2, none⟩ = some y2 ∧ w2.cell? ⟨w.heap.size + 1, 3, none⟩ = some y3 ∧
    Below (w.heap.size + 1 + 1) ((w.alloc (Obj.cells #[x0, x1, x2, x3] t)).alloc (Obj.cells #[y0, y1, y2, y3] t')) w2) (hb : Below w2.heap.size w2 w3) :
    w3.cell? ⟨w.heap.size, 0, none⟩ = some x0 ∧ w3.cell? ⟨w.heap.size, 1, none⟩ = some x1 ∧ w3.cell? ⟨w.heap.size, 2, none⟩ = some x2 ∧ w3.cell? ⟨w.heap.size, 3, none⟩ = some x3 ∧
    w3.cell? ⟨w.heap.size + 1, 0, none⟩ = some y0 ∧ w3.cell? ⟨w.heap.size + 1, 1, none⟩ = some y1 ∧ w3.cell? ⟨w.heap.size + 1, 2, none⟩ = some y2 ∧ w3.cell? ⟨w.heap.size + 1, 3, none⟩ = some y3 ∧
    Below (w.heap.size + 1 + 1) ((w.alloc (Obj.cells #[x0, x1, x2, x3] t)).alloc (Obj.cells #[y0, y1, y2, y3] t')) w3 :=
  lie_facts (lie_step h.2.2.2.2.2.2.2.2 hb)
theorem cell_after {w w' : World} {p : Addr} {v : Value} (hb : Below w.heap.size w w') (h : w.cell? p = some v) : w'.cell? p = some v := by
  rw [hb.cell (World.block_lt_of_cell? w _ h)]; exact h
/-- what lies in one block and in another, and what lay before -/
theorem eq_later {w w2 w3 : World} {B C : Nat} {x0 x1 x2 x3 y0 y1 y2 y3 : Value} {o o' : Obj}
    (h : w2.cell? ⟨B, 0, none⟩ = some x0 ∧ w2.cell? ⟨B, 1, none⟩ = some x1 ∧ w2.cell? ⟨B, 2, none⟩ = some x2 ∧ w2.cell? ⟨B, 3, none⟩ = some x3 ∧
    w2.cell? ⟨C, 0, none⟩ = some y0 ∧ w2.cell? ⟨C, 1, none⟩ = some y1 ∧ w2.cell? ⟨C, 2, none⟩ = some y2 ∧ w2.cell? ⟨C, 3, none⟩ = some y3 ∧
    Below (w.heap.size + 1 + 1) ((w.alloc o).alloc o') w2) (hb : Below w2.heap.size w2 w3) :
    w3.cell? ⟨B, 0, none⟩ = some x0 ∧ w3.cell? ⟨B, 1, none⟩ = some x1 ∧ w3.cell? ⟨B, 2, none⟩ = some x2 ∧ w3.cell? ⟨B, 3, none⟩ = some x3 ∧
    w3.cell? ⟨C, 0, none⟩ = some y0 ∧ w3.cell? ⟨C, 1, none⟩ = some y1 ∧ w3.cell? ⟨C, 2, none⟩ = some y2 ∧ w3.cell? ⟨C, 3, none⟩ = some y3 ∧
    Below (w.heap.size + 1 + 1) ((w.alloc o).alloc o') w3 := by
  obtain ⟨a0, a1, a2, a3, b0, b1, b2, b3, hB⟩ := h
  exact ⟨cell_after hb a0, cell_after hb a1, cell_after hb a2, cell_after hb a3, cell_after hb b0, cell_after hb b1, cell_after hb b2, cell_after hb b3, lie_step hB hb⟩
theorem eq_start {w w2 : World} {B C : Nat} {x0 x1 x2 x3 y0 y1 y2 y3 : Value} {t t' : TypeId} {o o' : Obj}
    (hx : w2.heap[B]? = some (.cells #[x0, x1, x2, x3] t (0, 0))) (hy : w2.heap[C]? = some (.cells #[y0, y1, y2, y3] t' (0, 0))) (hB : Below (w.heap.size + 1 + 1) ((w.alloc o).alloc o') w2) :
    w2.cell? ⟨B, 0, none⟩ = some x0 ∧ w2.cell? ⟨B, 1, none⟩ = some x1 ∧ w2.cell? ⟨B, 2, none⟩ = some x2 ∧ w2.cell? ⟨B, 3, none⟩ = some x3 ∧
    w2.cell? ⟨C, 0, none⟩ = some y0 ∧ w2.cell? ⟨C, 1, none⟩ = some y1 ∧ w2.cell? ⟨C, 2, none⟩ = some y2 ∧ w2.cell? ⟨C, 3, none⟩ = some y3 ∧
    Below (w.heap.size + 1 + 1) ((w.alloc o).alloc o') w2 := by
  obtain ⟨a0, a1, a2, a3⟩ := read4 hx
  obtain ⟨b0, b1, b2, b3⟩ := read4 hy
  exact ⟨a0, a1, a2, a3, b0, b1, b2, b3, hB⟩
theorem leftO_neg {n k l : Nat} (h : l < n + k) : leftO n k l = -1 := by unfold leftO; rw [if_neg (by omega)]
theorem leftO_pos {n k l : Nat} (h : n + k ≤ l) : leftO n k l = ((l - (n + k) : Nat) : Int) := by unfold leftO; rw [if_pos h]

set_option maxHeartbeats 1000000 in
set_option maxRecDepth 100000 in
theorem same_over1 (w : World) (v v' : Int) (a a' : Option Addr) (n c n' c' : Nat) (e e' : ByteArray) (st st' : Int) (hn : n ≤ maxLen) (he : e.size ≤ maxLen) (h : 1048576 < n + e.size) :
    Calls Try.prog 3 #[oV v a n c e st, oV v' a' n' c' e' st'] w fun r w' => r = .returned (.bool true) ∧ Below w.heap.size w w' := by
  have HZ := Lib.hid (fun w => szOut_any w v a n c e st 1048576 (Nat.le_refl _) hn he)
  rw [leftO_neg h] at HZ
  unfold oV at *
  clear hn he h
  go_enter Try.func3, Try.ntmps3
  go_wp2_with fail
  refine (HZ.out _).mono ?_
  rintro r w2 ⟨rfl, hb⟩
  rw [alloc_size', alloc_size'] at hb
  have HB := Lib.hid (two_lie hb).2.2
  clear hb
  go_wp2_with fail
  go_ret
  exact ⟨rfl, HB.out⟩

set_option maxHeartbeats 1000000 in
set_option maxRecDepth 100000 in
theorem same_over2 (w : World) (v v' : Int) (a a' : Option Addr) (n c n' c' : Nat) (e e' : ByteArray) (st st' : Int) (hn : n ≤ maxLen) (he : e.size ≤ maxLen) (hn' : n' ≤ maxLen) (he' : e'.size ≤ maxLen) (h : n + e.size ≤ 1048576) (h' : 1048576 - (n + e.size) < n' + e'.size) :
    Calls Try.prog 3 #[oV v a n c e st, oV v' a' n' c' e' st'] w fun r w' => r = .returned (.bool true) ∧ Below w.heap.size w w' := by
  have HZ := Lib.hid (fun w => szOut_any w v a n c e st 1048576 (Nat.le_refl _) hn he)
  rw [leftO_pos h] at HZ
  have HZ2 := Lib.hid (fun w => szOut_any w v' a' n' c' e' st' (1048576 - (n + e.size)) (by omega) hn' he')
  rw [leftO_neg h'] at HZ2
  unfold oV at *
  clear hn he h hn' he' h'
  have hl0 : (0 : Int) ≤ ((1048576 - (n + e.size) : Nat) : Int) := Int.natCast_nonneg _
  generalize (1048576 - (n + e.size)) = l at *
  go_enter Try.func3, Try.ntmps3
  go_wp2_with fail
  refine (HZ.out _).mono ?_
  rintro r w2 ⟨rfl, hb⟩
  rw [alloc_size', alloc_size'] at hb
  obtain ⟨l0, l1, _⟩ := two_lie hb
  obtain ⟨r0, r1, r2, r3⟩ := read4 l1
  have HL := Lib.hid hb
  clear hb l0 l1
  go_wp2_with fail
  refine (HZ2.out _).mono ?_
  rintro r w3 ⟨rfl, hb⟩
  have HB := Lib.hid (two_lie (lie_step HL.out hb)).2.2
  clear hb
  go_wp2_with fail
  go_ret
  exact ⟨rfl, HB.out⟩

set_option maxHeartbeats 1000000 in
set_option maxRecDepth 100000 in
theorem same_fits (w : World) (v v' : Int) (a a' : Option Addr) (n c n' c' : Nat) (zs zs' : List Int) (e e' : ByteArray) (st st' : Int) (hA : Ints w a n zs) (hB : Ints w a' n' zs') (hn : n ≤ maxLen) (he : e.size ≤ maxLen) (hn' : n' ≤ maxLen) (he' : e'.size ≤ maxLen) (h : n + e.size ≤ 1048576) (h' : n' + e'.size ≤ 1048576 - (n + e.size)) :
    Calls Try.prog 3 #[oV v a n c e st, oV v' a' n' c' e' st'] w fun r w' => r = .returned (.bool true) ∧ Below w.heap.size w w' := by
  have HZ := Lib.hid (fun w => szOut_any w v a n c e st 1048576 (Nat.le_refl _) hn he)
  rw [leftO_pos h] at HZ
  have HZ2 := Lib.hid (fun w => szOut_any w v' a' n' c' e' st' (1048576 - (n + e.size)) (by omega) hn' he')
  rw [leftO_pos h'] at HZ2
  have hs : n ≤ 1048576 := by omega
  have hs' : n' ≤ 1048576 := by omega
  have HT := Lib.hid (fun w' hb => toOut_any w' v a n c zs e st (Ints.later hA hb) hs)
  have HT' := Lib.hid (fun w' hb => toOut_any w' v' a' n' c' zs' e' st' (Ints.later hB hb) hs')
  have HS := Lib.hid (fun w' g g' hA hB => spec_same w' v v' (some ⟨g, 0, none⟩) (some ⟨g', 0, none⟩) n n n' n' zs zs' e e' st st' hA hB hs hs')
  have HI := Lib.hid (fun w' g g' hA hB => impl_same w' v v' (some ⟨g, 0, none⟩) (some ⟨g', 0, none⟩) n n n' n' zs zs' e e' st st' hA hB hs hs')
  have HE := Lib.hid (fun w' g g' hA hB => eqOut_any w' v (some ⟨g, 0, none⟩) (some ⟨g', 0, none⟩) n n n zs e st hA hB hs)
  have HE' := Lib.hid (fun w' g g' hA hB => eqOut_any w' v' (some ⟨g, 0, none⟩) (some ⟨g', 0, none⟩) n' n' n' zs' e' st' hA hB hs')
  unfold oV at *
  clear hn he hn' he' hA hB hs hs'
  have hl0 : (0 : Int) ≤ ((1048576 - (n + e.size) : Nat) : Int) := Int.natCast_nonneg _
  have hl1 : (0 : Int) ≤ ((1048576 - (n + e.size) - (n' + e'.size) : Nat) : Int) := Int.natCast_nonneg _
  clear h h'
  generalize hq : (1048576 - (n + e.size) - (n' + e'.size)) = l' at *
  clear hq
  generalize (1048576 - (n + e.size)) = l at *
  generalize sameP v v' zs zs' e e' = b at *
  go_enter Try.func3, Try.ntmps3
  go_wp2_with fail
  refine (HZ.out _).mono ?_
  rintro r w2 ⟨rfl, hb⟩
  rw [alloc_size', alloc_size'] at hb
  obtain ⟨l0, l1, _⟩ := two_lie hb
  obtain ⟨r0, r1, r2, r3⟩ := read4 l1
  have HL := Lib.hid hb
  clear hb l0 l1
  go_wp2_with fail
  refine (HZ2.out _).mono ?_
  rintro r w3 ⟨rfl, hb⟩
  have HL3 := Lib.hid (lie_step HL.out hb)
  have HL3 := Lib.hid (HL3.out.drew)
  clear hb r0 r1 r2 r3
  have HB3 := Lib.hid (two_lie HL3.out).2.2
  go_wp2_with fail
  go_region_held3 (fun w' => w'.cell? ⟨w.heap.size, 0, none⟩ = some (.int .i64 v) ∧ w'.cell? ⟨w.heap.size, 1, none⟩ = some (.slice a n c) ∧ w'.cell? ⟨w.heap.size, 2, none⟩ = some (.string e) ∧ w'.cell? ⟨w.heap.size, 3, none⟩ = some (.int .i64 st) ∧
    w'.cell? ⟨w.heap.size + 1, 0, none⟩ = some (.int .i64 v') ∧ w'.cell? ⟨w.heap.size + 1, 1, none⟩ = some (.slice a' n' c') ∧ w'.cell? ⟨w.heap.size + 1, 2, none⟩ = some (.string e') ∧ w'.cell? ⟨w.heap.size + 1, 3, none⟩ = some (.int .i64 st') ∧
    Below (w.heap.size + 1 + 1) ((w.alloc (Obj.cells #[.int .i64 v, .slice a n c, .string e, .int .i64 st] 24)).alloc (Obj.cells #[.int .i64 v', .slice a' n' c', .string e', .int .i64 st'] 24)) w') ((first | assumption | exact lie_facts HL3.out | (apply lie_later; assumption; assumption)))
    ((first
    | (go_at_call_of 6 (Value.agg #[.int .i64 v, .slice a n c, .string e, .int .i64 st]); refine (HT.out _ HB3.out).mono ?_
       rintro r w4 ⟨g4, rfl, hI, hb⟩
       have HI4 := Lib.hid hI
       have HL4 := Lib.hid (lie_step HL3.out hb)
       have HB4 := Lib.hid (two_lie HL4.out).2.2
       clear hI)
    | (go_at_call_of 6 (Value.agg #[.int .i64 v', .slice a' n' c', .string e', .int .i64 st']); refine (HT'.out _ HB4.out).mono ?_
       rintro r w5 ⟨g5, rfl, hI, hb⟩
       have HI5 := Lib.hid hI
       have HI45 := Lib.hid (HI4.out.later hb)
       have HL5 := Lib.hid (lie_step HL4.out hb)
       clear hI)
    | (go_at_call 5; refine (HS.out _ _ _ HI45.out HI5.out).mono ?_
       rintro r w6 ⟨rfl, hb⟩
       have HL6 := Lib.hid (lie_step HL5.out hb))))
  obtain ⟨l0, l1, l2⟩ := two_lie HL6.out
  have HB6 := Lib.hid l2
  obtain ⟨q0, q1, q2, q3⟩ := read4 l0
  clear l0 l1 l2
  go_wp2_with fail
  refine (HT.out _ HB6.out).mono ?_
  rintro r w7 ⟨g7, rfl, hI, hb⟩
  have HI7 := Lib.hid hI
  have HL7 := Lib.hid (lie_step HL6.out hb)
  obtain ⟨l0, l1, l2⟩ := two_lie HL7.out
  have HB7 := Lib.hid l2
  have HL8 := Lib.hid (show Below (w.heap.size + 1 + 1) _ (w7.alloc (Obj.cells #[.int .i64 v, .slice (some ⟨g7, 0, none⟩) n n, .string e, .int .i64 st] 27)) from lie_step HL7.out ((Below.refl _ _).alloc (Nat.le_refl _) _))
  obtain ⟨m0, m1, m2⟩ := two_lie HL8.out
  obtain ⟨q0, q1, q2, q3⟩ := read4 m1
  have HB8 := Lib.hid m2
  clear hI hb l0 l1 l2 m0 m1 m2
  go_wp2_with fail
  refine (HT'.out _ HB8.out).mono ?_
  rintro r w9 ⟨g9, rfl, hI, hb⟩
  have HI9 := Lib.hid hI
  have HI79 := Lib.hid ((HI7.out.later ((Below.refl _ _).alloc (Nat.le_refl _) _)).later hb)
  have HL9 := Lib.hid (lie_step HL8.out hb)
  have hx0 := (hb.block w7.heap.size (by rw [alloc_size']; omega)).trans (heap_alloc_new _ _)
  have HX0 := Lib.hid hx0
  clear hI hb q0 q1 q2 q3 hx0
  obtain ⟨w10, hw10⟩ : ∃ w10, w10 = w9.alloc (Obj.cells #[.int .i64 v', .slice (some ⟨g9, 0, none⟩) n' n', .string e', .int .i64 st'] 27) := ⟨_, rfl⟩
  have HX := Lib.hid (show w10.heap[w7.heap.size]? = some (.cells #[.int .i64 v, .slice (some ⟨g7, 0, none⟩) n n, .string e, .int .i64 st] 27 (0, 0)) by rw [hw10]; exact (alloc_heap _ _ (heap_lt HX0.out)).trans HX0.out)
  have HY := Lib.hid (show w10.heap[w9.heap.size]? = some (.cells #[.int .i64 v', .slice (some ⟨g9, 0, none⟩) n' n', .string e', .int .i64 st'] 27 (0, 0)) by rw [hw10]; exact heap_alloc_new _ _)
  have HI7 := Lib.hid (show Ints w10 (some ⟨g7, 0, none⟩) n zs by rw [hw10]; exact HI79.out.later ((Below.refl _ _).alloc (Nat.le_refl _) _))
  have HI9 := Lib.hid (show Ints w10 (some ⟨g9, 0, none⟩) n' zs' by rw [hw10]; exact HI9.out.later ((Below.refl _ _).alloc (Nat.le_refl _) _))
  have HL10 := Lib.hid (show Below (w.heap.size + 1 + 1) _ w10 by rw [hw10]; exact lie_step HL9.out ((Below.refl _ _).alloc (Nat.le_refl _) _))
  obtain ⟨q0, q1, q2, q3⟩ := read4 HX.out
  obtain ⟨r0, r1, r2, r3⟩ := read4 HY.out
  clear HX0
  subst hw10
  go_wp2_with fail
  refine (HI.out _ _ _ HI7.out HI9.out).mono ?_
  rintro r w11 ⟨rfl, hb⟩
  have HLd11 := Lib.hid (lie_step HL10.out hb).drew
  have HBd11 := Lib.hid (two_lie HLd11.out).2.2
  have HXd11 := Lib.hid (show w11.drew.heap[w7.heap.size]? = _ from (hb.block _ (heap_lt HX.out)).trans HX.out)
  have HYd11 := Lib.hid (show w11.drew.heap[w9.heap.size]? = _ from (hb.block _ (heap_lt HY.out)).trans HY.out)
  have HI7d11 := Lib.hid ((HI7.out.later hb).later (Below.refl _ _).drew)
  have HI9d11 := Lib.hid ((HI9.out.later hb).later (Below.refl _ _).drew)
  clear hb q0 q1 q2 q3 r0 r1 r2 r3
  go_wp2_with fail
  go_region_held3 (fun w' => w'.cell? ⟨w7.heap.size, 0, none⟩ = some (.int .i64 v) ∧ w'.cell? ⟨w7.heap.size, 1, none⟩ = some (.slice (some ⟨g7, 0, none⟩) n n) ∧ w'.cell? ⟨w7.heap.size, 2, none⟩ = some (.string e) ∧ w'.cell? ⟨w7.heap.size, 3, none⟩ = some (.int .i64 st) ∧
    w'.cell? ⟨w.heap.size, 0, none⟩ = some (.int .i64 v) ∧ w'.cell? ⟨w.heap.size, 1, none⟩ = some (.slice a n c) ∧ w'.cell? ⟨w.heap.size, 2, none⟩ = some (.string e) ∧ w'.cell? ⟨w.heap.size, 3, none⟩ = some (.int .i64 st) ∧
    Below (w.heap.size + 1 + 1) ((w.alloc (Obj.cells #[.int .i64 v, .slice a n c, .string e, .int .i64 st] 24)).alloc (Obj.cells #[.int .i64 v', .slice a' n' c', .string e', .int .i64 st'] 24)) w') ((first | assumption | exact eq_start HXd11.out (two_lie HLd11.out).1 HLd11.out | (apply eq_later; assumption; assumption)))
    ((first
    | (go_at_call_of 6 (Value.agg #[.int .i64 v, .slice a n c, .string e, .int .i64 st]); refine (HT.out _ HBd11.out).mono ?_
       rintro r w12 ⟨g12, rfl, hI, hb⟩
       have HI12 := Lib.hid hI
       have HIc12 := Lib.hid (HI7d11.out.later hb)
       have HL12 := Lib.hid (lie_step HLd11.out hb)
       have HY12 := Lib.hid ((hb.block _ (heap_lt HYd11.out)).trans HYd11.out)
       have HId12 := Lib.hid (HI9d11.out.later hb)
       clear hI)
    | (go_at_call 8; refine (HE.out _ _ _ HIc12.out HI12.out).mono ?_
       rintro r w13 ⟨rfl, hb⟩
       have HL13 := Lib.hid (lie_step HL12.out hb)
       have HY13 := Lib.hid ((hb.block _ (heap_lt HY12.out)).trans HY12.out)
       have HId13 := Lib.hid (HId12.out.later hb))))
  have HLd13 := Lib.hid HL13.out.drew
  have HBd13 := Lib.hid (two_lie HLd13.out).2.2
  have HYd13 := Lib.hid (show w13.drew.heap[w9.heap.size]? = _ from HY13.out)
  have HI9d13 := Lib.hid (HId13.out.later (Below.refl _ _).drew)
  go_wp2_with fail
  go_region_held3 (fun w' => w'.cell? ⟨w9.heap.size, 0, none⟩ = some (.int .i64 v') ∧ w'.cell? ⟨w9.heap.size, 1, none⟩ = some (.slice (some ⟨g9, 0, none⟩) n' n') ∧ w'.cell? ⟨w9.heap.size, 2, none⟩ = some (.string e') ∧ w'.cell? ⟨w9.heap.size, 3, none⟩ = some (.int .i64 st') ∧
    w'.cell? ⟨w.heap.size + 1, 0, none⟩ = some (.int .i64 v') ∧ w'.cell? ⟨w.heap.size + 1, 1, none⟩ = some (.slice a' n' c') ∧ w'.cell? ⟨w.heap.size + 1, 2, none⟩ = some (.string e') ∧ w'.cell? ⟨w.heap.size + 1, 3, none⟩ = some (.int .i64 st') ∧
    Below (w.heap.size + 1 + 1) ((w.alloc (Obj.cells #[.int .i64 v, .slice a n c, .string e, .int .i64 st] 24)).alloc (Obj.cells #[.int .i64 v', .slice a' n' c', .string e', .int .i64 st'] 24)) w') ((first | assumption | exact eq_start HYd13.out (two_lie HLd13.out).2.1 HLd13.out | (apply eq_later; assumption; assumption)))
    ((first
    | (go_at_call_of 6 (Value.agg #[.int .i64 v', .slice a' n' c', .string e', .int .i64 st']); refine (HT'.out _ HBd13.out).mono ?_
       rintro r w14 ⟨g14, rfl, hI, hb⟩
       have HI14 := Lib.hid hI
       have HIc14 := Lib.hid (HI9d13.out.later hb)
       have HL14 := Lib.hid (lie_step HLd13.out hb)
       have HY14 := Lib.hid ((hb.block _ (heap_lt HYd13.out)).trans HYd13.out)
       have HId14 := Lib.hid (HI9d13.out.later hb)
       clear hI)
    | (go_at_call 8; refine (HE'.out _ _ _ HIc14.out HI14.out).mono ?_
       rintro r w15 ⟨rfl, hb⟩
       have HL15 := Lib.hid (lie_step HL14.out hb)
       have HY15 := Lib.hid ((hb.block _ (heap_lt HY14.out)).trans HY14.out)
       have HId15 := Lib.hid (HId14.out.later hb))))
  have HB15 := Lib.hid (two_lie HL15.out).2.2
  go_wp2_with fail
  go_ret
  exact ⟨rfl, HB15.out⟩

theorem same_any (w : World) (v v' : Int) (a a' : Option Addr) (n c n' c' : Nat) (zs zs' : List Int) (e e' : ByteArray) (st st' : Int) (hA : Ints w a n zs) (hB : Ints w a' n' zs') (hn : n ≤ maxLen) (he : e.size ≤ maxLen) (hn' : n' ≤ maxLen) (he' : e'.size ≤ maxLen) :
    Calls Try.prog 3 #[oV v a n c e st, oV v' a' n' c' e' st'] w fun r w' => r = .returned (.bool true) ∧ Below w.heap.size w w' := by
  by_cases h : n + e.size ≤ 1048576
  · by_cases h' : n' + e'.size ≤ 1048576 - (n + e.size)
    · exact same_fits w v v' a a' n c n' c' zs zs' e e' st st' hA hB hn he hn' he' h h'
    · exact same_over2 w v v' a a' n c n' c' e e' st st' hn he hn' he' h (by omega)
  · exact same_over1 w v v' a a' n c n' c' e e' st st' hn he (by omega)
end Go.Proofs.Ytlocampfgkdohaa
