/- The law FnExactFormatOutcome answers true at every outcome. Condition: the table of powers lies; sizes below the model's own bound. -/
import Derived.Test.YtlocampfgkdohaaDoorFms
namespace Go.Proofs.YtlocampfgkdohaaDoor
open Go.RowKit

theorem leftO_neg {n k l : Nat} (h : l < n + k) : leftO n k l = -1 := by unfold leftO; rw [if_neg (by omega)]
theorem leftO_pos {n k l : Nat} (h : n + k ≤ l) : leftO n k l = ((l - (n + k) : Nat) : Int) := by unfold leftO; rw [if_pos h]
/-- the argument lies where the call laid it -/
theorem lone {w w' : World} {x0 x1 x2 x3 : Value} {t : TypeId} (hb : Below (w.heap.size + 1) (w.alloc (Obj.cells #[x0, x1, x2, x3] t)) w') : w'.heap[w.heap.size]? = some (.cells #[x0, x1, x2, x3] t (0, 0)) ∧ Below w.heap.size w w' := by
  refine ⟨(hb.block _ (by omega)).trans (heap_alloc_new _ _), ((Below.refl w.heap.size w).alloc (Nat.le_refl _) _).trans (hb.mono (by omega))⟩
theorem lone_step {w w2 w3 : World} {o : Obj} (h : Below (w.heap.size + 1) (w.alloc o) w2) (h' : Below w2.heap.size w2 w3) : Below (w.heap.size + 1) (w.alloc o) w3 := by
  have hs := h.size
  rw [alloc_size'] at hs
  exact h.trans (h'.mono hs)
theorem cell_after {w w' : World} {p : Addr} {v : Value} (hb : Below w.heap.size w w') (h : w.cell? p = some v) : w'.cell? p = some v := by
  rw [hb.cell (World.block_lt_of_cell? w _ h)]; exact h
theorem eq_later {w w2 w3 : World} {B C : Nat} {x0 x1 x2 x3 y0 y1 y2 y3 : Value} {o : Obj}
    (h : w2.cell? ⟨B, 0, none⟩ = some x0 ∧ w2.cell? ⟨B, 1, none⟩ = some x1 ∧ w2.cell? ⟨B, 2, none⟩ = some x2 ∧ w2.cell? ⟨B, 3, none⟩ = some x3 ∧
    w2.cell? ⟨C, 0, none⟩ = some y0 ∧ w2.cell? ⟨C, 1, none⟩ = some y1 ∧ w2.cell? ⟨C, 2, none⟩ = some y2 ∧ w2.cell? ⟨C, 3, none⟩ = some y3 ∧
    Below (w.heap.size + 1) (w.alloc o) w2) (hb : Below w2.heap.size w2 w3) :
    w3.cell? ⟨B, 0, none⟩ = some x0 ∧ w3.cell? ⟨B, 1, none⟩ = some x1 ∧ w3.cell? ⟨B, 2, none⟩ = some x2 ∧ w3.cell? ⟨B, 3, none⟩ = some x3 ∧
    w3.cell? ⟨C, 0, none⟩ = some y0 ∧ w3.cell? ⟨C, 1, none⟩ = some y1 ∧ w3.cell? ⟨C, 2, none⟩ = some y2 ∧ w3.cell? ⟨C, 3, none⟩ = some y3 ∧
    Below (w.heap.size + 1) (w.alloc o) w3 := by
  obtain ⟨a0, a1, a2, a3, b0, b1, b2, b3, hB⟩ := h
  exact ⟨cell_after hb a0, cell_after hb a1, cell_after hb a2, cell_after hb a3, cell_after hb b0, cell_after hb b1, cell_after hb b2, cell_after hb b3, lone_step hB hb⟩
theorem eq_start {w w2 : World} {B C : Nat} {x0 x1 x2 x3 y0 y1 y2 y3 : Value} {t t' : TypeId} {o : Obj}
    (hx : w2.heap[B]? = some (.cells #[x0, x1, x2, x3] t (0, 0))) (hy : w2.heap[C]? = some (.cells #[y0, y1, y2, y3] t' (0, 0))) (hB : Below (w.heap.size + 1) (w.alloc o) w2) :
    w2.cell? ⟨B, 0, none⟩ = some x0 ∧ w2.cell? ⟨B, 1, none⟩ = some x1 ∧ w2.cell? ⟨B, 2, none⟩ = some x2 ∧ w2.cell? ⟨B, 3, none⟩ = some x3 ∧
    w2.cell? ⟨C, 0, none⟩ = some y0 ∧ w2.cell? ⟨C, 1, none⟩ = some y1 ∧ w2.cell? ⟨C, 2, none⟩ = some y2 ∧ w2.cell? ⟨C, 3, none⟩ = some y3 ∧
    Below (w.heap.size + 1) (w.alloc o) w2 := by
  obtain ⟨a0, a1, a2, a3⟩ := read4 hx
  obtain ⟨b0, b1, b2, b3⟩ := read4 hy
  exact ⟨a0, a1, a2, a3, b0, b1, b2, b3, hB⟩

set_option maxHeartbeats 1000000 in
set_option maxRecDepth 100000 in
theorem fmt_over (w : World) (v : Int) (a : Option Addr) (n c : Nat) (e : ByteArray) (st : Int) (hn : n ≤ maxLen) (he : e.size ≤ maxLen) (h : 1048576 < n + e.size) :
    Calls Tryd.prog 3 #[oV v a n c e st] w fun r w' => r = .returned (.bool true) ∧ Below w.heap.size w w' := by
  have HZ := Lib.hid (fun w => szOut_any w v a n c e st 1048576 (Nat.le_refl _) hn he)
  rw [leftO_neg h] at HZ
  unfold oV at *
  clear hn he h
  go_enter Tryd.func3, Tryd.ntmps3
  go_wp2_with fail
  refine (HZ.out _).mono ?_
  rintro r w2 ⟨rfl, hb⟩
  rw [alloc_size'] at hb
  have HB := Lib.hid (lone hb).2
  clear hb
  go_wp2_with fail
  go_ret
  exact ⟨rfl, HB.out⟩

set_option maxHeartbeats 1000000 in
set_option maxRecDepth 100000 in
theorem fmt_fits (w : World) (v : Int) (a : Option Addr) (n c : Nat) (zs : List Int) (e : ByteArray) (st : Int) (hA : Ints w a n zs) (hn : n ≤ maxLen) (he : e.size ≤ maxLen) (h : n + e.size ≤ 1048576) (hv : Int64 v) (hst : Int64 st) (hz : ∀ z ∈ zs, Int64 z) (ht : Tab w) :
    Calls Tryd.prog 3 #[oV v a n c e st] w fun r w' => r = .returned (.bool true) ∧ Below w.heap.size w w' := by
  have HZ := Lib.hid (fun w => szOut_any w v a n c e st 1048576 (Nat.le_refl _) hn he)
  rw [leftO_pos h] at HZ
  have hs : n ≤ 1048576 := by omega
  have hs' : e.size ≤ 1048576 := by omega
  have HT := Lib.hid (fun w' hb => toOut_any w' v a n c zs e st (Ints.later hA hb) hs)
  have HS := Lib.hid (fun w' g hA => spec_fmt w' v (some ⟨g, 0, none⟩) n n zs e st hA hs hs' hv hst hz)
  have HI := Lib.hid (fun w' g hA hb => impl_fmt w' v (some ⟨g, 0, none⟩) n n zs e st hA hs hs' hv hst hz (tab_later ht hb))
  have HE := Lib.hid (fun w' g g' hA hB => eqOut_any w' v (some ⟨g, 0, none⟩) (some ⟨g', 0, none⟩) n n n zs e st hA hB hs)
  unfold oV at *
  clear hn he hA hs hs' hv hst hz ht
  have hl0 : (0 : Int) ≤ ((1048576 - (n + e.size) : Nat) : Int) := Int.natCast_nonneg _
  clear h
  generalize (1048576 - (n + e.size)) = l at *
  generalize (⟨(headT v ++ numsT zs ++ (32 :: e.data.toList ++ 32 :: Lib.itoa st)).toArray⟩ : ByteArray) = T at *
  go_enter Tryd.func3, Tryd.ntmps3
  go_wp2_with fail
  refine (HZ.out _).mono ?_
  rintro r w2 ⟨rfl, hb⟩
  rw [alloc_size'] at hb
  have HL := Lib.hid hb
  have HB := Lib.hid (lone hb).2
  obtain ⟨q0, q1, q2, q3⟩ := read4 (lone hb).1
  clear hb
  go_wp2_with fail
  refine (HT.out _ HB.out).mono ?_
  rintro r w4 ⟨g4, rfl, hI, hb⟩
  have HI4 := Lib.hid hI
  have HL4 := Lib.hid (lone_step HL.out hb)
  clear hI hb q0 q1 q2 q3
  go_wp2_with fail
  refine (HS.out _ _ HI4.out).mono ?_
  rintro r w6 ⟨rfl, hb⟩
  have HL6 := Lib.hid (lone_step HL4.out hb)
  clear hb
  obtain ⟨q0, q1, q2, q3⟩ := read4 (lone HL6.out).1
  have HB6 := Lib.hid (lone HL6.out).2
  go_wp2_with fail
  refine (HT.out _ HB6.out).mono ?_
  rintro r w7 ⟨g7, rfl, hI, hb⟩
  have HI7 := Lib.hid hI
  have HL7 := Lib.hid (lone_step HL6.out hb)
  clear hI hb q0 q1 q2 q3
  obtain ⟨w10, hw10⟩ : ∃ w10, w10 = w7.alloc (Obj.cells #[.int .i64 v, .slice (some ⟨g7, 0, none⟩) n n, .string e, .int .i64 st] 27) := ⟨_, rfl⟩
  have HX := Lib.hid (show w10.heap[w7.heap.size]? = some (.cells #[.int .i64 v, .slice (some ⟨g7, 0, none⟩) n n, .string e, .int .i64 st] 27 (0, 0)) by rw [hw10]; exact heap_alloc_new _ _)
  have HI10 := Lib.hid (show Ints w10 (some ⟨g7, 0, none⟩) n zs by rw [hw10]; exact HI7.out.later ((Below.refl _ _).alloc (Nat.le_refl _) _))
  have HL10 := Lib.hid (show Below (w.heap.size + 1) _ w10 by rw [hw10]; exact lone_step HL7.out ((Below.refl _ _).alloc (Nat.le_refl _) _))
  have HB10 := Lib.hid (lone HL10.out).2
  obtain ⟨q0, q1, q2, q3⟩ := read4 HX.out
  subst hw10
  go_wp2_with fail
  refine (HI.out _ _ HI10.out HB10.out).mono ?_
  rintro r w11 ⟨rfl, hb⟩
  have HLd11 := Lib.hid (lone_step HL10.out hb).drew
  have HBd11 := Lib.hid (lone HLd11.out).2
  have HXd11 := Lib.hid (show w11.drew.heap[w7.heap.size]? = _ from (hb.block _ (heap_lt HX.out)).trans HX.out)
  have HId11 := Lib.hid ((HI10.out.later hb).later (Below.refl _ _).drew)
  clear hb q0 q1 q2 q3
  go_wp2_with fail
  go_region_held3 (fun w' => w'.cell? ⟨w7.heap.size, 0, none⟩ = some (.int .i64 v) ∧ w'.cell? ⟨w7.heap.size, 1, none⟩ = some (.slice (some ⟨g7, 0, none⟩) n n) ∧ w'.cell? ⟨w7.heap.size, 2, none⟩ = some (.string e) ∧ w'.cell? ⟨w7.heap.size, 3, none⟩ = some (.int .i64 st) ∧
    w'.cell? ⟨w.heap.size, 0, none⟩ = some (.int .i64 v) ∧ w'.cell? ⟨w.heap.size, 1, none⟩ = some (.slice a n c) ∧ w'.cell? ⟨w.heap.size, 2, none⟩ = some (.string e) ∧ w'.cell? ⟨w.heap.size, 3, none⟩ = some (.int .i64 st) ∧
    Below (w.heap.size + 1) (w.alloc (Obj.cells #[.int .i64 v, .slice a n c, .string e, .int .i64 st] 24)) w') ((first | assumption | exact eq_start HXd11.out (lone HLd11.out).1 HLd11.out | (apply eq_later; assumption; assumption)))
    ((first
    | (go_at_call_of 7 (Value.agg #[.int .i64 v, .slice a n c, .string e, .int .i64 st]); refine (HT.out _ HBd11.out).mono ?_
       rintro r w12 ⟨g12, rfl, hI, hb⟩
       have HI12 := Lib.hid hI
       have HIc12 := Lib.hid (HId11.out.later hb)
       have HL12 := Lib.hid (lone_step HLd11.out hb)
       clear hI)
    | (go_at_call 9; refine (HE.out _ _ _ HIc12.out HI12.out).mono ?_
       rintro r w13 ⟨rfl, hb⟩
       have HL13 := Lib.hid (lone_step HL12.out hb))))
  have HB13 := Lib.hid (lone HL13.out).2
  go_wp2_with fail
  go_ret
  exact ⟨rfl, HB13.out⟩

theorem fmt_law (w : World) (v : Int) (a : Option Addr) (n c : Nat) (zs : List Int) (e : ByteArray) (st : Int) (hA : Ints w a n zs) (hn : n ≤ maxLen) (he : e.size ≤ maxLen) (hv : Int64 v) (hst : Int64 st) (hz : ∀ z ∈ zs, Int64 z) (ht : Tab w) :
    Calls Tryd.prog 3 #[oV v a n c e st] w fun r w' => r = .returned (.bool true) ∧ Below w.heap.size w w' := by
  by_cases h : n + e.size ≤ 1048576
  · exact fmt_fits w v a n c zs e st hA hn he h hv hst hz ht
  · exact fmt_over w v a n c e st hn he (by omega)
end Go.Proofs.YtlocampfgkdohaaDoor
