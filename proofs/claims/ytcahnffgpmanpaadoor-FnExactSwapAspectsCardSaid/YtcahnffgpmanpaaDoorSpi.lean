/- SwapAspects of the program, as the plain swZ says. Conditions: at most 2^20 aspects and bytes; the errors lie where start-up laid them. -/
import Derived.Test.YtcahnffgpmanpaaDoorSwr
import Derived.BigRegion
namespace Go.Proofs.YtcahnffgpmanpaaDoor
open Go.RowKit Gram

set_option maxHeartbeats 400000 in
theorem hasNext_any (a : Option Addr) (n c : Nat) (i : Int) (hn : n ≤ 1048576) (w : World) :
    Calls Tryd.prog 15 #[.slice a n c, .int .i64 i] w fun e w' => e = .returned (.bool (decide (0 ≤ i) && decide (i < (n : Int) - 1))) ∧ w = w' := by
  by_cases h0 : 0 ≤ i
  · go_enter Tryd.func15, Tryd.ntmps15
    go_wp2_with fail
    go_ret
    exact ⟨ret_bool (by simp [h0]), rfl⟩
  · go_enter Tryd.func15, Tryd.ntmps15
    go_wp2_with fail
    go_ret
    have h1 : decide (0 ≤ i) = false := decide_eq_false (by omega)
    exact ⟨ret_bool (by rw [h1]; rfl), rfl⟩

set_option maxHeartbeats 1000000 in
set_option maxRecDepth 100000 in
theorem clone_asps (w : World) (B g n c : Nat) (zs : List As) (hR : Arow w B g n c zs) (hl : zs.length = n) (hn : n ≤ 1000) :
    Calls Tryd.prog 16 #[.slice (some ⟨g, 0, none⟩) n c] w fun e w' => ∃ g' c', e = .returned (.slice (some ⟨g', 0, none⟩) n c') ∧ Arow w' w.heap.size g' n c' zs ∧ Below w.heap.size w w' := by
  obtain ⟨g2, c2, w2, run2, R2, G2⟩ := more_asps (w.alloc (Obj.cells #[] 35)) w.heap.size w.heap.size 0 0 [] (arow_e (heap_alloc_new w _) (Nat.le_refl _)) g 0 n c zs hl
    (fun j u hu => by
      have h := (Arow.part (xs := []) (ys := zs) (us := []) (by simpa using hR)) j u hu
      rw [Go.WideShapes.add_plain] at h ⊢
      rw [World.cell?_of_block (a := ⟨g, 0 + j, none⟩) (alloc_heap _ g hR.lt.2)]
      simpa using h) (by omega) (by rw [alloc_size']; omega)
  rw [Nat.zero_add] at run2 R2
  rw [List.nil_append] at R2
  have RUN := Lib.hid run2
  have RR := Lib.hid R2
  have HB := Lib.hid (show Below w.heap.size w w2 from ((Below.refl _ _).alloc (Nat.le_refl _) _).grown G2 (by rw [alloc_size']; omega) (fun j hj => by injection hj with hj; omega))
  clear run2 R2 G2 hR hl
  have hnil : (binOp .eql 24 (.slice (some ⟨g, 0, none⟩) n c) (.slice none 0 0)).run Tryd.prog w = .ok (.bool false) w := by kernel_rfl
  go_enter Tryd.func16, Tryd.ntmps16
  go_wp2_with (at_builtin; go_loud (refine Lib.wpList_append_run _ rfl (.tmp 5) (.tmp 6) _ _ rfl _ _ rfl rfl _ _ RUN.out ?_))
  go_ret
  exact ⟨g2, c2, rfl, RR.out, HB.out⟩

/-- the cells of two neighbours in a row -/
theorem Arow.pair {w : World} {B g n c k : Nat} {xs ys : List As} {p q : As} (h : Arow w B g n c (xs ++ [p] ++ [q] ++ ys)) (hk : k = xs.length) :
    w.cell? ⟨g, k * 3, none⟩ = some (.string p.1) ∧ w.cell? ⟨g, k * 3 + 1, none⟩ = some (.string p.2.1) ∧ w.cell? ⟨g, k * 3 + 2, none⟩ = some (.string p.2.2) ∧
    w.cell? ⟨g, (k + 1) * 3, none⟩ = some (.string q.1) ∧ w.cell? ⟨g, (k + 1) * 3 + 1, none⟩ = some (.string q.2.1) ∧ w.cell? ⟨g, (k + 1) * 3 + 2, none⟩ = some (.string q.2.2) := by
  subst hk
  have h1 := Arow.part (xs := xs) (ys := [p]) (us := [q] ++ ys) (by simpa using h)
  have h2 := Arow.part (xs := xs ++ [p]) (ys := [q]) (us := ys) (by simpa using h)
  simp only [List.length_append, List.length_singleton] at h2
  have e : ∀ a j, (⟨g, a, none⟩ : Addr).add j = ⟨g, a + j, none⟩ := fun a j => Go.WideShapes.add_plain g a j
  refine ⟨?_, ?_, ?_, ?_, ?_, ?_⟩
  · have := h1 0 _ rfl; rwa [e] at this
  · have := h1 1 _ rfl; rwa [e] at this
  · have := h1 2 _ rfl; rwa [e] at this
  · have := h2 0 _ rfl; rwa [e] at this
  · have := h2 1 _ rfl; rwa [e] at this
  · have := h2 2 _ rfl; rwa [e] at this

theorem Arow.mono {w : World} {B B' g n c : Nat} {zs : List As} (h : Arow w B g n c zs) (hb : B' ≤ B) : Arow w B' g n c zs := by
  refine ⟨h.1, ?_⟩
  rcases h.2 with h1 | ⟨g', cap, cur, hv, h1, h2⟩
  · exact .inl h1
  · exact .inr ⟨g', cap, cur, hv, Nat.le_trans hb h1, h2⟩

theorem set_six (A C : List Value) (a0 a1 a2 a3 a4 a5 b0 b1 b2 b3 b4 b5 : Value) (m : Nat) (hm : m = A.length) :
    ((((((A ++ a0 :: a1 :: a2 :: a3 :: a4 :: a5 :: C).set m b0).set (m + 1) b1).set (m + 2) b2).set (m + 3) b3).set (m + 4) b4).set (m + 5) b5 = A ++ b0 :: b1 :: b2 :: b3 :: b4 :: b5 :: C := by
  subst hm
  simp

/-- two neighbours of a row change places -/
theorem swap_row {w : World} {B g n c k : Nat} {xs ys : List As} {p q : As} (h : Arow w B g n c (xs ++ [p] ++ [q] ++ ys)) (hk : k = xs.length) :
    Arow ((((((w.setCell ⟨g, k * 3, none⟩ (.string q.1)).setCell ⟨g, k * 3 + 1, none⟩ (.string q.2.1)).setCell ⟨g, k * 3 + 2, none⟩ (.string q.2.2)).setCell ⟨g, (k + 1) * 3, none⟩ (.string p.1)).setCell ⟨g, (k + 1) * 3 + 1, none⟩ (.string p.2.1)).setCell ⟨g, (k + 1) * 3 + 2, none⟩ (.string p.2.2)) B g n c (xs ++ [q, p] ++ ys) := by
  obtain ⟨cur, hcur, h1, h2, h3, h4, h5⟩ := row_cur h
  have hl := h.1
  have hlen : (asC (xs ++ [q, p] ++ ys)).length = n * 3 := by
    rw [← hl]; simp only [asC_len, List.length_append, List.length_cons, List.length_nil]
  refine ⟨hlen, .inr ⟨g, c, _, rfl, h.lt.1, heap_set_same (heap_set_same (heap_set_same (heap_set_same (heap_set_same (heap_set_same hcur _) _) _) _) _) _, h2, h3, by simp [h4], ?_⟩⟩
  have hcut : cur.toList = asC xs ++ Value.string p.1 :: .string p.2.1 :: .string p.2.2 :: .string q.1 :: .string q.2.1 :: .string q.2.2 :: (asC ys ++ cur.toList.drop (n * 3)) := by
    conv => lhs; rw [← List.take_append_drop (n * 3) cur.toList, h5]
    simp [asC, asF]
  have hs := set_six (asC xs) (asC ys ++ cur.toList.drop (n * 3)) (.string p.1) (.string p.2.1) (.string p.2.2) (.string q.1) (.string q.2.1) (.string q.2.2) (.string q.1) (.string q.2.1) (.string q.2.2) (.string p.1) (.string p.2.1) (.string p.2.2) (k * 3) (by rw [asC_len, hk])
  rw [← hcut] at hs
  simp only [Array.toList_setIfInBounds]
  rw [show (k + 1) * 3 = k * 3 + 3 by omega, hs]
  have e : asC xs ++ Value.string q.1 :: .string q.2.1 :: .string q.2.2 :: .string p.1 :: .string p.2.1 :: .string p.2.2 :: (asC ys ++ cur.toList.drop (n * 3)) = asC (xs ++ [q, p] ++ ys) ++ cur.toList.drop (n * 3) := by simp [asC, asF]
  rw [e, List.take_append_of_le_length (by rw [hlen]; exact Nat.le_refl _), List.take_of_length_le (by rw [hlen]; exact Nat.le_refl _)]

theorem beside1 {w : World} {g : Nat} {cur : Array Value} {e : TypeId} {u : Value} (_h : w.heap[g]? = some (.cells cur e (0, 0))) (v : Value) (a b : Nat) (hab : a ≠ b) (hc : w.cell? ⟨g, b, none⟩ = some u) : (w.setCell ⟨g, a, none⟩ v).cell? ⟨g, b, none⟩ = some u := by
  have h := _h
  rw [Lib.cell_of_heap (heap_set_same h v), Array.getElem?_setIfInBounds, if_neg hab, ← Lib.cell_of_heap h, hc]
theorem beside2 {w : World} {g : Nat} {cur : Array Value} {e : TypeId} {u : Value} (h : w.heap[g]? = some (.cells cur e (0, 0))) (v v' : Value) (a a' b : Nat) (hab : a ≠ b) (hab' : a' ≠ b) (hc : w.cell? ⟨g, b, none⟩ = some u) : ((w.setCell ⟨g, a, none⟩ v).setCell ⟨g, a', none⟩ v').cell? ⟨g, b, none⟩ = some u :=
  beside1 (heap_set_same h v) v' a' b hab' (beside1 h v a b hab hc)
theorem beside3 {w : World} {g : Nat} {cur : Array Value} {e : TypeId} {u : Value} (h : w.heap[g]? = some (.cells cur e (0, 0))) (v v' v'' : Value) (a a' a'' b : Nat) (hab : a ≠ b) (hab' : a' ≠ b) (hab'' : a'' ≠ b) (hc : w.cell? ⟨g, b, none⟩ = some u) : (((w.setCell ⟨g, a, none⟩ v).setCell ⟨g, a', none⟩ v').setCell ⟨g, a'', none⟩ v'').cell? ⟨g, b, none⟩ = some u :=
  beside1 (heap_set_same (heap_set_same h v) v') v'' a'' b hab'' (beside2 h v v' a a' b hab hab' hc)

set_option maxHeartbeats 4000000 in
set_option maxRecDepth 100000 in
theorem impl_sw_yes (w : World) (B g n c k : Nat) (zs xs ys : List As) (p q : As) (hz : zs = xs ++ [p] ++ [q] ++ ys) (hR : Arow w B g n c zs) (hl : zs.length = n) (hk : k = xs.length) (h5 : n ≤ 5)
    (hv : ∀ w', Below w.heap.size w w' → Calls Tryd.prog 14 #[.slice (some ⟨g, 0, none⟩) n c] w' fun e w'' => e = .returned (.bool true) ∧ Below w'.heap.size w' w'') :
    Calls Tryd.prog 7 #[.slice (some ⟨g, 0, none⟩) n c, .int .i64 k] w fun e w' => ∃ g' c', e = .returned (.tuple #[.slice (some ⟨g', 0, none⟩) n c', .bool true]) ∧ Arow w' w.heap.size g' n c' (xs ++ [q, p] ++ ys) ∧ Below w.heap.size w w' := by
  have hkn : k + 1 < n := by rw [← hl, hz, hk]; simp
  have HV := Lib.hid hv
  have HR := Lib.hid hR
  have HH := Lib.hid (hasNext_any (some ⟨g, 0, none⟩) n c k (by omega))
  have hh : (decide ((0 : Int) ≤ (k : Int)) && decide ((k : Int) < (n : Int) - 1)) = true := by
    rw [Bool.and_eq_true, decide_eq_true_eq, decide_eq_true_eq]; exact ⟨by omega, by omega⟩
  rw [hh] at HH
  have HC := Lib.hid (fun w' (hb : Below w.heap.size w w') => clone_asps w' B g n c zs (hR.keep (hb.block g hR.lt.2)) hl (by omega))
  have HZ := Lib.hid hz
  have HK := Lib.hid hk
  clear hv hR hl hz hh hk
  go_enter Tryd.func7, Tryd.ntmps7
  go_wp2_with fail
  refine (HV.out _ (Below.refl _ _)).mono ?_
  rintro e w1 ⟨rfl, hb1⟩
  have HB1 := Lib.hid hb1
  clear hb1
  go_wp2_with fail
  refine (HH.out _).mono ?_
  rintro e _ ⟨rfl, rfl⟩
  go_wp2_with fail
  refine (HC.out _ HB1.out).mono ?_
  rintro e w2 ⟨g2, c2, rfl, r2, hb2⟩
  have R2 := Lib.hid r2
  have HB2 := Lib.hid (HB1.out.trans (hb2.mono HB1.out.size))
  have hR2 := HR.out.keep (w' := w2) (HB2.out.block g HR.out.lt.2)
  have hge : g < g2 := Nat.lt_of_lt_of_le HR.out.lt.2 (Nat.le_trans HB1.out.size r2.lt.1)
  rw [HZ.out] at hR2
  obtain ⟨p0, p1, p2, q0, q1, q2⟩ := hR2.pair HK.out
  clear r2 hb2 hR2
  obtain ⟨cur, hcur, hcz⟩ : ∃ cur : Array Value, w2.heap[g2]? = some (.cells cur 35 (0, 0)) ∧ cur.size = c2 * 3 := by
    obtain ⟨cur, h1, _, _, _, h2, _⟩ := row_cur R2.out
    exact ⟨cur, h1, h2⟩
  have hc2 : n ≤ c2 := R2.out.room.1
  have hz2 := fun j => Lib.frozen_of_heap hcur j
  have R2' := R2.out
  rw [HZ.out] at R2'
  obtain ⟨d0, d1, d2, e0, e1, e2⟩ := R2'.pair HK.out
  clear R2'
  have b1 := fun v => beside1 hcur v (k * 3) (k * 3 + 1) (by omega) d1
  have b2 := fun v v' => beside2 hcur v v' (k * 3) (k * 3 + 1) (k * 3 + 2) (by omega) (by omega) d2
  have b1' := fun v => beside1 hcur v ((k + 1) * 3) ((k + 1) * 3 + 1) (by omega) e1
  have b2' := fun v v' => beside2 hcur v v' ((k + 1) * 3) ((k + 1) * 3 + 1) ((k + 1) * 3 + 2) (by omega) (by omega) e2
  clear hcur
  go_wp2_with fail
  go_region
  go_wp2_with fail
  go_ret2
  refine ⟨g2, c2, rfl, ?_, ?_⟩
  · have HS := swap_row (show Arow w2 w1.heap.size g2 n c2 (xs ++ [p] ++ [q] ++ ys) by have := R2.out; rw [HZ.out] at this; exact this) HK.out
    exact (HS.mono HB1.out.size).keep rfl
  · have hg2 : w.heap.size ≤ g2 := by have := HB1.out.size; have := R2.out.lt.1; omega
    exact ((((((HB2.out.setCell (p := ⟨g2, k * 3, none⟩) hg2 _).setCell (p := ⟨g2, k * 3 + 1, none⟩) hg2 _).setCell (p := ⟨g2, k * 3 + 2, none⟩) hg2 _).setCell (p := ⟨g2, (k + 1) * 3, none⟩) hg2 _).setCell (p := ⟨g2, (k + 1) * 3 + 1, none⟩) hg2 _).setCell (p := ⟨g2, (k + 1) * 3 + 2, none⟩) hg2 _).drew
end Go.Proofs.YtcahnffgpmanpaaDoor
