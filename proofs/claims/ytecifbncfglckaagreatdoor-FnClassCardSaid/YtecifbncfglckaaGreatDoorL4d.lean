/- The model's l4Draw: a body of at most 26 bytes, whatever the bytes behind the source. Conditions: counts up to 60000. -/
import Derived.Test.YtecifbncfglckaaGreatDoorL3d
namespace Go.Proofs.YtecifbncfglckaaGreatDoor
open Go.RowKit

theorem step_small : ∀ s ∈ [(⟨#[43, 49]⟩ : ByteArray), ⟨#[45, 49]⟩, ⟨#[42, 50]⟩, ⟨#[43, 50]⟩], s.size ≤ 2 := by decide

set_option maxHeartbeats 2000000 in
set_option maxRecDepth 100000 in
theorem l4d_gen (rb : Nat) (a : Option Addr) (n c : Nat) (ar : Bool) (k : Int) (P C S0 C0 : Nat) (hP2 : 2 ≤ P) (hC2 : 2 ≤ C) (hPb : P ≤ 1000) (hCb : C ≤ 1000) (hS : 0 < k → 5 + 2 * S0 ≤ P ∧ 1 + 2 * C0 ≤ C) (hkb : -1000 ≤ k ∧ k ≤ 1000)
    (IH : 0 < k → ∀ (w : World) (p : Nat) (j : Int), j = k - 1 → Rdr w rb a n c p → p + C0 ≤ 60000 → Calls Tryz.prog 58 #[.pointer (some ⟨rb, 0, none⟩), .bool ar, .int .i64 j] w (DrewS w rb a n c p S0 C0))
    (w : World) (p : Nat) (h : Rdr w rb a n c p) (hp : p + 1 + 2 * C ≤ 60000) :
    Calls Tryz.prog 58 #[.pointer (some ⟨rb, 0, none⟩), .bool ar, .int .i64 k] w (DrewS w rb a n c p (2 * P) (1 + 2 * C)) := by
  have H := Lib.hid h
  have HI := Lib.hid IH
  have HS := Lib.hid hS
  obtain ⟨k1, k2⟩ := hkb
  clear h IH hS
  go_enter Tryz.func58, Tryz.ntmps58
  go_wp2_with fail
  refine (pick_to 3 H.out (by omega) (by omega)).mono ?_
  rintro e w1 ⟨v, rfl, hv, hr1, hg1⟩
  have H1 := Lib.hid hr1
  have G1 := Lib.hid hg1
  clear hr1 hg1
  go_wp2_with fail
  go_loopw [7, 12] (fun o i wr => ∃ (j q : Nat) (st : ByteArray), o = .string st ∧ i = .int .i64 j ∧ j ≤ v ∧ q ≤ p + 1 + j * C ∧ st.size ≤ j * P ∧ Hid (Rdr wr rb a n c q) ∧ Hid (w.grownBy wr (some rb))) (fun _ i _ => v - (intOf i).toNat)
  case atStart => exact ⟨0, p + 1, ⟨#[]⟩, rfl, by go_num, Nat.zero_le _, by omega, Nat.zero_le _, H1.out, G1.out⟩
  case round =>
    obtain ⟨j, q, st, rfl, rfl, hj, hq, hst, hR, hG⟩ := hrel
    by_cases hlt : j < v
    · have hjv : j = 0 ∨ j = 1 := by omega
      have hqb : q + C ≤ p + 1 + (j + 1) * C ∧ q + C ≤ 60000 := by rcases hjv with rfl | rfl <;> omega
      have hsb : st.size + P ≤ (j + 1) * P ∧ st.size + P ≤ 10000 := by rcases hjv with rfl | rfl <;> omega
      clear hq hst
      obtain ⟨hq1, hq2⟩ := hqb
      obtain ⟨hs1, hs2⟩ := hsb
      have HQ := Lib.hid hq1
      have HZ := Lib.hid hs1
      clear hq1 hs1 hjv
      go_wp2_with fail
      refine (pick_to 7 hR.out (by omega) (by omega)).mono ?_
      rintro e w2 ⟨u, rfl, hu, hr2, hg2⟩
      have H2 := Lib.hid hr2
      have G2 := Lib.hid (grownBy_trans hG.out hg2)
      clear hr2 hg2
      by_cases hA : u = 0 ∧ 0 < k
      · obtain ⟨rfl, hk0⟩ := hA
        have HC := Lib.hid (HS.out hk0)
        have hc1 := HC.out.1
        have hc2 := HC.out.2
        go_wp2_with fail
        refine (HI.out hk0 _ _ _ (by omega) H2.out (by omega)).mono ?_
        rintro e w3 ⟨t, q3, rfl, ht, hq3, hr3, hg3⟩
        have H3 := Lib.hid hr3
        have G3 := Lib.hid (grownBy_trans G2.out hg3)
        clear hr3 hg3
        have o1 : (⟨#[63, 91]⟩ : ByteArray).size = 2 := rfl
        have o2 : (⟨#[93, 91]⟩ : ByteArray).size = 2 := rfl
        have o3 : (⟨#[93]⟩ : ByteArray).size = 1 := rfl
        have e1 := str_sum st ⟨#[63, 91]⟩ (by omega)
        have e2 := str_sum (st ++ ⟨#[63, 91]⟩) t (by simp only [ByteArray.size_append]; omega)
        have e3 := str_sum (st ++ ⟨#[63, 91]⟩ ++ t) ⟨#[93, 91]⟩ (by simp only [ByteArray.size_append]; omega)
        go_wp2_with fail
        refine (HI.out hk0 _ _ _ (by omega) H3.out (by omega)).mono ?_
        rintro e w4 ⟨t', q4, rfl, ht', hq4, hr4, hg4⟩
        have H4 := Lib.hid hr4
        have G4 := Lib.hid (grownBy_trans G3.out hg4)
        clear hr4 hg4
        have e4 := str_sum (st ++ ⟨#[63, 91]⟩ ++ t ++ ⟨#[93, 91]⟩) t' (by simp only [ByteArray.size_append]; omega)
        have e5 := str_sum (st ++ ⟨#[63, 91]⟩ ++ t ++ ⟨#[93, 91]⟩ ++ t') ⟨#[93]⟩ (by simp only [ByteArray.size_append]; omega)
        go_wp2_with fail
        exact ⟨⟨j + 1, q4, _, rfl, by go_num, by omega, by have := HQ.out; omega, by have := HZ.out; simp only [ByteArray.size_append]; omega, H4.out, G4.out⟩, by simp [intOf]; omega⟩
      · have o1 : (⟨#[80]⟩ : ByteArray).size = 1 := rfl
        have o2 : (⟨#[75]⟩ : ByteArray).size = 1 := rfl
        have e1 := str_sum st ⟨#[80]⟩ (by omega)
        have e2 := str_sum st ⟨#[75]⟩ (by omega)
        by_cases hu3 : u < 3
        · by_cases hu0 : u = 0
          · have hk0 : ¬ 0 < k := fun h => hA ⟨hu0, h⟩
            subst hu0
            clear hA
            go_wp2_with fail
            exact ⟨⟨j + 1, q + 1, _, rfl, by go_num, by omega, by have := HQ.out; omega, by have := HZ.out; simp only [ByteArray.size_append]; omega, H2.out, G2.out⟩, by simp [intOf]; omega⟩
          · have hub : ((u : Int) == 0) = false := by rw [beq_eq_false_iff_ne]; omega
            clear hA
            go_wp2_with fail
            exact ⟨⟨j + 1, q + 1, _, rfl, by go_num, by omega, by have := HQ.out; omega, by have := HZ.out; simp only [ByteArray.size_append]; omega, H2.out, G2.out⟩, by simp [intOf]; omega⟩
        · have hub : ((u : Int) == 0) = false := by rw [beq_eq_false_iff_ne]; omega
          clear hA
          by_cases hK : u < 5 ∧ ar = true
          · obtain ⟨hu5, rfl⟩ := hK
            go_wp2_with fail
            exact ⟨⟨j + 1, q + 1, _, rfl, by go_num, by omega, by have := HQ.out; omega, by have := HZ.out; simp only [ByteArray.size_append]; omega, H2.out, G2.out⟩, by simp [intOf]; omega⟩
          · have OF := Lib.hid (of_any (w2.alloc (Obj.cells #[.string ⟨#[43, 49]⟩, .string ⟨#[45, 49]⟩, .string ⟨#[42, 50]⟩, .string ⟨#[43, 50]⟩] 9)) rb a n c (q + 1) w2.heap.size 4 4 2 (H2.out.later (alloc_heap (w := w2) _)) (by omega) (by omega) (by omega) (by have := heap_lt H2.out.own; omega) (plus_cells w2 w2.heap.size [⟨#[43, 49]⟩, ⟨#[45, 49]⟩, ⟨#[42, 50]⟩, ⟨#[43, 50]⟩] 2 step_small rfl))
            by_cases hu5 : u < 5
            · obtain rfl : ar = false := by cases ar with
                | false => rfl
                | true => exact absurd ⟨hu5, rfl⟩ hK
              clear hK
              go_wp2_with fail
              refine OF.out.mono ?_
              rintro e w3 ⟨t, q3, rfl, ht, hq3, hr3, hg3⟩
              have H3 := Lib.hid hr3
              have G3 := Lib.hid (grownBy_trans G2.out (grownBy_trans (World.grownBy_alloc w2 _ _) hg3))
              clear hr3 hg3
              have e3 := str_sum st t (by omega)
              go_wp2_with fail
              exact ⟨⟨j + 1, q3, _, rfl, by go_num, by omega, by have := HQ.out; omega, by have := HZ.out; simp only [ByteArray.size_append]; omega, H3.out, G3.out⟩, by simp [intOf]; omega⟩
            · clear hK
              go_wp2_with fail
              refine OF.out.mono ?_
              rintro e w3 ⟨t, q3, rfl, ht, hq3, hr3, hg3⟩
              have H3 := Lib.hid hr3
              have G3 := Lib.hid (grownBy_trans G2.out (grownBy_trans (World.grownBy_alloc w2 _ _) hg3))
              clear hr3 hg3
              have e3 := str_sum st t (by omega)
              go_wp2_with fail
              exact ⟨⟨j + 1, q3, _, rfl, by go_num, by omega, by have := HQ.out; omega, by have := HZ.out; simp only [ByteArray.size_append]; omega, H3.out, G3.out⟩, by simp [intOf]; omega⟩
    · have hjv : j = 0 ∨ j = 1 ∨ j = 2 := by omega
      have HB := Lib.hid (show q ≤ p + (1 + 2 * C) ∧ st.size ≤ 2 * P by rcases hjv with rfl | rfl | rfl <;> omega)
      clear hq hst hjv
      go_wp2_with fail
      go_ret
      exact ⟨st, q, rfl, HB.out.2, HB.out.1, hR.out, hG.out⟩

theorem l4d_zero (rb : Nat) (a : Option Addr) (n c : Nat) (ar : Bool) (w : World) (p : Nat) (j : Int) (hj : j = 0) (h : Rdr w rb a n c p) (hp : p + 5 ≤ 60000) :
    Calls Tryz.prog 58 #[.pointer (some ⟨rb, 0, none⟩), .bool ar, .int .i64 j] w (DrewS w rb a n c p 4 5) := by
  subst hj
  exact l4d_gen rb a n c ar 0 2 2 0 0 (by omega) (by omega) (by omega) (by omega) (fun h => by omega) (by omega) (fun h => by omega) w p h (by omega)
theorem l4d_one (rb : Nat) (a : Option Addr) (n c : Nat) (ar : Bool) (w : World) (p : Nat) (h : Rdr w rb a n c p) (hp : p + 23 ≤ 60000) :
    Calls Tryz.prog 58 #[.pointer (some ⟨rb, 0, none⟩), .bool ar, .int .i64 1] w (DrewS w rb a n c p 26 23) :=
  l4d_gen rb a n c ar 1 13 11 4 5 (by omega) (by omega) (by omega) (by omega) (fun _ => by omega) (by omega) (fun _ w p j hj h hp => l4d_zero rb a n c ar w p j (by omega) h hp) w p h (by omega)
end Go.Proofs.YtecifbncfglckaaGreatDoor
