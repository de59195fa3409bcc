/- The model's l3Draw and l3Some: texts of at most 23 and 46 bytes, whatever the bytes behind the source. Conditions: counts up to 60000. The model's l4Draw: a body of at most 26 bytes, whatever the bytes behind the source. Conditions: counts up to 60000. The model's num, l3Some: a text of at most 46 bytes; an aspect that is drawn in memory. Conditions: counts up to 60000. The model's l4Some: an aspect of short texts, whatever the bytes behind the source. Conditions: counts up to 50000. -/
import Derived.Test.YtkdnbdgpcgookaaGreatDoorDrawO
import Derived.Test.YtkdnbdgpcgookaaGreatDoorDx
import Derived.Deep.RegionWith
import Derived.Test.YtkdnbdgpcgookaaGreatDoorOnly
namespace Go.Proofs.YtkdnbdgpcgookaaGreatDoor
open Go.RowKit

def lB : Nat → Nat
  | 0 => 2
  | d + 1 => 2 * lB d + 1
def lC : Nat → Nat
  | 0 => 3
  | d + 1 => 2 * lC d + 2
theorem lB_le (d : Nat) : 2 ≤ lB d := by induction d with
  | zero => simp [lB]
  | succ d ih => simp [lB]; omega
theorem lC_le (d : Nat) : 3 ≤ lC d := by induction d with
  | zero => simp [lC]
  | succ d ih => simp [lC]; omega
theorem abcb_small : ∀ s ∈ [(⟨#[97]⟩ : ByteArray), ⟨#[98]⟩, ⟨#[99]⟩, ⟨#[98]⟩], s.size ≤ 1 := by decide
theorem leaf_small (t : ByteArray) (ht : t.size ≤ 1) : ∀ s ∈ [(⟨#[80]⟩ : ByteArray), ⟨#[67]⟩ ++ t, ⟨#[87]⟩ ++ t, ⟨#[70]⟩ ++ t, ⟨#[67]⟩ ++ t, ⟨#[80]⟩, ⟨#[84]⟩, ⟨#[78]⟩], s.size ≤ 2 := by
  have h67 : (⟨#[67]⟩ : ByteArray).size = 1 := rfl
  have h87 : (⟨#[87]⟩ : ByteArray).size = 1 := rfl
  have h70 : (⟨#[70]⟩ : ByteArray).size = 1 := rfl
  have h80 : (⟨#[80]⟩ : ByteArray).size = 1 := rfl
  have h84 : (⟨#[84]⟩ : ByteArray).size = 1 := rfl
  have h78 : (⟨#[78]⟩ : ByteArray).size = 1 := rfl
  intro s hs
  simp only [List.mem_cons, List.not_mem_nil, or_false] at hs
  rcases hs with rfl | rfl | rfl | rfl | rfl | rfl | rfl | rfl <;> first | (simp only [ByteArray.size_append]; omega) | omega

set_option maxHeartbeats 1000000 in
set_option maxRecDepth 100000 in
theorem l3d_zero (w : World) (rb : Nat) (a : Option Addr) (n c p : Nat) (h : Rdr w rb a n c p) (hp : p ≤ 60000) :
    Calls Tryz.prog 65 #[.pointer (some ⟨rb, 0, none⟩), .int .i64 0] w (DrewS w rb a n c p 2 3) := by
  have H := Lib.hid h
  have hrb := heap_lt h.own
  clear h
  go_enter Tryz.func65, Tryz.ntmps65
  go_wp2_with fail
  refine (of_any _ rb a n c p w.heap.size 4 4 1 (H.out.later (alloc_heap (w := w) _)) (by omega) (by omega) (by omega) (by have := heap_lt H.out.own; omega) (plus_cells w w.heap.size [⟨#[97]⟩, ⟨#[98]⟩, ⟨#[99]⟩, ⟨#[98]⟩] 1 abcb_small rfl)).mono ?_
  rintro e w2 ⟨t, q, rfl, ht, hq, hr, hg⟩
  have HR := Lib.hid hr
  have HG := Lib.hid (grownBy_trans (World.grownBy_alloc w _ _) hg)
  clear hr hg
  have e1 := str_sum ⟨#[67]⟩ t (by have : (⟨#[67]⟩ : ByteArray).size = 1 := rfl; omega)
  have e2 := str_sum ⟨#[87]⟩ t (by have : (⟨#[87]⟩ : ByteArray).size = 1 := rfl; omega)
  have e3 := str_sum ⟨#[70]⟩ t (by have : (⟨#[70]⟩ : ByteArray).size = 1 := rfl; omega)
  go_wp2_with fail
  refine (of_any _ rb a n c q w2.heap.size 8 8 2 (HR.out.later (alloc_heap (w := w2) _)) (by omega) (by omega) (by omega) (by have := heap_lt HR.out.own; omega) (plus_cells w2 w2.heap.size [⟨#[80]⟩, ⟨#[67]⟩ ++ t, ⟨#[87]⟩ ++ t, ⟨#[70]⟩ ++ t, ⟨#[67]⟩ ++ t, ⟨#[80]⟩, ⟨#[84]⟩, ⟨#[78]⟩] 2 (leaf_small t ht) rfl)).mono ?_
  rintro e w3 ⟨t', q', rfl, ht', hq', hr', hg'⟩
  have HR3 := Lib.hid hr'
  have HG3 := Lib.hid (grownBy_trans HG.out (grownBy_trans (World.grownBy_alloc w2 _ _) hg'))
  clear hr' hg'
  go_wp2_with fail
  go_ret
  exact ⟨t', q', rfl, ht', by omega, HR3.out, HG3.out⟩

set_option maxHeartbeats 1000000 in
set_option maxRecDepth 100000 in
theorem l3d_succ (d : Nat) (hd : d ≤ 3) (rb : Nat) (a : Option Addr) (n c : Nat)
    (IH : ∀ (w : World) (p : Nat) (k : Int), k = d → Rdr w rb a n c p → p + lC d ≤ 60000 → Calls Tryz.prog 65 #[.pointer (some ⟨rb, 0, none⟩), .int .i64 k] w (DrewS w rb a n c p (lB d) (lC d)))
    (w : World) (p : Nat) (k : Int) (hk : k = d + 1) (h : Rdr w rb a n c p) (hp : p + lC (d + 1) ≤ 60000) :
    Calls Tryz.prog 65 #[.pointer (some ⟨rb, 0, none⟩), .int .i64 k] w (DrewS w rb a n c p (lB (d + 1)) (lC (d + 1))) := by
  have H := Lib.hid h
  have HI := Lib.hid IH
  have b2 := lB_le d
  have c3 := lC_le d
  have bB : lB d ≤ 1000 := by
    have : d = 0 ∨ d = 1 ∨ d = 2 ∨ d = 3 := by omega
    rcases this with rfl | rfl | rfl | rfl <;> decide
  have eB : lB (d + 1) = 2 * lB d + 1 := rfl
  have eC : lC (d + 1) = 2 * lC d + 2 := rfl
  rw [eC] at hp
  rw [eB, eC]
  clear h IH eB eC
  generalize lB d = B at *
  generalize lC d = C at *
  go_enter Tryz.func65, Tryz.ntmps65
  go_wp2_with fail
  refine (pick_to 4 H.out (by omega) (by omega)).mono ?_
  rintro e w1 ⟨v, rfl, hv, hr1, hg1⟩
  have H1 := Lib.hid hr1
  have G1 := Lib.hid hg1
  clear hr1 hg1
  by_cases hv0 : v = 0
  · subst hv0
    go_wp2_with fail
    refine (of_any _ rb a n c (p + 1) w1.heap.size 4 4 1 (H1.out.later (alloc_heap (w := w1) _)) (by omega) (by omega) (by omega) (by have := heap_lt H1.out.own; omega) (plus_cells w1 w1.heap.size [⟨#[97]⟩, ⟨#[98]⟩, ⟨#[99]⟩, ⟨#[98]⟩] 1 abcb_small rfl)).mono ?_
    rintro e w2 ⟨t, q, rfl, ht, hq, hr, hg⟩
    have HR := Lib.hid hr
    have HG := Lib.hid (grownBy_trans (World.grownBy_alloc w1 _ _) hg)
    clear hr hg
    have e1 := str_sum ⟨#[67]⟩ t (by have : (⟨#[67]⟩ : ByteArray).size = 1 := rfl; omega)
    have e2 := str_sum ⟨#[87]⟩ t (by have : (⟨#[87]⟩ : ByteArray).size = 1 := rfl; omega)
    have e3 := str_sum ⟨#[70]⟩ t (by have : (⟨#[70]⟩ : ByteArray).size = 1 := rfl; omega)
    go_wp2_with fail
    refine (of_any _ rb a n c q w2.heap.size 8 8 2 (HR.out.later (alloc_heap (w := w2) _)) (by omega) (by omega) (by omega) (by have := heap_lt HR.out.own; omega) (plus_cells w2 w2.heap.size [⟨#[80]⟩, ⟨#[67]⟩ ++ t, ⟨#[87]⟩ ++ t, ⟨#[70]⟩ ++ t, ⟨#[67]⟩ ++ t, ⟨#[80]⟩, ⟨#[84]⟩, ⟨#[78]⟩] 2 (leaf_small t ht) rfl)).mono ?_
    rintro e w3 ⟨t', q', rfl, ht', hq', hr', hg'⟩
    have HR3 := Lib.hid hr'
    have HG3 := Lib.hid (grownBy_trans HG.out (grownBy_trans (World.grownBy_alloc w2 _ _) hg'))
    clear hr' hg'
    go_wp2_with fail
    go_ret
    exact ⟨t', q', rfl, by omega, by omega, HR3.out, grownBy_trans G1.out HG3.out⟩
  · have hvb : ((v : Int) == 0) = false := by rw [beq_eq_false_iff_ne]; omega
    go_wp2_with fail
    refine (pick_to 3 H1.out (by omega) (by omega)).mono ?_
    rintro e w2 ⟨u, rfl, hu, hr2, hg2⟩
    have H2 := Lib.hid hr2
    have G2 := Lib.hid (grownBy_trans G1.out hg2)
    clear hr2 hg2
    by_cases hu0 : u = 0
    · subst hu0
      go_wp2_with fail
      refine (HI.out _ _ _ (by omega) H2.out (by omega)).mono ?_
      rintro e w3 ⟨t, q, rfl, ht, hq, hr, hg⟩
      have HR := Lib.hid hr
      have HG := Lib.hid (grownBy_trans G2.out hg)
      clear hr hg
      have o33 : (⟨#[33]⟩ : ByteArray).size = 1 := rfl
      have e1 := str_sum ⟨#[33]⟩ t (by omega)
      go_wp2_with fail
      go_ret
      exact ⟨_, q, rfl, by rw [ByteArray.size_append]; omega, by omega, HR.out, HG.out⟩
    · have hub : ((u : Int) == 0) = false := by rw [beq_eq_false_iff_ne]; omega
      by_cases hu1 : u = 1
      · subst hu1
        go_wp2_with fail
        refine (HI.out _ _ _ (by omega) H2.out (by omega)).mono ?_
        rintro e w3 ⟨t, q, rfl, ht, hq, hr, hg⟩
        have HR := Lib.hid hr
        have HG := Lib.hid (grownBy_trans G2.out hg)
        clear hr hg
        have o38 : (⟨#[38]⟩ : ByteArray).size = 1 := rfl
        have e1 := str_sum ⟨#[38]⟩ t (by omega)
        go_wp2_with fail
        refine (HI.out _ _ _ (by omega) HR.out (by omega)).mono ?_
        rintro e w4 ⟨t', q', rfl, ht', hq', hr', hg'⟩
        have HR' := Lib.hid hr'
        have HG' := Lib.hid (grownBy_trans HG.out hg')
        clear hr' hg'
        have e2 := str_sum (⟨#[38]⟩ ++ t) t' (by rw [ByteArray.size_append]; omega)
        go_wp2_with fail
        go_ret
        exact ⟨_, q', rfl, by rw [ByteArray.size_append, ByteArray.size_append]; omega, by omega, HR'.out, HG'.out⟩
      · have hub1 : ((u : Int) == 1) = false := by rw [beq_eq_false_iff_ne]; omega
        go_wp2_with fail
        refine (HI.out _ _ _ (by omega) H2.out (by omega)).mono ?_
        rintro e w3 ⟨t, q, rfl, ht, hq, hr, hg⟩
        have HR := Lib.hid hr
        have HG := Lib.hid (grownBy_trans G2.out hg)
        clear hr hg
        have o38 : (⟨#[124]⟩ : ByteArray).size = 1 := rfl
        have e1 := str_sum ⟨#[124]⟩ t (by omega)
        go_wp2_with fail
        refine (HI.out _ _ _ (by omega) HR.out (by omega)).mono ?_
        rintro e w4 ⟨t', q', rfl, ht', hq', hr', hg'⟩
        have HR' := Lib.hid hr'
        have HG' := Lib.hid (grownBy_trans HG.out hg')
        clear hr' hg'
        have e2 := str_sum (⟨#[124]⟩ ++ t) t' (by rw [ByteArray.size_append]; omega)
        go_wp2_with fail
        go_ret
        exact ⟨_, q', rfl, by rw [ByteArray.size_append, ByteArray.size_append]; omega, by omega, HR'.out, HG'.out⟩

theorem l3d_any (rb : Nat) (a : Option Addr) (n c : Nat) : ∀ (d : Nat) (_ : d ≤ 3) (w : World) (p : Nat) (k : Int) (_ : k = d) (_ : Rdr w rb a n c p) (_ : p + lC d ≤ 60000),
    Calls Tryz.prog 65 #[.pointer (some ⟨rb, 0, none⟩), .int .i64 k] w (DrewS w rb a n c p (lB d) (lC d))
  | 0, _, w, p, k, hk, h, hp => by
    subst hk
    exact l3d_zero w rb a n c p h (by omega)
  | d + 1, hd, w, p, k, hk, h, hp => l3d_succ d (by omega) rb a n c (fun w p k hk h hp => l3d_any rb a n c d (by omega) w p k hk h hp) w p k (by omega) h hp
end Go.Proofs.YtkdnbdgpcgookaaGreatDoor
namespace Go.Proofs.YtkdnbdgpcgookaaGreatDoor
open Go.RowKit

theorem step_small : ∀ s ∈ [(⟨#[43, 49]⟩ : ByteArray), ⟨#[45, 49]⟩, ⟨#[42, 50]⟩, ⟨#[43, 50]⟩], s.size ≤ 2 := by decide

set_option maxHeartbeats 2000000 in
set_option maxRecDepth 100000 in
theorem l4d_gen (rb : Nat) (a : Option Addr) (n c : Nat) (ar : Bool) (k : Int) (P C S0 C0 : Nat) (hP2 : 2 ≤ P) (hC2 : 2 ≤ C) (hPb : P ≤ 1000) (hCb : C ≤ 1000) (hS : 0 < k → 5 + 2 * S0 ≤ P ∧ 1 + 2 * C0 ≤ C) (hkb : -1000 ≤ k ∧ k ≤ 1000)
    (IH : 0 < k → ∀ (w : World) (p : Nat) (j : Int), j = k - 1 → Rdr w rb a n c p → p + C0 ≤ 60000 → Calls Tryz.prog 66 #[.pointer (some ⟨rb, 0, none⟩), .bool ar, .int .i64 j] w (DrewS w rb a n c p S0 C0))
    (w : World) (p : Nat) (h : Rdr w rb a n c p) (hp : p + 1 + 2 * C ≤ 60000) :
    Calls Tryz.prog 66 #[.pointer (some ⟨rb, 0, none⟩), .bool ar, .int .i64 k] w (DrewS w rb a n c p (2 * P) (1 + 2 * C)) := by
  have H := Lib.hid h
  have HI := Lib.hid IH
  have HS := Lib.hid hS
  obtain ⟨k1, k2⟩ := hkb
  clear h IH hS
  go_enter Tryz.func66, Tryz.ntmps66
  go_wp2_with fail
  refine (pick_to 3 H.out (by omega) (by omega)).mono ?_
  rintro e w1 ⟨v, rfl, hv, hr1, hg1⟩
  have H1 := Lib.hid hr1
  have G1 := Lib.hid hg1
  clear hr1 hg1
  go_wp2_with fail
  go_loopw [7, 12] (fun o i wr => ∃ (j q : Nat) (st : ByteArray), o = .string st ∧ i = .int .i64 j ∧ j ≤ v ∧ q ≤ p + 1 + j * C ∧ st.size ≤ j * P ∧ Hid (Rdr wr rb a n c q) ∧ Hid (w.grownBy wr (some rb))) (fun _ i _ => v - (intOf i).toNat)
  case atStart => exact ⟨0, p + 1, ⟨#[]⟩, rfl, by go_num, Nat.zero_le _, by omega, Nat.zero_le _, H1.out, G1.out⟩
  case round =>
    obtain ⟨j, q, st, rfl, rfl, hj, hq, hst, hR, hG⟩ := hrel
    by_cases hlt : j < v
    · have hjv : j = 0 ∨ j = 1 := by omega
      have hqb : q + C ≤ p + 1 + (j + 1) * C ∧ q + C ≤ 60000 := by rcases hjv with rfl | rfl <;> omega
      have hsb : st.size + P ≤ (j + 1) * P ∧ st.size + P ≤ 10000 := by rcases hjv with rfl | rfl <;> omega
      clear hq hst
      obtain ⟨hq1, hq2⟩ := hqb
      obtain ⟨hs1, hs2⟩ := hsb
      have HQ := Lib.hid hq1
      have HZ := Lib.hid hs1
      clear hq1 hs1 hjv
      go_wp2_with fail
      refine (pick_to 7 hR.out (by omega) (by omega)).mono ?_
      rintro e w2 ⟨u, rfl, hu, hr2, hg2⟩
      have H2 := Lib.hid hr2
      have G2 := Lib.hid (grownBy_trans hG.out hg2)
      clear hr2 hg2
      by_cases hA : u = 0 ∧ 0 < k
      · obtain ⟨rfl, hk0⟩ := hA
        have HC := Lib.hid (HS.out hk0)
        have hc1 := HC.out.1
        have hc2 := HC.out.2
        go_wp2_with fail
        refine (HI.out hk0 _ _ _ (by omega) H2.out (by omega)).mono ?_
        rintro e w3 ⟨t, q3, rfl, ht, hq3, hr3, hg3⟩
        have H3 := Lib.hid hr3
        have G3 := Lib.hid (grownBy_trans G2.out hg3)
        clear hr3 hg3
        have o1 : (⟨#[63, 91]⟩ : ByteArray).size = 2 := rfl
        have o2 : (⟨#[93, 91]⟩ : ByteArray).size = 2 := rfl
        have o3 : (⟨#[93]⟩ : ByteArray).size = 1 := rfl
        have e1 := str_sum st ⟨#[63, 91]⟩ (by omega)
        have e2 := str_sum (st ++ ⟨#[63, 91]⟩) t (by simp only [ByteArray.size_append]; omega)
        have e3 := str_sum (st ++ ⟨#[63, 91]⟩ ++ t) ⟨#[93, 91]⟩ (by simp only [ByteArray.size_append]; omega)
        go_wp2_with fail
        refine (HI.out hk0 _ _ _ (by omega) H3.out (by omega)).mono ?_
        rintro e w4 ⟨t', q4, rfl, ht', hq4, hr4, hg4⟩
        have H4 := Lib.hid hr4
        have G4 := Lib.hid (grownBy_trans G3.out hg4)
        clear hr4 hg4
        have e4 := str_sum (st ++ ⟨#[63, 91]⟩ ++ t ++ ⟨#[93, 91]⟩) t' (by simp only [ByteArray.size_append]; omega)
        have e5 := str_sum (st ++ ⟨#[63, 91]⟩ ++ t ++ ⟨#[93, 91]⟩ ++ t') ⟨#[93]⟩ (by simp only [ByteArray.size_append]; omega)
        go_wp2_with fail
        exact ⟨⟨j + 1, q4, _, rfl, by go_num, by omega, by have := HQ.out; omega, by have := HZ.out; simp only [ByteArray.size_append]; omega, H4.out, G4.out⟩, by simp [intOf]; omega⟩
      · have o1 : (⟨#[80]⟩ : ByteArray).size = 1 := rfl
        have o2 : (⟨#[75]⟩ : ByteArray).size = 1 := rfl
        have e1 := str_sum st ⟨#[80]⟩ (by omega)
        have e2 := str_sum st ⟨#[75]⟩ (by omega)
        by_cases hu3 : u < 3
        · by_cases hu0 : u = 0
          · have hk0 : ¬ 0 < k := fun h => hA ⟨hu0, h⟩
            subst hu0
            clear hA
            go_wp2_with fail
            exact ⟨⟨j + 1, q + 1, _, rfl, by go_num, by omega, by have := HQ.out; omega, by have := HZ.out; simp only [ByteArray.size_append]; omega, H2.out, G2.out⟩, by simp [intOf]; omega⟩
          · have hub : ((u : Int) == 0) = false := by rw [beq_eq_false_iff_ne]; omega
            clear hA
            go_wp2_with fail
            exact ⟨⟨j + 1, q + 1, _, rfl, by go_num, by omega, by have := HQ.out; omega, by have := HZ.out; simp only [ByteArray.size_append]; omega, H2.out, G2.out⟩, by simp [intOf]; omega⟩
        · have hub : ((u : Int) == 0) = false := by rw [beq_eq_false_iff_ne]; omega
          clear hA
          by_cases hK : u < 5 ∧ ar = true
          · obtain ⟨hu5, rfl⟩ := hK
            go_wp2_with fail
            exact ⟨⟨j + 1, q + 1, _, rfl, by go_num, by omega, by have := HQ.out; omega, by have := HZ.out; simp only [ByteArray.size_append]; omega, H2.out, G2.out⟩, by simp [intOf]; omega⟩
          · have OF := Lib.hid (of_any (w2.alloc (Obj.cells #[.string ⟨#[43, 49]⟩, .string ⟨#[45, 49]⟩, .string ⟨#[42, 50]⟩, .string ⟨#[43, 50]⟩] 9)) rb a n c (q + 1) w2.heap.size 4 4 2 (H2.out.later (alloc_heap (w := w2) _)) (by omega) (by omega) (by omega) (by have := heap_lt H2.out.own; omega) (plus_cells w2 w2.heap.size [⟨#[43, 49]⟩, ⟨#[45, 49]⟩, ⟨#[42, 50]⟩, ⟨#[43, 50]⟩] 2 step_small rfl))
            by_cases hu5 : u < 5
            · obtain rfl : ar = false := by cases ar with
                | false => rfl
                | true => exact absurd ⟨hu5, rfl⟩ hK
              clear hK
              go_wp2_with fail
              refine OF.out.mono ?_
              rintro e w3 ⟨t, q3, rfl, ht, hq3, hr3, hg3⟩
              have H3 := Lib.hid hr3
              have G3 := Lib.hid (grownBy_trans G2.out (grownBy_trans (World.grownBy_alloc w2 _ _) hg3))
              clear hr3 hg3
              have e3 := str_sum st t (by omega)
              go_wp2_with fail
              exact ⟨⟨j + 1, q3, _, rfl, by go_num, by omega, by have := HQ.out; omega, by have := HZ.out; simp only [ByteArray.size_append]; omega, H3.out, G3.out⟩, by simp [intOf]; omega⟩
            · clear hK
              go_wp2_with fail
              refine OF.out.mono ?_
              rintro e w3 ⟨t, q3, rfl, ht, hq3, hr3, hg3⟩
              have H3 := Lib.hid hr3
              have G3 := Lib.hid (grownBy_trans G2.out (grownBy_trans (World.grownBy_alloc w2 _ _) hg3))
              clear hr3 hg3
              have e3 := str_sum st t (by omega)
              go_wp2_with fail
              exact ⟨⟨j + 1, q3, _, rfl, by go_num, by omega, by have := HQ.out; omega, by have := HZ.out; simp only [ByteArray.size_append]; omega, H3.out, G3.out⟩, by simp [intOf]; omega⟩
    · have hjv : j = 0 ∨ j = 1 ∨ j = 2 := by omega
      have HB := Lib.hid (show q ≤ p + (1 + 2 * C) ∧ st.size ≤ 2 * P by rcases hjv with rfl | rfl | rfl <;> omega)
      clear hq hst hjv
      go_wp2_with fail
      go_ret
      exact ⟨st, q, rfl, HB.out.2, HB.out.1, hR.out, hG.out⟩

theorem l4d_zero (rb : Nat) (a : Option Addr) (n c : Nat) (ar : Bool) (w : World) (p : Nat) (j : Int) (hj : j = 0) (h : Rdr w rb a n c p) (hp : p + 5 ≤ 60000) :
    Calls Tryz.prog 66 #[.pointer (some ⟨rb, 0, none⟩), .bool ar, .int .i64 j] w (DrewS w rb a n c p 4 5) := by
  subst hj
  exact l4d_gen rb a n c ar 0 2 2 0 0 (by omega) (by omega) (by omega) (by omega) (fun h => by omega) (by omega) (fun h => by omega) w p h (by omega)
theorem l4d_one (rb : Nat) (a : Option Addr) (n c : Nat) (ar : Bool) (w : World) (p : Nat) (h : Rdr w rb a n c p) (hp : p + 23 ≤ 60000) :
    Calls Tryz.prog 66 #[.pointer (some ⟨rb, 0, none⟩), .bool ar, .int .i64 1] w (DrewS w rb a n c p 26 23) :=
  l4d_gen rb a n c ar 1 13 11 4 5 (by omega) (by omega) (by omega) (by omega) (fun _ => by omega) (by omega) (fun _ w p j hj h hp => l4d_zero rb a n c ar w p j (by omega) h hp) w p h (by omega)
end Go.Proofs.YtkdnbdgpcgookaaGreatDoor
namespace Go.Proofs.YtkdnbdgpcgookaaGreatDoor
open Go.RowKit Gram

theorem Rdr.set {w : World} {rb : Nat} {a : Option Addr} {n c p : Nat} (h : Rdr w rb a n c p) {jb i : Nat} (hne : jb ≠ rb) (hg : ∀ g off, a = some ⟨g, off, none⟩ → 0 < n → g ≠ jb) (u : Value) : Rdr (w.setCell ⟨jb, i, none⟩ u) rb a n c p := by
  refine ⟨by rw [heap_set_other (Ne.symm hne)]; exact h.own, fun k hk => ?_, h.off, h.small⟩
  obtain ⟨g, off, ha, b, hc⟩ := h.bytes k hk
  exact ⟨g, off, ha, b, by rw [← hc]; exact World.cell?_of_block (a := ⟨g, off + k, none⟩) (heap_set_other (hg g off ha (by omega)) u)⟩

set_option maxHeartbeats 400000 in
set_option maxRecDepth 100000 in
theorem num_any (w : World) (rb : Nat) (a : Option Addr) (n c p : Nat) (g ln lc M : Nat) (h : Rdr w rb a n c p) (hp : p ≤ 100000) (hl : 1 ≤ ln) (hlb : ln ≤ 1000) (hg : g ≠ rb)
    (hc : ∀ i, i < ln → ∃ m : Nat, w.cell? ⟨g, i, none⟩ = some (.int .i64 m) ∧ m ≤ M) :
    Calls Tryz.prog 67 #[.pointer (some ⟨rb, 0, none⟩), .slice (some ⟨g, 0, none⟩) ln lc] w fun e w' => ∃ m : Nat, e = .returned (.int .i64 m) ∧ m ≤ M ∧ Rdr w' rb a n c (p + 1) ∧ w.grownBy w' (some rb) := by
  have H := Lib.hid h
  have HC := Lib.hid hc
  clear h hc
  go_enter Tryz.func67, Tryz.ntmps67
  go_wp2_with fail
  refine (pick_to _ H.out hp (by omega)).mono ?_
  rintro e w1 ⟨v, rfl, hv, hr, hgr⟩
  have hv' : v < ln := by omega
  obtain ⟨s, hcs, hsz⟩ := HC.out v hv'
  have hc1 : w1.cell? ⟨g, v, none⟩ = some (.int .i64 s) := hgr.cell hcs (by simpa using hg)
  have HR := Lib.hid hr
  have HG := Lib.hid hgr
  clear hr hgr hcs
  go_wp2_with fail
  go_ret
  exact ⟨s, rfl, hsz, HR.out, HG.out⟩

theorem num_cells (w : World) (g : Nat) (ms : List Nat) (M : Nat) (hM : ∀ m ∈ ms, m ≤ M) (hg : g = w.heap.size) : ∀ i, i < ms.length → ∃ m : Nat, (w.alloc (Obj.cells (ms.map fun (m : Nat) => Value.int .i64 (m : Int)).toArray 3)).cell? ⟨g, i, none⟩ = some (.int .i64 m) ∧ m ≤ M := by
  subst hg
  intro i hi
  refine ⟨ms[i], ?_, hM _ (List.getElem_mem hi)⟩
  rw [Lib.cell_of_heap (heap_alloc_new w _)]
  simp
  exact ⟨_, List.getElem?_eq_getElem hi, rfl⟩
theorem lB3 (d : Nat) (h : d ≤ 3) : lB d ≤ 23 ∧ lC d ≤ 38 := by
  have : d = 0 ∨ d = 1 ∨ d = 2 ∨ d = 3 := by omega
  rcases this with rfl | rfl | rfl | rfl <;> decide
theorem tail_small : ∀ s ∈ [(⟨#[80]⟩ : ByteArray), ⟨#[120]⟩, ⟨#[38]⟩, ⟨#[67]⟩], s.size ≤ 1 := by decide

set_option maxHeartbeats 1000000 in
set_option maxRecDepth 100000 in
theorem l3s_any (w : World) (rb : Nat) (a : Option Addr) (n c p : Nat) (h : Rdr w rb a n c p) (hp : p + 50 ≤ 60000) :
    Calls Tryz.prog 81 #[.pointer (some ⟨rb, 0, none⟩)] w (DrewS w rb a n c p 46 45) := by
  have H := Lib.hid h
  have hrb := heap_lt h.own
  have HD := Lib.hid (l3d_any rb a n c)
  have HM := Lib.hid (fun (k : Int) (m : Nat) (hk : k = m) (hm : m ≤ 41) (h1 : 1 ≤ m) (w : World) => show Calls Tryz.prog 78 #[.string ⟨#[33]⟩, .int .i64 k] w fun e w' => (∃ s : ByteArray, e = .returned (.string s) ∧ s.size = m) ∧ w = w' by
    subst hk; exact many_any ⟨#[33]⟩ m m w (by show 1 * m = m; omega) (by omega) (by show 1 ≤ m; omega) (by omega))
  clear h
  go_enter Tryz.func81, Tryz.ntmps81
  go_wp2_with fail
  refine (num_any _ rb a n c p w.heap.size 4 4 3 (H.out.later (alloc_heap (w := w) _)) (by omega) (by omega) (by omega) (by omega) (num_cells w w.heap.size [1, 2, 0, 3] 3 (by decide) rfl)).mono ?_
  rintro e w1 ⟨d, rfl, hd, hr1, hg1⟩
  have H1 := Lib.hid hr1
  have G1 := Lib.hid (grownBy_trans (World.grownBy_alloc w _ _) hg1)
  have hB := (lB3 d hd).1
  have hC := (lB3 d hd).2
  clear hr1 hg1
  go_wp2_with fail
  refine (HD.out d hd _ _ _ rfl H1.out (by omega)).mono ?_
  rintro e w2 ⟨s, q, rfl, hs, hq, hr2, hg2⟩
  have H2 := Lib.hid hr2
  have G2 := Lib.hid (grownBy_trans G1.out hg2)
  clear hr2 hg2
  go_wp2_with fail
  refine (pick_to 16 H2.out (by omega) (by omega)).mono ?_
  rintro e w3 ⟨v, rfl, hv, hr3, hg3⟩
  have H3 := Lib.hid hr3
  have G3 := Lib.hid (grownBy_trans G2.out hg3)
  clear hr3 hg3
  by_cases hv0 : v = 0
  · subst hv0
    go_wp2_with fail
    refine (of_any _ rb a n c (q + 1) w3.heap.size 4 4 1 (H3.out.later (alloc_heap (w := w3) _)) (by omega) (by omega) (by omega) (by have := heap_lt H3.out.own; omega) (plus_cells w3 w3.heap.size [⟨#[80]⟩, ⟨#[120]⟩, ⟨#[38]⟩, ⟨#[67]⟩] 1 tail_small rfl)).mono ?_
    rintro e w4 ⟨t, q4, rfl, ht, hq4, hr4, hg4⟩
    have H4 := Lib.hid hr4
    have G4 := Lib.hid (grownBy_trans G3.out (grownBy_trans (World.grownBy_alloc w3 _ _) hg4))
    clear hr4 hg4
    have e1 := str_sum s t (by omega)
    go_wp2_with fail
    go_ret
    exact ⟨_, q4, rfl, by rw [ByteArray.size_append]; omega, by omega, H4.out, G4.out⟩
  · have hvb : ((v : Int) == 0) = false := by rw [beq_eq_false_iff_ne]; omega
    go_wp2_with fail
    refine (pick_to 40 H3.out (by omega) (by omega)).mono ?_
    rintro e w4 ⟨u, rfl, hu, hr4, hg4⟩
    have H4 := Lib.hid hr4
    have G4 := Lib.hid (grownBy_trans G3.out hg4)
    clear hr4 hg4
    by_cases hu0 : u = 0
    · subst hu0
      go_wp2_with fail
      refine (pick_to 2 H4.out (by omega) (by omega)).mono ?_
      rintro e w5 ⟨x, rfl, hx, hr5, hg5⟩
      have H5 := Lib.hid hr5
      have G5 := Lib.hid (grownBy_trans G4.out hg5)
      clear hr5 hg5
      go_wp2_with fail
      refine (HM.out _ (39 + x) (by omega) (by omega) (by omega) _).mono ?_
      rintro e w6 ⟨⟨t, rfl, ht⟩, rfl⟩
      have o1 : (⟨#[80]⟩ : ByteArray).size = 1 := rfl
      have e1 := str_sum t ⟨#[80]⟩ (by omega)
      go_wp2_with fail
      go_ret
      exact ⟨_, _, rfl, by rw [ByteArray.size_append]; omega, by omega, H5.out, G5.out⟩
    · have hub : ((u : Int) == 0) = false := by rw [beq_eq_false_iff_ne]; omega
      go_wp2_with fail
      go_ret
      exact ⟨s, _, rfl, by omega, by omega, H4.out, G4.out⟩

/-- the aspect that is drawn lies at block jb -/
structure Ap (w wr : World) (rb jb : Nat) (a : Option Addr) (n c p : Nat) (k nm st : ByteArray) : Prop where
  own : wr.heap[jb]? = some (.cells #[.string k, .string nm, .string st] 24 (0, 0))
  res : ∃ x y z, wr.heap[w.heap.size]? = some (.cells #[x, y, z] 24 (0, 0))
  new : w.heap.size < jb
  old : rb < w.heap.size
  rdr : Rdr wr rb a n c p
  grown : w.grownBy wr (some rb)
theorem Ap.read {w wr : World} {rb jb : Nat} {a : Option Addr} {n c p : Nat} {k nm st : ByteArray} (h : Ap w wr rb jb a n c p k nm st) :
    wr.cell? ⟨jb, 0, none⟩ = some (.string k) ∧ wr.cell? ⟨jb, 1, none⟩ = some (.string nm) ∧ wr.cell? ⟨jb, 2, none⟩ = some (.string st) ∧
    wr.frozen? ⟨jb, 0, none⟩ = false ∧ wr.frozen? ⟨jb, 1, none⟩ = false ∧ wr.frozen? ⟨jb, 2, none⟩ = false := by
  refine ⟨?_, ?_, ?_, Lib.frozen_of_heap h.own 0, Lib.frozen_of_heap h.own 1, Lib.frozen_of_heap h.own 2⟩ <;> (rw [Lib.cell_of_heap h.own]; rfl)
theorem Ap.later {w wr w' : World} {rb jb : Nat} {a : Option Addr} {n c p q : Nat} {k nm st : ByteArray} (h : Ap w wr rb jb a n c p k nm st) (hr : Rdr w' rb a n c q) (hg : wr.grownBy w' (some rb)) : Ap w w' rb jb a n c q k nm st :=
  ⟨by rw [hg.block jb (heap_lt h.own) (by have := h.new; have := h.old; intro e; injection e; omega)]; exact h.own,
    by obtain ⟨x, y, z, hx⟩ := h.res; exact ⟨x, y, z, by rw [hg.block w.heap.size (heap_lt hx) (by have := h.old; intro e; injection e; omega)]; exact hx⟩, h.new, h.old, hr, grownBy_trans h.grown hg⟩
theorem Ap.alloc {w wr : World} {rb jb : Nat} {a : Option Addr} {n c p : Nat} {k nm st : ByteArray} (h : Ap w wr rb jb a n c p k nm st) (o : Obj) : Ap w (wr.alloc o) rb jb a n c p k nm st :=
  h.later (h.rdr.later (alloc_heap o)) (World.grownBy_alloc _ _ _)
theorem Ap.set {w wr : World} {rb jb : Nat} {a : Option Addr} {n c p : Nat} {k nm st : ByteArray} (h : Ap w wr rb jb a n c p k nm st) (hg : ∀ g off, a = some ⟨g, off, none⟩ → 0 < n → g < w.heap.size) (i : Nat) (u : Value) (k' nm' st' : ByteArray)
    (hu : (#[Value.string k, .string nm, .string st] : Array Value).setIfInBounds i u = #[.string k', .string nm', .string st']) : Ap w (wr.setCell ⟨jb, i, none⟩ u) rb jb a n c p k' nm' st' := by
  have h1 := h.new
  have h2 := h.old
  refine ⟨by rw [heap_set_same h.own, hu], by obtain ⟨x, y, z, hx⟩ := h.res; exact ⟨x, y, z, by rw [heap_set_other (by omega)]; exact hx⟩, h.new, h.old, h.rdr.set (by omega) (fun g off ha hn => by have := hg g off ha hn; omega) u, ?_⟩
  exact ⟨h.grown.os, h.grown.tape, h.grown.output, by simp [World.setCell]; exact h.grown.size, fun j hj hne => by rw [heap_set_other (by omega)]; exact h.grown.block j hj hne⟩

theorem Ap.result {w wr : World} {rb jb : Nat} {a : Option Addr} {n c p : Nat} {k nm st : ByteArray} (h : Ap w wr rb jb a n c p k nm st) :
    ∃ x y z, wr.cell? ⟨w.heap.size, 0, none⟩ = some x ∧ wr.cell? ⟨w.heap.size, 1, none⟩ = some y ∧ wr.cell? ⟨w.heap.size, 2, none⟩ = some z ∧
    wr.frozen? ⟨w.heap.size, 0, none⟩ = false ∧ wr.frozen? ⟨w.heap.size, 1, none⟩ = false ∧ wr.frozen? ⟨w.heap.size, 2, none⟩ = false := by
  obtain ⟨x, y, z, hx⟩ := h.res
  refine ⟨x, y, z, ?_, ?_, ?_, Lib.frozen_of_heap hx 0, Lib.frozen_of_heap hx 1, Lib.frozen_of_heap hx 2⟩ <;> (rw [Lib.cell_of_heap hx]; rfl)
theorem Ap.final {w wr : World} {rb jb : Nat} {a : Option Addr} {n c p : Nat} {k nm st : ByteArray} (h : Ap w wr rb jb a n c p k nm st) (hg : ∀ g off, a = some ⟨g, off, none⟩ → 0 < n → g < w.heap.size) {X Y Z : Value} :
    (((wr.setCell ⟨w.heap.size, 0, none⟩ X).setCell ⟨w.heap.size, 1, none⟩ Y).setCell ⟨w.heap.size, 2, none⟩ Z).cell? ⟨w.heap.size, 0, none⟩ = some X ∧
    (((wr.setCell ⟨w.heap.size, 0, none⟩ X).setCell ⟨w.heap.size, 1, none⟩ Y).setCell ⟨w.heap.size, 2, none⟩ Z).cell? ⟨w.heap.size, 1, none⟩ = some Y ∧
    (((wr.setCell ⟨w.heap.size, 0, none⟩ X).setCell ⟨w.heap.size, 1, none⟩ Y).setCell ⟨w.heap.size, 2, none⟩ Z).cell? ⟨w.heap.size, 2, none⟩ = some Z ∧
    Rdr (((wr.setCell ⟨w.heap.size, 0, none⟩ X).setCell ⟨w.heap.size, 1, none⟩ Y).setCell ⟨w.heap.size, 2, none⟩ Z) rb a n c p ∧
    w.grownBy (((wr.setCell ⟨w.heap.size, 0, none⟩ X).setCell ⟨w.heap.size, 1, none⟩ Y).setCell ⟨w.heap.size, 2, none⟩ Z) (some rb) := by
  obtain ⟨x, y, z, hx⟩ := h.res
  have h1 := heap_set_same (k := 2) (heap_set_same (k := 1) (heap_set_same (k := 0) hx X) Y) Z
  have ho := h.old
  refine ⟨by rw [Lib.cell_of_heap h1]; rfl, by rw [Lib.cell_of_heap h1]; rfl, by rw [Lib.cell_of_heap h1]; rfl, ?_, ?_⟩
  · exact ((h.rdr.set (by omega) (fun g off ha hn => by have := hg g off ha hn; omega) _).set (by omega) (fun g off ha hn => by have := hg g off ha hn; omega) _).set (by omega) (fun g off ha hn => by have := hg g off ha hn; omega) _
  · refine ⟨h.grown.os, h.grown.tape, h.grown.output, by simp [World.setCell]; exact h.grown.size, fun j hj hne => ?_⟩
    rw [heap_set_other (by omega), heap_set_other (by omega), heap_set_other (by omega)]
    exact h.grown.block j hj hne
theorem Ap.final' {w wr : World} {rb jb : Nat} {a : Option Addr} {n c p : Nat} {k nm st : ByteArray} (h : Ap w wr rb jb a n c p k nm st) (hg : ∀ g off, a = some ⟨g, off, none⟩ → 0 < n → g < w.heap.size) (X Y Z : Value) :
    ∃ wf, ((wr.setCell ⟨w.heap.size, 0, none⟩ X).setCell ⟨w.heap.size, 1, none⟩ Y).setCell ⟨w.heap.size, 2, none⟩ Z = wf ∧ wf.cell? ⟨w.heap.size, 0, none⟩ = some X ∧ wf.cell? ⟨w.heap.size, 1, none⟩ = some Y ∧ wf.cell? ⟨w.heap.size, 2, none⟩ = some Z ∧ Rdr wf rb a n c p ∧ w.grownBy wf (some rb) :=
  ⟨_, rfl, h.final hg⟩
end Go.Proofs.YtkdnbdgpcgookaaGreatDoor
namespace Go.Proofs.YtkdnbdgpcgookaaGreatDoor
open Go.RowKit Gram

/-- what a draw of an aspect hands back -/
def DrewA (w : World) (rb : Nat) (a : Option Addr) (n c p M cost : Nat) (e : Ending) (w' : World) : Prop :=
  ∃ (k cc b : ByteArray) (q : Nat), e = .returned (aspV k cc b) ∧ k.size ≤ 100 ∧ cc.size ≤ 100 ∧ b.size ≤ M ∧ q ≤ p + cost ∧ Rdr w' rb a n c q ∧ w.grownBy w' (some rb)
theorem kinds_small : ∀ s ∈ [(⟨#[98, 101, 102, 111, 114, 101]⟩ : ByteArray), ⟨#[97, 102, 116, 101, 114]⟩, ⟨#[97, 114, 111, 117, 110, 100]⟩, ⟨#[97, 114, 111, 117, 110, 100]⟩], s.size ≤ 6 := by decide

set_option maxHeartbeats 1000000 in
set_option maxRecDepth 100000 in
theorem l4s_any (w : World) (rb : Nat) (a : Option Addr) (n c p : Nat) (h : Rdr w rb a n c p) (hp : p ≤ 50000) :
    Calls Tryz.prog 34 #[.pointer (some ⟨rb, 0, none⟩)] w (DrewA w rb a n c p 100 100) := by
  have H := Lib.hid h
  have HA := Lib.hid (show ∀ g off, a = some ⟨g, off, none⟩ → 0 < n → g < w.heap.size from fun g off ha hn => by
    obtain ⟨g', off', ha', b, hc⟩ := h.bytes 0 hn
    rw [ha] at ha'
    injection ha' with ha'; injection ha' with e1 e2
    subst e1
    exact World.block_lt_of_cell? w _ hc)
  have hrb := heap_lt h.own
  clear h
  have HD := Lib.hid (l3d_any rb a n c)
  have H0 := Lib.hid (H.out.later (alloc_heap (w := w) (Obj.cells #[.string ⟨#[]⟩, .string ⟨#[]⟩, .string ⟨#[]⟩] 24)))
  have G0 := Lib.hid (World.grownBy_alloc w (Obj.cells #[.string ⟨#[]⟩, .string ⟨#[]⟩, .string ⟨#[]⟩] 24) (some rb))
  have R0 := Lib.hid (heap_alloc_new w (Obj.cells #[.string ⟨#[]⟩, .string ⟨#[]⟩, .string ⟨#[]⟩] 24))
  have Z0 := Lib.hid (alloc_size' w (Obj.cells #[.string ⟨#[]⟩, .string ⟨#[]⟩, .string ⟨#[]⟩] 24))
  go_enter Tryz.func34, Tryz.ntmps34
  go_wp2_with fail
  generalize hw0 : w.alloc (Obj.cells #[.string ⟨#[]⟩, .string ⟨#[]⟩, .string ⟨#[]⟩] 24) = w0 at *
  clear hw0
  have hz0 := Z0.out
  clear Z0
  refine (of_any _ rb a n c p (w.heap.size + 1) 4 4 6 (H0.out.later (alloc_heap (w := w0) _)) (by omega) (by omega) (by omega) (by omega) (plus_cells w0 (w.heap.size + 1) [⟨#[98, 101, 102, 111, 114, 101]⟩, ⟨#[97, 102, 116, 101, 114]⟩, ⟨#[97, 114, 111, 117, 110, 100]⟩, ⟨#[97, 114, 111, 117, 110, 100]⟩] 6 kinds_small hz0.symm)).mono ?_
  rintro e w1 ⟨t, q1, rfl, ht, hq1, hr1, hg1⟩
  have H1 := Lib.hid hr1
  have G1 := Lib.hid (grownBy_trans (World.grownBy_alloc w0 (Obj.cells #[.string ⟨#[98, 101, 102, 111, 114, 101]⟩, .string ⟨#[97, 102, 116, 101, 114]⟩, .string ⟨#[97, 114, 111, 117, 110, 100]⟩, .string ⟨#[97, 114, 111, 117, 110, 100]⟩] 9) _) hg1)
  clear hr1 hg1
  go_wp2_with fail
  refine (pick_to 2 H1.out (by omega) (by omega)).mono ?_
  rintro e w2 ⟨d, rfl, hd, hr2, hg2⟩
  have H2 := Lib.hid hr2
  have G2 := Lib.hid (grownBy_trans G1.out hg2)
  clear hr2 hg2
  have hdd : d ≤ 3 := by omega
  have hB := (lB3 d hdd).1
  have hC := (lB3 d hdd).2
  go_wp2_with fail
  refine (HD.out d hdd _ _ _ rfl H2.out (by omega)).mono ?_
  rintro e w3 ⟨s, q3, rfl, hs, hq3, hr3, hg3⟩
  have H3 := Lib.hid hr3
  have G3 := Lib.hid (grownBy_trans G2.out hg3)
  clear hr3 hg3
  have hz3 : w0.heap.size ≤ w3.heap.size := G3.out.size
  have P3 := Lib.hid (show Ap w (w3.alloc (Obj.cells #[.string t, .string s, .string ⟨#[]⟩] 24)) rb w3.heap.size a n c q3 t s ⟨#[]⟩ from
    ⟨heap_alloc_new _ _, ⟨_, _, _, by
      rw [alloc_heap _ _ (by omega), G3.out.block w.heap.size (by omega) (by intro e; injection e; omega)]; exact R0.out⟩, by omega, hrb, H3.out.later (alloc_heap _), grownBy_trans G0.out (grownBy_trans G3.out (World.grownBy_alloc _ _ _))⟩)
  obtain ⟨q0, q1', q2', f0, f1, f2⟩ := P3.out.read
  go_wp2_with fail
  cases hb : (t.toList == [97, 114, 111, 117, 110, 100]) with
  | false =>
    refine (l4d_one rb a n c _ _ q3 P3.out.rdr (by omega)).mono ?_
    rintro e w5 ⟨b, q5, rfl, hbs, hq5, hr5, hg5⟩
    have P5 := Lib.hid (P3.out.later hr5 hg5)
    clear hr5 hg5 q0 q1' q2' f0 f1 f2 P3
    obtain ⟨q0, q1', q2', f0, f1, f2⟩ := P5.out.read
    have P6 := Lib.hid (P5.out.set HA.out 2 (.string b) _ _ b rfl)
    obtain ⟨x0, x1, x2, c0, c1, c2, z0, z1, z2⟩ := P5.out.result
    go_wp2_with fail
    obtain ⟨wf, hwf, y0, y1, y2, hR, hGr⟩ := P6.out.final' HA.out (.string t) (.string s) (.string b)
    rw [hwf]
    refine bodyPost_ret (v := aspV t s b) ?_ rfl ?_
    · simp [results, Tryz.results34, go_sem, y0, y1, y2, aspV]
    · exact ⟨_, _, _, _, rfl, by omega, by omega, by first | omega | (simp only [ByteArray.size_append]; omega), by omega, hR, hGr⟩
  | true =>
    refine (l4d_one rb a n c _ _ q3 P3.out.rdr (by omega)).mono ?_
    rintro e w5 ⟨b, q5, rfl, hbs, hq5, hr5, hg5⟩
    have P5 := Lib.hid (P3.out.later hr5 hg5)
    clear hr5 hg5 q0 q1' q2' f0 f1 f2 P3
    obtain ⟨q0, q1', q2', f0, f1, f2⟩ := P5.out.read
    have P6 := Lib.hid (P5.out.set HA.out 2 (.string b) _ _ b rfl)
    have HK := Lib.hid (fun w => show Calls Tryz.prog 63 #[.string b, .int .u8 75] w fun e w' => e = .returned (.bool (b.data.toList.contains 75)) ∧ w = w' from has_any b 75 (by omega) w)
    cases hc : b.data.toList.contains 75 with
    | true =>
      rw [hc] at HK
      go_wp2_with fail
      refine (HK.out _).mono ?_
      rintro e w6 ⟨rfl, rfl⟩
      obtain ⟨x0, x1, x2, c0, c1, c2, z0, z1, z2⟩ := P5.out.result
      go_wp2_with fail
      obtain ⟨wf, hwf, y0, y1, y2, hR, hGr⟩ := P6.out.final' HA.out (.string t) (.string s) (.string b)
      rw [hwf]
      refine bodyPost_ret (v := aspV t s b) ?_ rfl ?_
      · simp [results, Tryz.results34, go_sem, y0, y1, y2, aspV]
      · exact ⟨_, _, _, _, rfl, by omega, by omega, by first | omega | (simp only [ByteArray.size_append]; omega), by omega, hR, hGr⟩
    | false =>
      rw [hc] at HK
      go_wp2_with fail
      refine (HK.out _).mono ?_
      rintro e w6 ⟨rfl, rfl⟩
      clear q0 q1' q2' f0 f1 f2
      obtain ⟨q0, q1', q2', f0, f1, f2⟩ := P6.out.read
      go_wp2_with fail
      refine (pick_to 3 P6.out.rdr (by omega) (by omega)).mono ?_
      rintro e w7 ⟨v, rfl, hv, hr7, hg7⟩
      have P7 := Lib.hid (P6.out.later hr7 hg7)
      clear hr7 hg7 q0 q1' q2' f0 f1 f2
      obtain ⟨q0, q1', q2', f0, f1, f2⟩ := P7.out.read
      obtain ⟨x0, x1, x2, c0, c1, c2, z0, z1, z2⟩ := P7.out.result
      by_cases hv0 : v = 0
      · subst hv0
        go_wp2_with fail
        obtain ⟨wf, hwf, y0, y1, y2, hR, hGr⟩ := P7.out.final' HA.out (.string t) (.string s) (.string b)
        rw [hwf]
        refine bodyPost_ret (v := aspV t s b) ?_ rfl ?_
        · simp [results, Tryz.results34, go_sem, y0, y1, y2, aspV]
        · exact ⟨_, _, _, _, rfl, by omega, by omega, by first | omega | (simp only [ByteArray.size_append]; omega), by omega, hR, hGr⟩
      · have hvp : (0 : Int) < (v : Int) := by omega
        have o1 : (⟨#[75]⟩ : ByteArray).size = 1 := rfl
        have e1 := str_sum b ⟨#[75]⟩ (by omega)
        have P8 := Lib.hid (P7.out.set HA.out 2 (.string (b ++ ⟨#[75]⟩)) _ _ (b ++ ⟨#[75]⟩) rfl)
        go_wp2_with fail
        obtain ⟨wf, hwf, y0, y1, y2, hR, hGr⟩ := P8.out.final' HA.out (.string t) (.string s) (.string (b ++ ⟨#[75]⟩))
        rw [hwf]
        refine bodyPost_ret (v := aspV t s (b ++ ⟨#[75]⟩)) ?_ rfl ?_
        · simp [results, Tryz.results34, go_sem, y0, y1, y2, aspV]
        · exact ⟨_, _, _, _, rfl, by omega, by omega, by first | omega | (simp only [ByteArray.size_append]; omega), by omega, hR, hGr⟩
end Go.Proofs.YtkdnbdgpcgookaaGreatDoor
