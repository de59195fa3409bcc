/- The model's l3Draw and l3Some: texts of at most 23 and 46 bytes, whatever the bytes behind the source. Conditions: counts up to 60000. -/
import Derived.Test.YtecifbncfglckaaGreatDoorDrawO
import Derived.Test.YtecifbncfglckaaGreatDoorMany
import Derived.Deep.RegionWith
namespace Go.Proofs.YtecifbncfglckaaGreatDoor
open Go.RowKit

def lB : Nat → Nat
  | 0 => 2
  | d + 1 => 2 * lB d + 1
def lC : Nat → Nat
  | 0 => 3
  | d + 1 => 2 * lC d + 2
theorem lB_le (d : Nat) : 2 ≤ lB d := by induction d with
  | zero => simp [lB]
  | succ d ih => simp [lB]; omega
theorem lC_le (d : Nat) : 3 ≤ lC d := by induction d with
  | zero => simp [lC]
  | succ d ih => simp [lC]; omega
theorem abcb_small : ∀ s ∈ [(⟨#[97]⟩ : ByteArray), ⟨#[98]⟩, ⟨#[99]⟩, ⟨#[98]⟩], s.size ≤ 1 := by decide
theorem leaf_small (t : ByteArray) (ht : t.size ≤ 1) : ∀ s ∈ [(⟨#[80]⟩ : ByteArray), ⟨#[67]⟩ ++ t, ⟨#[87]⟩ ++ t, ⟨#[70]⟩ ++ t, ⟨#[67]⟩ ++ t, ⟨#[80]⟩, ⟨#[84]⟩, ⟨#[78]⟩], s.size ≤ 2 := by
  have h67 : (⟨#[67]⟩ : ByteArray).size = 1 := rfl
  have h87 : (⟨#[87]⟩ : ByteArray).size = 1 := rfl
  have h70 : (⟨#[70]⟩ : ByteArray).size = 1 := rfl
  have h80 : (⟨#[80]⟩ : ByteArray).size = 1 := rfl
  have h84 : (⟨#[84]⟩ : ByteArray).size = 1 := rfl
  have h78 : (⟨#[78]⟩ : ByteArray).size = 1 := rfl
  intro s hs
  simp only [List.mem_cons, List.not_mem_nil, or_false] at hs
  rcases hs with rfl | rfl | rfl | rfl | rfl | rfl | rfl | rfl <;> first | (simp only [ByteArray.size_append]; omega) | omega

set_option maxHeartbeats 1000000 in
set_option maxRecDepth 100000 in
theorem l3d_zero (w : World) (rb : Nat) (a : Option Addr) (n c p : Nat) (h : Rdr w rb a n c p) (hp : p ≤ 60000) :
    Calls Tryz.prog 57 #[.pointer (some ⟨rb, 0, none⟩), .int .i64 0] w (DrewS w rb a n c p 2 3) := by
  have H := Lib.hid h
  have hrb := heap_lt h.own
  clear h
  go_enter Tryz.func57, Tryz.ntmps57
  go_wp2_with fail
  refine (of_any _ rb a n c p w.heap.size 4 4 1 (H.out.later (alloc_heap (w := w) _)) (by omega) (by omega) (by omega) (by have := heap_lt H.out.own; omega) (plus_cells w w.heap.size [⟨#[97]⟩, ⟨#[98]⟩, ⟨#[99]⟩, ⟨#[98]⟩] 1 abcb_small rfl)).mono ?_
  rintro e w2 ⟨t, q, rfl, ht, hq, hr, hg⟩
  have HR := Lib.hid hr
  have HG := Lib.hid (grownBy_trans (World.grownBy_alloc w _ _) hg)
  clear hr hg
  have e1 := str_sum ⟨#[67]⟩ t (by have : (⟨#[67]⟩ : ByteArray).size = 1 := rfl; omega)
  have e2 := str_sum ⟨#[87]⟩ t (by have : (⟨#[87]⟩ : ByteArray).size = 1 := rfl; omega)
  have e3 := str_sum ⟨#[70]⟩ t (by have : (⟨#[70]⟩ : ByteArray).size = 1 := rfl; omega)
  go_wp2_with fail
  refine (of_any _ rb a n c q w2.heap.size 8 8 2 (HR.out.later (alloc_heap (w := w2) _)) (by omega) (by omega) (by omega) (by have := heap_lt HR.out.own; omega) (plus_cells w2 w2.heap.size [⟨#[80]⟩, ⟨#[67]⟩ ++ t, ⟨#[87]⟩ ++ t, ⟨#[70]⟩ ++ t, ⟨#[67]⟩ ++ t, ⟨#[80]⟩, ⟨#[84]⟩, ⟨#[78]⟩] 2 (leaf_small t ht) rfl)).mono ?_
  rintro e w3 ⟨t', q', rfl, ht', hq', hr', hg'⟩
  have HR3 := Lib.hid hr'
  have HG3 := Lib.hid (grownBy_trans HG.out (grownBy_trans (World.grownBy_alloc w2 _ _) hg'))
  clear hr' hg'
  go_wp2_with fail
  go_ret
  exact ⟨t', q', rfl, ht', by omega, HR3.out, HG3.out⟩

set_option maxHeartbeats 1000000 in
set_option maxRecDepth 100000 in
theorem l3d_succ (d : Nat) (hd : d ≤ 3) (rb : Nat) (a : Option Addr) (n c : Nat)
    (IH : ∀ (w : World) (p : Nat) (k : Int), k = d → Rdr w rb a n c p → p + lC d ≤ 60000 → Calls Tryz.prog 57 #[.pointer (some ⟨rb, 0, none⟩), .int .i64 k] w (DrewS w rb a n c p (lB d) (lC d)))
    (w : World) (p : Nat) (k : Int) (hk : k = d + 1) (h : Rdr w rb a n c p) (hp : p + lC (d + 1) ≤ 60000) :
    Calls Tryz.prog 57 #[.pointer (some ⟨rb, 0, none⟩), .int .i64 k] w (DrewS w rb a n c p (lB (d + 1)) (lC (d + 1))) := by
  have H := Lib.hid h
  have HI := Lib.hid IH
  have b2 := lB_le d
  have c3 := lC_le d
  have bB : lB d ≤ 1000 := by
    have : d = 0 ∨ d = 1 ∨ d = 2 ∨ d = 3 := by omega
    rcases this with rfl | rfl | rfl | rfl <;> decide
  have eB : lB (d + 1) = 2 * lB d + 1 := rfl
  have eC : lC (d + 1) = 2 * lC d + 2 := rfl
  rw [eC] at hp
  rw [eB, eC]
  clear h IH eB eC
  generalize lB d = B at *
  generalize lC d = C at *
  go_enter Tryz.func57, Tryz.ntmps57
  go_wp2_with fail
  refine (pick_to 4 H.out (by omega) (by omega)).mono ?_
  rintro e w1 ⟨v, rfl, hv, hr1, hg1⟩
  have H1 := Lib.hid hr1
  have G1 := Lib.hid hg1
  clear hr1 hg1
  by_cases hv0 : v = 0
  · subst hv0
    go_wp2_with fail
    refine (of_any _ rb a n c (p + 1) w1.heap.size 4 4 1 (H1.out.later (alloc_heap (w := w1) _)) (by omega) (by omega) (by omega) (by have := heap_lt H1.out.own; omega) (plus_cells w1 w1.heap.size [⟨#[97]⟩, ⟨#[98]⟩, ⟨#[99]⟩, ⟨#[98]⟩] 1 abcb_small rfl)).mono ?_
    rintro e w2 ⟨t, q, rfl, ht, hq, hr, hg⟩
    have HR := Lib.hid hr
    have HG := Lib.hid (grownBy_trans (World.grownBy_alloc w1 _ _) hg)
    clear hr hg
    have e1 := str_sum ⟨#[67]⟩ t (by have : (⟨#[67]⟩ : ByteArray).size = 1 := rfl; omega)
    have e2 := str_sum ⟨#[87]⟩ t (by have : (⟨#[87]⟩ : ByteArray).size = 1 := rfl; omega)
    have e3 := str_sum ⟨#[70]⟩ t (by have : (⟨#[70]⟩ : ByteArray).size = 1 := rfl; omega)
    go_wp2_with fail
    refine (of_any _ rb a n c q w2.heap.size 8 8 2 (HR.out.later (alloc_heap (w := w2) _)) (by omega) (by omega) (by omega) (by have := heap_lt HR.out.own; omega) (plus_cells w2 w2.heap.size [⟨#[80]⟩, ⟨#[67]⟩ ++ t, ⟨#[87]⟩ ++ t, ⟨#[70]⟩ ++ t, ⟨#[67]⟩ ++ t, ⟨#[80]⟩, ⟨#[84]⟩, ⟨#[78]⟩] 2 (leaf_small t ht) rfl)).mono ?_
    rintro e w3 ⟨t', q', rfl, ht', hq', hr', hg'⟩
    have HR3 := Lib.hid hr'
    have HG3 := Lib.hid (grownBy_trans HG.out (grownBy_trans (World.grownBy_alloc w2 _ _) hg'))
    clear hr' hg'
    go_wp2_with fail
    go_ret
    exact ⟨t', q', rfl, by omega, by omega, HR3.out, grownBy_trans G1.out HG3.out⟩
  · have hvb : ((v : Int) == 0) = false := by rw [beq_eq_false_iff_ne]; omega
    go_wp2_with fail
    refine (pick_to 3 H1.out (by omega) (by omega)).mono ?_
    rintro e w2 ⟨u, rfl, hu, hr2, hg2⟩
    have H2 := Lib.hid hr2
    have G2 := Lib.hid (grownBy_trans G1.out hg2)
    clear hr2 hg2
    by_cases hu0 : u = 0
    · subst hu0
      go_wp2_with fail
      refine (HI.out _ _ _ (by omega) H2.out (by omega)).mono ?_
      rintro e w3 ⟨t, q, rfl, ht, hq, hr, hg⟩
      have HR := Lib.hid hr
      have HG := Lib.hid (grownBy_trans G2.out hg)
      clear hr hg
      have o33 : (⟨#[33]⟩ : ByteArray).size = 1 := rfl
      have e1 := str_sum ⟨#[33]⟩ t (by omega)
      go_wp2_with fail
      go_ret
      exact ⟨_, q, rfl, by rw [ByteArray.size_append]; omega, by omega, HR.out, HG.out⟩
    · have hub : ((u : Int) == 0) = false := by rw [beq_eq_false_iff_ne]; omega
      by_cases hu1 : u = 1
      · subst hu1
        go_wp2_with fail
        refine (HI.out _ _ _ (by omega) H2.out (by omega)).mono ?_
        rintro e w3 ⟨t, q, rfl, ht, hq, hr, hg⟩
        have HR := Lib.hid hr
        have HG := Lib.hid (grownBy_trans G2.out hg)
        clear hr hg
        have o38 : (⟨#[38]⟩ : ByteArray).size = 1 := rfl
        have e1 := str_sum ⟨#[38]⟩ t (by omega)
        go_wp2_with fail
        refine (HI.out _ _ _ (by omega) HR.out (by omega)).mono ?_
        rintro e w4 ⟨t', q', rfl, ht', hq', hr', hg'⟩
        have HR' := Lib.hid hr'
        have HG' := Lib.hid (grownBy_trans HG.out hg')
        clear hr' hg'
        have e2 := str_sum (⟨#[38]⟩ ++ t) t' (by rw [ByteArray.size_append]; omega)
        go_wp2_with fail
        go_ret
        exact ⟨_, q', rfl, by rw [ByteArray.size_append, ByteArray.size_append]; omega, by omega, HR'.out, HG'.out⟩
      · have hub1 : ((u : Int) == 1) = false := by rw [beq_eq_false_iff_ne]; omega
        go_wp2_with fail
        refine (HI.out _ _ _ (by omega) H2.out (by omega)).mono ?_
        rintro e w3 ⟨t, q, rfl, ht, hq, hr, hg⟩
        have HR := Lib.hid hr
        have HG := Lib.hid (grownBy_trans G2.out hg)
        clear hr hg
        have o38 : (⟨#[124]⟩ : ByteArray).size = 1 := rfl
        have e1 := str_sum ⟨#[124]⟩ t (by omega)
        go_wp2_with fail
        refine (HI.out _ _ _ (by omega) HR.out (by omega)).mono ?_
        rintro e w4 ⟨t', q', rfl, ht', hq', hr', hg'⟩
        have HR' := Lib.hid hr'
        have HG' := Lib.hid (grownBy_trans HG.out hg')
        clear hr' hg'
        have e2 := str_sum (⟨#[124]⟩ ++ t) t' (by rw [ByteArray.size_append]; omega)
        go_wp2_with fail
        go_ret
        exact ⟨_, q', rfl, by rw [ByteArray.size_append, ByteArray.size_append]; omega, by omega, HR'.out, HG'.out⟩

theorem l3d_any (rb : Nat) (a : Option Addr) (n c : Nat) : ∀ (d : Nat) (_ : d ≤ 3) (w : World) (p : Nat) (k : Int) (_ : k = d) (_ : Rdr w rb a n c p) (_ : p + lC d ≤ 60000),
    Calls Tryz.prog 57 #[.pointer (some ⟨rb, 0, none⟩), .int .i64 k] w (DrewS w rb a n c p (lB d) (lC d))
  | 0, _, w, p, k, hk, h, hp => by
    subst hk
    exact l3d_zero w rb a n c p h (by omega)
  | d + 1, hd, w, p, k, hk, h, hp => l3d_succ d (by omega) rb a n c (fun w p k hk h hp => l3d_any rb a n c d (by omega) w p k hk h hp) w p k (by omega) h hp
end Go.Proofs.YtecifbncfglckaaGreatDoor
