/- The model's draws of bodies: l1Some, l1Draw: whatever the source holds, they return, and their texts are short. Conditions: counts up to 90000, depth at most 2. -/
import Derived.Test.YtlmppmdgajaclaaDraw2
namespace Go.Proofs.Ytlmppmdgajaclaa
open Go.RowKit

def Sz : Nat → Nat
  | 0 => 2
  | d + 1 => 5 + 6 * Sz d
def Cs : Nat → Nat
  | 0 => 3
  | d + 1 => 3 + 2 * (1 + 3 * Cs d)
theorem Sz_ge (d : Nat) : 2 ≤ Sz d := by cases d <;> simp [Sz] <;> omega
theorem Cs_ge (d : Nat) : 3 ≤ Cs d := by cases d <;> simp [Cs]

def SaidSome (d : Nat) : Prop := ∀ (w : World) (rb : Nat) (a : Option Addr) (n c p : Nat) (nm : ByteArray) (di : Int), di = d → Rdr w rb a n c p → p + 4000 * d ≤ 90000 → nm.size ≤ 10 → Sz d ≤ 1000 → Cs d ≤ 1000 →
  Calls Try.prog 22 #[.pointer (some ⟨rb, 0, none⟩), .string nm, .int .i64 di] w (DrewS w rb a n c p (Sz d) (Cs d))
def SaidDraw (d : Nat) : Prop := ∀ (w : World) (rb : Nat) (a : Option Addr) (n c p : Nat) (nm : ByteArray) (di : Int), di = d → Rdr w rb a n c p → p + 4000 * d + 2100 ≤ 90000 → nm.size ≤ 10  → Sz d ≤ 1000 → Cs d ≤ 1000 →
  Calls Try.prog 16 #[.pointer (some ⟨rb, 0, none⟩), .string nm, .int .i64 di] w (DrewS w rb a n c p (3 * Sz d) (1 + 3 * Cs d))

set_option maxHeartbeats 1000000 in
set_option maxRecDepth 100000 in
theorem draw_step (d : Nat) (ih : SaidSome d) : SaidDraw d := by
  intro w rb a n c p nm di hdi h hp hnm hsz hcs
  have H := Lib.hid h
  have IH := Lib.hid ih
  have HD := Lib.hid hdi
  clear h ih hdi
  go_enter Try.func16, Try.ntmps16
  go_wp2_with fail
  refine (pick_to 4 H.out (by omega) (by omega)).mono ?_
  rintro e w1 ⟨v, rfl, hv, hr, hg⟩
  have HR := Lib.hid hr
  have HG := Lib.hid hg
  clear hr hg
  have hvb : v ≤ 3 := by omega
  generalize hZe : Sz d = Z at *
  generalize hCe : Cs d = C at *
  have HZe := Lib.hid hZe
  have HCe := Lib.hid hCe
  clear hZe hCe
  go_wp2_with fail
  go_loopw [7, 10] (fun o i wr => ∃ (k q : Nat) (s : ByteArray), i = .int .i64 k ∧ k ≤ v ∧ o = .string s ∧ Hid (s.size ≤ k * Z) ∧ Hid (q ≤ p + 1 + k * C) ∧ Hid (Rdr wr rb a n c q ∧ w.grownBy wr (some rb))) (fun _ i _ => v - (intOf i).toNat)
  case atStart => exact ⟨0, p + 1, ⟨#[]⟩, by go_num, Nat.zero_le _, rfl, by show _ ≤ _; exact Nat.zero_le _, by show _ ≤ _; omega, HR.out, HG.out⟩
  case round =>
    obtain ⟨k, q, s, rfl, hk, rfl, hs, hq, hr⟩ := hrel
    have hkz : k * Z ≤ 3 * Z := Nat.mul_le_mul_right Z (by omega)
    have hkc : k * C ≤ 3 * C := Nat.mul_le_mul_right C (by omega)
    by_cases hlt : k < v
    · have hs3 : s.size ≤ 3 * Z := Nat.le_trans hs.out hkz
      have hkc2 : k * C ≤ 2 * C := Nat.mul_le_mul_right C (by omega)
      have hq3 : q ≤ p + 1 + 2 * C := Nat.le_trans hq.out (by omega)
      clear hkz hkc hkc2
      go_wp2_with fail
      refine (IH.out _ rb a n c q nm _ HD.out hr.out.1 (by omega) hnm (by rw [HZe.out]; exact hsz) (by rw [HCe.out]; exact hcs)).mono ?_
      rintro e w2 ⟨t, q', rfl, ht, hq', hr2, hg2⟩
      rw [HZe.out] at ht
      rw [HCe.out] at hq'
      have HR2 := Lib.hid hr2
      have HG2 := Lib.hid hg2
      clear hr2 hg2
      have e1 := str_add s t (by omega)
      go_wp2_with fail
      go_roundw
      case rel =>
        refine ⟨k + 1, q', s ++ t, by go_num, by omega, rfl, ?_, ?_, HR2.out, grownBy_trans hr.out.2 HG2.out⟩
        · show _ ≤ _; have := hs.out; rw [Nat.succ_mul]; simp; omega
        · show _ ≤ _; have := hq.out; rw [Nat.succ_mul]; omega
      case measure => simp [intOf]; omega
    · go_wp2_with fail
      go_ret
      exact ⟨s, q, rfl, Nat.le_trans hs.out hkz, Nat.le_trans hq.out (by omega), hr.out.1, hr.out.2⟩

theorem str_none {s : ByteArray} (h : s.size = 0) : s.toList.isEmpty = true := by
  rw [ByteArray.toList_eq]
  have : s.data.toList.length = 0 := by simpa using h
  rw [List.length_eq_zero_iff.1 this]; rfl
theorem str_some {s : ByteArray} (h : 0 < s.size) : s.toList.isEmpty = false := by
  rw [ByteArray.toList_eq]
  have : 0 < s.data.toList.length := by simpa using h
  cases hl : s.data.toList with
  | nil => rw [hl] at this; simp at this
  | cons x t => rfl
theorem four_small : ∀ s ∈ [(⟨#[43]⟩ : ByteArray), ⟨#[45]⟩, ⟨#[42]⟩, ⟨#[43]⟩], s.size ≤ 1 := by decide

set_option maxHeartbeats 4000000 in
set_option maxRecDepth 100000 in
theorem some_nameless (d : Nat) (ih : ∀ d', d = d' + 1 → SaidDraw d') (w : World) (rb : Nat) (a : Option Addr) (n c p : Nat) (nm : ByteArray) (h : Rdr w rb a n c p) (hp : p + 4000 * d ≤ 90000) (hnm : nm.size ≤ 10) (hZ : Sz d ≤ 1000) (hCs : Cs d ≤ 1000) (hem : nm.size = 0) :
    Calls Try.prog 22 #[.pointer (some ⟨rb, 0, none⟩), .string nm, .int .i64 d] w (DrewS w rb a n c p (Sz d) (Cs d)) := by
  have hz := Sz_ge d
  have hC := Cs_ge d
  have H := Lib.hid h
  have IH := Lib.hid ih
  have hel : nm.toList.isEmpty = true := str_none hem
  clear h ih hem
  go_enter Try.func22, Try.ntmps22
  go_wp2_with fail
  refine (pick_to 8 H.out (by omega) (by omega)).mono ?_
  rintro e w1 ⟨v, rfl, hv, hr, hg⟩
  have hrb := heap_lt hr.own
  have HR := Lib.hid hr
  have HG := Lib.hid hg
  clear hr hg
  obtain rfl | rfl | rfl | rfl | rfl | rfl | rfl | rfl : v = 0 ∨ v = 1 ∨ v = 2 ∨ v = 3 ∨ v = 4 ∨ v = 5 ∨ v = 6 ∨ v = 7 := by omega
  · go_wp2_with fail
    refine (of_any _ rb a n c (p + 1) w1.heap.size 4 4 1 (HR.out.later (alloc_heap _)) (by omega) (by omega) (by omega) (by omega) (plus_cells w1 w1.heap.size [⟨#[43]⟩, ⟨#[45]⟩, ⟨#[42]⟩, ⟨#[43]⟩] 1 four_small rfl)).mono ?_
    rintro e w2 ⟨s, q, rfl, hs1, hq, hr2, hg2⟩
    have HR2 := Lib.hid hr2
    have HG2 := Lib.hid hg2
    clear hr2 hg2
    go_wp2_with fail
    refine (pick_to 10 HR2.out (by omega) (by omega)).mono ?_
    rintro e w3 ⟨u, rfl, hu, hr3, hg3⟩
    have HR3 := Lib.hid hr3
    have HG3 := Lib.hid hg3
    clear hr3 hg3
    go_wp2_with fail
    refine (dec_digit u (by omega) (by omega) _).mono ?_
    rintro e w4 ⟨⟨t, rfl, ht⟩, hb4⟩
    have HB4 := Lib.hid hb4
    have HT := Lib.hid ht
    have e1 := str_add s t (by omega)
    clear hb4 ht
    go_wp2_with fail
    go_ret
    exact ⟨s ++ t, q + 1, rfl, by (have := HT.out; simp; omega), by omega, HR3.out.later (fun k hk => HB4.out.block k hk),
      grownBy_trans (grownBy_trans (grownBy_trans (grownBy_trans HG.out (World.grownBy_alloc _ _ _)) HG2.out) HG3.out) (grownBy_below HB4.out)⟩
  · go_wp2_with fail
    refine (of_any _ rb a n c (p + 1) w1.heap.size 4 4 1 (HR.out.later (alloc_heap _)) (by omega) (by omega) (by omega) (by omega) (plus_cells w1 w1.heap.size [⟨#[43]⟩, ⟨#[45]⟩, ⟨#[42]⟩, ⟨#[43]⟩] 1 four_small rfl)).mono ?_
    rintro e w2 ⟨s, q, rfl, hs1, hq, hr2, hg2⟩
    have HR2 := Lib.hid hr2
    have HG2 := Lib.hid hg2
    clear hr2 hg2
    go_wp2_with fail
    refine (pick_to 10 HR2.out (by omega) (by omega)).mono ?_
    rintro e w3 ⟨u, rfl, hu, hr3, hg3⟩
    have HR3 := Lib.hid hr3
    have HG3 := Lib.hid hg3
    clear hr3 hg3
    go_wp2_with fail
    refine (dec_digit u (by omega) (by omega) _).mono ?_
    rintro e w4 ⟨⟨t, rfl, ht⟩, hb4⟩
    have HB4 := Lib.hid hb4
    have HT := Lib.hid ht
    have e1 := str_add s t (by omega)
    clear hb4 ht
    go_wp2_with fail
    go_ret
    exact ⟨s ++ t, q + 1, rfl, by (have := HT.out; simp; omega), by omega, HR3.out.later (fun k hk => HB4.out.block k hk),
      grownBy_trans (grownBy_trans (grownBy_trans (grownBy_trans HG.out (World.grownBy_alloc _ _ _)) HG2.out) HG3.out) (grownBy_below HB4.out)⟩
  · go_wp2_with fail
    go_ret
    exact ⟨⟨#[80]⟩, p + 1, rfl, Nat.le_trans (Nat.le_succ 1) hz, by omega, HR.out, HG.out⟩
  · go_wp2_with fail
    go_ret
    exact ⟨⟨#[80]⟩, p + 1, rfl, Nat.le_trans (Nat.le_succ 1) hz, by omega, HR.out, HG.out⟩
  · go_wp2_with fail
    refine (pick_to 4 HR.out (by omega) (by omega)).mono ?_
    rintro e w3 ⟨u, rfl, hu, hr3, hg3⟩
    have HR3 := Lib.hid hr3
    have HG3 := Lib.hid hg3
    clear hr3 hg3
    go_wp2_with fail
    refine (dec_digit u (by omega) (by omega) _).mono ?_
    rintro e w4 ⟨⟨t, rfl, ht⟩, hb4⟩
    have HB4 := Lib.hid hb4
    have HT := Lib.hid ht
    have z1 : (⟨#[43]⟩ : ByteArray).size = 1 := rfl
    have e1 := str_add ⟨#[43]⟩ t (by omega)
    clear hb4 ht z1
    go_wp2_with fail
    go_ret
    exact ⟨⟨#[43]⟩ ++ t, p + 1 + 1, rfl, by (have := HT.out; have z1 : (⟨#[43]⟩ : ByteArray).size = 1 := rfl; simp; omega), by omega, HR3.out.later (fun k hk => HB4.out.block k hk),
      grownBy_trans (grownBy_trans HG.out HG3.out) (grownBy_below HB4.out)⟩
  · go_wp2_with fail
    refine (pick_to 4 HR.out (by omega) (by omega)).mono ?_
    rintro e w3 ⟨u, rfl, hu, hr3, hg3⟩
    have HR3 := Lib.hid hr3
    have HG3 := Lib.hid hg3
    clear hr3 hg3
    go_wp2_with fail
    refine (dec_digit u (by omega) (by omega) _).mono ?_
    rintro e w4 ⟨⟨t, rfl, ht⟩, hb4⟩
    have HB4 := Lib.hid hb4
    have HT := Lib.hid ht
    have z1 : (⟨#[43]⟩ : ByteArray).size = 1 := rfl
    have e1 := str_add ⟨#[43]⟩ t (by omega)
    clear hb4 ht z1
    go_wp2_with fail
    go_ret
    exact ⟨⟨#[43]⟩ ++ t, p + 1 + 1, rfl, by (have := HT.out; have z1 : (⟨#[43]⟩ : ByteArray).size = 1 := rfl; simp; omega), by omega, HR3.out.later (fun k hk => HB4.out.block k hk),
      grownBy_trans (grownBy_trans HG.out HG3.out) (grownBy_below HB4.out)⟩
  · cases d with
    | zero =>
      go_wp2_with fail
      refine (pick_to 4 HR.out (by omega) (by omega)).mono ?_
      rintro e w3 ⟨u, rfl, hu, hr3, hg3⟩
      have HR3 := Lib.hid hr3
      have HG3 := Lib.hid hg3
      clear hr3 hg3
      go_wp2_with fail
      refine (dec_digit u (by omega) (by omega) _).mono ?_
      rintro e w4 ⟨⟨t, rfl, ht⟩, hb4⟩
      have HB4 := Lib.hid hb4
      have HT := Lib.hid ht
      have z1 : (⟨#[43]⟩ : ByteArray).size = 1 := rfl
      have e1 := str_add ⟨#[43]⟩ t (by omega)
      clear hb4 ht z1
      go_wp2_with fail
      go_ret
      exact ⟨⟨#[43]⟩ ++ t, p + 1 + 1, rfl, by (have := HT.out; have z1 : (⟨#[43]⟩ : ByteArray).size = 1 := rfl; simp; omega), by omega, HR3.out.later (fun k hk => HB4.out.block k hk),
        grownBy_trans (grownBy_trans HG.out HG3.out) (grownBy_below HB4.out)⟩
    | succ d' =>
      have hsd : Sz (d' + 1) = 5 + 6 * Sz d' := rfl
      have hcd : Cs (d' + 1) = 3 + 2 * (1 + 3 * Cs d') := rfl
      have hdb : d' ≤ 100 := by omega
      have hp1 : p + 1 + 4000 * d' + 2100 ≤ 90000 := by clear hsd hcd hz hC hZ hCs; omega
      have hz1 : 5 + 6 * Sz d' ≤ 1000 := by omega
      have hc1 : 3 + 2 * (1 + 3 * Cs d') ≤ 1000 := by omega
      have HSD := Lib.hid hsd
      have HCD := Lib.hid hcd
      clear hsd hcd hz hC hZ hCs
      go_wp2_with fail
      refine (IH.out d' rfl _ rb a n c (p + 1) nm _ (by omega) HR.out hp1 hnm (by omega) (by omega)).mono ?_
      rintro e w2 ⟨s, q, rfl, hs1, hq, hr2, hg2⟩
      have HR2 := Lib.hid hr2
      have HG2 := Lib.hid hg2
      clear hr2 hg2
      have hp2 : q + 4000 * d' + 2100 ≤ 90000 := by omega
      have z1 : (⟨#[63, 91]⟩ : ByteArray).size = 2 := rfl
      have z2 : (⟨#[93, 91]⟩ : ByteArray).size = 2 := rfl
      have z3 : (⟨#[93]⟩ : ByteArray).size = 1 := rfl
      have e1 := str_add ⟨#[63, 91]⟩ s (by omega)
      have e2 := str_add (⟨#[63, 91]⟩ ++ s) ⟨#[93, 91]⟩ (by simp; omega)
      clear z1 z2 z3
      go_wp2_with fail
      refine (IH.out d' rfl _ rb a n c q nm _ (by omega) HR2.out hp2 hnm (by omega) (by omega)).mono ?_
      rintro e w3 ⟨t, q', rfl, ht1, hq', hr3, hg3⟩
      have HR3 := Lib.hid hr3
      have HG3 := Lib.hid hg3
      clear hr3 hg3
      have z1 : (⟨#[63, 91]⟩ : ByteArray).size = 2 := rfl
      have z2 : (⟨#[93, 91]⟩ : ByteArray).size = 2 := rfl
      have z3 : (⟨#[93]⟩ : ByteArray).size = 1 := rfl
      have e3 := str_add (⟨#[63, 91]⟩ ++ s ++ ⟨#[93, 91]⟩) t (by simp; omega)
      have e4 := str_add (⟨#[63, 91]⟩ ++ s ++ ⟨#[93, 91]⟩ ++ t) ⟨#[93]⟩ (by simp; omega)
      have HZ := Lib.hid (show (⟨#[63, 91]⟩ ++ s ++ ⟨#[93, 91]⟩ ++ t ++ ⟨#[93]⟩ : ByteArray).size ≤ 5 + 6 * Sz d' by simp; omega)
      clear z1 z2 z3
      go_wp2_with fail
      go_ret
      exact ⟨_, q', rfl, by rw [HSD.out]; exact HZ.out, by rw [HCD.out]; omega, HR3.out, grownBy_trans (grownBy_trans HG.out HG2.out) HG3.out⟩
  · go_wp2_with fail
    refine (pick_to 4 HR.out (by omega) (by omega)).mono ?_
    rintro e w3 ⟨u, rfl, hu, hr3, hg3⟩
    have HR3 := Lib.hid hr3
    have HG3 := Lib.hid hg3
    clear hr3 hg3
    go_wp2_with fail
    refine (dec_digit u (by omega) (by omega) _).mono ?_
    rintro e w4 ⟨⟨t, rfl, ht⟩, hb4⟩
    have HB4 := Lib.hid hb4
    have HT := Lib.hid ht
    have z1 : (⟨#[43]⟩ : ByteArray).size = 1 := rfl
    have e1 := str_add ⟨#[43]⟩ t (by omega)
    clear hb4 ht z1
    go_wp2_with fail
    go_ret
    exact ⟨⟨#[43]⟩ ++ t, p + 1 + 1, rfl, by (have := HT.out; have z1 : (⟨#[43]⟩ : ByteArray).size = 1 := rfl; simp; omega), by omega, HR3.out.later (fun k hk => HB4.out.block k hk),
      grownBy_trans (grownBy_trans HG.out HG3.out) (grownBy_below HB4.out)⟩

set_option maxHeartbeats 4000000 in
set_option maxRecDepth 100000 in
theorem some_named (d : Nat) (ih : ∀ d', d = d' + 1 → SaidDraw d') (w : World) (rb : Nat) (a : Option Addr) (n c p : Nat) (nm : ByteArray) (h : Rdr w rb a n c p) (hp : p + 4000 * d ≤ 90000) (hnm : nm.size ≤ 10) (hZ : Sz d ≤ 1000) (hCs : Cs d ≤ 1000) (hem : 0 < nm.size) :
    Calls Try.prog 22 #[.pointer (some ⟨rb, 0, none⟩), .string nm, .int .i64 d] w (DrewS w rb a n c p (Sz d) (Cs d)) := by
  have hz := Sz_ge d
  have hC := Cs_ge d
  have H := Lib.hid h
  have IH := Lib.hid ih
  have hel : nm.toList.isEmpty = false := str_some hem
  clear h ih 
  go_enter Try.func22, Try.ntmps22
  go_wp2_with fail
  refine (pick_to 8 H.out (by omega) (by omega)).mono ?_
  rintro e w1 ⟨v, rfl, hv, hr, hg⟩
  have hrb := heap_lt hr.own
  have HR := Lib.hid hr
  have HG := Lib.hid hg
  clear hr hg
  obtain rfl | rfl | rfl | rfl | rfl | rfl | rfl | rfl : v = 0 ∨ v = 1 ∨ v = 2 ∨ v = 3 ∨ v = 4 ∨ v = 5 ∨ v = 6 ∨ v = 7 := by omega
  · go_wp2_with fail
    refine (of_any _ rb a n c (p + 1) w1.heap.size 4 4 1 (HR.out.later (alloc_heap _)) (by omega) (by omega) (by omega) (by omega) (plus_cells w1 w1.heap.size [⟨#[43]⟩, ⟨#[45]⟩, ⟨#[42]⟩, ⟨#[43]⟩] 1 four_small rfl)).mono ?_
    rintro e w2 ⟨s, q, rfl, hs1, hq, hr2, hg2⟩
    have HR2 := Lib.hid hr2
    have HG2 := Lib.hid hg2
    clear hr2 hg2
    go_wp2_with fail
    refine (pick_to 10 HR2.out (by omega) (by omega)).mono ?_
    rintro e w3 ⟨u, rfl, hu, hr3, hg3⟩
    have HR3 := Lib.hid hr3
    have HG3 := Lib.hid hg3
    clear hr3 hg3
    go_wp2_with fail
    refine (dec_digit u (by omega) (by omega) _).mono ?_
    rintro e w4 ⟨⟨t, rfl, ht⟩, hb4⟩
    have HB4 := Lib.hid hb4
    have HT := Lib.hid ht
    have e1 := str_add s t (by omega)
    clear hb4 ht
    go_wp2_with fail
    go_ret
    exact ⟨s ++ t, q + 1, rfl, by (have := HT.out; simp; omega), by omega, HR3.out.later (fun k hk => HB4.out.block k hk),
      grownBy_trans (grownBy_trans (grownBy_trans (grownBy_trans HG.out (World.grownBy_alloc _ _ _)) HG2.out) HG3.out) (grownBy_below HB4.out)⟩
  · go_wp2_with fail
    refine (of_any _ rb a n c (p + 1) w1.heap.size 4 4 1 (HR.out.later (alloc_heap _)) (by omega) (by omega) (by omega) (by omega) (plus_cells w1 w1.heap.size [⟨#[43]⟩, ⟨#[45]⟩, ⟨#[42]⟩, ⟨#[43]⟩] 1 four_small rfl)).mono ?_
    rintro e w2 ⟨s, q, rfl, hs1, hq, hr2, hg2⟩
    have HR2 := Lib.hid hr2
    have HG2 := Lib.hid hg2
    clear hr2 hg2
    go_wp2_with fail
    refine (pick_to 10 HR2.out (by omega) (by omega)).mono ?_
    rintro e w3 ⟨u, rfl, hu, hr3, hg3⟩
    have HR3 := Lib.hid hr3
    have HG3 := Lib.hid hg3
    clear hr3 hg3
    go_wp2_with fail
    refine (dec_digit u (by omega) (by omega) _).mono ?_
    rintro e w4 ⟨⟨t, rfl, ht⟩, hb4⟩
    have HB4 := Lib.hid hb4
    have HT := Lib.hid ht
    have e1 := str_add s t (by omega)
    clear hb4 ht
    go_wp2_with fail
    go_ret
    exact ⟨s ++ t, q + 1, rfl, by (have := HT.out; simp; omega), by omega, HR3.out.later (fun k hk => HB4.out.block k hk),
      grownBy_trans (grownBy_trans (grownBy_trans (grownBy_trans HG.out (World.grownBy_alloc _ _ _)) HG2.out) HG3.out) (grownBy_below HB4.out)⟩
  · go_wp2_with fail
    go_ret
    exact ⟨⟨#[80]⟩, p + 1, rfl, Nat.le_trans (Nat.le_succ 1) hz, by omega, HR.out, HG.out⟩
  · go_wp2_with fail
    go_ret
    exact ⟨⟨#[80]⟩, p + 1, rfl, Nat.le_trans (Nat.le_succ 1) hz, by omega, HR.out, HG.out⟩
  · go_wp2_with fail
    refine (pick_to nm.size HR.out (by omega) (by omega)).mono ?_
    rintro e w3 ⟨u, rfl, hu, hr3, hg3⟩
    have HR3 := Lib.hid hr3
    have HG3 := Lib.hid hg3
    clear hr3 hg3
    have hu' : u < nm.size := by omega
    have z1 : (⟨#[67]⟩ : ByteArray).size = 1 := rfl
    have e1 := str_add ⟨#[67]⟩ (nm.extract u (u + 1)) (by simp; omega)
    clear z1
    go_wp2_with fail
    go_ret
    exact ⟨⟨#[67]⟩ ++ nm.extract u (u + 1), p + 1 + 1, rfl, by (have z1 : (⟨#[67]⟩ : ByteArray).size = 1 := rfl; simp; omega), by omega, HR3.out, grownBy_trans HG.out HG3.out⟩
  · go_wp2_with fail
    refine (pick_to nm.size HR.out (by omega) (by omega)).mono ?_
    rintro e w3 ⟨u, rfl, hu, hr3, hg3⟩
    have HR3 := Lib.hid hr3
    have HG3 := Lib.hid hg3
    clear hr3 hg3
    have hu' : u < nm.size := by omega
    have z1 : (⟨#[67]⟩ : ByteArray).size = 1 := rfl
    have e1 := str_add ⟨#[67]⟩ (nm.extract u (u + 1)) (by simp; omega)
    clear z1
    go_wp2_with fail
    go_ret
    exact ⟨⟨#[67]⟩ ++ nm.extract u (u + 1), p + 1 + 1, rfl, by (have z1 : (⟨#[67]⟩ : ByteArray).size = 1 := rfl; simp; omega), by omega, HR3.out, grownBy_trans HG.out HG3.out⟩
  · cases d with
    | zero =>
      go_wp2_with fail
      refine (pick_to 4 HR.out (by omega) (by omega)).mono ?_
      rintro e w3 ⟨u, rfl, hu, hr3, hg3⟩
      have HR3 := Lib.hid hr3
      have HG3 := Lib.hid hg3
      clear hr3 hg3
      go_wp2_with fail
      refine (dec_digit u (by omega) (by omega) _).mono ?_
      rintro e w4 ⟨⟨t, rfl, ht⟩, hb4⟩
      have HB4 := Lib.hid hb4
      have HT := Lib.hid ht
      have z1 : (⟨#[43]⟩ : ByteArray).size = 1 := rfl
      have e1 := str_add ⟨#[43]⟩ t (by omega)
      clear hb4 ht z1
      go_wp2_with fail
      go_ret
      exact ⟨⟨#[43]⟩ ++ t, p + 1 + 1, rfl, by (have := HT.out; have z1 : (⟨#[43]⟩ : ByteArray).size = 1 := rfl; simp; omega), by omega, HR3.out.later (fun k hk => HB4.out.block k hk),
        grownBy_trans (grownBy_trans HG.out HG3.out) (grownBy_below HB4.out)⟩
    | succ d' =>
      have hsd : Sz (d' + 1) = 5 + 6 * Sz d' := rfl
      have hcd : Cs (d' + 1) = 3 + 2 * (1 + 3 * Cs d') := rfl
      have hdb : d' ≤ 100 := by omega
      have hp1 : p + 1 + 4000 * d' + 2100 ≤ 90000 := by clear hsd hcd hz hC hZ hCs; omega
      have hz1 : 5 + 6 * Sz d' ≤ 1000 := by omega
      have hc1 : 3 + 2 * (1 + 3 * Cs d') ≤ 1000 := by omega
      have HSD := Lib.hid hsd
      have HCD := Lib.hid hcd
      clear hsd hcd hz hC hZ hCs
      go_wp2_with fail
      refine (IH.out d' rfl _ rb a n c (p + 1) nm _ (by omega) HR.out hp1 hnm (by omega) (by omega)).mono ?_
      rintro e w2 ⟨s, q, rfl, hs1, hq, hr2, hg2⟩
      have HR2 := Lib.hid hr2
      have HG2 := Lib.hid hg2
      clear hr2 hg2
      have hp2 : q + 4000 * d' + 2100 ≤ 90000 := by omega
      have z1 : (⟨#[63, 91]⟩ : ByteArray).size = 2 := rfl
      have z2 : (⟨#[93, 91]⟩ : ByteArray).size = 2 := rfl
      have z3 : (⟨#[93]⟩ : ByteArray).size = 1 := rfl
      have e1 := str_add ⟨#[63, 91]⟩ s (by omega)
      have e2 := str_add (⟨#[63, 91]⟩ ++ s) ⟨#[93, 91]⟩ (by simp; omega)
      clear z1 z2 z3
      go_wp2_with fail
      refine (IH.out d' rfl _ rb a n c q nm _ (by omega) HR2.out hp2 hnm (by omega) (by omega)).mono ?_
      rintro e w3 ⟨t, q', rfl, ht1, hq', hr3, hg3⟩
      have HR3 := Lib.hid hr3
      have HG3 := Lib.hid hg3
      clear hr3 hg3
      have z1 : (⟨#[63, 91]⟩ : ByteArray).size = 2 := rfl
      have z2 : (⟨#[93, 91]⟩ : ByteArray).size = 2 := rfl
      have z3 : (⟨#[93]⟩ : ByteArray).size = 1 := rfl
      have e3 := str_add (⟨#[63, 91]⟩ ++ s ++ ⟨#[93, 91]⟩) t (by simp; omega)
      have e4 := str_add (⟨#[63, 91]⟩ ++ s ++ ⟨#[93, 91]⟩ ++ t) ⟨#[93]⟩ (by simp; omega)
      have HZ := Lib.hid (show (⟨#[63, 91]⟩ ++ s ++ ⟨#[93, 91]⟩ ++ t ++ ⟨#[93]⟩ : ByteArray).size ≤ 5 + 6 * Sz d' by simp; omega)
      clear z1 z2 z3
      go_wp2_with fail
      go_ret
      exact ⟨_, q', rfl, by rw [HSD.out]; exact HZ.out, by rw [HCD.out]; omega, HR3.out, grownBy_trans (grownBy_trans HG.out HG2.out) HG3.out⟩
  · go_wp2_with fail
    refine (pick_to 4 HR.out (by omega) (by omega)).mono ?_
    rintro e w3 ⟨u, rfl, hu, hr3, hg3⟩
    have HR3 := Lib.hid hr3
    have HG3 := Lib.hid hg3
    clear hr3 hg3
    go_wp2_with fail
    refine (dec_digit u (by omega) (by omega) _).mono ?_
    rintro e w4 ⟨⟨t, rfl, ht⟩, hb4⟩
    have HB4 := Lib.hid hb4
    have HT := Lib.hid ht
    have z1 : (⟨#[43]⟩ : ByteArray).size = 1 := rfl
    have e1 := str_add ⟨#[43]⟩ t (by omega)
    clear hb4 ht z1
    go_wp2_with fail
    go_ret
    exact ⟨⟨#[43]⟩ ++ t, p + 1 + 1, rfl, by (have := HT.out; have z1 : (⟨#[43]⟩ : ByteArray).size = 1 := rfl; simp; omega), by omega, HR3.out.later (fun k hk => HB4.out.block k hk),
      grownBy_trans (grownBy_trans HG.out HG3.out) (grownBy_below HB4.out)⟩

theorem some_step (d : Nat) (ih : ∀ d', d = d' + 1 → SaidDraw d') : SaidSome d := by
  intro w rb a n c p nm di hdi h hp hnm hZ hCs
  subst hdi
  by_cases hem : nm.size = 0
  · exact some_nameless d ih w rb a n c p nm h hp hnm hZ hCs hem
  · exact some_named d ih w rb a n c p nm h hp hnm hZ hCs (by omega)

theorem draw_all (d : Nat) : SaidDraw d := by
  induction d with
  | zero => exact draw_step 0 (some_step 0 fun d' h => by omega)
  | succ d ih => exact draw_step (d + 1) (some_step (d + 1) fun d' h => by obtain rfl : d' = d := by omega
                                                                           exact ih)
end Go.Proofs.Ytlmppmdgajaclaa
