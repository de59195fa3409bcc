/- The model's DrawParseAspect: a short text, whatever the bytes. -/
import Derived.Test.YtkdnbdgpcgookaaGreatDoorWx
import Derived.Test.YtkdnbdgpcgookaaGreatDoorFa
import Derived.Test.YtkdnbdgpcgookaaGreatDoorDfo
import Derived.Deep.RegionWith
namespace Go.Proofs.YtkdnbdgpcgookaaGreatDoor
open Go.RowKit Gram

theorem five_small : ∀ s ∈ [(⟨#[]⟩ : ByteArray), ⟨#[32]⟩, ⟨#[75]⟩, ⟨#[120]⟩, ⟨#[80]⟩], s.size ≤ 1 := by decide
theorem fmtA_size {k c b : ByteArray} (h : (aspOf k c b).isSome = true) : (fmtA k c b).size = k.size + c.size + b.size + 2 := by
  have z : (⟨#[32]⟩ : ByteArray).size = 1 := rfl
  rw [fmtA, if_pos h]
  simp only [ByteArray.size_append, z]; omega
theorem grown_drew_al (w : World) (o : Obj) (r : Option Nat) : w.grownBy (w.alloc o).drew r :=
  grownBy_trans (w := w) (World.grownBy_alloc _ _ _) ⟨rfl, rfl, rfl, Nat.le_refl _, fun _ _ _ => rfl⟩

set_option maxHeartbeats 2000000 in
set_option maxRecDepth 100000 in
theorem dpa_any (w : World) (a : Option Addr) (n c : Nat) (h : BytesAt w a n) (hn : n ≤ c) (hc : c ≤ 9223372036854775807) (hnil : a = none → n = 0) :
    Calls Tryz.prog 12 #[.slice a n c] w fun e w' => (∃ s : ByteArray, e = .returned (.string s) ∧ s.size ≤ 1000) ∧ Below w.heap.size w w' := by
  have HO := Lib.hid (open_any w a n c h hn hc hnil)
  have HW4 := Lib.hid l4w_any
  have HFm := Lib.hid spec_fmt
  clear h hnil
  unfold DrewW aspV at HW4
  unfold aspV at HFm
  go_enter Tryz.func12, Tryz.ntmps12
  go_wp2_with fail
  refine HO.out.mono ?_
  rintro e w1 ⟨m, rfl, hr, hb⟩
  have HR1 := Lib.hid hr
  have HB1 := Lib.hid hb
  clear hr hb
  go_wp2_with fail
  refine (HW4.out _ _ _ _ _ _ HR1.out (by omega)).mono ?_
  rintro e w2 ⟨k, cc, b, q, rfl, ⟨hval, hk, hcc, hbs⟩, hq, hr2, hg2⟩
  have hz := fmtA_size hval
  have HR2 := Lib.hid hr2
  have HG2 := Lib.hid hg2
  clear hr2 hg2 hval
  go_wp2_with fail
  refine (HFm.out k cc b _ (by omega) (by omega) (by omega)).mono ?_
  rintro e w3 ⟨rfl, b3⟩
  have HR3 := Lib.hid (HR2.out.later fun k hk => b3.block k hk)
  have HG3 := Lib.hid (grownBy_trans HG2.out (⟨b3.os, b3.tape, b3.output, b3.size, fun k hk _ => b3.block k hk⟩))
  have hlo : 2 ≤ (fmtA k cc b).size := by omega
  have hhi : (fmtA k cc b).size ≤ 302 := by omega
  clear b3 hz
  generalize fmtA k cc b = s at *
  go_wp2_with fail
  refine (pick_to 2 HR3.out (by omega) (by omega)).mono ?_
  rintro e w4 ⟨v, rfl, hv, hr4, hg4⟩
  have HR4 := Lib.hid hr4
  have HG4 := Lib.hid (grownBy_trans HG3.out hg4)
  clear hr4 hg4
  by_cases hv0 : v = 0
  · subst hv0
    go_wp2_with fail
    go_ret
    exact ⟨⟨s, rfl, by omega⟩, grown_new HB1.out HG4.out⟩
  · have hvb : ((v : Int) == 0) = false := by rw [beq_eq_false_iff_ne]; omega
    go_wp2_with fail
    refine (pick_to s.size HR4.out (by omega) (by omega)).mono ?_
    rintro e w5 ⟨u, rfl, hu, hr5, hg5⟩
    have hu' : u < s.size := by omega
    have hrb5 := heap_lt hr5.own
    have HR5 := Lib.hid hr5
    have HG5 := Lib.hid (grownBy_trans HG4.out hg5)
    clear hr5 hg5
    go_wp2_with fail
    go_region_with ((first
      | (go_at_call 36; (refine (of_any _ w.heap.size a m c (q + 1 + 1) w5.heap.size 5 5 1 (HR5.out.later (w' := (w5.alloc (Obj.cells #[.string ⟨#[]⟩, .string ⟨#[32]⟩, .string ⟨#[75]⟩, .string ⟨#[120]⟩, .string ⟨#[80]⟩] 9)).drew) (alloc_heap (w := w5) _)) (by omega) (by omega) (by omega) (by omega) (plus_cells w5 w5.heap.size [⟨#[]⟩, ⟨#[32]⟩, ⟨#[75]⟩, ⟨#[120]⟩, ⟨#[80]⟩] 1 five_small rfl)).mono ?_)
         go_loud (rintro e w6 ⟨t, q6, rfl, ht, hq6, hr6, hg6⟩)
         have HR6 := Lib.hid hr6
         have HG6 := Lib.hid hg6
         clear hr6 hg6
         go_loud (have e1 := str_sum (s.extract 0 u) t (by simp; omega)))
      | (go_at_call 35; refine (pick_to 2 HR6.out (by omega) (by omega)).mono ?_
         rintro e w7 ⟨x, rfl, hx, hr7, hg7⟩
         have HR7 := Lib.hid hr7
         have HG7 := Lib.hid hg7
         clear hr7 hg7
         have hku : u + x ≤ s.size := by omega
         have hki : (u : Int) + (x : Int) ≤ (s.size : Int) := by omega
         have hk0 : 0 ≤ (u : Int) + (x : Int) := by omega
         have hkw : IntKind.i64.wrap ((u : Int) + (x : Int)) = (u : Int) + (x : Int) := IntWalk.i64_in _ (by omega)
         have hkn : ((u : Int) + (x : Int)).toNat = u + x := by omega
         have e2 := str_sum (s.extract 0 u ++ t) (s.extract (u + x) s.size) (by simp; omega))))
    all_goals go_wp2_with fail
    all_goals go_ret
    all_goals exact ⟨⟨_, rfl, by simp; omega⟩, grown_new HB1.out (grownBy_trans (grownBy_trans (grownBy_trans HG5.out (grown_drew_al _ _ _)) HG6.out) HG7.out)⟩
end Go.Proofs.YtkdnbdgpcgookaaGreatDoor
