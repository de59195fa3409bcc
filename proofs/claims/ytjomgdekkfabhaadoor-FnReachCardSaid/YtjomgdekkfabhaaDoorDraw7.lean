/- The model's l1Name, l1With and DrawReachOf: they return short texts, whatever the bytes behind the source. -/
import Derived.Test.YtjomgdekkfabhaaDoorDraw6
namespace Go.Proofs.YtjomgdekkfabhaaDoor
open Go.RowKit Gram

theorem eleven_small : ∀ s ∈ [(⟨#[97]⟩ : ByteArray), ⟨#[98]⟩, ⟨#[99]⟩, ⟨#[97]⟩, ⟨#[100]⟩, ⟨#[97]⟩, ⟨#[98]⟩, ⟨#[]⟩, ⟨#[65]⟩, ⟨#[97, 98]⟩, ⟨#[122]⟩], s.size ≤ 2 := by decide

set_option maxHeartbeats 1000000 in
set_option maxRecDepth 100000 in
theorem name_any (w : World) (rb : Nat) (a : Option Addr) (n c p : Nat) (h : Rdr w rb a n c p) (hp : p ≤ 90000) :
    Calls Tryd.prog 72 #[.pointer (some ⟨rb, 0, none⟩)] w (DrewS w rb a n c p 2 4) := by
  have H := Lib.hid h
  have hrb := heap_lt h.own
  clear h
  go_enter Tryd.func72, Tryd.ntmps72
  go_wp2_with fail
  refine (of_any _ rb a n c p w.heap.size 11 11 2 (H.out.later (alloc_heap (w := w) _)) (by omega) (by omega) (by omega) (by omega) (plus_cells w w.heap.size [⟨#[97]⟩, ⟨#[98]⟩, ⟨#[99]⟩, ⟨#[97]⟩, ⟨#[100]⟩, ⟨#[97]⟩, ⟨#[98]⟩, ⟨#[]⟩, ⟨#[65]⟩, ⟨#[97, 98]⟩, ⟨#[122]⟩] 2 eleven_small rfl)).mono ?_
  rintro e w3 ⟨t, q, rfl, ht, hq, hr3, hg3⟩
  have HR3 := Lib.hid hr3
  have HG3 := Lib.hid (grownBy_trans (World.grownBy_alloc _ _ _) hg3)
  clear hr3 hg3
  go_wp2_with fail
  go_ret
  exact ⟨t, q, rfl, ht, by omega, HR3.out, HG3.out⟩

set_option maxHeartbeats 1000000 in
theorem with_any (w : World) (rb : Nat) (a : Option Addr) (n c p : Nat) (h : Rdr w rb a n c p) (hp : p ≤ 60000) :
    Calls Tryd.prog 42 #[.pointer (some ⟨rb, 0, none⟩)] w fun e w' => ∃ (s t : ByteArray) (q : Nat), e = .returned (.tuple #[.string s, .string t]) ∧ s.size ≤ 2000 ∧ t.size ≤ 2 ∧ q ≤ p + 3000 ∧ Rdr w' rb a n c q ∧ w.grownBy w' (some rb) := by
  have H := Lib.hid h
  clear h
  go_enter Tryd.func42, Tryd.ntmps42
  go_wp2_with fail
  refine (program_any _ rb a n c p H.out (by omega)).mono ?_
  rintro e w2 ⟨s, q, rfl, hs, hq, hr2, hg2⟩
  have HR2 := Lib.hid hr2
  have HG2 := Lib.hid hg2
  clear hr2 hg2
  go_wp2_with fail
  refine (bad_any _ rb a n c q s HR2.out (by omega) (by omega)).mono ?_
  rintro e w3 ⟨t, q', rfl, ht, hq2, hr3, hg3⟩
  have HR3 := Lib.hid hr3
  have HG3 := Lib.hid (grownBy_trans HG2.out hg3)
  clear hr3 hg3
  go_wp2_with fail
  refine (name_any _ rb a n c q' HR3.out (by omega)).mono ?_
  rintro e w4 ⟨u, q4, rfl, hu, hq4, hr4, hg4⟩
  have HR4 := Lib.hid hr4
  have HG4 := Lib.hid (grownBy_trans HG3.out hg4)
  clear hr4 hg4
  go_wp2_with fail
  go_ret2
  exact ⟨t, u, q4, rfl, by omega, hu, by omega, HR4.out, HG4.out⟩

set_option maxHeartbeats 1000000 in
theorem drawReach_any (w : World) (a : Option Addr) (n c : Nat) (h : BytesAt w a n) (hn : n ≤ c) (hc : c ≤ 9223372036854775807) (hnil : a = none → n = 0) :
    Calls Tryd.prog 21 #[.slice a n c] w fun e w' => (∃ s t : ByteArray, e = .returned (.tuple #[.string s, .string t]) ∧ s.size ≤ 2000 ∧ t.size ≤ 2) ∧ Below w.heap.size w w' := by
  have H := Lib.hid (open_any w a n c h hn hc hnil)
  clear h hnil
  go_enter Tryd.func21, Tryd.ntmps21
  go_wp2_with fail
  refine H.out.mono ?_
  rintro e w1 ⟨m, rfl, hr, hb⟩
  have HR := Lib.hid hr
  have HB := Lib.hid hb
  clear hr hb
  go_wp2_with fail
  refine (with_any _ w.heap.size a m c 0 HR.out (by omega)).mono ?_
  rintro e w2 ⟨s, t, q, rfl, hs, ht, hq, hr2, hg2⟩
  have HG2 := Lib.hid hg2
  clear hr2 hg2
  go_wp2_with fail
  go_ret2
  exact ⟨⟨s, t, rfl, hs, ht⟩, grown_new HB.out HG2.out⟩
end Go.Proofs.YtjomgdekkfabhaaDoor
