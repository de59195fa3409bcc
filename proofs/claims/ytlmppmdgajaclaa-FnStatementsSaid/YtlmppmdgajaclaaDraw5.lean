/- The model's DrawStatementsOf: it returns a text of at most 1000 bytes, whatever the bytes behind the source. No condition but that those can be read. -/
import Derived.Test.YtlmppmdgajaclaaDraw4
import Derived.Test.YtlmppmdgajaclaaMany
namespace Go.Proofs.Ytlmppmdgajaclaa
open Go.RowKit

set_option maxHeartbeats 1000000 in
set_option maxRecDepth 100000 in
theorem drawStatements_any (w : World) (a : Option Addr) (n c : Nat) (h : BytesAt w a n) (hn : n ≤ c) (hc : c ≤ 9223372036854775807) (hnil : a = none → n = 0) :
    Calls Try.prog 5 #[.slice a n c] w fun e w' => (∃ s : ByteArray, e = .returned (.string s) ∧ s.size ≤ 1000) ∧ Below w.heap.size w w' := by
  have H := Lib.hid (open_any w a n c h hn hc hnil)
  clear h hnil
  go_enter Try.func5, Try.ntmps5
  go_wp2_with fail
  refine H.out.mono ?_
  rintro e w1 ⟨m, rfl, hr, hb⟩
  have HR := Lib.hid hr
  have HB := Lib.hid hb
  clear hr hb
  go_wp2_with fail
  refine (pick_to 30 HR.out (by omega) (by omega)).mono ?_
  rintro e w2 ⟨v, rfl, hv, hr2, hg2⟩
  have HR2 := Lib.hid hr2
  have HG2 := Lib.hid hg2
  clear hr2 hg2
  by_cases hv0 : v = 0
  · subst hv0
    go_wp2_with fail
    refine (pick_to 3 HR2.out (by omega) (by omega)).mono ?_
    rintro e w3 ⟨u, rfl, hu, hr3, hg3⟩
    have HG3 := Lib.hid hg3
    clear hr3 hg3
    go_wp2_with fail
    have hmany := many_any ⟨#[80]⟩ (399 + u) (399 + u) w3 (by show 1 * (399 + u) = _; omega) (by omega) (by show 1 ≤ _; omega) (by omega)
    rw [show ((399 + u : Nat) : Int) = 399 + (u : Int) by omega] at hmany
    refine hmany.mono ?_
    rintro e w4 ⟨⟨s, rfl, hs⟩, rfl⟩
    have HS := Lib.hid hs
    clear hs hmany
    go_wp2_with fail
    go_ret
    exact ⟨⟨s, rfl, by have := HS.out; omega⟩, grown_new (grown_new HB.out HG2.out) HG3.out⟩
  · have hvb : ((v : Int) == 0) = false := by rw [beq_eq_false_iff_ne]; omega
    go_wp2_with fail
    refine (draw_all 2 _ w.heap.size a m c (0 + 1) ⟨#[97, 98, 99]⟩ 2 rfl HR2.out (by omega) (by decide) (by decide) (by decide)).mono ?_
    rintro e w3 ⟨s, q, rfl, hs, hq, hr3, hg3⟩
    have hs' : s.size ≤ 321 := hs
    have hq' : q ≤ 500 := Nat.le_trans hq (by decide)
    have HR3 := Lib.hid hr3
    have HG3 := Lib.hid hg3
    clear hr3 hg3 hs hq
    go_wp2_with fail
    refine (bad_any _ w.heap.size a m c q s HR3.out (by omega) (by omega)).mono ?_
    rintro e w4 ⟨t, q', rfl, ht, hq2, hr4, hg4⟩
    have HG4 := Lib.hid hg4
    clear hr4 hg4
    go_wp2_with fail
    go_ret
    exact ⟨⟨t, rfl, by omega⟩, grown_new (grown_new (grown_new HB.out HG2.out) HG3.out) HG4.out⟩
end Go.Proofs.Ytlmppmdgajaclaa
