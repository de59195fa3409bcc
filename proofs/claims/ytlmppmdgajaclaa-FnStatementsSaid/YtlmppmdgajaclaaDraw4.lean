/- The model's l1Bad and l13Open, whatever the bytes behind the source. No condition but that those can be read. -/
import Derived.Test.YtlmppmdgajaclaaDraw3
import Derived.Test.YtlmppmdgajaclaaDrawO
namespace Go.Proofs.Ytlmppmdgajaclaa
open Go.RowKit

theorem eight_small : ∀ s ∈ [(⟨#[]⟩ : ByteArray), ⟨#[91]⟩, ⟨#[120]⟩, ⟨#[67, 122]⟩, ⟨#[59]⟩, ⟨#[75]⟩, ⟨#[58]⟩, ⟨#[63]⟩], s.size ≤ 2 := by decide

theorem grown_drew_alloc (w : World) (o : Obj) (r : Option Nat) : w.grownBy (w.drew.alloc o) r :=
  grownBy_trans (w := w) (w1 := w.drew) ⟨rfl, rfl, rfl, Nat.le_refl _, fun _ _ _ => rfl⟩ (World.grownBy_alloc _ _ _)

set_option maxHeartbeats 1000000 in
set_option maxRecDepth 100000 in
theorem bad_any (w : World) (rb : Nat) (a : Option Addr) (n c p : Nat) (s : ByteArray) (h : Rdr w rb a n c p) (hp : p ≤ 90000) (hs : s.size ≤ 5000) :
    Calls Try.prog 15 #[.pointer (some ⟨rb, 0, none⟩), .string s] w (DrewS w rb a n c p (s.size + 2) 4) := by
  by_cases hem : s.size = 0
  · have hel := str_none hem
    have H := Lib.hid h
    clear h hem
    go_enter Try.func15, Try.ntmps15
    go_wp2_with fail
    go_ret
    exact ⟨s, p, rfl, by omega, by omega, H.out, World.grownBy.refl _ _⟩
  · have hel := str_some (s := s) (by omega)
    have H := Lib.hid h
    have hpos : 0 < s.size := by omega
    clear h hem
    go_enter Try.func15, Try.ntmps15
    go_wp2_with fail
    refine (pick_to 12 H.out (by omega) (by omega)).mono ?_
    rintro e w1 ⟨v, rfl, hv, hr, hg⟩
    have hrb := heap_lt hr.own
    have HR := Lib.hid hr
    have HG := Lib.hid hg
    clear hr hg
    by_cases hv0 : 0 < v
    · go_wp2_with fail
      go_ret
      exact ⟨s, p + 1, rfl, by omega, by omega, HR.out, HG.out⟩
    · obtain rfl : v = 0 := by omega
      go_wp2_with fail
      refine (pick_to s.size HR.out (by omega) (by omega)).mono ?_
      rintro e w2 ⟨k, rfl, hk, hr2, hg2⟩
      have hk' : k < s.size := by omega
      have hrb2 := heap_lt hr2.own
      have HR2 := Lib.hid hr2
      have HG2 := Lib.hid hg2
      clear hr2 hg2
      go_wp2_with fail
      go_region_with ((first
        | (go_at_call 21; refine (of_any _ rb a n c (p + 1 + 1) w2.heap.size 8 8 2 (HR2.out.later (alloc_heap (w := w2.drew) _)) (by omega) (by omega) (by omega) (by omega) (plus_cells w2.drew w2.heap.size [⟨#[]⟩, ⟨#[91]⟩, ⟨#[120]⟩, ⟨#[67, 122]⟩, ⟨#[59]⟩, ⟨#[75]⟩, ⟨#[58]⟩, ⟨#[63]⟩] 2 eight_small rfl)).mono ?_
           rintro e w3 ⟨t, q, rfl, ht, hq, hr3, hg3⟩
           have HR3 := Lib.hid hr3
           have HG3 := Lib.hid hg3
           clear hr3 hg3
           have e1 := str_add (s.extract 0 k) t (by simp; omega))
        | (go_at_call 13; refine (pick_to 2 HR3.out (by omega) (by omega)).mono ?_
           rintro e w4 ⟨u, rfl, hu, hr4, hg4⟩
           have HR4 := Lib.hid hr4
           have HG4 := Lib.hid hg4
           clear hr4 hg4
           have hku : k + u ≤ s.size := by omega
           have hki : (k : Int) + (u : Int) ≤ (s.size : Int) := by omega
           have hk0 : 0 ≤ (k : Int) + (u : Int) := by omega
           have hkw : IntKind.i64.wrap ((k : Int) + (u : Int)) = (k : Int) + (u : Int) := IntWalk.i64_in _ (by omega)
           have hkn : ((k : Int) + (u : Int)).toNat = k + u := by omega
           have e2 := str_add (s.extract 0 k ++ t) (s.extract (k + u) s.size) (by simp; omega))))
      all_goals go_wp2_with fail
      all_goals go_ret
      all_goals exact ⟨_, q + 1, rfl, by simp; omega, by omega, HR4.out, grownBy_trans (grownBy_trans (grownBy_trans (grownBy_trans HG.out HG2.out) (grown_drew_alloc _ _ _)) HG3.out) HG4.out⟩

end Go.Proofs.Ytlmppmdgajaclaa
