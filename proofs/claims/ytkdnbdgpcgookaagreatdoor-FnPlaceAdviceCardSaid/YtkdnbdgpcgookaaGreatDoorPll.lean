/- The law FnExactPlaceAdvice answers true at every text and list. Condition: the errors lie where start-up laid them. -/
import Derived.Test.YtkdnbdgpcgookaaGreatDoorIpl
import Derived.Test.YtkdnbdgpcgookaaGreatDoorZx
namespace Go.Proofs.YtkdnbdgpcgookaaGreatDoor
open Go.RowKit Gram

theorem plV_form (s : ByteArray) (zs : List As) : ∃ t b, plV s zs = .tuple #[.string t, .bool b] := by
  unfold plV
  split
  · split
    · split
      · exact ⟨_, _, rfl⟩
      · exact ⟨_, _, rfl⟩
    · exact ⟨_, _, rfl⟩
  · exact ⟨_, _, rfl⟩

set_option maxHeartbeats 400000 in
theorem pll_long (s : ByteArray) (w : World) (a : Option Addr) (n c : Nat) (hl : 1048576 < s.size) (hx : s.size ≤ maxLen) :
    Calls Tryz.prog 5 #[.string s, .slice a n c] w fun e w' => e = .returned (.bool true) ∧ Below w.heap.size w w' := by
  unfold maxLen at hx
  go_enter Tryz.func5, Tryz.ntmps5
  go_wp2_with fail
  go_ret
  exact ⟨rfl, Below.refl _ _⟩

set_option maxHeartbeats 1000000 in
set_option maxRecDepth 100000 in
theorem pll_short (s : ByteArray) (w : World) (a : Option Addr) (n c : Nat) (zs : List As) (hs : s.size ≤ 1048576) (hA : Asps w a n zs) (hn : n ≤ maxLen) (hz : ∀ p ∈ zs, p.1.size ≤ maxLen ∧ p.2.1.size ≤ maxLen ∧ p.2.2.size ≤ maxLen) (ek ec eb el ep : Addr) (he : Errs w ek ec eb el ep) :
    Calls Tryz.prog 5 #[.string s, .slice a n c] w fun e w' => e = .returned (.bool true) ∧ Below w.heap.size w w' := by
  have HZ := Lib.hid (szs_any w a n c zs hA hn hz)
  have HA := Lib.hid hA
  have HR := Lib.hid he
  unfold maxLen at hn
  clear hA hz he
  have HSI := Lib.hid hs
  go_enter Tryz.func5, Tryz.ntmps5
  go_wp2_with fail
  refine HZ.out.mono ?_
  rintro e w1 ⟨⟨r, rfl, hr⟩, hb1⟩
  have HB1 := Lib.hid hb1
  clear hb1 HZ
  rcases hr with rfl | ⟨hr0, hr1, ht⟩
  · go_wp2_with fail
    go_ret
    exact ⟨rfl, HB1.out⟩
  · have HT := Lib.hid ht
    have hn' : n ≤ 1048576 := by omega
    clear ht
    have HC := Lib.hid (fun w' (hb : Below w.heap.size w w') => tos_any w' a n c zs (HA.out.later hb) hn')
    have HS := Lib.hid (fun w' b d (hB : Asps w' b n zs) => spl_any w' s b n d zs hB HT.out hs)
    have HI := Lib.hid (fun w' b d (hB : Asps w' b n zs) (hb : Below w.heap.size w w') => ipl_any w' s b n d zs hB HT.out hs ek ec eb el ep (HR.out.later hb))
    have HE := Lib.hid (fun w' b d b' d' (hB : Asps w' b n zs) (hB' : Asps w' b' n zs) => eqs_any w' b b' n d d' zs hB hB' hn')
    obtain ⟨t, b, hp⟩ := plV_form s zs
    rw [hp] at HS HI
    clear hp
    go_wp2_with fail
    refine (HC.out _ HB1.out).mono ?_
    rintro e w2 ⟨g2, hg2, rfl, hA2, hb2⟩
    have HA2 := Lib.hid hA2
    have HB2 := Lib.hid (HB1.out.trans (hb2.mono HB1.out.size))
    clear hA2 hb2
    go_wp2_with fail
    refine (HS.out _ _ _ HA2.out).mono ?_
    rintro e w3 ⟨rfl, hb3⟩
    have HB3 := Lib.hid (HB2.out.trans (hb3.mono HB2.out.size))
    clear hb3
    go_wp2_with fail
    refine (HC.out _ HB3.out).mono ?_
    rintro e w4 ⟨g4, hg4, rfl, hA4, hb4⟩
    have HA4 := Lib.hid hA4
    have HB4 := Lib.hid (HB3.out.trans (hb4.mono HB3.out.size))
    clear hA4 hb4
    go_wp2_with fail
    refine (HI.out _ _ _ HA4.out HB4.out).mono ?_
    rintro e w5 ⟨rfl, hb5⟩
    have HA5 := Lib.hid (HA4.out.later hb5)
    have HB5 := Lib.hid (HB4.out.trans (hb5.mono HB4.out.size))
    clear hb5
    go_wp2_with fail
    refine (HC.out _ HB5.out).mono ?_
    rintro e w6 ⟨g6, hg6, rfl, hA6, hb6⟩
    have HA6 := Lib.hid hA6
    have HA56 := Lib.hid (HA5.out.later hb6)
    have HB6 := Lib.hid (HB5.out.trans (hb6.mono HB5.out.size))
    clear hA6 hb6
    go_wp2_with fail
    refine (HE.out _ _ _ _ _ HA56.out HA6.out).mono ?_
    rintro e w7 ⟨rfl, hb7⟩
    have HB7 := Lib.hid (HB6.out.trans (hb7.mono HB6.out.size))
    clear hb7
    go_wp2_with fail
    go_ret
    exact ⟨rfl, HB7.out⟩

theorem pll_any (s : ByteArray) (w : World) (a : Option Addr) (n c : Nat) (zs : List As) (hx : s.size ≤ maxLen) (hA : Asps w a n zs) (hn : n ≤ maxLen) (hz : ∀ p ∈ zs, p.1.size ≤ maxLen ∧ p.2.1.size ≤ maxLen ∧ p.2.2.size ≤ maxLen) (ek ec eb el ep : Addr) (he : Errs w ek ec eb el ep) :
    Calls Tryz.prog 5 #[.string s, .slice a n c] w fun e w' => e = .returned (.bool true) ∧ Below w.heap.size w w' := by
  by_cases h : s.size ≤ 1048576
  · exact pll_short s w a n c zs h hA hn hz ek ec eb el ep he
  · exact pll_long s w a n c (by omega) hx
end Go.Proofs.YtkdnbdgpcgookaaGreatDoor
