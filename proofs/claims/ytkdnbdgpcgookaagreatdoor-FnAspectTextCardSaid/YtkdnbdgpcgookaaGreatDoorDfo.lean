/- DrawFormatAspect: an aspect of short texts, whatever the bytes. -/
import Derived.Test.YtkdnbdgpcgookaaGreatDoorL4o
namespace Go.Proofs.YtkdnbdgpcgookaaGreatDoor
open Go.RowKit Gram

set_option maxHeartbeats 1000000 in
theorem dfo_any (w : World) (a : Option Addr) (n c : Nat) (h : BytesAt w a n) (hn : n ≤ c) (hc : c ≤ 9223372036854775807) (hnil : a = none → n = 0) :
    Calls Tryz.prog 6 #[.slice a n c] w fun e w' => (∃ k cc b, e = .returned (aspV k cc b) ∧ k.size ≤ 100 ∧ cc.size ≤ 100 ∧ b.size ≤ 200) ∧ Below w.heap.size w w' := by
  have R0 := Lib.hid (Cell3.new w (.string ⟨#[]⟩) (.string ⟨#[]⟩) (.string ⟨#[]⟩))
  have W0 := Lib.hid ((Below.refl _ w).alloc (Nat.le_refl _) (Obj.cells #[.string ⟨#[]⟩, .string ⟨#[]⟩, .string ⟨#[]⟩] 24))
  have HO := Lib.hid (open_any (w.alloc (Obj.cells #[.string ⟨#[]⟩, .string ⟨#[]⟩, .string ⟨#[]⟩] 24)) a n c (h.later ((Below.refl _ w).alloc (Nat.le_refl _) _)) hn hc hnil)
  have HB := Lib.hid l4o_any
  have Z0 := Lib.hid (alloc_size' w (Obj.cells #[.string ⟨#[]⟩, .string ⟨#[]⟩, .string ⟨#[]⟩] 24))
  clear h hnil
  unfold DrewA aspV at *
  rw [Z0.out] at HO
  go_enter Tryz.func6, Tryz.ntmps6
  go_wp2_with fail
  generalize w.alloc (Obj.cells #[.string ⟨#[]⟩, .string ⟨#[]⟩, .string ⟨#[]⟩] 24) = w0 at *
  refine HO.out.mono ?_
  rintro e w1 ⟨m, rfl, hr, hb⟩
  have HR := Lib.hid hr
  have HW := Lib.hid hb
  clear hr hb
  go_wp2_with fail
  refine (HB.out _ _ _ _ _ _ HR.out (by omega)).mono ?_
  rintro e w2 ⟨k', cc', b', q', rfl, hk', hcc', hb', hq', hr', hg'⟩
  have HG := Lib.hid (show Below w0.heap.size w0 w2 from grown_new (by rw [Z0.out]; exact HW.out) (by rw [Z0.out]; exact hg'))
  clear hr' hg'
  have R2 := Lib.hid (R0.out.later HG.out)
  have W2 := Lib.hid (W0.out.trans (HG.out.mono W0.out.size))
  obtain ⟨x0, x1, x2, c0, c1, c2⟩ := R2.out.read
  go_wp2_with fail
  obtain ⟨r0, r1, r2, _⟩ := (R2.out.put (.string k') (.string cc') (.string b')).read
  refine bodyPost_ret (v := aspV k' cc' b') ?_ rfl ?_
  · simp [results, Tryz.results6, go_sem, r0, r1, r2, aspV]
  · exact ⟨⟨_, _, _, rfl, hk', hcc', hb'⟩, ((W2.out.setCell (Nat.le_refl _) _).setCell (Nat.le_refl _) _).setCell (Nat.le_refl _) _⟩
end Go.Proofs.YtkdnbdgpcgookaaGreatDoor
