/- The model's l4One and DrawProceedsOf: an aspect of short texts, whatever the bytes. -/
import Derived.Test.YtkdnbdgpcgookaaGreatDoorL4b
namespace Go.Proofs.YtkdnbdgpcgookaaGreatDoor
open Go.RowKit Gram

theorem fin3 {w wr : World} {rb : Nat} {a : Option Addr} {n c p : Nat} {x y z : Value} (hx : Cell3 wr w.heap.size x y z) (ho : rb < w.heap.size) (hr : Rdr wr rb a n c p) (hgw : w.grownBy wr (some rb)) (hg : ∀ g off, a = some ⟨g, off, none⟩ → 0 < n → g < w.heap.size) (X Y Z : Value) :
    ∃ wf, ((wr.setCell ⟨w.heap.size, 0, none⟩ X).setCell ⟨w.heap.size, 1, none⟩ Y).setCell ⟨w.heap.size, 2, none⟩ Z = wf ∧ wf.cell? ⟨w.heap.size, 0, none⟩ = some X ∧ wf.cell? ⟨w.heap.size, 1, none⟩ = some Y ∧ wf.cell? ⟨w.heap.size, 2, none⟩ = some Z ∧ Rdr wf rb a n c p ∧ w.grownBy wf (some rb) := by
  obtain ⟨r0, r1, r2, _⟩ := (hx.put X Y Z).read
  refine ⟨_, rfl, r0, r1, r2, ?_, ?_⟩
  · exact ((hr.set (by omega) (fun g off ha hn => by have := hg g off ha hn; omega) _).set (by omega) (fun g off ha hn => by have := hg g off ha hn; omega) _).set (by omega) (fun g off ha hn => by have := hg g off ha hn; omega) _
  · refine ⟨hgw.os, hgw.tape, hgw.output, by simp [World.setCell]; exact hgw.size, fun j hj hne => ?_⟩
    rw [heap_set_other (by omega), heap_set_other (by omega), heap_set_other (by omega)]
    exact hgw.block j hj hne

set_option maxHeartbeats 1000000 in
theorem l4o_any (w : World) (rb : Nat) (a : Option Addr) (n c p : Nat) (h : Rdr w rb a n c p) (hp : p ≤ 40000) :
    Calls Tryz.prog 27 #[.pointer (some ⟨rb, 0, none⟩)] w (DrewA w rb a n c p 200 200) := by
  have HA := Lib.hid (show ∀ g off, a = some ⟨g, off, none⟩ → 0 < n → g < w.heap.size from fun g off ha hn => by
    obtain ⟨g', off', ha', b, hc⟩ := h.bytes 0 hn
    rw [ha] at ha'
    injection ha' with ha'; injection ha' with e1 e2
    subst e1
    exact World.block_lt_of_cell? w _ hc)
  have hrb := heap_lt h.own
  have R0 := Lib.hid (Cell3.new w (.string ⟨#[]⟩) (.string ⟨#[]⟩) (.string ⟨#[]⟩))
  have G0 := Lib.hid (World.grownBy_alloc w (Obj.cells #[.string ⟨#[]⟩, .string ⟨#[]⟩, .string ⟨#[]⟩] 24) (some rb))
  have Z0 := Lib.hid (alloc_size' w (Obj.cells #[.string ⟨#[]⟩, .string ⟨#[]⟩, .string ⟨#[]⟩] 24))
  have HS := Lib.hid (l4s_any _ rb a n c p (h.later (alloc_heap (w := w) (Obj.cells #[.string ⟨#[]⟩, .string ⟨#[]⟩, .string ⟨#[]⟩] 24))) (by omega))
  have HB := Lib.hid (l4b_any · rb a n c)
  clear h
  unfold DrewA aspV at *
  go_enter Tryz.func27, Tryz.ntmps27
  go_wp2_with fail
  generalize w.alloc (Obj.cells #[.string ⟨#[]⟩, .string ⟨#[]⟩, .string ⟨#[]⟩] 24) = w0 at *
  refine HS.out.mono ?_
  rintro e w1 ⟨k, cc, b, q, rfl, hk, hcc, hb, hq, hr, hg⟩
  have HR := Lib.hid hr
  have HG := Lib.hid hg
  clear hr hg
  go_wp2_with fail
  refine (HB.out _ _ _ _ _ hk hcc hb HR.out (by omega)).mono ?_
  rintro e w2 ⟨k', cc', b', q', rfl, hk', hcc', hb', hq', hr', hg'⟩
  have HR' := Lib.hid hr'
  have HG' := Lib.hid (grownBy_trans HG.out hg')
  clear hr' hg'
  have R2 := Lib.hid (show Cell3 w2 w.heap.size (.string ⟨#[]⟩) (.string ⟨#[]⟩) (.string ⟨#[]⟩) by
    unfold Cell3; rw [HG'.out.block w.heap.size (by have := Z0.out; omega) (by intro e; injection e; omega)]; exact R0.out)
  obtain ⟨x0, x1, x2, c0, c1, c2⟩ := R2.out.read
  go_wp2_with fail
  obtain ⟨wf, hwf, y0, y1, y2, hR, hGr⟩ := fin3 R2.out hrb HR'.out (grownBy_trans G0.out HG'.out) HA.out (.string k') (.string cc') (.string b')
  rw [hwf]
  refine bodyPost_ret (v := aspV k' cc' b') ?_ rfl ?_
  · simp [results, Tryz.results27, go_sem, y0, y1, y2, aspV]
  · exact ⟨_, _, _, _, rfl, hk', hcc', hb', by omega, hR, hGr⟩

theorem BytesAt.later {w w' : World} {a : Option Addr} {n : Nat} (h : BytesAt w a n) (hb : Below w.heap.size w w') : BytesAt w' a n := fun k hk => by
  obtain ⟨g, off, ha, b, hc⟩ := h k hk
  exact ⟨g, off, ha, b, by rw [hb.cell (p := ⟨g, off + k, none⟩) (World.block_lt_of_cell? w _ hc)]; exact hc⟩

end Go.Proofs.YtkdnbdgpcgookaaGreatDoor
