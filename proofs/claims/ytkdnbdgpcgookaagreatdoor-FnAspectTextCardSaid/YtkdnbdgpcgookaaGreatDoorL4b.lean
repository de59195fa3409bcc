/- The model's l4Bad, l4One: an aspect of short texts, whatever the bytes behind the source. Conditions: counts up to 50000. -/
import Derived.Test.YtkdnbdgpcgookaaGreatDoorVx
import Derived.Deep.RegionHeld3
namespace Go.Proofs.YtkdnbdgpcgookaaGreatDoor
open Go.RowKit Gram

/-- the aspect lies in the first new block, the result in the second -/
structure Bp (w wr : World) (rb : Nat) (a : Option Addr) (n c p : Nat) (k nm st : ByteArray) : Prop where
  own : wr.heap[w.heap.size]? = some (.cells #[.string k, .string nm, .string st] 24 (0, 0))
  res : ∃ x y z, wr.heap[w.heap.size + 1]? = some (.cells #[x, y, z] 24 (0, 0))
  old : rb < w.heap.size
  rdr : Rdr wr rb a n c p
  grown : w.grownBy wr (some rb)
theorem Bp.read {w wr : World} {rb : Nat} {a : Option Addr} {n c p : Nat} {k nm st : ByteArray} (h : Bp w wr rb a n c p k nm st) :
    wr.cell? ⟨w.heap.size, 0, none⟩ = some (.string k) ∧ wr.cell? ⟨w.heap.size, 1, none⟩ = some (.string nm) ∧ wr.cell? ⟨w.heap.size, 2, none⟩ = some (.string st) ∧
    wr.frozen? ⟨w.heap.size, 0, none⟩ = false ∧ wr.frozen? ⟨w.heap.size, 1, none⟩ = false ∧ wr.frozen? ⟨w.heap.size, 2, none⟩ = false := by
  refine ⟨?_, ?_, ?_, Lib.frozen_of_heap h.own 0, Lib.frozen_of_heap h.own 1, Lib.frozen_of_heap h.own 2⟩ <;> (rw [Lib.cell_of_heap h.own]; rfl)
theorem Bp.later {w wr w' : World} {rb : Nat} {a : Option Addr} {n c p q : Nat} {k nm st : ByteArray} (h : Bp w wr rb a n c p k nm st) (hr : Rdr w' rb a n c q) (hg : wr.grownBy w' (some rb)) : Bp w w' rb a n c q k nm st :=
  ⟨by rw [hg.block w.heap.size (heap_lt h.own) (by have := h.old; intro e; injection e; omega)]; exact h.own,
    by obtain ⟨x, y, z, hx⟩ := h.res; exact ⟨x, y, z, by rw [hg.block (w.heap.size + 1) (heap_lt hx) (by have := h.old; intro e; injection e; omega)]; exact hx⟩, h.old, hr, grownBy_trans h.grown hg⟩
theorem Bp.alloc {w wr : World} {rb : Nat} {a : Option Addr} {n c p : Nat} {k nm st : ByteArray} (h : Bp w wr rb a n c p k nm st) (o : Obj) : Bp w (wr.alloc o) rb a n c p k nm st :=
  h.later (h.rdr.later (alloc_heap o)) (World.grownBy_alloc _ _ _)
theorem Bp.set {w wr : World} {rb : Nat} {a : Option Addr} {n c p : Nat} {k nm st : ByteArray} (h : Bp w wr rb a n c p k nm st) (hg : ∀ g off, a = some ⟨g, off, none⟩ → 0 < n → g < w.heap.size) (i : Nat) (u : Value) (k' nm' st' : ByteArray)
    (hu : (#[Value.string k, .string nm, .string st] : Array Value).setIfInBounds i u = #[.string k', .string nm', .string st']) : Bp w (wr.setCell ⟨w.heap.size, i, none⟩ u) rb a n c p k' nm' st' := by
  have h2 := h.old
  refine ⟨by rw [heap_set_same h.own, hu], by obtain ⟨x, y, z, hx⟩ := h.res; exact ⟨x, y, z, by rw [heap_set_other (by omega)]; exact hx⟩, h.old, h.rdr.set (by omega) (fun g off ha hn => by have := hg g off ha hn; omega) u, ?_⟩
  exact ⟨h.grown.os, h.grown.tape, h.grown.output, by simp [World.setCell]; exact h.grown.size, fun j hj hne => by rw [heap_set_other (by omega)]; exact h.grown.block j hj hne⟩
theorem Bp.result {w wr : World} {rb : Nat} {a : Option Addr} {n c p : Nat} {k nm st : ByteArray} (h : Bp w wr rb a n c p k nm st) :
    ∃ x y z, wr.cell? ⟨w.heap.size + 1, 0, none⟩ = some x ∧ wr.cell? ⟨w.heap.size + 1, 1, none⟩ = some y ∧ wr.cell? ⟨w.heap.size + 1, 2, none⟩ = some z ∧
    wr.frozen? ⟨w.heap.size + 1, 0, none⟩ = false ∧ wr.frozen? ⟨w.heap.size + 1, 1, none⟩ = false ∧ wr.frozen? ⟨w.heap.size + 1, 2, none⟩ = false := by
  obtain ⟨x, y, z, hx⟩ := h.res
  refine ⟨x, y, z, ?_, ?_, ?_, Lib.frozen_of_heap hx 0, Lib.frozen_of_heap hx 1, Lib.frozen_of_heap hx 2⟩ <;> (rw [Lib.cell_of_heap hx]; rfl)
theorem Bp.final {w wr : World} {rb : Nat} {a : Option Addr} {n c p : Nat} {k nm st : ByteArray} (h : Bp w wr rb a n c p k nm st) (hg : ∀ g off, a = some ⟨g, off, none⟩ → 0 < n → g < w.heap.size) (X Y Z : Value) :
    ∃ wf, ((wr.setCell ⟨w.heap.size + 1, 0, none⟩ X).setCell ⟨w.heap.size + 1, 1, none⟩ Y).setCell ⟨w.heap.size + 1, 2, none⟩ Z = wf ∧ wf.cell? ⟨w.heap.size + 1, 0, none⟩ = some X ∧ wf.cell? ⟨w.heap.size + 1, 1, none⟩ = some Y ∧ wf.cell? ⟨w.heap.size + 1, 2, none⟩ = some Z ∧ Rdr wf rb a n c p ∧ w.grownBy wf (some rb) := by
  obtain ⟨x, y, z, hx⟩ := h.res
  have h1 := heap_set_same (k := 2) (heap_set_same (k := 1) (heap_set_same (k := 0) hx X) Y) Z
  have ho := h.old
  refine ⟨_, rfl, by rw [Lib.cell_of_heap h1]; rfl, by rw [Lib.cell_of_heap h1]; rfl, by rw [Lib.cell_of_heap h1]; rfl, ?_, ?_⟩
  · exact ((h.rdr.set (by omega) (fun g off ha hn => by have := hg g off ha hn; omega) _).set (by omega) (fun g off ha hn => by have := hg g off ha hn; omega) _).set (by omega) (fun g off ha hn => by have := hg g off ha hn; omega) _
  · refine ⟨h.grown.os, h.grown.tape, h.grown.output, by simp [World.setCell]; exact h.grown.size, fun j hj hne => ?_⟩
    rw [heap_set_other (by omega), heap_set_other (by omega), heap_set_other (by omega)]
    exact h.grown.block j hj hne
theorem bad_kinds : ∀ s ∈ [(⟨#[]⟩ : ByteArray), ⟨#[97, 114, 111, 117, 110, 100]⟩, ⟨#[100, 117, 114, 105, 110, 103]⟩], s.size ≤ 6 := by decide

set_option maxHeartbeats 1000000 in
set_option maxRecDepth 100000 in
theorem l4b_any (w : World) (rb : Nat) (a : Option Addr) (n c p : Nat) (k cc b : ByteArray) (hk : k.size ≤ 100) (hcc : cc.size ≤ 100) (hb : b.size ≤ 100) (h : Rdr w rb a n c p) (hp : p ≤ 50000) :
    Calls Tryz.prog 55 #[.pointer (some ⟨rb, 0, none⟩), aspV k cc b] w (DrewA w rb a n c p 200 100) := by
  have H := Lib.hid h
  have HA := Lib.hid (show ∀ g off, a = some ⟨g, off, none⟩ → 0 < n → g < w.heap.size from fun g off ha hn => by
    obtain ⟨g', off', ha', b, hc⟩ := h.bytes 0 hn
    rw [ha] at ha'
    injection ha' with ha'; injection ha' with e1 e2
    subst e1
    exact World.block_lt_of_cell? w _ hc)
  have hrb := heap_lt h.own
  clear h
  unfold aspV
  have P0 := Lib.hid (show Bp w ((w.alloc (Obj.cells #[.string k, .string cc, .string b] 24)).alloc (Obj.cells #[.string ⟨#[]⟩, .string ⟨#[]⟩, .string ⟨#[]⟩] 24)) rb a n c p k cc b from
    ⟨by have := heap_alloc_new w (Obj.cells #[.string k, .string cc, .string b] 24); rw [alloc_heap _ _ (heap_lt this)]; exact this,
      ⟨_, _, _, by have := heap_alloc_new (w.alloc (Obj.cells #[.string k, .string cc, .string b] 24)) (Obj.cells #[.string ⟨#[]⟩, .string ⟨#[]⟩, .string ⟨#[]⟩] 24); rw [alloc_size'] at this; exact this⟩,
      hrb, (H.out.later (alloc_heap (w := w) _)).later (alloc_heap _), grownBy_trans (World.grownBy_alloc _ _ _) (World.grownBy_alloc _ _ _)⟩)
  go_enter Tryz.func55, Tryz.ntmps55
  go_wp2_with fail
  refine (pick_to 30 P0.out.rdr (by omega) (by omega)).mono ?_
  rintro e w2 ⟨v, rfl, hv, hr2, hg2⟩
  have P2 := Lib.hid (P0.out.later hr2 hg2)
  clear hr2 hg2 P0
  obtain ⟨q0, q1, q2, f0, f1, f2⟩ := P2.out.read
  obtain ⟨x0, x1, x2, c0, c1, c2, z0, z1, z2⟩ := P2.out.result
  by_cases hv3 : 3 ≤ v
  · have hb0 : ((v : Int) == 0) = false := by rw [beq_eq_false_iff_ne]; omega
    have hb1 : ((v : Int) == 1) = false := by rw [beq_eq_false_iff_ne]; omega
    have hb2 : ((v : Int) == 2) = false := by rw [beq_eq_false_iff_ne]; omega
    go_wp2_with fail
    obtain ⟨wf, hwf, y0, y1, y2, hR, hGr⟩ := P2.out.final HA.out (.string k) (.string cc) (.string b)
    rw [hwf]
    refine bodyPost_ret (v := aspV k cc b) ?_ rfl ?_
    · simp [results, Tryz.results55, go_sem, y0, y1, y2, aspV]
    · exact ⟨_, _, _, _, rfl, by omega, by omega, by omega, by omega, hR, hGr⟩
  · obtain hv0 | hv0 | hv0 : v = 0 ∨ v = 1 ∨ v = 2 := by omega
    · subst hv0
      clear c0 c1 c2 z0 z1 z2
      go_wp2_with fail
      refine (of_any _ rb a n c _ w2.heap.size 3 3 6 (P2.out.alloc _).rdr (by omega) (by omega) (by omega) (by have := P2.out.old; have := P2.out.grown.size; omega) (plus_cells _ w2.heap.size [⟨#[]⟩, ⟨#[97, 114, 111, 117, 110, 100]⟩, ⟨#[100, 117, 114, 105, 110, 103]⟩] 6 bad_kinds rfl)).mono ?_
      rintro e w3 ⟨t, q3, rfl, ht, hq3, hr3, hg3⟩
      have P3 := Lib.hid ((P2.out.alloc (Obj.cells #[.string ⟨#[]⟩, .string ⟨#[97, 114, 111, 117, 110, 100]⟩, .string ⟨#[100, 117, 114, 105, 110, 103]⟩] 9)).later hr3 hg3)
      clear hr3 hg3 q0 q1 q2 f0 f1 f2
      obtain ⟨q0, q1, q2, f0, f1, f2⟩ := P3.out.read
      have P4 := Lib.hid (P3.out.set HA.out 0 (.string t) _ _ _ rfl)
      obtain ⟨x0, x1, x2, c0, c1, c2, z0, z1, z2⟩ := P3.out.result
      go_wp2_with fail
      obtain ⟨wf, hwf, y0, y1, y2, hR, hGr⟩ := P4.out.final HA.out (.string t) (.string cc) (.string b)
      rw [hwf]
      refine bodyPost_ret (v := aspV t cc b) ?_ rfl ?_
      · simp [results, Tryz.results55, go_sem, y0, y1, y2, aspV]
      · exact ⟨_, _, _, _, rfl, by omega, by omega, by omega, by omega, hR, hGr⟩
    · subst hv0
      clear c0 c1 c2 z0 z1 z2
      go_wp2_with fail
      refine (l3s_any _ rb a n c _ P2.out.rdr (by omega)).mono ?_
      rintro e w3 ⟨t, q3, rfl, ht, hq3, hr3, hg3⟩
      have P3 := Lib.hid (P2.out.later hr3 hg3)
      clear hr3 hg3 q0 q1 q2 f0 f1 f2
      obtain ⟨q0, q1, q2, f0, f1, f2⟩ := P3.out.read
      have P4 := Lib.hid (P3.out.set HA.out 1 (.string t) _ _ _ rfl)
      obtain ⟨x0, x1, x2, c0, c1, c2, z0, z1, z2⟩ := P3.out.result
      go_wp2_with fail
      obtain ⟨wf, hwf, y0, y1, y2, hR, hGr⟩ := P4.out.final HA.out (.string k) (.string t) (.string b)
      rw [hwf]
      refine bodyPost_ret (v := aspV k t b) ?_ rfl ?_
      · simp [results, Tryz.results55, go_sem, y0, y1, y2, aspV]
      · exact ⟨_, _, _, _, rfl, by omega, by omega, by omega, by omega, hR, hGr⟩
    · subst hv0
      clear c0 c1 c2 z0 z1 z2
      have HM := Lib.hid (fun (w : World) => show Calls Tryz.prog 78 #[.string ⟨#[80]⟩, .int .i64 61] w fun e w' => (∃ s : ByteArray, e = .returned (.string s) ∧ s.size = 61) ∧ w = w' from many_any ⟨#[80]⟩ 61 61 w rfl (by omega) (by decide) (by omega))
      go_wp2_with fail
      have qa := fun o => show (w2.alloc o).cell? ⟨w.heap.size, 2, none⟩ = some (.string b) from (P2.out.alloc o).read.2.2.1
      go_region_with ((first
        | (go_at_call 78; refine (HM.out _).mono ?_
           rintro e w3 ⟨⟨m, rfl, hm⟩, rfl⟩)
        | (go_at_call 36; refine (of_any _ rb a n c _ w2.heap.size 5 5 61 (P2.out.rdr.later (alloc_heap (w := w2.drew) _)) (by omega) (by omega) (by omega) (by have := P2.out.old; have := P2.out.grown.size; omega) (plus_cells w2.drew w2.heap.size [⟨#[67, 97]⟩, ⟨#[75]⟩, ⟨#[120]⟩, ⟨#[63, 91, 75, 93]⟩, m] 61 (by intro s hs; simp at hs; rcases hs with rfl | rfl | rfl | rfl | rfl; (show 2 ≤ 61; omega); (show 1 ≤ 61; omega); (show 1 ≤ 61; omega); (show 4 ≤ 61; omega); omega) rfl)).mono ?_
           rintro e w4 ⟨t, q4, rfl, ht, hq4, hr4, hg4⟩
           have P4 := Lib.hid ((P2.out.alloc (Obj.cells #[.string ⟨#[67, 97]⟩, .string ⟨#[75]⟩, .string ⟨#[120]⟩, .string ⟨#[63, 91, 75, 93]⟩, .string m] 9)).later hr4 ⟨hg4.os, hg4.tape, hg4.output, hg4.size, hg4.block⟩)
           clear hr4 hg4
           obtain ⟨r0, r1, r2, e0', e1', e2'⟩ := P4.out.read
           have e1 := str_sum b t (by omega))))
      all_goals
        have P5 := Lib.hid (P4.out.set HA.out 2 (.string (b ++ t)) _ _ (b ++ t) rfl)
        obtain ⟨x0, x1, x2, c0, c1, c2, z0, z1, z2⟩ := P4.out.result
        go_wp2_with fail
        obtain ⟨wf, hwf, y0, y1, y2, hR, hGr⟩ := P5.out.final HA.out (.string k) (.string cc) (.string (b ++ t))
        rw [hwf]
        refine bodyPost_ret (v := aspV k cc (b ++ t)) ?_ rfl ?_
        · simp [results, Tryz.results55, go_sem, y0, y1, y2, aspV]
        · exact ⟨_, _, _, _, rfl, by omega, by omega, by simp only [ByteArray.size_append]; omega, by omega, hR, hGr⟩
end Go.Proofs.YtkdnbdgpcgookaaGreatDoor
