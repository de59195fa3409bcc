/- The model's l4Bad, l4One: an aspect of short texts, whatever the bytes behind the source. Conditions: counts up to 50000. The model's l4One and DrawProceedsOf: an aspect of short texts, whatever the bytes. Rows of aspects put behind rows of one's own; slices of rows; two neighbours that change places, plainly. Condition: at most 2000 elements together. The model's l4List: what it draws is a short row of small aspects. Condition: counts up to 40000. The model's l7Still: what it draws is a short row of small aspects. Condition: counts up to 30000. The model's DrawAspectsValid: a short row of small aspects, whatever the bytes. The model's DrawPlaceAdvice: a short text and a short row of small aspects, whatever the bytes. -/
import Derived.Test.YtkdnbdgpcgookaaGreatDoorVx
import Derived.Deep.RegionHeld3
import Derived.Test.YtkdnbdgpcgookaaGreatDoorZx
import Derived.Deep.AppendLies
import Derived.Deep.Upon
import Derived.Lib.AppendZeros
import Derived.Test.YtkdnbdgpcgookaaGreatDoorWx
namespace Go.Proofs.YtkdnbdgpcgookaaGreatDoor
open Go.RowKit Gram

/-- the aspect lies in the first new block, the result in the second -/
structure Bp (w wr : World) (rb : Nat) (a : Option Addr) (n c p : Nat) (k nm st : ByteArray) : Prop where
  own : wr.heap[w.heap.size]? = some (.cells #[.string k, .string nm, .string st] 24 (0, 0))
  res : ∃ x y z, wr.heap[w.heap.size + 1]? = some (.cells #[x, y, z] 24 (0, 0))
  old : rb < w.heap.size
  rdr : Rdr wr rb a n c p
  grown : w.grownBy wr (some rb)
theorem Bp.read {w wr : World} {rb : Nat} {a : Option Addr} {n c p : Nat} {k nm st : ByteArray} (h : Bp w wr rb a n c p k nm st) :
    wr.cell? ⟨w.heap.size, 0, none⟩ = some (.string k) ∧ wr.cell? ⟨w.heap.size, 1, none⟩ = some (.string nm) ∧ wr.cell? ⟨w.heap.size, 2, none⟩ = some (.string st) ∧
    wr.frozen? ⟨w.heap.size, 0, none⟩ = false ∧ wr.frozen? ⟨w.heap.size, 1, none⟩ = false ∧ wr.frozen? ⟨w.heap.size, 2, none⟩ = false := by
  refine ⟨?_, ?_, ?_, Lib.frozen_of_heap h.own 0, Lib.frozen_of_heap h.own 1, Lib.frozen_of_heap h.own 2⟩ <;> (rw [Lib.cell_of_heap h.own]; rfl)
theorem Bp.later {w wr w' : World} {rb : Nat} {a : Option Addr} {n c p q : Nat} {k nm st : ByteArray} (h : Bp w wr rb a n c p k nm st) (hr : Rdr w' rb a n c q) (hg : wr.grownBy w' (some rb)) : Bp w w' rb a n c q k nm st :=
  ⟨by rw [hg.block w.heap.size (heap_lt h.own) (by have := h.old; intro e; injection e; omega)]; exact h.own,
    by obtain ⟨x, y, z, hx⟩ := h.res; exact ⟨x, y, z, by rw [hg.block (w.heap.size + 1) (heap_lt hx) (by have := h.old; intro e; injection e; omega)]; exact hx⟩, h.old, hr, grownBy_trans h.grown hg⟩
theorem Bp.alloc {w wr : World} {rb : Nat} {a : Option Addr} {n c p : Nat} {k nm st : ByteArray} (h : Bp w wr rb a n c p k nm st) (o : Obj) : Bp w (wr.alloc o) rb a n c p k nm st :=
  h.later (h.rdr.later (alloc_heap o)) (World.grownBy_alloc _ _ _)
theorem Bp.set {w wr : World} {rb : Nat} {a : Option Addr} {n c p : Nat} {k nm st : ByteArray} (h : Bp w wr rb a n c p k nm st) (hg : ∀ g off, a = some ⟨g, off, none⟩ → 0 < n → g < w.heap.size) (i : Nat) (u : Value) (k' nm' st' : ByteArray)
    (hu : (#[Value.string k, .string nm, .string st] : Array Value).setIfInBounds i u = #[.string k', .string nm', .string st']) : Bp w (wr.setCell ⟨w.heap.size, i, none⟩ u) rb a n c p k' nm' st' := by
  have h2 := h.old
  refine ⟨by rw [heap_set_same h.own, hu], by obtain ⟨x, y, z, hx⟩ := h.res; exact ⟨x, y, z, by rw [heap_set_other (by omega)]; exact hx⟩, h.old, h.rdr.set (by omega) (fun g off ha hn => by have := hg g off ha hn; omega) u, ?_⟩
  exact ⟨h.grown.os, h.grown.tape, h.grown.output, by simp [World.setCell]; exact h.grown.size, fun j hj hne => by rw [heap_set_other (by omega)]; exact h.grown.block j hj hne⟩
theorem Bp.result {w wr : World} {rb : Nat} {a : Option Addr} {n c p : Nat} {k nm st : ByteArray} (h : Bp w wr rb a n c p k nm st) :
    ∃ x y z, wr.cell? ⟨w.heap.size + 1, 0, none⟩ = some x ∧ wr.cell? ⟨w.heap.size + 1, 1, none⟩ = some y ∧ wr.cell? ⟨w.heap.size + 1, 2, none⟩ = some z ∧
    wr.frozen? ⟨w.heap.size + 1, 0, none⟩ = false ∧ wr.frozen? ⟨w.heap.size + 1, 1, none⟩ = false ∧ wr.frozen? ⟨w.heap.size + 1, 2, none⟩ = false := by
  obtain ⟨x, y, z, hx⟩ := h.res
  refine ⟨x, y, z, ?_, ?_, ?_, Lib.frozen_of_heap hx 0, Lib.frozen_of_heap hx 1, Lib.frozen_of_heap hx 2⟩ <;> (rw [Lib.cell_of_heap hx]; rfl)
theorem Bp.final {w wr : World} {rb : Nat} {a : Option Addr} {n c p : Nat} {k nm st : ByteArray} (h : Bp w wr rb a n c p k nm st) (hg : ∀ g off, a = some ⟨g, off, none⟩ → 0 < n → g < w.heap.size) (X Y Z : Value) :
    ∃ wf, ((wr.setCell ⟨w.heap.size + 1, 0, none⟩ X).setCell ⟨w.heap.size + 1, 1, none⟩ Y).setCell ⟨w.heap.size + 1, 2, none⟩ Z = wf ∧ wf.cell? ⟨w.heap.size + 1, 0, none⟩ = some X ∧ wf.cell? ⟨w.heap.size + 1, 1, none⟩ = some Y ∧ wf.cell? ⟨w.heap.size + 1, 2, none⟩ = some Z ∧ Rdr wf rb a n c p ∧ w.grownBy wf (some rb) := by
  obtain ⟨x, y, z, hx⟩ := h.res
  have h1 := heap_set_same (k := 2) (heap_set_same (k := 1) (heap_set_same (k := 0) hx X) Y) Z
  have ho := h.old
  refine ⟨_, rfl, by rw [Lib.cell_of_heap h1]; rfl, by rw [Lib.cell_of_heap h1]; rfl, by rw [Lib.cell_of_heap h1]; rfl, ?_, ?_⟩
  · exact ((h.rdr.set (by omega) (fun g off ha hn => by have := hg g off ha hn; omega) _).set (by omega) (fun g off ha hn => by have := hg g off ha hn; omega) _).set (by omega) (fun g off ha hn => by have := hg g off ha hn; omega) _
  · refine ⟨h.grown.os, h.grown.tape, h.grown.output, by simp [World.setCell]; exact h.grown.size, fun j hj hne => ?_⟩
    rw [heap_set_other (by omega), heap_set_other (by omega), heap_set_other (by omega)]
    exact h.grown.block j hj hne
theorem bad_kinds : ∀ s ∈ [(⟨#[]⟩ : ByteArray), ⟨#[97, 114, 111, 117, 110, 100]⟩, ⟨#[100, 117, 114, 105, 110, 103]⟩], s.size ≤ 6 := by decide

set_option maxHeartbeats 1000000 in
set_option maxRecDepth 100000 in
theorem l4b_any (w : World) (rb : Nat) (a : Option Addr) (n c p : Nat) (k cc b : ByteArray) (hk : k.size ≤ 100) (hcc : cc.size ≤ 100) (hb : b.size ≤ 100) (h : Rdr w rb a n c p) (hp : p ≤ 50000) :
    Calls Tryz.prog 55 #[.pointer (some ⟨rb, 0, none⟩), aspV k cc b] w (DrewA w rb a n c p 200 100) := by
  have H := Lib.hid h
  have HA := Lib.hid (show ∀ g off, a = some ⟨g, off, none⟩ → 0 < n → g < w.heap.size from fun g off ha hn => by
    obtain ⟨g', off', ha', b, hc⟩ := h.bytes 0 hn
    rw [ha] at ha'
    injection ha' with ha'; injection ha' with e1 e2
    subst e1
    exact World.block_lt_of_cell? w _ hc)
  have hrb := heap_lt h.own
  clear h
  unfold aspV
  have P0 := Lib.hid (show Bp w ((w.alloc (Obj.cells #[.string k, .string cc, .string b] 24)).alloc (Obj.cells #[.string ⟨#[]⟩, .string ⟨#[]⟩, .string ⟨#[]⟩] 24)) rb a n c p k cc b from
    ⟨by have := heap_alloc_new w (Obj.cells #[.string k, .string cc, .string b] 24); rw [alloc_heap _ _ (heap_lt this)]; exact this,
      ⟨_, _, _, by have := heap_alloc_new (w.alloc (Obj.cells #[.string k, .string cc, .string b] 24)) (Obj.cells #[.string ⟨#[]⟩, .string ⟨#[]⟩, .string ⟨#[]⟩] 24); rw [alloc_size'] at this; exact this⟩,
      hrb, (H.out.later (alloc_heap (w := w) _)).later (alloc_heap _), grownBy_trans (World.grownBy_alloc _ _ _) (World.grownBy_alloc _ _ _)⟩)
  go_enter Tryz.func55, Tryz.ntmps55
  go_wp2_with fail
  refine (pick_to 30 P0.out.rdr (by omega) (by omega)).mono ?_
  rintro e w2 ⟨v, rfl, hv, hr2, hg2⟩
  have P2 := Lib.hid (P0.out.later hr2 hg2)
  clear hr2 hg2 P0
  obtain ⟨q0, q1, q2, f0, f1, f2⟩ := P2.out.read
  obtain ⟨x0, x1, x2, c0, c1, c2, z0, z1, z2⟩ := P2.out.result
  by_cases hv3 : 3 ≤ v
  · have hb0 : ((v : Int) == 0) = false := by rw [beq_eq_false_iff_ne]; omega
    have hb1 : ((v : Int) == 1) = false := by rw [beq_eq_false_iff_ne]; omega
    have hb2 : ((v : Int) == 2) = false := by rw [beq_eq_false_iff_ne]; omega
    go_wp2_with fail
    obtain ⟨wf, hwf, y0, y1, y2, hR, hGr⟩ := P2.out.final HA.out (.string k) (.string cc) (.string b)
    rw [hwf]
    refine bodyPost_ret (v := aspV k cc b) ?_ rfl ?_
    · simp [results, Tryz.results55, go_sem, y0, y1, y2, aspV]
    · exact ⟨_, _, _, _, rfl, by omega, by omega, by omega, by omega, hR, hGr⟩
  · obtain hv0 | hv0 | hv0 : v = 0 ∨ v = 1 ∨ v = 2 := by omega
    · subst hv0
      clear c0 c1 c2 z0 z1 z2
      go_wp2_with fail
      refine (of_any _ rb a n c _ w2.heap.size 3 3 6 (P2.out.alloc _).rdr (by omega) (by omega) (by omega) (by have := P2.out.old; have := P2.out.grown.size; omega) (plus_cells _ w2.heap.size [⟨#[]⟩, ⟨#[97, 114, 111, 117, 110, 100]⟩, ⟨#[100, 117, 114, 105, 110, 103]⟩] 6 bad_kinds rfl)).mono ?_
      rintro e w3 ⟨t, q3, rfl, ht, hq3, hr3, hg3⟩
      have P3 := Lib.hid ((P2.out.alloc (Obj.cells #[.string ⟨#[]⟩, .string ⟨#[97, 114, 111, 117, 110, 100]⟩, .string ⟨#[100, 117, 114, 105, 110, 103]⟩] 9)).later hr3 hg3)
      clear hr3 hg3 q0 q1 q2 f0 f1 f2
      obtain ⟨q0, q1, q2, f0, f1, f2⟩ := P3.out.read
      have P4 := Lib.hid (P3.out.set HA.out 0 (.string t) _ _ _ rfl)
      obtain ⟨x0, x1, x2, c0, c1, c2, z0, z1, z2⟩ := P3.out.result
      go_wp2_with fail
      obtain ⟨wf, hwf, y0, y1, y2, hR, hGr⟩ := P4.out.final HA.out (.string t) (.string cc) (.string b)
      rw [hwf]
      refine bodyPost_ret (v := aspV t cc b) ?_ rfl ?_
      · simp [results, Tryz.results55, go_sem, y0, y1, y2, aspV]
      · exact ⟨_, _, _, _, rfl, by omega, by omega, by omega, by omega, hR, hGr⟩
    · subst hv0
      clear c0 c1 c2 z0 z1 z2
      go_wp2_with fail
      refine (l3s_any _ rb a n c _ P2.out.rdr (by omega)).mono ?_
      rintro e w3 ⟨t, q3, rfl, ht, hq3, hr3, hg3⟩
      have P3 := Lib.hid (P2.out.later hr3 hg3)
      clear hr3 hg3 q0 q1 q2 f0 f1 f2
      obtain ⟨q0, q1, q2, f0, f1, f2⟩ := P3.out.read
      have P4 := Lib.hid (P3.out.set HA.out 1 (.string t) _ _ _ rfl)
      obtain ⟨x0, x1, x2, c0, c1, c2, z0, z1, z2⟩ := P3.out.result
      go_wp2_with fail
      obtain ⟨wf, hwf, y0, y1, y2, hR, hGr⟩ := P4.out.final HA.out (.string k) (.string t) (.string b)
      rw [hwf]
      refine bodyPost_ret (v := aspV k t b) ?_ rfl ?_
      · simp [results, Tryz.results55, go_sem, y0, y1, y2, aspV]
      · exact ⟨_, _, _, _, rfl, by omega, by omega, by omega, by omega, hR, hGr⟩
    · subst hv0
      clear c0 c1 c2 z0 z1 z2
      have HM := Lib.hid (fun (w : World) => show Calls Tryz.prog 78 #[.string ⟨#[80]⟩, .int .i64 61] w fun e w' => (∃ s : ByteArray, e = .returned (.string s) ∧ s.size = 61) ∧ w = w' from many_any ⟨#[80]⟩ 61 61 w rfl (by omega) (by decide) (by omega))
      go_wp2_with fail
      have qa := fun o => show (w2.alloc o).cell? ⟨w.heap.size, 2, none⟩ = some (.string b) from (P2.out.alloc o).read.2.2.1
      go_region_with ((first
        | (go_at_call 78; refine (HM.out _).mono ?_
           rintro e w3 ⟨⟨m, rfl, hm⟩, rfl⟩)
        | (go_at_call 36; refine (of_any _ rb a n c _ w2.heap.size 5 5 61 (P2.out.rdr.later (alloc_heap (w := w2.drew) _)) (by omega) (by omega) (by omega) (by have := P2.out.old; have := P2.out.grown.size; omega) (plus_cells w2.drew w2.heap.size [⟨#[67, 97]⟩, ⟨#[75]⟩, ⟨#[120]⟩, ⟨#[63, 91, 75, 93]⟩, m] 61 (by intro s hs; simp at hs; rcases hs with rfl | rfl | rfl | rfl | rfl; (show 2 ≤ 61; omega); (show 1 ≤ 61; omega); (show 1 ≤ 61; omega); (show 4 ≤ 61; omega); omega) rfl)).mono ?_
           rintro e w4 ⟨t, q4, rfl, ht, hq4, hr4, hg4⟩
           have P4 := Lib.hid ((P2.out.alloc (Obj.cells #[.string ⟨#[67, 97]⟩, .string ⟨#[75]⟩, .string ⟨#[120]⟩, .string ⟨#[63, 91, 75, 93]⟩, .string m] 9)).later hr4 ⟨hg4.os, hg4.tape, hg4.output, hg4.size, hg4.block⟩)
           clear hr4 hg4
           obtain ⟨r0, r1, r2, e0', e1', e2'⟩ := P4.out.read
           have e1 := str_sum b t (by omega))))
      all_goals
        have P5 := Lib.hid (P4.out.set HA.out 2 (.string (b ++ t)) _ _ (b ++ t) rfl)
        obtain ⟨x0, x1, x2, c0, c1, c2, z0, z1, z2⟩ := P4.out.result
        go_wp2_with fail
        obtain ⟨wf, hwf, y0, y1, y2, hR, hGr⟩ := P5.out.final HA.out (.string k) (.string cc) (.string (b ++ t))
        rw [hwf]
        refine bodyPost_ret (v := aspV k cc (b ++ t)) ?_ rfl ?_
        · simp [results, Tryz.results55, go_sem, y0, y1, y2, aspV]
        · exact ⟨_, _, _, _, rfl, by omega, by omega, by simp only [ByteArray.size_append]; omega, by omega, hR, hGr⟩
end Go.Proofs.YtkdnbdgpcgookaaGreatDoor
namespace Go.Proofs.YtkdnbdgpcgookaaGreatDoor
open Go.RowKit Gram

theorem fin3 {w wr : World} {rb : Nat} {a : Option Addr} {n c p : Nat} {x y z : Value} (hx : Cell3 wr w.heap.size x y z) (ho : rb < w.heap.size) (hr : Rdr wr rb a n c p) (hgw : w.grownBy wr (some rb)) (hg : ∀ g off, a = some ⟨g, off, none⟩ → 0 < n → g < w.heap.size) (X Y Z : Value) :
    ∃ wf, ((wr.setCell ⟨w.heap.size, 0, none⟩ X).setCell ⟨w.heap.size, 1, none⟩ Y).setCell ⟨w.heap.size, 2, none⟩ Z = wf ∧ wf.cell? ⟨w.heap.size, 0, none⟩ = some X ∧ wf.cell? ⟨w.heap.size, 1, none⟩ = some Y ∧ wf.cell? ⟨w.heap.size, 2, none⟩ = some Z ∧ Rdr wf rb a n c p ∧ w.grownBy wf (some rb) := by
  obtain ⟨r0, r1, r2, _⟩ := (hx.put X Y Z).read
  refine ⟨_, rfl, r0, r1, r2, ?_, ?_⟩
  · exact ((hr.set (by omega) (fun g off ha hn => by have := hg g off ha hn; omega) _).set (by omega) (fun g off ha hn => by have := hg g off ha hn; omega) _).set (by omega) (fun g off ha hn => by have := hg g off ha hn; omega) _
  · refine ⟨hgw.os, hgw.tape, hgw.output, by simp [World.setCell]; exact hgw.size, fun j hj hne => ?_⟩
    rw [heap_set_other (by omega), heap_set_other (by omega), heap_set_other (by omega)]
    exact hgw.block j hj hne

set_option maxHeartbeats 1000000 in
theorem l4o_any (w : World) (rb : Nat) (a : Option Addr) (n c p : Nat) (h : Rdr w rb a n c p) (hp : p ≤ 40000) :
    Calls Tryz.prog 27 #[.pointer (some ⟨rb, 0, none⟩)] w (DrewA w rb a n c p 200 200) := by
  have HA := Lib.hid (show ∀ g off, a = some ⟨g, off, none⟩ → 0 < n → g < w.heap.size from fun g off ha hn => by
    obtain ⟨g', off', ha', b, hc⟩ := h.bytes 0 hn
    rw [ha] at ha'
    injection ha' with ha'; injection ha' with e1 e2
    subst e1
    exact World.block_lt_of_cell? w _ hc)
  have hrb := heap_lt h.own
  have R0 := Lib.hid (Cell3.new w (.string ⟨#[]⟩) (.string ⟨#[]⟩) (.string ⟨#[]⟩))
  have G0 := Lib.hid (World.grownBy_alloc w (Obj.cells #[.string ⟨#[]⟩, .string ⟨#[]⟩, .string ⟨#[]⟩] 24) (some rb))
  have Z0 := Lib.hid (alloc_size' w (Obj.cells #[.string ⟨#[]⟩, .string ⟨#[]⟩, .string ⟨#[]⟩] 24))
  have HS := Lib.hid (l4s_any _ rb a n c p (h.later (alloc_heap (w := w) (Obj.cells #[.string ⟨#[]⟩, .string ⟨#[]⟩, .string ⟨#[]⟩] 24))) (by omega))
  have HB := Lib.hid (l4b_any · rb a n c)
  clear h
  unfold DrewA aspV at *
  go_enter Tryz.func27, Tryz.ntmps27
  go_wp2_with fail
  generalize w.alloc (Obj.cells #[.string ⟨#[]⟩, .string ⟨#[]⟩, .string ⟨#[]⟩] 24) = w0 at *
  refine HS.out.mono ?_
  rintro e w1 ⟨k, cc, b, q, rfl, hk, hcc, hb, hq, hr, hg⟩
  have HR := Lib.hid hr
  have HG := Lib.hid hg
  clear hr hg
  go_wp2_with fail
  refine (HB.out _ _ _ _ _ hk hcc hb HR.out (by omega)).mono ?_
  rintro e w2 ⟨k', cc', b', q', rfl, hk', hcc', hb', hq', hr', hg'⟩
  have HR' := Lib.hid hr'
  have HG' := Lib.hid (grownBy_trans HG.out hg')
  clear hr' hg'
  have R2 := Lib.hid (show Cell3 w2 w.heap.size (.string ⟨#[]⟩) (.string ⟨#[]⟩) (.string ⟨#[]⟩) by
    unfold Cell3; rw [HG'.out.block w.heap.size (by have := Z0.out; omega) (by intro e; injection e; omega)]; exact R0.out)
  obtain ⟨x0, x1, x2, c0, c1, c2⟩ := R2.out.read
  go_wp2_with fail
  obtain ⟨wf, hwf, y0, y1, y2, hR, hGr⟩ := fin3 R2.out hrb HR'.out (grownBy_trans G0.out HG'.out) HA.out (.string k') (.string cc') (.string b')
  rw [hwf]
  refine bodyPost_ret (v := aspV k' cc' b') ?_ rfl ?_
  · simp [results, Tryz.results27, go_sem, y0, y1, y2, aspV]
  · exact ⟨_, _, _, _, rfl, hk', hcc', hb', by omega, hR, hGr⟩

theorem BytesAt.later {w w' : World} {a : Option Addr} {n : Nat} (h : BytesAt w a n) (hb : Below w.heap.size w w') : BytesAt w' a n := fun k hk => by
  obtain ⟨g, off, ha, b, hc⟩ := h k hk
  exact ⟨g, off, ha, b, by rw [hb.cell (p := ⟨g, off + k, none⟩) (World.block_lt_of_cell? w _ hc)]; exact hc⟩

end Go.Proofs.YtkdnbdgpcgookaaGreatDoor
namespace Go.Proofs.YtkdnbdgpcgookaaGreatDoor
open Go.RowKit Gram

/-- a row's cells -/
def asC (zs : List As) : List Value := (asF zs).map Value.string
theorem asC_len (zs : List As) : (asC zs).length = zs.length * 3 := by rw [asC, List.length_map, asF_len]
theorem asC_add (xs ys : List As) : asC (xs ++ ys) = asC xs ++ asC ys := by simp [asC, asF]
theorem asC_ones (zs : List As) : ∀ u ∈ asC zs, u.oneCell' = true := by
  intro u hu
  simp only [asC, List.mem_map] at hu
  obtain ⟨x, _, rfl⟩ := hu
  rfl

/-- a row of aspects at block g -/
def Arow (w : World) (B g n c : Nat) (zs : List As) : Prop := w.ownsRow B 24 3 (.slice (some ⟨g, 0, none⟩) n c) n (asC zs)
theorem Arow.lt {w : World} {B g n c : Nat} {zs : List As} (h : Arow w B g n c zs) : B ≤ g ∧ g < w.heap.size := World.ownsRow.lt h g rfl
theorem Arow.room {w : World} {B g n c : Nat} {zs : List As} (h : Arow w B g n c zs) : n ≤ c ∧ c ≤ maxLen := by
  rcases h.2 with ⟨hv, _⟩ | ⟨g', cap, cur, hv, _, _, h1, h2, _⟩
  · cases hv
  · injection hv with _ _ hc; subst hc; exact ⟨h1, h2⟩
theorem Arow.keep {w w' : World} {B g n c : Nat} {zs : List As} (h : Arow w B g n c zs) (hk : w'.heap[g]? = w.heap[g]?) : Arow w' B g n c zs :=
  ownsRow_of h (fun j hj => by injection hj with hj; subst hj; exact hk)
/-- the cells of a part of a row -/
theorem Arow.part {w : World} {B g n c : Nat} {xs ys us : List As} (h : Arow w B g n c (xs ++ ys ++ us)) : ∀ (j : Nat) (u : Value), (asC ys)[j]? = some u → w.cell? ((⟨g, xs.length * 3, none⟩ : Addr).add j) = some u := by
  intro j u hu
  rw [Go.WideShapes.add_plain]
  refine row_cell h _ u ?_
  have hj : j < (asC ys).length := (List.getElem?_eq_some_iff.1 hu).1
  rw [asC_add, asC_add, List.append_assoc, List.getElem?_append_right (by rw [asC_len]; omega), asC_len, Nat.add_sub_cancel_left, List.getElem?_append_left hj]
  exact hu

theorem arow_e {w : World} {B H : Nat} (h : w.heap[H]? = some (.cells #[] 24 (0, 0))) (hb : B ≤ H) : Arow w B H 0 0 [] :=
  ⟨by simp [asC, asF], .inr ⟨H, 0, #[], rfl, hb, h, Nat.le_refl _, Nat.zero_le _, by simp, by simp [asC, asF]⟩⟩

/-- elements put behind a row -/
theorem more_asps (w : World) (B g t cap : Nat) (xs : List As) (hown : Arow w B g t cap xs) (gs off m c : Nat) (ys : List As) (hl : ys.length = m)
    (hnews : ∀ (j : Nat) (u : Value), (asC ys)[j]? = some u → w.cell? ((⟨gs, off, none⟩ : Addr).add j) = some u) (hmax : t + m ≤ 2000) (hB : B ≤ w.heap.size) :
    ∃ g' c' w', (Builtin.append_ #[31, 31] 31 #[.slice (some ⟨g, 0, none⟩) t cap, .slice (some ⟨gs, off, none⟩) m c]).run Tryz.prog w = .ok (.slice (some ⟨g', 0, none⟩) (t + m) c') w' ∧
      Arow w' B g' (t + m) c' (xs ++ ys) ∧ w.grownBy w' (some g) := by
  obtain ⟨i0, hi, hz0, hz1, hz2⟩ := info_parts info_asp
  by_cases h0 : m = 0
  · subst h0
    have hys : ys = [] := List.length_eq_zero_iff.1 hl
    subst hys
    have hsrc : Src Tryz.prog i0.size 31 (.slice (some ⟨gs, off, none⟩) 0 c) 0 [] w := Src.ofSlice w Tryz.underlying31 ⟨gs, off, none⟩ 0 c [] (by simp) (fun j u h => by simp at h) (fun _ h => by cases h)
    exact ⟨g, cap, w, run_append_nothing w _ _ _ 24 i0 Tryz.underlying31 hi (some ⟨g, 0, none⟩) t cap hown.room.1 _ hsrc, by simpa using hown, ⟨rfl, rfl, rfl, Nat.le_refl _, fun _ _ _ => rfl⟩⟩
  · obtain ⟨g', c', w', hrun, h2, h3, _, _⟩ := run_append_lies (P := Tryz.prog) w 31 31 B 24 i0 (aspV ⟨#[]⟩ ⟨#[]⟩ ⟨#[]⟩) 3 48 Tryz.underlying31 hi hz0 hz1 hz2 rfl (by decide) (.slice (some ⟨g, 0, none⟩) t cap) t (asC xs) hown ⟨gs, off, none⟩ m c (asC ys) (by rw [asC_len, hl])
      hnews (asC_ones ys) (by omega) (by unfold maxLen; omega) (by omega) hB w.heap.size rfl
    exact ⟨g', c', w', hrun, by rw [← asC_add] at h2; exact h2, h3⟩

theorem size_asp (w : World) : (sizeOf (Tryz.prog.elem 31)).run Tryz.prog w = .ok 3 w := by kernel_rfl
theorem aslice_low (g n c k : Nat) (i : Int) (hi : i = (k : Int)) (hk : k ≤ n) (w : World) :
    (Instr.slice 31 (.slice (some ⟨g, 0, none⟩) n c) (some (.int .i64 i)) none none).run Tryz.prog w = .ok (.slice (some ⟨g, if c = k then 0 else k * 3, none⟩) (n - k) (c - k)) w := by
  subst hi
  rw [run_slice_l (P := Tryz.prog) (w := w) (t := 31) (ht := by kernel_rfl) (kl := .i64) (l := (k : Int)) (h0 := by omega) (h1 := by omega), size_asp]
  simp only [Result.andThen, sliced, Int.toNat_natCast]
  split
  · rfl
  · rw [Option.map_some, Go.WideShapes.add_plain, Nat.zero_add]
theorem aslice_high (g n c k : Nat) (i : Int) (hi : i = (k : Int)) (hk : k ≤ c) (w : World) :
    (Instr.slice 31 (.slice (some ⟨g, 0, none⟩) n c) none (some (.int .i64 i)) none).run Tryz.prog w = .ok (.slice (some ⟨g, 0, none⟩) k c) w := by
  subst hi
  rw [run_slice_h (P := Tryz.prog) (w := w) (t := 31) (ht := by kernel_rfl) (kh := .i64) (h := (k : Int)) (h0 := by omega) (h2 := by omega), size_asp]
  simp only [Result.andThen, sliced, Int.toNat_natCast]
  split
  · rfl
  · rw [Option.map_some, Go.WideShapes.add_plain]; rfl

theorem step_append_asp {ops : Array Oper} {o : Oper} {a : Act} {w : World} {K : Act → World → Prop} {Q : Exit → Act → World → Prop} {E : Prop} (hgd : o.guard = none) (s x : Operand)
    (ho : o.op = .call { callee := .builtin .append, args := #[s, x], argTypes := #[31, 31] }) (hty : o.type = 31) (vs vx : Value) (hs : a.eval s = vs) (hx : a.eval x = vx) (n : Nat) (R : Nat → Nat → World → Prop)
    (hr : ∃ g c w', (Builtin.append_ #[31, 31] 31 #[vs, vx]).run Tryz.prog w = .ok (.slice (some ⟨g, 0, none⟩) n c) w' ∧ R g c w')
    (h : ∀ g c w', R g c w' → K (a.put o.dst (.slice (some ⟨g, 0, none⟩) n c)) w') :
    if Region.wanted o (yielded ops a.tmps) = true then Oper.wp Tryz.prog o a w K Q else E := by
  have hw : Region.wanted o (yielded ops a.tmps) = true := by simp [Region.wanted, hgd]
  rw [if_pos hw]
  obtain ⟨g, c, w', hrun, hR⟩ := hr
  exact Lib.wp_append_run w s x _ _ ho vs vx hs hx _ w' (by rw [hty]; exact hrun) (h _ _ _ hR)

/-- whether two neighbours may change places, and what comes of it -/
def swOk (zs : List As) (i : Int) : Bool := aspsP zs && (decide (0 ≤ i) && decide (i < (zs.length : Int) - 1))
def swZ (zs : List As) (i : Int) : List As := if swOk zs i = true then zs.take i.toNat ++ (zs.drop (i.toNat + 1)).take 1 ++ (zs.drop i.toNat).take 1 ++ zs.drop (i.toNat + 2) else []
theorem swOk_cut {zs : List As} {i : Int} (h : swOk zs i = true) : aspsP zs = true ∧ ∃ (xs ys : List As) (p q : As), i = (xs.length : Int) ∧ zs = xs ++ [p] ++ [q] ++ ys ∧ swZ zs i = xs ++ [q, p] ++ ys ∧ zs.length ≤ 5 := by
  have h' := h
  unfold swOk at h
  rw [Bool.and_eq_true, Bool.and_eq_true, decide_eq_true_eq, decide_eq_true_eq] at h
  obtain ⟨h1, h2, h3⟩ := h
  have h5 : zs.length ≤ 5 := by
    unfold aspsP at h1
    rw [Bool.and_eq_true, decide_eq_true_eq] at h1
    exact h1.2
  obtain ⟨k, rfl⟩ := Int.eq_ofNat_of_zero_le h2
  have hk : k + 1 < zs.length := by omega
  refine ⟨h1, zs.take k, zs.drop (k + 2), zs[k], zs[k + 1], by rw [List.length_take]; omega, ?_, ?_, h5⟩
  · conv => lhs; rw [← List.take_append_drop k zs, List.drop_eq_getElem_cons (by omega), List.drop_eq_getElem_cons hk]
    simp
  · unfold swZ
    have e1 : (zs.drop (k + 1)).take 1 = [zs[k + 1]] := by rw [List.drop_eq_getElem_cons hk]; rfl
    have e2 : (zs.drop k).take 1 = [zs[k]] := by rw [List.drop_eq_getElem_cons (by omega)]; rfl
    rw [if_pos h', Int.toNat_natCast, e1, e2]
    simp
theorem swZ_len (zs : List As) (i : Int) : (swZ zs i).length ≤ 5 := by
  cases h : swOk zs i with
  | false => unfold swZ; rw [h]; simp
  | true =>
    obtain ⟨_, xs, ys, p, q, _, h2, h3, h4⟩ := swOk_cut h
    rw [h3]
    rw [h2] at h4
    simp at h4 ⊢
    omega

/-- what SwapAspects hands back -/
def SwTo (zs : List As) (i : Int) (w : World) (e : Ending) (w' : World) : Prop :=
  (∃ a c, e = .returned (.tuple #[.slice a (swZ zs i).length c, .bool (swOk zs i)]) ∧ w'.ownsRow w.heap.size 24 3 (.slice a (swZ zs i).length c) (swZ zs i).length ((asF (swZ zs i)).map Value.string)) ∧ Below w.heap.size w w'
theorem swTo_none {zs : List As} {i : Int} {w w' : World} {a : Option Addr} {c : Nat} (h : swOk zs i = false) (ho : w'.ownsRow w.heap.size 24 3 (.slice a 0 c) 0 []) (hb : Below w.heap.size w w') : SwTo zs i w (.returned (.tuple #[.slice a 0 c, .bool false])) w' := by
  have hz : swZ zs i = [] := by unfold swZ; rw [h]; rfl
  exact ⟨⟨a, c, by rw [hz, h]; rfl, by rw [hz]; exact ho⟩, hb⟩
theorem swTo_some {zs : List As} {i : Int} {w w' : World} {g n c : Nat} {us : List As} (h : swOk zs i = true) (hz : swZ zs i = us) (hl : us.length = n) (ho : Arow w' w.heap.size g n c us) (hb : Below w.heap.size w w') : SwTo zs i w (.returned (.tuple #[.slice (some ⟨g, 0, none⟩) n c, .bool true])) w' := by
  subst hz; subst hl
  exact ⟨⟨_, c, by rw [h], ho⟩, hb⟩
end Go.Proofs.YtkdnbdgpcgookaaGreatDoor
namespace Go.Proofs.YtkdnbdgpcgookaaGreatDoor
open Go.RowKit Gram

/-- small aspects -/
def SmallAs (zs : List As) : Prop := ∀ z ∈ zs, z.1.size ≤ 100 ∧ z.2.1.size ≤ 100 ∧ z.2.2.size ≤ 200
theorem SmallAs.nil : SmallAs [] := fun _ h => by cases h
theorem SmallAs.add {xs ys : List As} (h : SmallAs xs) (h' : SmallAs ys) : SmallAs (xs ++ ys) := fun z hz => by
  rcases List.mem_append.1 hz with h1 | h1
  · exact h z h1
  · exact h' z h1
theorem SmallAs.one {x y z : ByteArray} (hx : x.size ≤ 100) (hy : y.size ≤ 100) (hz : z.size ≤ 200) : SmallAs [(x, y, z)] := fun u hu => by
  rw [List.mem_singleton] at hu; subst hu; exact ⟨hx, hy, hz⟩
theorem SmallAs.total {zs : List As} (h : SmallAs zs) : asT zs ≤ 400 * zs.length := by
  induction zs with
  | nil => simp [asT]
  | cons p t ih =>
    have h1 := h p (List.mem_cons_self ..)
    have h2 := ih (fun z hz => h z (List.mem_cons_of_mem _ hz))
    unfold asT at h2 ⊢
    rw [List.map_cons, List.sum_cons, List.length_cons]
    unfold asZ at h2 ⊢
    omega
theorem grown_fresh {w w1 w2 : World} {r : Option Nat} {g : Nat} (h : w.grownBy w1 r) (h2 : w1.grownBy w2 (some g)) (hg : w.heap.size ≤ g) : w.grownBy w2 r :=
  ⟨by rw [h2.os, h.os], by rw [h2.tape, h.tape], by rw [h2.output, h.output], Nat.le_trans h.size h2.size, fun k hk hne => by
    rw [h2.block k (by have := h.size; omega) (by intro e; injection e; omega), h.block k hk hne]⟩
theorem Rdr.but {w w' : World} {rb : Nat} {a : Option Addr} {n c p g : Nat} (h : Rdr w rb a n c p) (hk : ∀ k, k < w.heap.size → some k ≠ some g → w'.heap[k]? = w.heap[k]?) (hr : rb < g) (ha : ∀ g' off, a = some ⟨g', off, none⟩ → 0 < n → g' < g) : Rdr w' rb a n c p := by
  refine ⟨by rw [hk _ (heap_lt h.own) (by intro e; injection e; omega)]; exact h.own, fun k hk' => ?_, h.off, h.small⟩
  obtain ⟨g', off, ha', b, hc⟩ := h.bytes k hk'
  exact ⟨g', off, ha', b, by rw [← hc]; exact World.cell?_of_block (a := ⟨g', off + k, none⟩) (hk g' (World.block_lt_of_cell? w _ hc) (by intro e; injection e with e; have := ha g' off ha' (by omega); omega))⟩
theorem wl_append_asp {ops : Array Oper} {rest : List Oper} {o : Oper} {a : Act} {w : World} {Q : Exit → Act → World → Prop} (hgd : o.guard = none) (s x : Operand)
    (ho : o.op = .call { callee := .builtin .append, args := #[s, x], argTypes := #[31, 31] }) (hty : o.type = 31) (vs vx : Value) (hs : a.eval s = vs) (hx : a.eval x = vx) (n : Nat) (R : Nat → Nat → World → Prop)
    (hr : ∃ g c w', (Builtin.append_ #[31, 31] 31 #[vs, vx]).run Tryz.prog w = .ok (.slice (some ⟨g, 0, none⟩) n c) w' ∧ R g c w')
    (h : ∀ g c w', R g c w' → wpList Tryz.prog ops Q rest (a.put o.dst (.slice (some ⟨g, 0, none⟩) n c)) w') : wpList Tryz.prog ops Q (o :: rest) a w := by
  obtain ⟨g, c, w', hrun, hR⟩ := hr
  exact Lib.wpList_append_run w hgd s x _ _ ho vs vx hs hx _ w' (by rw [hty]; exact hrun) (h _ _ _ hR)
theorem asp_news {w : World} {x y z : ByteArray} : ∀ (j : Nat) (u : Value), (asC [(x, y, z)])[j]? = some u → (w.alloc (.cells #[.string x, .string y, .string z] 24)).cell? ((⟨w.heap.size, 0, none⟩ : Addr).add j) = some u :=
  World.news_of_block (cs := #[.string x, .string y, .string z]) (heap_alloc_new _ _)

/-- what a draw of aspects hands back -/
def DrewL (w : World) (rb : Nat) (a : Option Addr) (n c p cost : Nat) (e : Ending) (w' : World) : Prop :=
  ∃ (g cc : Nat) (zs : List As) (q : Nat), e = .returned (.slice (some ⟨g, 0, none⟩) zs.length cc) ∧ Arow w' w.heap.size g zs.length cc zs ∧ zs.length ≤ 3 ∧ SmallAs zs ∧ q ≤ p + cost ∧ Rdr w' rb a n c q ∧ w.grownBy w' (some rb)

set_option maxHeartbeats 2000000 in
set_option maxRecDepth 100000 in
theorem l4l_any (w : World) (rb : Nat) (a : Option Addr) (n c p : Nat) (h : Rdr w rb a n c p) (hp : p ≤ 40000) :
    Calls Tryz.prog 38 #[.pointer (some ⟨rb, 0, none⟩)] w (DrewL w rb a n c p 400) := by
  have H := Lib.hid h
  have HA := Lib.hid (show ∀ g off, a = some ⟨g, off, none⟩ → 0 < n → g < w.heap.size from fun g off ha hn => by
    obtain ⟨g', off', ha', b, hc⟩ := h.bytes 0 hn
    rw [ha] at ha'
    injection ha' with ha'; injection ha' with e1 e2
    subst e1
    exact World.block_lt_of_cell? w _ hc)
  have hrb := heap_lt h.own
  clear h
  have HD := Lib.hid l4w_any
  unfold DrewW aspV at HD
  have H0 := Lib.hid (H.out.later (alloc_heap (w := w) (Obj.cells #[] 24)))
  have G0 := Lib.hid (World.grownBy_alloc w (Obj.cells #[] 24) (some rb))
  have R0 := Lib.hid (arow_e (B := w.heap.size) (heap_alloc_new w (Obj.cells #[] 24)) (Nat.le_refl _))
  have Z0 := Lib.hid (alloc_size' w (Obj.cells #[] 24))
  go_enter Tryz.func38, Tryz.ntmps38
  go_wp2_with fail
  generalize hw0 : w.alloc (Obj.cells #[] 24) = w0 at *
  clear hw0
  have hz0 := Z0.out
  clear Z0
  refine (num_any _ rb a n c p (w.heap.size + 1) 5 5 3 (H0.out.later (alloc_heap (w := w0) _)) (by omega) (by omega) (by omega) (by omega) (num_cells w0 (w.heap.size + 1) [2, 1, 2, 3, 0] 3 (by decide) hz0.symm)).mono ?_
  rintro e w1 ⟨d, rfl, hd, hr1, hg1⟩
  have H1 := Lib.hid hr1
  have G1 := Lib.hid (grownBy_trans G0.out (grownBy_trans (World.grownBy_alloc w0 _ _) hg1))
  have R1 := Lib.hid (R0.out.keep (w' := w1) (by rw [hg1.block w.heap.size (by rw [alloc_size']; omega) (by intro e; injection e; omega), alloc_heap _ _ (by omega)]))
  clear hr1 hg1
  go_wp2_with fail
  go_loopw [3, 8] (fun v i wr => ∃ (k g cc q : Nat) (zs : List As), k ≤ d ∧ i = .int .i64 k ∧ v = .slice (some ⟨g, 0, none⟩) k cc ∧ zs.length = k ∧ q ≤ p + 1 + 100 * k ∧ Hid (Arow wr w.heap.size g k cc zs) ∧ Hid (SmallAs zs) ∧ Hid (Rdr wr rb a n c q) ∧ Hid (w.grownBy wr (some rb))) (fun _ i _ => d - (intOf i).toNat)
  case atStart => exact ⟨0, _, _, p + 1, [], Nat.zero_le _, by go_num, rfl, rfl, by omega, R1.out, SmallAs.nil, H1.out, G1.out⟩
  case round =>
    obtain ⟨k, g, cc, q, zs, hk, rfl, rfl, hl, hq, hR, hS, hr, hG⟩ := hrel
    by_cases hlt : k < d
    · go_wp2_with fail
      refine (HD.out _ _ _ _ _ _ hr.out (by omega)).mono ?_
      rintro e w5 ⟨x, y, z, q5, rfl, ⟨_, hx, hy, hz⟩, hq5, hr5, hg5⟩
      have hgb := hR.out.lt
      have hz5 := hg5.size
      have HR5 := Lib.hid ((hR.out.keep (w' := w5) (hg5.block g hgb.2 (by intro e; injection e; omega))).keep (w' := w5.alloc (.cells #[.string x, .string y, .string z] 24)) (alloc_heap _ _ (by omega)))
      have Hr5 := Lib.hid (hr5.later (alloc_heap (w := w5) (.cells #[.string x, .string y, .string z] 24)))
      have HG5 := Lib.hid (grownBy_trans (grownBy_trans hG.out hg5) (World.grownBy_alloc w5 (.cells #[.string x, .string y, .string z] 24) (some rb)))
      have HS5 := Lib.hid (hS.out.add (SmallAs.one (z := z) hx hy (by omega)))
      have hgr := hG.out.size
      clear hr5 hg5
      go_wp2_with (at_builtin; go_loud (refine wl_append_asp rfl _ _ rfl rfl _ _ rfl rfl (k + 1) (fun g' c' w' => Arow w' w.heap.size g' (k + 1) c' (zs ++ [(x, y, z)]) ∧ (w5.alloc (.cells #[.string x, .string y, .string z] 24)).grownBy w' (some g)) (more_asps _ w.heap.size g k cc zs HR5.out w5.heap.size 0 1 1 [(x, y, z)] rfl asp_news (by omega) (by rw [alloc_size']; omega)) ?_); rintro g' c' w6 ⟨hown, hgrow⟩)
      have HR6 := Lib.hid hown
      have Hr6 := Lib.hid (Hr5.out.but hgrow.block (by omega) (fun g' off ha hn => by have := HA.out g' off ha hn; omega))
      have HG6 := Lib.hid (grown_fresh HG5.out hgrow hgb.1)
      clear hown hgrow
      go_wp2_with fail
      exact ⟨⟨k + 1, _, _, q5, _, by omega, by go_num, rfl, by simp [hl], by omega, HR6.out, HS5.out, Hr6.out, HG6.out⟩, by simp [intOf]; omega⟩
    · have hkd : k = d := by omega
      subst hkd
      go_wp2_with fail
      go_ret
      exact ⟨g, cc, zs, q, by rw [hl]; rfl, by rw [hl]; exact hR.out, by omega, hS.out, by omega, hr.out, hG.out⟩
end Go.Proofs.YtkdnbdgpcgookaaGreatDoor
namespace Go.Proofs.YtkdnbdgpcgookaaGreatDoor
open Go.RowKit Gram

set_option maxRecDepth 100000 in
/-- one element put behind a row, and where it lies then -/
theorem more_asp1 (w : World) (B g t cap : Nat) (xs : List As) (hown : Arow w B g t cap xs) (gs off c : Nat) (y : As)
    (hnews : ∀ (j : Nat) (u : Value), (asC [y])[j]? = some u → w.cell? ((⟨gs, off, none⟩ : Addr).add j) = some u) (hmax : t + 1 ≤ 2000) (hB : B ≤ w.heap.size) :
    ∃ g' c' w', (Builtin.append_ #[31, 31] 31 #[.slice (some ⟨g, 0, none⟩) t cap, .slice (some ⟨gs, off, none⟩) 1 c]).run Tryz.prog w = .ok (.slice (some ⟨g', 0, none⟩) (t + 1) c') w' ∧
      Arow w' B g' (t + 1) c' (xs ++ [y]) ∧ w.grownBy w' (some g) ∧ (g' = g ∨ g' = w.heap.size) := by
  obtain ⟨i0, hi, hz0, hz1, hz2⟩ := info_parts info_asp
  obtain ⟨g', c', w', hrun, h2, h3, h4, _⟩ := run_append_lies (P := Tryz.prog) w 31 31 B 24 i0 (aspV ⟨#[]⟩ ⟨#[]⟩ ⟨#[]⟩) 3 48 Tryz.underlying31 hi hz0 hz1 hz2 rfl (by decide) (.slice (some ⟨g, 0, none⟩) t cap) t (asC xs) hown ⟨gs, off, none⟩ 1 c (asC [y]) rfl
    hnews (asC_ones [y]) (by omega) (by unfold maxLen; omega) (by omega) hB w.heap.size rfl
  refine ⟨g', c', w', hrun, by rw [← asC_add] at h2; exact h2, h3, ?_⟩
  rcases h4 with h4 | h4
  · left; injection h4 with h4; exact h4.symm
  · exact .inr h4
theorem set_fresh {w wr : World} {rb : Nat} {a : Option Addr} {n c p ab : Nat} (ho : rb < w.heap.size) (hab : w.heap.size ≤ ab) (hr : Rdr wr rb a n c p) (hg : w.grownBy wr (some rb)) (ha : ∀ g off, a = some ⟨g, off, none⟩ → 0 < n → g < w.heap.size) (k : Nat) (X : Value) :
    Rdr (wr.setCell ⟨ab, k, none⟩ X) rb a n c p ∧ w.grownBy (wr.setCell ⟨ab, k, none⟩ X) (some rb) :=
  ⟨hr.set (by omega) (fun g off hg hn => by have := ha g off hg hn; omega) _, ⟨hg.os, hg.tape, hg.output, by simp [World.setCell]; exact hg.size, fun j hj hne => by rw [heap_set_other (by omega)]; exact hg.block j hj hne⟩⟩
theorem Cell3.mid {w : World} {B : Nat} {x y z : Value} (h : Cell3 w B x y z) (y' : Value) : Cell3 (w.setCell ⟨B, 1, none⟩ y') B x y' z := by
  unfold Cell3; rw [heap_set_same h]; rfl
theorem Cell3.keep {w w' : World} {B : Nat} {x y z : Value} (h : Cell3 w B x y z) (hk : w'.heap[B]? = w.heap[B]?) : Cell3 w' B x y z := hk.trans h
theorem asC_at : ∀ (l : List As) (k : Nat) (h : k < l.length), (asC l)[k * 3]? = some (.string l[k].1) ∧ (asC l)[k * 3 + 1]? = some (.string l[k].2.1) ∧ (asC l)[k * 3 + 2]? = some (.string l[k].2.2)
  | j :: l, 0, _ => ⟨rfl, rfl, rfl⟩
  | j :: l, k + 1, h => by
    have ih := asC_at l k (by simpa using h)
    have e : asC (j :: l) = [.string j.1, .string j.2.1, .string j.2.2] ++ asC l := rfl
    rw [e]
    refine ⟨?_, ?_, ?_⟩
    · rw [List.getElem?_append_right (by simp; omega)]; simpa [Nat.succ_mul] using ih.1
    · rw [List.getElem?_append_right (by simp; omega)]; have := ih.2.1; simp [Nat.succ_mul]; exact this
    · rw [List.getElem?_append_right (by simp; omega)]; have := ih.2.2; simp [Nat.succ_mul]; exact this
theorem Arow.cells {w : World} {B g n c : Nat} {zs : List As} (h : Arow w B g n c zs) (k : Nat) (hk : k < zs.length) : w.cell? ⟨g, k * 3, none⟩ = some (.string zs[k].1) ∧ w.cell? ⟨g, k * 3 + 1, none⟩ = some (.string zs[k].2.1) ∧ w.cell? ⟨g, k * 3 + 2, none⟩ = some (.string zs[k].2.2) := by
  obtain ⟨e0, e1, e2⟩ := asC_at zs k hk
  exact ⟨row_cell h _ _ e0, row_cell h _ _ e1, row_cell h _ _ e2⟩

theorem asp_newsg {w : World} {gs : Nat} {x y z : ByteArray} (h : gs = w.heap.size) : ∀ (j : Nat) (u : Value), (asC [(x, y, z)])[j]? = some u → (w.alloc (.cells #[.string x, .string y, .string z] 24)).cell? ((⟨gs, 0, none⟩ : Addr).add j) = some u := by
  subst h; exact asp_news

/-- what l7Still hands back -/
def DrewY (w : World) (rb : Nat) (a : Option Addr) (n c p cost : Nat) (e : Ending) (w' : World) : Prop :=
  ∃ (g cc : Nat) (zs : List As) (q : Nat), e = .returned (.slice (some ⟨g, 0, none⟩) zs.length cc) ∧ Arow w' w.heap.size g zs.length cc zs ∧ zs.length ≤ 4 ∧ SmallAs zs ∧ q ≤ p + cost ∧ Rdr w' rb a n c q ∧ w.grownBy w' (some rb)

set_option maxHeartbeats 4000000 in
set_option maxRecDepth 100000 in
theorem l7s_any (w : World) (rb : Nat) (a : Option Addr) (n c p : Nat) (h : Rdr w rb a n c p) (hp : p ≤ 30000) :
    Calls Tryz.prog 39 #[.pointer (some ⟨rb, 0, none⟩)] w (DrewY w rb a n c p 1000) := by
  have H := Lib.hid h
  have HA := Lib.hid (show ∀ g off, a = some ⟨g, off, none⟩ → 0 < n → g < w.heap.size from fun g off ha hn => by
    obtain ⟨g', off', ha', b, hc⟩ := h.bytes 0 hn
    rw [ha] at ha'
    injection ha' with ha'; injection ha' with e1 e2
    subst e1
    exact World.block_lt_of_cell? w _ hc)
  have hrb := heap_lt h.own
  clear h
  have HL := Lib.hid l4l_any
  have H1 := Lib.hid l4o_any
  unfold DrewL at HL
  unfold DrewA aspV at H1
  have H0 := Lib.hid (H.out.later (alloc_heap (w := w) (Obj.cells #[] 24)))
  have G0 := Lib.hid (World.grownBy_alloc w (Obj.cells #[] 24) (some rb))
  have R0 := Lib.hid (arow_e (B := w.heap.size) (heap_alloc_new w (Obj.cells #[] 24)) (Nat.le_refl _))
  have Z0 := Lib.hid (alloc_size' w (Obj.cells #[] 24))
  have HG := Lib.hid (show ∀ e w', (∃ (g cc : Nat) (zs : List As) (q : Nat), e = .returned (.slice (some ⟨g, 0, none⟩) zs.length cc) ∧ Arow w' w.heap.size g zs.length cc zs ∧ zs.length ≤ 4 ∧ SmallAs zs ∧ q ≤ p + 1000 ∧ Rdr w' rb a n c q ∧ w.grownBy w' (some rb)) → DrewY w rb a n c p 1000 e w' from fun _ _ h => h)
  go_enter Tryz.func39, Tryz.ntmps39
  go_wp2_with fail
  generalize hw0 : w.alloc (Obj.cells #[] 24) = w0 at *
  clear hw0
  refine (HL.out _ _ _ _ _ _ H0.out (by omega)).mono ?_
  rintro e w1 ⟨g0, cc0, zs0, q0, rfl, hown0, hl0, hs0, hq0, hr1, hg1⟩
  have hz0 := Z0.out
  have hlt0 := hown0.lt
  have hzg1 := hg1.size
  have A1 := Lib.hid hown0
  have S1 := Lib.hid hs0
  have Hr1 := Lib.hid hr1
  have HG1 := Lib.hid (grownBy_trans G0.out hg1)
  have R1 := Lib.hid (R0.out.keep (w' := w1) (hg1.block w.heap.size (by omega) (by intro e; injection e; omega)))
  clear hown0 hs0 hr1 hg1
  go_wp2_with fail
  go_loopw [3, 10] (fun v i wr => ∃ (k g cc q : Nat) (ys : List As), k ≤ zs0.length ∧ i = .int .i64 k ∧ v = .slice (some ⟨g, 0, none⟩) k cc ∧ ys.length = k ∧ g ≠ g0 ∧ q ≤ q0 + 2 * k ∧ Hid (Arow wr w.heap.size g k cc ys) ∧ Hid (SmallAs ys) ∧ Hid (Rdr wr rb a n c q) ∧ Hid (w.grownBy wr (some rb)) ∧ Hid (wr.heap[g0]? = w1.heap[g0]?) ∧ Hid (w1.heap.size ≤ wr.heap.size)) (fun _ i _ => zs0.length - (intOf i).toNat)
  case atStart => exact ⟨0, _, _, q0, [], Nat.zero_le _, by go_num, rfl, rfl, by omega, by omega, R1.out, SmallAs.nil, Hr1.out, HG1.out, rfl, Nat.le_refl _⟩
  case round =>
    obtain ⟨k, g, cc, q, ys, hk, rfl, rfl, hl, hne, hq, hR, hS, hr, hG, hK, hZ⟩ := hrel
    by_cases hlt : k < zs0.length
    · obtain ⟨c0, c1, c2⟩ := (A1.out.keep hK.out).cells k hlt
      obtain ⟨sx, sy, sz⟩ := S1.out zs0[k] (List.getElem_mem hlt)
      obtain ⟨x, y, z, hxyz⟩ : ∃ x y z, zs0[k] = (x, y, z) := ⟨_, _, _, rfl⟩
      rw [hxyz] at c0 c1 c2 sx sy sz
      simp only at c0 c1 c2 sx sy sz
      clear hxyz
      have hgb := hR.out.lt
      have hgz := hG.out.size
      have HH := Lib.hid (has_any y 70 (by omega))
      have N5 := Lib.hid (Cell3.new wr (.string x) (.string y) (.string z))
      have R5 := Lib.hid (hR.out.keep (w' := wr.alloc (.cells #[.string x, .string y, .string z] 24)) (alloc_heap _ _ (by omega)))
      have r5 := Lib.hid (hr.out.later (alloc_heap (w := wr) (.cells #[.string x, .string y, .string z] 24)))
      have G5 := Lib.hid (grownBy_trans hG.out (World.grownBy_alloc wr (.cells #[.string x, .string y, .string z] 24) (some rb)))
      have K5 := Lib.hid (show (wr.alloc (.cells #[.string x, .string y, .string z] 24)).heap[g0]? = w1.heap[g0]? from (alloc_heap _ _ (by have := hZ.out; omega)).trans hK.out)
      have hz5 := alloc_size' wr (.cells #[.string x, .string y, .string z] 24)
      have hZo := hZ.out
      go_wp2_with fail
      obtain ⟨W5, hW5⟩ : ∃ W5, wr.alloc (.cells #[.string x, .string y, .string z] 24) = W5 := ⟨_, rfl⟩
      rw [hW5] at N5 R5 r5 G5 K5 hz5 ⊢
      clear hW5 c0 c1 c2
      obtain ⟨d0, d1, d2, e0, e1, e2⟩ := N5.out.read
      go_wp2_with fail
      refine (HH.out W5).mono ?_
      rintro e w' ⟨rfl, rfl⟩
      cases hh : y.data.toList.contains 70
      case' false =>
        have N6 := N5
        have R6 := R5
        have r6 := r5
        have G6 := G5
        have K6 := K5
        have sy6 := sy
        have hq6 : q ≤ q + 2 := by omega
        have hz6 : wr.heap.size + 1 ≤ W5.heap.size := by omega
      case' true =>
        go_wp2_with fail
        refine (pick_to 4 r5.out (by omega) (by omega)).mono ?_
        rintro e w6 ⟨v, rfl, hv, hr6, hg6⟩
        have hz6 : wr.heap.size + 1 ≤ w6.heap.size := by have := hg6.size; omega
        have N6 := Lib.hid (N5.out.keep (hg6.block _ (by omega) (by intro e; injection e; omega)))
        have R6 := Lib.hid (R5.out.keep (hg6.block _ (by omega) (by intro e; injection e; omega)))
        have r6 := Lib.hid hr6
        have G6 := Lib.hid (grownBy_trans G5.out hg6)
        have K6 := Lib.hid ((hg6.block g0 (by omega) (by intro e; injection e; omega)).trans K5.out)
        clear hr6 hg6
        rcases Nat.eq_zero_or_pos v with hv0 | hv0
        case' inl =>
          subst hv0
          have sy6 := sy
          have hq6 : q + 1 ≤ q + 2 := by omega
          clear N5 R5 r5 G5 K5
        case' inr =>
          have hvb : (0 : Int) < (v : Int) := by omega
          clear N5 R5 r5 G5 K5
          go_wp2_with fail
          have r7 := Lib.hid (r6.out.later (alloc_heap (w := w6) (Obj.cells #[.string ⟨#[80]⟩, .string ⟨#[67, 98]⟩, .string ⟨#[84]⟩, .string ⟨#[87, 98]⟩, .string ⟨#[67, 99]⟩] 9)))
          have hz7 := alloc_size' w6 (Obj.cells #[.string ⟨#[80]⟩, .string ⟨#[67, 98]⟩, .string ⟨#[84]⟩, .string ⟨#[87, 98]⟩, .string ⟨#[67, 99]⟩] 9)
          refine (of_is (fun s => s.size ≤ 2) _ rb a n c _ w6.heap.size 5 5 r7.out (by omega) (by omega) (by omega) (by have := heap_lt r6.out.own; omega) (is_cells _ w6 w6.heap.size [⟨#[80]⟩, ⟨#[67, 98]⟩, ⟨#[84]⟩, ⟨#[87, 98]⟩, ⟨#[67, 99]⟩] (by intro s hs; simp at hs; rcases hs with rfl | rfl | rfl | rfl | rfl <;> decide) rfl)).mono ?_
          rintro e w8 ⟨s, rfl, hs, hr8, hg8⟩
          have hb8 : ∀ j, j < w6.heap.size → some j ≠ some rb → w8.heap[j]? = w6.heap[j]? := fun j hj hne => (hg8.block j (by omega) hne).trans (alloc_heap _ _ hj)
          have N8 := N6.out.keep (hb8 _ (by omega) (by intro e; injection e; omega))
          obtain ⟨d0, d1, d2, e0, e1, e2⟩ := N8.read
          have hz8 : wr.heap.size + 1 ≤ w8.heap.size := by have := hg8.size; omega
          obtain ⟨r9, G9⟩ := set_fresh (ab := wr.heap.size) hrb hgz hr8 (grownBy_trans G6.out (grownBy_trans (World.grownBy_alloc w6 _ _) hg8)) HA.out 1 (.string s)
          have hne9 : g ≠ wr.heap.size := by omega
          have N9 := N8.mid (.string s)
          have R9 := R6.out.keep (w' := w8.setCell ⟨wr.heap.size, 1, none⟩ (.string s)) ((heap_set_other (by omega) _).trans (hb8 _ (by omega) (by intro e; injection e; omega)))
          have K9 : (w8.setCell ⟨wr.heap.size, 1, none⟩ (.string s)).heap[g0]? = w1.heap[g0]? := ((heap_set_other (by omega) _).trans (hb8 g0 (by omega) (by intro e; injection e; omega))).trans K6.out
          have hz9 : wr.heap.size + 1 ≤ (w8.setCell ⟨wr.heap.size, 1, none⟩ (.string s)).heap.size := by simpa [World.setCell] using hz8
          clear N6 R6 G6 K6 r6 r7 hr8 hg8 hb8 N8
          have N6 := Lib.hid N9
          have R6 := Lib.hid R9
          have r6 := Lib.hid r9
          have G6 := Lib.hid G9
          have K6 := Lib.hid K9
          have hz6 := hz9
          have sy6 : s.size ≤ 100 := by omega
          have hq6 : q + 1 + 1 ≤ q + 2 := by omega
          clear N9 R9 r9 G9 K9 hz9
      all_goals
        obtain ⟨d0, d1, d2, e0, e1, e2⟩ := N6.out.read
        have S8 := Lib.hid (hS.out.add (SmallAs.one (z := z) sx sy6 (by omega)))
        have HGd := Lib.hid (show w.heap.size ≤ g ∧ g < wr.heap.size from hgb)
        go_wp2_with (at_builtin; go_loud (refine wl_append_asp rfl _ _ rfl rfl _ _ rfl rfl (k + 1) _ (more_asp1 _ w.heap.size g k cc ys (R6.out.keep (alloc_heap _ _ (by omega))) _ 0 1 _ (asp_newsg (by first | rfl | omega | simp [World.setCell])) (by omega) (by rw [alloc_size']; omega)) ?_); rintro g' c' w8 ⟨hown, hgrow, hor⟩)
        have R8 := Lib.hid hown
        have r8 := Lib.hid ((r6.out.later (alloc_heap _)).but hgrow.block (by omega) (fun g' off ha hn => by have := HA.out g' off ha hn; omega))
        have G8 := Lib.hid (grown_fresh (grownBy_trans G6.out (World.grownBy_alloc _ _ (some rb))) hgrow hgb.1)
        have K8 := Lib.hid ((hgrow.block g0 (by rw [alloc_size']; omega) (by intro e; injection e; omega)).trans ((alloc_heap _ _ (by omega)).trans K6.out))
        have hz8 := hgrow.size
        rw [alloc_size'] at hz8 hor
        clear hown hgrow
        go_wp2_with fail
        exact ⟨⟨k + 1, _, _, _, _, by omega, by go_num, rfl, by simp [hl], by omega, by omega, R8.out, S8.out, r8.out, G8.out, K8.out, Lib.hid (by omega)⟩, by simp [intOf]; omega⟩
    · have hkn : k = zs0.length := by omega
      subst hkn
      have hrlt := hR.out.lt
      go_wp2_with fail
      refine (pick_to 24 hr.out (by omega) (by omega)).mono ?_
      rintro e w3 ⟨v, rfl, hv, hr3, hg3⟩
      have R3 := Lib.hid (hR.out.keep (w' := w3) (hg3.block g hrlt.2 (by intro e; injection e; omega)))
      have G3 := Lib.hid (grownBy_trans hG.out hg3)
      have r3 := Lib.hid hr3
      have hz3 := hg3.size
      clear hr3 hg3
      by_cases hv0 : v = 0
      · subst hv0
        go_wp2_with fail
        refine (H1.out _ _ _ _ _ _ r3.out (by omega)).mono ?_
        rintro e w4 ⟨x, y, z, q4, rfl, hx, hy, hz, hq4, hr4, hg4⟩
        have R4 := Lib.hid (R3.out.keep (w' := w4) (hg4.block g (by omega) (by intro e; injection e; omega)))
        have G4 := Lib.hid (grownBy_trans G3.out hg4)
        have r4 := Lib.hid hr4
        have hz4 := hg4.size
        have S4 := Lib.hid (hS.out.add (SmallAs.one (z := z) hx hy hz))
        clear hr4 hg4
        go_wp2_with (at_builtin; go_loud (refine wl_append_asp rfl _ _ rfl rfl _ _ rfl rfl (zs0.length + 1) _ (more_asp1 _ w.heap.size g zs0.length cc ys (R4.out.keep (alloc_heap _ _ (by omega))) _ 0 1 _ asp_news (by omega) (by rw [alloc_size']; omega)) ?_); rintro g' c' w8 ⟨hown, hgrow, hor⟩)
        have R8 := Lib.hid hown
        have r8 := Lib.hid ((r4.out.later (alloc_heap _)).but hgrow.block (by omega) (fun g' off ha hn => by have := HA.out g' off ha hn; omega))
        have G8 := Lib.hid (grown_fresh (grownBy_trans G4.out (World.grownBy_alloc _ _ (some rb))) hgrow hrlt.1)
        clear hown hgrow
        go_wp2_with fail
        go_ret
        have hyl : (ys ++ [(x, y, z)]).length = zs0.length + 1 := by simp [hl]
        exact HG.out _ _ ⟨g', c', ys ++ [(x, y, z)], _, by rw [hyl]; rfl, by rw [hyl]; exact R8.out, by omega, S4.out, by omega, r8.out, G8.out⟩
      · have hvb : ((v : Int) == 0) = false := by rw [beq_eq_false_iff_ne]; omega
        go_wp2_with fail
        go_ret
        exact HG.out _ _ ⟨g, cc, ys, _, by rw [hl]; rfl, by rw [hl]; exact R3.out, by omega, hS.out, by omega, r3.out, G3.out⟩
end Go.Proofs.YtkdnbdgpcgookaaGreatDoor
namespace Go.Proofs.YtkdnbdgpcgookaaGreatDoor
open Go.RowKit Gram

theorem arow_low {w : World} {B B' g n c : Nat} {zs : List As} (h : Arow w B g n c zs) (hb : B' ≤ B) : Arow w B' g n c zs := by
  refine ⟨h.1, ?_⟩
  rcases h.2 with h1 | ⟨g', cap, cur, hv, h1, h2⟩
  · exact .inl h1
  · exact .inr ⟨g', cap, cur, hv, Nat.le_trans hb h1, h2⟩
theorem asp_news3 {w : World} {x y z x' y' z' x2 y2 z2 : ByteArray} : ∀ (j : Nat) (u : Value), (asC [(x, y, z), (x', y', z'), (x2, y2, z2)])[j]? = some u →
    (w.alloc (.cells #[.string x, .string y, .string z, .string x', .string y', .string z', .string x2, .string y2, .string z2] 24)).cell? ((⟨w.heap.size, 0, none⟩ : Addr).add j) = some u :=
  World.news_of_block (cs := #[.string x, .string y, .string z, .string x', .string y', .string z', .string x2, .string y2, .string z2]) (heap_alloc_new _ _)

set_option maxHeartbeats 2000000 in
set_option maxRecDepth 100000 in
theorem dav_any (w : World) (a : Option Addr) (n c : Nat) (h : BytesAt w a n) (hn : n ≤ c) (hc : c ≤ 9223372036854775807) (hnil : a = none → n = 0) :
    Calls Tryz.prog 14 #[.slice a n c] w fun e w' => (∃ (g cc : Nat) (zs : List As), e = .returned (.slice (some ⟨g, 0, none⟩) zs.length cc) ∧ Arow w' w.heap.size g zs.length cc zs ∧ zs.length ≤ 6 ∧ SmallAs zs) ∧ Below w.heap.size w w' := by
  have HO := Lib.hid (open_any w a n c h hn hc hnil)
  have HL := Lib.hid l4l_any
  have H1 := Lib.hid l4o_any
  clear h hnil
  unfold DrewL at HL
  unfold DrewA aspV at H1
  go_enter Tryz.func14, Tryz.ntmps14
  go_wp2_with fail
  refine HO.out.mono ?_
  rintro e w1 ⟨m, rfl, hr, hb⟩
  have HR1 := Lib.hid hr
  have HB1 := Lib.hid hb
  clear hr hb
  go_wp2_with fail
  refine (HL.out _ _ _ _ _ _ HR1.out (by omega)).mono ?_
  rintro e w2 ⟨g, cc, zs, q, rfl, hown, hl, hs, hq, hr2, hg2⟩
  have hz12 := HB1.out.size
  have HA2 := Lib.hid hown
  have HS2 := Lib.hid hs
  have HR2 := Lib.hid hr2
  have HG2 := Lib.hid hg2
  clear hown hr2 hg2 hs
  go_wp2_with fail
  refine (pick_to 6 HR2.out (by omega) (by omega)).mono ?_
  rintro e w3 ⟨v, rfl, hv, hr3, hg3⟩
  have hlt := HA2.out.lt
  have hrb := heap_lt HR1.out.own
  have HA3 := Lib.hid (HA2.out.keep (w' := w3) (hg3.block g hlt.2 (by intro e; injection e; omega)))
  have HR3 := Lib.hid hr3
  have HG3 := Lib.hid (grownBy_trans HG2.out hg3)
  clear hr3 hg3
  by_cases hv0 : v = 0
  · subst hv0
    go_wp2_with fail
    refine (H1.out _ _ _ _ _ _ HR3.out (by omega)).mono ?_
    rintro e w4 ⟨x, y, z, q4, rfl, hx, hy, hz, hq4, hr4, hg4⟩
    have HA4 := Lib.hid (HA3.out.keep (w' := w4) (hg4.block g HA3.out.lt.2 (by intro e; injection e; omega)))
    have HR4 := Lib.hid hr4
    have HG4 := Lib.hid (grownBy_trans HG3.out hg4)
    clear hr4 hg4
    go_wp2_with fail
    refine (H1.out _ _ _ _ _ _ HR4.out (by omega)).mono ?_
    rintro e w5 ⟨x', y', z', q5, rfl, hx', hy', hz', hq5, hr5, hg5⟩
    have HA5 := Lib.hid (HA4.out.keep (w' := w5) (hg5.block g HA4.out.lt.2 (by intro e; injection e; omega)))
    have HR5 := Lib.hid hr5
    have HG5 := Lib.hid (grownBy_trans HG4.out hg5)
    clear hr5 hg5
    go_wp2_with fail
    refine (H1.out _ _ _ _ _ _ HR5.out (by omega)).mono ?_
    rintro e w6 ⟨x2, y2, z2, q6, rfl, hx2, hy2, hz2, hq6, hr6, hg6⟩
    have HA6 := Lib.hid ((HA5.out.keep (w' := w6) (hg6.block g HA5.out.lt.2 (by intro e; injection e; omega))).keep (w' := w6.alloc (.cells #[.string x, .string y, .string z, .string x', .string y', .string z', .string x2, .string y2, .string z2] 24)) (alloc_heap _ _ (by have := (HA5.out.keep (w' := w6) (hg6.block g HA5.out.lt.2 (by intro e; injection e; omega))).lt; omega)))
    have HG6 := Lib.hid (grownBy_trans (grownBy_trans HG5.out hg6) (World.grownBy_alloc w6 (.cells #[.string x, .string y, .string z, .string x', .string y', .string z', .string x2, .string y2, .string z2] 24) (some w.heap.size)))
    have hz6 := (grownBy_trans HG5.out hg6).size
    have HS6 := Lib.hid (show SmallAs (zs ++ [(x, y, z), (x', y', z'), (x2, y2, z2)]) from HS2.out.add (((SmallAs.one (z := z) hx hy hz).add (SmallAs.one (z := z') hx' hy' hz')).add (SmallAs.one (z := z2) hx2 hy2 hz2)))
    clear hr6 hg6
    go_wp2_with (at_builtin; go_loud (refine wl_append_asp rfl _ _ rfl rfl _ _ rfl rfl (zs.length + 3) (fun g' c' w' => Arow w' w.heap.size g' (zs.length + 3) c' (zs ++ [(x, y, z), (x', y', z'), (x2, y2, z2)]) ∧ (w6.alloc (.cells #[.string x, .string y, .string z, .string x', .string y', .string z', .string x2, .string y2, .string z2] 24)).grownBy w' (some g)) (more_asps _ w.heap.size g zs.length cc zs (arow_low HA6.out hz12) w6.heap.size 0 3 3 [(x, y, z), (x', y', z'), (x2, y2, z2)] rfl asp_news3 (by omega) (by rw [alloc_size']; omega)) ?_); rintro g' c' w7 ⟨hown, hgrow⟩)
    have HA7 := Lib.hid hown
    have HG7 := Lib.hid (grown_fresh HG6.out hgrow hlt.1)
    clear hown hgrow
    go_wp2_with fail
    go_ret
    exact ⟨⟨g', c', zs ++ [(x, y, z), (x', y', z'), (x2, y2, z2)], by simp, by simpa using HA7.out, by simp; omega, HS6.out⟩, grown_new HB1.out HG7.out⟩
  · have hvb : ((v : Int) == 0) = false := by rw [beq_eq_false_iff_ne]; omega
    go_wp2_with fail
    go_ret
    exact ⟨⟨g, cc, zs, rfl, arow_low HA3.out hz12, by omega, HS2.out⟩, grown_new HB1.out HG3.out⟩
end Go.Proofs.YtkdnbdgpcgookaaGreatDoor
namespace Go.Proofs.YtkdnbdgpcgookaaGreatDoor
open Go.RowKit Gram

set_option maxHeartbeats 4000000 in
set_option maxRecDepth 100000 in
theorem dpl_any (w : World) (a : Option Addr) (n c : Nat) (h : BytesAt w a n) (hn : n ≤ c) (hc : c ≤ 9223372036854775807) (hnil : a = none → n = 0) :
    Calls Tryz.prog 17 #[.slice a n c] w fun e w' => (∃ (s : ByteArray) (g cc : Nat) (zs : List As), e = .returned (.tuple #[.string s, .slice (some ⟨g, 0, none⟩) zs.length cc]) ∧ s.size ≤ 10 ∧ Arow w' w.heap.size g zs.length cc zs ∧ zs.length ≤ 8 ∧ SmallAs zs) ∧ Below w.heap.size w w' := by
  have HO := Lib.hid (open_any w a n c h hn hc hnil)
  have HL := Lib.hid l7s_any
  clear h hnil
  unfold DrewY at HL
  go_enter Tryz.func17, Tryz.ntmps17
  go_wp2_with fail
  refine HO.out.mono ?_
  rintro e w1 ⟨m, rfl, hr, hb⟩
  have HR1 := Lib.hid hr
  have HB1 := Lib.hid hb
  have hz1 := hb.size
  have hrb := heap_lt hr.own
  clear hr hb
  go_wp2_with fail
  have HR2 := Lib.hid (HR1.out.later (alloc_heap (w := w1) (Obj.cells #[.string ⟨#[80]⟩, .string ⟨#[67, 97]⟩, .string ⟨#[67, 98]⟩, .string ⟨#[80]⟩, .string ⟨#[67, 122]⟩, .string ⟨#[43, 49]⟩, .string ⟨#[80, 80]⟩, .string ⟨#[]⟩, .string ⟨#[75]⟩, .string ⟨#[63, 91, 80, 93, 91, 93]⟩] 9)))
  refine (of_is (fun s => s.size ≤ 10) _ w.heap.size a m c 0 w1.heap.size 10 10 HR2.out (by omega) (by omega) (by omega) (by omega) (is_cells _ w1 w1.heap.size [⟨#[80]⟩, ⟨#[67, 97]⟩, ⟨#[67, 98]⟩, ⟨#[80]⟩, ⟨#[67, 122]⟩, ⟨#[43, 49]⟩, ⟨#[80, 80]⟩, ⟨#[]⟩, ⟨#[75]⟩, ⟨#[63, 91, 80, 93, 91, 93]⟩] (by intro s hs; simp at hs; rcases hs with rfl | rfl | rfl | rfl | rfl | rfl | rfl | rfl | rfl | rfl <;> decide) rfl)).mono ?_
  rintro e w2 ⟨s, rfl, hs, hr2, hg2⟩
  have HR3 := Lib.hid hr2
  have HG2 := Lib.hid (grownBy_trans (World.grownBy_alloc w1 (Obj.cells #[.string ⟨#[80]⟩, .string ⟨#[67, 97]⟩, .string ⟨#[67, 98]⟩, .string ⟨#[80]⟩, .string ⟨#[67, 122]⟩, .string ⟨#[43, 49]⟩, .string ⟨#[80, 80]⟩, .string ⟨#[]⟩, .string ⟨#[75]⟩, .string ⟨#[63, 91, 80, 93, 91, 93]⟩] 9) (some w.heap.size)) hg2)
  have hz2 := HG2.out.size
  clear hr2 hg2
  go_wp2_with fail
  refine (HL.out _ _ _ _ _ _ HR3.out (by omega)).mono ?_
  rintro e w3 ⟨g, cc, zs, q, rfl, hown, hl, hsm, hq, hr3, hg3⟩
  have HA3 := Lib.hid hown
  have HS3 := Lib.hid hsm
  have HR4 := Lib.hid hr3
  have HG3 := Lib.hid (grownBy_trans HG2.out hg3)
  clear hown hr3 hg3 hsm
  go_wp2_with fail
  refine (pick_to 16 HR4.out (by omega) (by omega)).mono ?_
  rintro e w4 ⟨v, rfl, hv, hr4, hg4⟩
  have hlt := HA3.out.lt
  have HA4 := Lib.hid (arow_low (HA3.out.keep (w' := w4) (hg4.block g hlt.2 (by intro e; injection e; omega))) hz2)
  have HG4 := Lib.hid (grownBy_trans HG3.out hg4)
  clear hr4 hg4 HA3
  by_cases hv0 : v = 0
  · subst hv0
    go_wp2_with fail
    go_loopw [6, 17] (fun t i wr => ∃ (k g cc : Nat) (ys : List As), k ≤ 4 ∧ i = .int .i64 k ∧ t = .slice (some ⟨g, 0, none⟩) (zs.length + k) cc ∧ ys.length = zs.length + k ∧ Hid (Arow wr w1.heap.size g (zs.length + k) cc ys) ∧ Hid (SmallAs ys) ∧ Hid (w1.grownBy wr (some w.heap.size))) (fun _ i _ => 4 - (intOf i).toNat)
    case atStart => exact ⟨0, _, _, zs, Nat.zero_le _, by go_num, rfl, rfl, HA4.out, HS3.out, HG4.out⟩
    case round =>
      obtain ⟨k, g', cc', ys, hk, rfl, rfl, hyl, hR, hS, hG⟩ := hrel
      by_cases hlt4 : k < 4
      · have hzr := hG.out.size
        have hgl := hR.out.lt
        have S8 := Lib.hid (hS.out.add (SmallAs.one (x := ⟨#[97, 114, 111, 117, 110, 100]⟩) (y := ⟨#[84]⟩) (z := ⟨#[75, 75, 75, 75, 75, 75]⟩) (by decide) (by decide) (by decide)))
        go_wp2_with (at_builtin; go_loud (refine wl_append_asp rfl _ _ rfl rfl _ _ rfl rfl (zs.length + k + 1) _ (more_asp1 _ w1.heap.size g' (zs.length + k) cc' ys (hR.out.keep (alloc_heap _ _ (by omega))) _ 0 1 _ asp_news (by omega) (by rw [alloc_size']; omega)) ?_); rintro g2 c2 w8 ⟨hown, hgrow, hor⟩)
        have R8 := Lib.hid hown
        have G8 := Lib.hid (grown_fresh (grownBy_trans hG.out (World.grownBy_alloc _ _ (some w.heap.size))) hgrow hgl.1)
        clear hown hgrow
        go_wp2_with fail
        exact ⟨⟨k + 1, _, _, _, by omega, by go_num, rfl, by simp [hyl]; omega, R8.out, S8.out, G8.out⟩, by simp [intOf]; omega⟩
      · have hk4 : k = 4 := by omega
        subst hk4
        go_wp2_with fail
        go_ret2
        exact ⟨⟨s, g', cc', ys, by rw [hyl]; rfl, hs, by rw [hyl]; exact arow_low hR.out hz1, by omega, hS.out⟩, grown_new HB1.out hG.out⟩
  · have hvb : ((v : Int) == 0) = false := by rw [beq_eq_false_iff_ne]; omega
    go_wp2_with fail
    go_ret2
    exact ⟨⟨s, g, cc, zs, rfl, hs, arow_low HA4.out hz1, by omega, HS3.out⟩, grown_new HB1.out HG4.out⟩
end Go.Proofs.YtkdnbdgpcgookaaGreatDoor
