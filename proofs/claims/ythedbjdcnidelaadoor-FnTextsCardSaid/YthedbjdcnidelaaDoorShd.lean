/- The model's l6Some: it returns a shadow of short texts, whatever the bytes behind the source. Conditions: counts up to 60000. -/
import Derived.Test.YthedbjdcnidelaaDoorDrawO
import Derived.Test.YthedbjdcnidelaaDoorJp3
import Derived.Deep.RegionWith
namespace Go.Proofs.YthedbjdcnidelaaDoor
open Go.RowKit Gram

/-- what a draw of a shadow hands back -/
def DrewSh (w : World) (rb : Nat) (a : Option Addr) (n c p : Nat) (e : Ending) (w' : World) : Prop :=
  ∃ (k nm st : ByteArray) (q : Nat), e = .returned (pV k nm st) ∧ k.size ≤ 100 ∧ nm.size ≤ 100 ∧ st.size ≤ 1000 ∧ q ≤ p + 20 ∧ Rdr w' rb a n c q ∧ w.grownBy w' (some rb)

/-- the point that is drawn lies at block jb -/
structure Ps (w wr : World) (rb jb : Nat) (a : Option Addr) (n c p : Nat) (k nm st : ByteArray) : Prop where
  own : wr.heap[jb]? = some (.cells #[.string k, .string nm, .string st] 24 (0, 0))
  res : ∃ x y z, wr.heap[w.heap.size]? = some (.cells #[x, y, z] 24 (0, 0))
  new : w.heap.size < jb
  old : rb < w.heap.size
  rdr : Rdr wr rb a n c p
  grown : w.grownBy wr (some rb)
theorem Ps.read {w wr : World} {rb jb : Nat} {a : Option Addr} {n c p : Nat} {k nm st : ByteArray} (h : Ps w wr rb jb a n c p k nm st) :
    wr.cell? ⟨jb, 0, none⟩ = some (.string k) ∧ wr.cell? ⟨jb, 1, none⟩ = some (.string nm) ∧ wr.cell? ⟨jb, 2, none⟩ = some (.string st) ∧
    wr.frozen? ⟨jb, 0, none⟩ = false ∧ wr.frozen? ⟨jb, 1, none⟩ = false ∧ wr.frozen? ⟨jb, 2, none⟩ = false := by
  refine ⟨?_, ?_, ?_, Lib.frozen_of_heap h.own 0, Lib.frozen_of_heap h.own 1, Lib.frozen_of_heap h.own 2⟩ <;> (rw [Lib.cell_of_heap h.own]; rfl)
theorem Ps.later {w wr w' : World} {rb jb : Nat} {a : Option Addr} {n c p q : Nat} {k nm st : ByteArray} (h : Ps w wr rb jb a n c p k nm st) (hr : Rdr w' rb a n c q) (hg : wr.grownBy w' (some rb)) : Ps w w' rb jb a n c q k nm st :=
  ⟨by rw [hg.block jb (heap_lt h.own) (by have := h.new; have := h.old; intro e; injection e; omega)]; exact h.own,
    by obtain ⟨x, y, z, hx⟩ := h.res; exact ⟨x, y, z, by rw [hg.block w.heap.size (heap_lt hx) (by have := h.old; intro e; injection e; omega)]; exact hx⟩, h.new, h.old, hr, grownBy_trans h.grown hg⟩
theorem Ps.alloc {w wr : World} {rb jb : Nat} {a : Option Addr} {n c p : Nat} {k nm st : ByteArray} (h : Ps w wr rb jb a n c p k nm st) (o : Obj) : Ps w (wr.alloc o) rb jb a n c p k nm st :=
  h.later (h.rdr.later (alloc_heap o)) (World.grownBy_alloc _ _ _)
theorem Rdr.set {w : World} {rb : Nat} {a : Option Addr} {n c p : Nat} (h : Rdr w rb a n c p) {jb i : Nat} (hne : jb ≠ rb) (hg : ∀ g off, a = some ⟨g, off, none⟩ → 0 < n → g ≠ jb) (u : Value) : Rdr (w.setCell ⟨jb, i, none⟩ u) rb a n c p := by
  refine ⟨by rw [heap_set_other (Ne.symm hne)]; exact h.own, fun k hk => ?_, h.off, h.small⟩
  obtain ⟨g, off, ha, b, hc⟩ := h.bytes k hk
  exact ⟨g, off, ha, b, by rw [← hc]; exact World.cell?_of_block (a := ⟨g, off + k, none⟩) (heap_set_other (hg g off ha (by omega)) u)⟩
theorem Ps.set {w wr : World} {rb jb : Nat} {a : Option Addr} {n c p : Nat} {k nm st : ByteArray} (h : Ps w wr rb jb a n c p k nm st) (hg : ∀ g off, a = some ⟨g, off, none⟩ → 0 < n → g < w.heap.size) (i : Nat) (u : Value) (k' nm' st' : ByteArray)
    (hu : (#[Value.string k, .string nm, .string st] : Array Value).setIfInBounds i u = #[.string k', .string nm', .string st']) : Ps w (wr.setCell ⟨jb, i, none⟩ u) rb jb a n c p k' nm' st' := by
  have h1 := h.new
  have h2 := h.old
  refine ⟨by rw [heap_set_same h.own, hu], by obtain ⟨x, y, z, hx⟩ := h.res; exact ⟨x, y, z, by rw [heap_set_other (by omega)]; exact hx⟩, h.new, h.old, h.rdr.set (by omega) (fun g off ha hn => by have := hg g off ha hn; omega) u, ?_⟩
  exact ⟨h.grown.os, h.grown.tape, h.grown.output, by simp [World.setCell]; exact h.grown.size, fun j hj hne => by rw [heap_set_other (by omega)]; exact h.grown.block j hj hne⟩

theorem Ps.result {w wr : World} {rb jb : Nat} {a : Option Addr} {n c p : Nat} {k nm st : ByteArray} (h : Ps w wr rb jb a n c p k nm st) :
    ∃ x y z, wr.cell? ⟨w.heap.size, 0, none⟩ = some x ∧ wr.cell? ⟨w.heap.size, 1, none⟩ = some y ∧ wr.cell? ⟨w.heap.size, 2, none⟩ = some z ∧
    wr.frozen? ⟨w.heap.size, 0, none⟩ = false ∧ wr.frozen? ⟨w.heap.size, 1, none⟩ = false ∧ wr.frozen? ⟨w.heap.size, 2, none⟩ = false := by
  obtain ⟨x, y, z, hx⟩ := h.res
  refine ⟨x, y, z, ?_, ?_, ?_, Lib.frozen_of_heap hx 0, Lib.frozen_of_heap hx 1, Lib.frozen_of_heap hx 2⟩ <;> (rw [Lib.cell_of_heap hx]; rfl)
theorem Ps.final {w wr : World} {rb jb : Nat} {a : Option Addr} {n c p : Nat} {k nm st : ByteArray} (h : Ps w wr rb jb a n c p k nm st) (hg : ∀ g off, a = some ⟨g, off, none⟩ → 0 < n → g < w.heap.size) {X Y Z : Value} :
    (((wr.setCell ⟨w.heap.size, 0, none⟩ X).setCell ⟨w.heap.size, 1, none⟩ Y).setCell ⟨w.heap.size, 2, none⟩ Z).cell? ⟨w.heap.size, 0, none⟩ = some X ∧
    (((wr.setCell ⟨w.heap.size, 0, none⟩ X).setCell ⟨w.heap.size, 1, none⟩ Y).setCell ⟨w.heap.size, 2, none⟩ Z).cell? ⟨w.heap.size, 1, none⟩ = some Y ∧
    (((wr.setCell ⟨w.heap.size, 0, none⟩ X).setCell ⟨w.heap.size, 1, none⟩ Y).setCell ⟨w.heap.size, 2, none⟩ Z).cell? ⟨w.heap.size, 2, none⟩ = some Z ∧
    Rdr (((wr.setCell ⟨w.heap.size, 0, none⟩ X).setCell ⟨w.heap.size, 1, none⟩ Y).setCell ⟨w.heap.size, 2, none⟩ Z) rb a n c p ∧
    w.grownBy (((wr.setCell ⟨w.heap.size, 0, none⟩ X).setCell ⟨w.heap.size, 1, none⟩ Y).setCell ⟨w.heap.size, 2, none⟩ Z) (some rb) := by
  obtain ⟨x, y, z, hx⟩ := h.res
  have h1 := heap_set_same (k := 2) (heap_set_same (k := 1) (heap_set_same (k := 0) hx X) Y) Z
  have ho := h.old
  refine ⟨by rw [Lib.cell_of_heap h1]; rfl, by rw [Lib.cell_of_heap h1]; rfl, by rw [Lib.cell_of_heap h1]; rfl, ?_, ?_⟩
  · exact ((h.rdr.set (by omega) (fun g off ha hn => by have := hg g off ha hn; omega) _).set (by omega) (fun g off ha hn => by have := hg g off ha hn; omega) _).set (by omega) (fun g off ha hn => by have := hg g off ha hn; omega) _
  · refine ⟨h.grown.os, h.grown.tape, h.grown.output, by simp [World.setCell]; exact h.grown.size, fun j hj hne => ?_⟩
    rw [heap_set_other (by omega), heap_set_other (by omega), heap_set_other (by omega)]
    exact h.grown.block j hj hne
theorem Ps.final' {w wr : World} {rb jb : Nat} {a : Option Addr} {n c p : Nat} {k nm st : ByteArray} (h : Ps w wr rb jb a n c p k nm st) (hg : ∀ g off, a = some ⟨g, off, none⟩ → 0 < n → g < w.heap.size) (X Y Z : Value) :
    ∃ wf, ((wr.setCell ⟨w.heap.size, 0, none⟩ X).setCell ⟨w.heap.size, 1, none⟩ Y).setCell ⟨w.heap.size, 2, none⟩ Z = wf ∧ wf.cell? ⟨w.heap.size, 0, none⟩ = some X ∧ wf.cell? ⟨w.heap.size, 1, none⟩ = some Y ∧ wf.cell? ⟨w.heap.size, 2, none⟩ = some Z ∧ Rdr wf rb a n c p ∧ w.grownBy wf (some rb) :=
  ⟨_, rfl, h.final hg⟩
set_option maxHeartbeats 4000000 in
set_option maxRecDepth 100000 in
theorem shadow_any (w : World) (rb : Nat) (a : Option Addr) (n c p : Nat) (h : Rdr w rb a n c p) (hp : p ≤ 60000) :
    Calls Tryd.prog 17 #[.pointer (some ⟨rb, 0, none⟩)] w (DrewSh w rb a n c p) := by
  have H := Lib.hid h
  have HA := Lib.hid (show ∀ g off, a = some ⟨g, off, none⟩ → 0 < n → g < w.heap.size from fun g off ha hn => by
    obtain ⟨g', off', ha', b, hc⟩ := h.bytes 0 hn
    rw [ha] at ha'
    injection ha' with ha'; injection ha' with e1 e2
    subst e1
    exact World.block_lt_of_cell? w _ hc)
  have hrb := heap_lt h.own
  have HRes := Lib.hid (heap_alloc_new w (Obj.cells #[.string ⟨#[]⟩, .string ⟨#[]⟩, .string ⟨#[]⟩] 24))
  clear h
  go_enter Tryd.func17, Tryd.ntmps17
  go_wp2_with fail
  refine (of_any _ rb a n c p (w.heap.size + 1) 4 4 1 ((H.out.later (alloc_heap (w := w) _)).later (alloc_heap _)) (by omega) (by omega) (by omega) (by omega) (plus_cells _ (w.heap.size + 1) [⟨#[97]⟩, ⟨#[98]⟩, ⟨#[99]⟩, ⟨#[98]⟩] 1 (by decide) (by simp [alloc_size']))).mono ?_
  rintro e w3 ⟨st, q, rfl, hst, hq, hr3, hg3⟩
  have P3 := Lib.hid (show Ps w (w3.alloc (Obj.cells #[.string ⟨#[112, 114, 105, 110, 116]⟩, .string ⟨#[]⟩, .string st] 24)) rb w3.heap.size a n c q ⟨#[112, 114, 105, 110, 116]⟩ ⟨#[]⟩ st from
    ⟨heap_alloc_new w3 _, ⟨_, _, _, by
        have h1 : w.heap.size < w3.heap.size := by have := hg3.size; rw [alloc_size', alloc_size'] at this; omega
        rw [alloc_heap _ _ h1, hg3.block w.heap.size (by rw [alloc_size', alloc_size']; omega) (by intro e; injection e; omega), alloc_heap _ _ (by rw [alloc_size']; omega)]
        exact HRes.out⟩, by have := hg3.size; rw [alloc_size', alloc_size'] at this; omega, hrb, hr3.later (alloc_heap _),
      grownBy_trans (grownBy_trans (grownBy_trans (World.grownBy_alloc _ _ _) (World.grownBy_alloc _ _ _)) hg3) (World.grownBy_alloc _ _ _)⟩)
  have hjb : w.heap.size < w3.heap.size := P3.out.new
  clear hr3 hg3
  go_wp2_with fail
  refine (pick_to 2 P3.out.rdr (by omega) (by omega)).mono ?_
  rintro e w4 ⟨u, rfl, hu, hr4, hg4⟩
  have P4 := Lib.hid (P3.out.later hr4 hg4)
  clear hr4 hg4
  generalize w3.heap.size = jb at *
  by_cases hu0 : u = 0
  · subst hu0
    obtain ⟨q0, q1, q2, f0, f1, f2⟩ := P4.out.read
    have P5 := Lib.hid (P4.out.set HA.out 0 (.string ⟨#[99, 97, 108, 108]⟩) _ _ _ rfl)
    clear q1 q2 f1 f2
    go_wp2_with fail
    refine (of_any _ rb a n c _ w4.heap.size 4 4 1 (P5.out.alloc _).rdr (by omega) (by omega) (by omega) (by have := P4.out.old; have := P4.out.grown.size; omega) (plus_cells _ w4.heap.size [⟨#[97]⟩, ⟨#[98]⟩, ⟨#[99]⟩, ⟨#[100]⟩] 1 (by decide) (by simp [World.setCell]))).mono ?_
    rintro e w5 ⟨nm, q5, rfl, hnm, hq5, hr5, hg5⟩
    have P6 := Lib.hid ((P5.out.alloc (Obj.cells #[.string ⟨#[97]⟩, .string ⟨#[98]⟩, .string ⟨#[99]⟩, .string ⟨#[100]⟩] 9)).later hr5 hg5)
    clear hr5 hg5 q0 f0
    obtain ⟨q0, q1, q2, f0, f1, f2⟩ := P6.out.read
    have P7 := Lib.hid (P6.out.set HA.out 1 (.string nm) _ _ _ rfl)
    clear q0 q2 f0 f2
    go_wp2_with fail
    clear q1 f1
    refine (pick_to 24 P7.out.rdr (by omega) (by omega)).mono ?_
    rintro e w8 ⟨t, rfl, ht, hr8, hg8⟩
    have P8 := Lib.hid (P7.out.later hr8 hg8)
    clear hr8 hg8 P3 P4 P5 P6 P7
    obtain ⟨q0, q1, q2, f0, f1, f2⟩ := P8.out.read
    obtain ⟨x0, x1, x2, c0, c1, c2, z0, z1, z2⟩ := P8.out.result
    by_cases ht2 : 2 ≤ t
    · have hb0 : ((t : Int) == 0) = false := by rw [beq_eq_false_iff_ne]; omega
      have hb1 : ((t : Int) == 1) = false := by rw [beq_eq_false_iff_ne]; omega
      go_wp2_with fail
      obtain ⟨wf, hwf, y0, y1, y2, hR, hGr⟩ := P8.out.final' HA.out (.string ⟨#[99, 97, 108, 108]⟩) (.string nm) (.string st)
      rw [hwf]
      refine bodyPost_ret (v := pV ⟨#[99, 97, 108, 108]⟩ nm st) ?_ rfl ?_
      · simp [results, Tryd.results17, go_sem, y0, y1, y2, pV]
      · exact ⟨_, _, _, _, rfl, by decide, by omega, by omega, by omega, hR, hGr⟩
    · obtain ht0 | ht0 : t = 0 ∨ t = 1 := by omega
      · subst ht0
        clear c0 c1 c2 z0 z1 z2
        go_wp2_with fail
        refine (of_any _ rb a n c _ w8.heap.size 3 3 2 (P8.out.alloc _).rdr (by omega) (by omega) (by omega) (by have := P8.out.old; have := P8.out.grown.size; omega) (plus_cells _ w8.heap.size [⟨#[]⟩, ⟨#[97, 98]⟩, ⟨#[65]⟩] 2 (by decide) rfl)).mono ?_
        rintro e w9 ⟨t1, q9, rfl, ht1, hq9, hr9, hg9⟩
        have P9 := Lib.hid ((P8.out.alloc (Obj.cells #[.string ⟨#[]⟩, .string ⟨#[97, 98]⟩, .string ⟨#[65]⟩] 9)).later hr9 hg9)
        clear hr9 hg9 q0 q1 q2 f0 f1 f2
        obtain ⟨q0, q1, q2, f0, f1, f2⟩ := P9.out.read
        have PA := Lib.hid (P9.out.set HA.out 2 (.string t1) _ _ _ rfl)
        obtain ⟨x0, x1, x2, c0, c1, c2, z0, z1, z2⟩ := P9.out.result
        go_wp2_with fail
        obtain ⟨wf, hwf, y0, y1, y2, hR, hGr⟩ := PA.out.final' HA.out (.string ⟨#[99, 97, 108, 108]⟩) (.string nm) (.string t1)
        rw [hwf]
        refine bodyPost_ret (v := pV ⟨#[99, 97, 108, 108]⟩ nm t1) ?_ rfl ?_
        · simp [results, Tryd.results17, go_sem, y0, y1, y2, pV]
        · exact ⟨_, _, _, _, rfl, by decide, by omega, by omega, by omega, hR, hGr⟩
      · subst ht0
        clear c0 c1 c2 z0 z1 z2
        go_wp2_with fail
        refine (of_any _ rb a n c _ w8.heap.size 3 3 2 (P8.out.alloc _).rdr (by omega) (by omega) (by omega) (by have := P8.out.old; have := P8.out.grown.size; omega) (plus_cells _ w8.heap.size [⟨#[]⟩, ⟨#[97, 98]⟩, ⟨#[97]⟩] 2 (by decide) rfl)).mono ?_
        rintro e w9 ⟨t1, q9, rfl, ht1, hq9, hr9, hg9⟩
        have P9 := Lib.hid ((P8.out.alloc (Obj.cells #[.string ⟨#[]⟩, .string ⟨#[97, 98]⟩, .string ⟨#[97]⟩] 9)).later hr9 hg9)
        clear hr9 hg9 q0 q1 q2 f0 f1 f2
        obtain ⟨q0, q1, q2, f0, f1, f2⟩ := P9.out.read
        have PA := Lib.hid (P9.out.set HA.out 1 (.string t1) _ _ _ rfl)
        obtain ⟨x0, x1, x2, c0, c1, c2, z0, z1, z2⟩ := P9.out.result
        go_wp2_with fail
        obtain ⟨wf, hwf, y0, y1, y2, hR, hGr⟩ := PA.out.final' HA.out (.string ⟨#[99, 97, 108, 108]⟩) (.string t1) (.string st)
        rw [hwf]
        refine bodyPost_ret (v := pV ⟨#[99, 97, 108, 108]⟩ t1 st) ?_ rfl ?_
        · simp [results, Tryd.results17, go_sem, y0, y1, y2, pV]
        · exact ⟨_, _, _, _, rfl, by decide, by omega, by omega, by omega, hR, hGr⟩
  · have hu1 : ((u : Int) == 0) = false := by rw [beq_eq_false_iff_ne]; omega
    clear hu0
    go_wp2_with fail
    refine (pick_to 24 P4.out.rdr (by omega) (by omega)).mono ?_
    rintro e w8 ⟨t, rfl, ht, hr8, hg8⟩
    have P8 := Lib.hid (P4.out.later hr8 hg8)
    clear hr8 hg8 P3 P4
    obtain ⟨nm, hnmE⟩ : ∃ nm : ByteArray, nm = ⟨#[]⟩ := ⟨_, rfl⟩
    rw [← hnmE] at P8
    have hnm : nm.size ≤ 1 := by rw [hnmE]; exact Nat.zero_le _
    clear hnmE
    obtain ⟨q0, q1, q2, f0, f1, f2⟩ := P8.out.read
    obtain ⟨x0, x1, x2, c0, c1, c2, z0, z1, z2⟩ := P8.out.result
    by_cases ht2 : 2 ≤ t
    · have hb0 : ((t : Int) == 0) = false := by rw [beq_eq_false_iff_ne]; omega
      have hb1 : ((t : Int) == 1) = false := by rw [beq_eq_false_iff_ne]; omega
      go_wp2_with fail
      obtain ⟨wf, hwf, y0, y1, y2, hR, hGr⟩ := P8.out.final' HA.out (.string ⟨#[112, 114, 105, 110, 116]⟩) (.string nm) (.string st)
      rw [hwf]
      refine bodyPost_ret (v := pV ⟨#[112, 114, 105, 110, 116]⟩ nm st) ?_ rfl ?_
      · simp [results, Tryd.results17, go_sem, y0, y1, y2, pV]
      · exact ⟨_, _, _, _, rfl, by decide, by omega, by omega, by omega, hR, hGr⟩
    · obtain ht0 | ht0 : t = 0 ∨ t = 1 := by omega
      · subst ht0
        clear c0 c1 c2 z0 z1 z2
        go_wp2_with fail
        refine (of_any _ rb a n c _ w8.heap.size 3 3 2 (P8.out.alloc _).rdr (by omega) (by omega) (by omega) (by have := P8.out.old; have := P8.out.grown.size; omega) (plus_cells _ w8.heap.size [⟨#[]⟩, ⟨#[97, 98]⟩, ⟨#[65]⟩] 2 (by decide) rfl)).mono ?_
        rintro e w9 ⟨t1, q9, rfl, ht1, hq9, hr9, hg9⟩
        have P9 := Lib.hid ((P8.out.alloc (Obj.cells #[.string ⟨#[]⟩, .string ⟨#[97, 98]⟩, .string ⟨#[65]⟩] 9)).later hr9 hg9)
        clear hr9 hg9 q0 q1 q2 f0 f1 f2
        obtain ⟨q0, q1, q2, f0, f1, f2⟩ := P9.out.read
        have PA := Lib.hid (P9.out.set HA.out 2 (.string t1) _ _ _ rfl)
        obtain ⟨x0, x1, x2, c0, c1, c2, z0, z1, z2⟩ := P9.out.result
        go_wp2_with fail
        obtain ⟨wf, hwf, y0, y1, y2, hR, hGr⟩ := PA.out.final' HA.out (.string ⟨#[112, 114, 105, 110, 116]⟩) (.string nm) (.string t1)
        rw [hwf]
        refine bodyPost_ret (v := pV ⟨#[112, 114, 105, 110, 116]⟩ nm t1) ?_ rfl ?_
        · simp [results, Tryd.results17, go_sem, y0, y1, y2, pV]
        · exact ⟨_, _, _, _, rfl, by decide, by omega, by omega, by omega, hR, hGr⟩
      · subst ht0
        clear c0 c1 c2 z0 z1 z2
        go_wp2_with fail
        refine (of_any _ rb a n c _ w8.heap.size 3 3 2 (P8.out.alloc _).rdr (by omega) (by omega) (by omega) (by have := P8.out.old; have := P8.out.grown.size; omega) (plus_cells _ w8.heap.size [⟨#[]⟩, ⟨#[97, 98]⟩, ⟨#[97]⟩] 2 (by decide) rfl)).mono ?_
        rintro e w9 ⟨t1, q9, rfl, ht1, hq9, hr9, hg9⟩
        have P9 := Lib.hid ((P8.out.alloc (Obj.cells #[.string ⟨#[]⟩, .string ⟨#[97, 98]⟩, .string ⟨#[97]⟩] 9)).later hr9 hg9)
        clear hr9 hg9 q0 q1 q2 f0 f1 f2
        obtain ⟨q0, q1, q2, f0, f1, f2⟩ := P9.out.read
        have PA := Lib.hid (P9.out.set HA.out 1 (.string t1) _ _ _ rfl)
        obtain ⟨x0, x1, x2, c0, c1, c2, z0, z1, z2⟩ := P9.out.result
        go_wp2_with fail
        obtain ⟨wf, hwf, y0, y1, y2, hR, hGr⟩ := PA.out.final' HA.out (.string ⟨#[112, 114, 105, 110, 116]⟩) (.string t1) (.string st)
        rw [hwf]
        refine bodyPost_ret (v := pV ⟨#[112, 114, 105, 110, 116]⟩ t1 st) ?_ rfl ?_
        · simp [results, Tryd.results17, go_sem, y0, y1, y2, pV]
        · exact ⟨_, _, _, _, rfl, by decide, by omega, by omega, by omega, hR, hGr⟩
end Go.Proofs.YthedbjdcnidelaaDoor
