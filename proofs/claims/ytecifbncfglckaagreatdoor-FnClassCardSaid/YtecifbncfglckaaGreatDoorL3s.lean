/- The model's num, l3Some: a text of at most 46 bytes; an aspect that is drawn in memory. Conditions: counts up to 60000. -/
import Derived.Test.YtecifbncfglckaaGreatDoorL4d
import Derived.Test.YtecifbncfglckaaGreatDoorOnly
namespace Go.Proofs.YtecifbncfglckaaGreatDoor
open Go.RowKit Gram

theorem Rdr.set {w : World} {rb : Nat} {a : Option Addr} {n c p : Nat} (h : Rdr w rb a n c p) {jb i : Nat} (hne : jb ≠ rb) (hg : ∀ g off, a = some ⟨g, off, none⟩ → 0 < n → g ≠ jb) (u : Value) : Rdr (w.setCell ⟨jb, i, none⟩ u) rb a n c p := by
  refine ⟨by rw [heap_set_other (Ne.symm hne)]; exact h.own, fun k hk => ?_, h.off, h.small⟩
  obtain ⟨g, off, ha, b, hc⟩ := h.bytes k hk
  exact ⟨g, off, ha, b, by rw [← hc]; exact World.cell?_of_block (a := ⟨g, off + k, none⟩) (heap_set_other (hg g off ha (by omega)) u)⟩

set_option maxHeartbeats 400000 in
set_option maxRecDepth 100000 in
theorem num_any (w : World) (rb : Nat) (a : Option Addr) (n c p : Nat) (g ln lc M : Nat) (h : Rdr w rb a n c p) (hp : p ≤ 100000) (hl : 1 ≤ ln) (hlb : ln ≤ 1000) (hg : g ≠ rb)
    (hc : ∀ i, i < ln → ∃ m : Nat, w.cell? ⟨g, i, none⟩ = some (.int .i64 m) ∧ m ≤ M) :
    Calls Tryz.prog 59 #[.pointer (some ⟨rb, 0, none⟩), .slice (some ⟨g, 0, none⟩) ln lc] w fun e w' => ∃ m : Nat, e = .returned (.int .i64 m) ∧ m ≤ M ∧ Rdr w' rb a n c (p + 1) ∧ w.grownBy w' (some rb) := by
  have H := Lib.hid h
  have HC := Lib.hid hc
  clear h hc
  go_enter Tryz.func59, Tryz.ntmps59
  go_wp2_with fail
  refine (pick_to _ H.out hp (by omega)).mono ?_
  rintro e w1 ⟨v, rfl, hv, hr, hgr⟩
  have hv' : v < ln := by omega
  obtain ⟨s, hcs, hsz⟩ := HC.out v hv'
  have hc1 : w1.cell? ⟨g, v, none⟩ = some (.int .i64 s) := hgr.cell hcs (by simpa using hg)
  have HR := Lib.hid hr
  have HG := Lib.hid hgr
  clear hr hgr hcs
  go_wp2_with fail
  go_ret
  exact ⟨s, rfl, hsz, HR.out, HG.out⟩

theorem num_cells (w : World) (g : Nat) (ms : List Nat) (M : Nat) (hM : ∀ m ∈ ms, m ≤ M) (hg : g = w.heap.size) : ∀ i, i < ms.length → ∃ m : Nat, (w.alloc (Obj.cells (ms.map fun (m : Nat) => Value.int .i64 (m : Int)).toArray 3)).cell? ⟨g, i, none⟩ = some (.int .i64 m) ∧ m ≤ M := by
  subst hg
  intro i hi
  refine ⟨ms[i], ?_, hM _ (List.getElem_mem hi)⟩
  rw [Lib.cell_of_heap (heap_alloc_new w _)]
  simp
  exact ⟨_, List.getElem?_eq_getElem hi, rfl⟩
theorem lB3 (d : Nat) (h : d ≤ 3) : lB d ≤ 23 ∧ lC d ≤ 38 := by
  have : d = 0 ∨ d = 1 ∨ d = 2 ∨ d = 3 := by omega
  rcases this with rfl | rfl | rfl | rfl <;> decide
theorem tail_small : ∀ s ∈ [(⟨#[80]⟩ : ByteArray), ⟨#[120]⟩, ⟨#[38]⟩, ⟨#[67]⟩], s.size ≤ 1 := by decide

set_option maxHeartbeats 1000000 in
set_option maxRecDepth 100000 in
theorem l3s_any (w : World) (rb : Nat) (a : Option Addr) (n c p : Nat) (h : Rdr w rb a n c p) (hp : p + 50 ≤ 60000) :
    Calls Tryz.prog 66 #[.pointer (some ⟨rb, 0, none⟩)] w (DrewS w rb a n c p 46 45) := by
  have H := Lib.hid h
  have hrb := heap_lt h.own
  have HD := Lib.hid (l3d_any rb a n c)
  have HM := Lib.hid (fun (k : Int) (m : Nat) (hk : k = m) (hm : m ≤ 41) (h1 : 1 ≤ m) (w : World) => show Calls Tryz.prog 67 #[.string ⟨#[33]⟩, .int .i64 k] w fun e w' => (∃ s : ByteArray, e = .returned (.string s) ∧ s.size = m) ∧ w = w' by
    subst hk; exact many_any ⟨#[33]⟩ m m w (by show 1 * m = m; omega) (by omega) (by show 1 ≤ m; omega) (by omega))
  clear h
  go_enter Tryz.func66, Tryz.ntmps66
  go_wp2_with fail
  refine (num_any _ rb a n c p w.heap.size 4 4 3 (H.out.later (alloc_heap (w := w) _)) (by omega) (by omega) (by omega) (by omega) (num_cells w w.heap.size [1, 2, 0, 3] 3 (by decide) rfl)).mono ?_
  rintro e w1 ⟨d, rfl, hd, hr1, hg1⟩
  have H1 := Lib.hid hr1
  have G1 := Lib.hid (grownBy_trans (World.grownBy_alloc w _ _) hg1)
  have hB := (lB3 d hd).1
  have hC := (lB3 d hd).2
  clear hr1 hg1
  go_wp2_with fail
  refine (HD.out d hd _ _ _ rfl H1.out (by omega)).mono ?_
  rintro e w2 ⟨s, q, rfl, hs, hq, hr2, hg2⟩
  have H2 := Lib.hid hr2
  have G2 := Lib.hid (grownBy_trans G1.out hg2)
  clear hr2 hg2
  go_wp2_with fail
  refine (pick_to 16 H2.out (by omega) (by omega)).mono ?_
  rintro e w3 ⟨v, rfl, hv, hr3, hg3⟩
  have H3 := Lib.hid hr3
  have G3 := Lib.hid (grownBy_trans G2.out hg3)
  clear hr3 hg3
  by_cases hv0 : v = 0
  · subst hv0
    go_wp2_with fail
    refine (of_any _ rb a n c (q + 1) w3.heap.size 4 4 1 (H3.out.later (alloc_heap (w := w3) _)) (by omega) (by omega) (by omega) (by have := heap_lt H3.out.own; omega) (plus_cells w3 w3.heap.size [⟨#[80]⟩, ⟨#[120]⟩, ⟨#[38]⟩, ⟨#[67]⟩] 1 tail_small rfl)).mono ?_
    rintro e w4 ⟨t, q4, rfl, ht, hq4, hr4, hg4⟩
    have H4 := Lib.hid hr4
    have G4 := Lib.hid (grownBy_trans G3.out (grownBy_trans (World.grownBy_alloc w3 _ _) hg4))
    clear hr4 hg4
    have e1 := str_sum s t (by omega)
    go_wp2_with fail
    go_ret
    exact ⟨_, q4, rfl, by rw [ByteArray.size_append]; omega, by omega, H4.out, G4.out⟩
  · have hvb : ((v : Int) == 0) = false := by rw [beq_eq_false_iff_ne]; omega
    go_wp2_with fail
    refine (pick_to 40 H3.out (by omega) (by omega)).mono ?_
    rintro e w4 ⟨u, rfl, hu, hr4, hg4⟩
    have H4 := Lib.hid hr4
    have G4 := Lib.hid (grownBy_trans G3.out hg4)
    clear hr4 hg4
    by_cases hu0 : u = 0
    · subst hu0
      go_wp2_with fail
      refine (pick_to 2 H4.out (by omega) (by omega)).mono ?_
      rintro e w5 ⟨x, rfl, hx, hr5, hg5⟩
      have H5 := Lib.hid hr5
      have G5 := Lib.hid (grownBy_trans G4.out hg5)
      clear hr5 hg5
      go_wp2_with fail
      refine (HM.out _ (39 + x) (by omega) (by omega) (by omega) _).mono ?_
      rintro e w6 ⟨⟨t, rfl, ht⟩, rfl⟩
      have o1 : (⟨#[80]⟩ : ByteArray).size = 1 := rfl
      have e1 := str_sum t ⟨#[80]⟩ (by omega)
      go_wp2_with fail
      go_ret
      exact ⟨_, _, rfl, by rw [ByteArray.size_append]; omega, by omega, H5.out, G5.out⟩
    · have hub : ((u : Int) == 0) = false := by rw [beq_eq_false_iff_ne]; omega
      go_wp2_with fail
      go_ret
      exact ⟨s, _, rfl, by omega, by omega, H4.out, G4.out⟩

/-- the aspect that is drawn lies at block jb -/
structure Ap (w wr : World) (rb jb : Nat) (a : Option Addr) (n c p : Nat) (k nm st : ByteArray) : Prop where
  own : wr.heap[jb]? = some (.cells #[.string k, .string nm, .string st] 24 (0, 0))
  res : ∃ x y z, wr.heap[w.heap.size]? = some (.cells #[x, y, z] 24 (0, 0))
  new : w.heap.size < jb
  old : rb < w.heap.size
  rdr : Rdr wr rb a n c p
  grown : w.grownBy wr (some rb)
theorem Ap.read {w wr : World} {rb jb : Nat} {a : Option Addr} {n c p : Nat} {k nm st : ByteArray} (h : Ap w wr rb jb a n c p k nm st) :
    wr.cell? ⟨jb, 0, none⟩ = some (.string k) ∧ wr.cell? ⟨jb, 1, none⟩ = some (.string nm) ∧ wr.cell? ⟨jb, 2, none⟩ = some (.string st) ∧
    wr.frozen? ⟨jb, 0, none⟩ = false ∧ wr.frozen? ⟨jb, 1, none⟩ = false ∧ wr.frozen? ⟨jb, 2, none⟩ = false := by
  refine ⟨?_, ?_, ?_, Lib.frozen_of_heap h.own 0, Lib.frozen_of_heap h.own 1, Lib.frozen_of_heap h.own 2⟩ <;> (rw [Lib.cell_of_heap h.own]; rfl)
theorem Ap.later {w wr w' : World} {rb jb : Nat} {a : Option Addr} {n c p q : Nat} {k nm st : ByteArray} (h : Ap w wr rb jb a n c p k nm st) (hr : Rdr w' rb a n c q) (hg : wr.grownBy w' (some rb)) : Ap w w' rb jb a n c q k nm st :=
  ⟨by rw [hg.block jb (heap_lt h.own) (by have := h.new; have := h.old; intro e; injection e; omega)]; exact h.own,
    by obtain ⟨x, y, z, hx⟩ := h.res; exact ⟨x, y, z, by rw [hg.block w.heap.size (heap_lt hx) (by have := h.old; intro e; injection e; omega)]; exact hx⟩, h.new, h.old, hr, grownBy_trans h.grown hg⟩
theorem Ap.alloc {w wr : World} {rb jb : Nat} {a : Option Addr} {n c p : Nat} {k nm st : ByteArray} (h : Ap w wr rb jb a n c p k nm st) (o : Obj) : Ap w (wr.alloc o) rb jb a n c p k nm st :=
  h.later (h.rdr.later (alloc_heap o)) (World.grownBy_alloc _ _ _)
theorem Ap.set {w wr : World} {rb jb : Nat} {a : Option Addr} {n c p : Nat} {k nm st : ByteArray} (h : Ap w wr rb jb a n c p k nm st) (hg : ∀ g off, a = some ⟨g, off, none⟩ → 0 < n → g < w.heap.size) (i : Nat) (u : Value) (k' nm' st' : ByteArray)
    (hu : (#[Value.string k, .string nm, .string st] : Array Value).setIfInBounds i u = #[.string k', .string nm', .string st']) : Ap w (wr.setCell ⟨jb, i, none⟩ u) rb jb a n c p k' nm' st' := by
  have h1 := h.new
  have h2 := h.old
  refine ⟨by rw [heap_set_same h.own, hu], by obtain ⟨x, y, z, hx⟩ := h.res; exact ⟨x, y, z, by rw [heap_set_other (by omega)]; exact hx⟩, h.new, h.old, h.rdr.set (by omega) (fun g off ha hn => by have := hg g off ha hn; omega) u, ?_⟩
  exact ⟨h.grown.os, h.grown.tape, h.grown.output, by simp [World.setCell]; exact h.grown.size, fun j hj hne => by rw [heap_set_other (by omega)]; exact h.grown.block j hj hne⟩

theorem Ap.result {w wr : World} {rb jb : Nat} {a : Option Addr} {n c p : Nat} {k nm st : ByteArray} (h : Ap w wr rb jb a n c p k nm st) :
    ∃ x y z, wr.cell? ⟨w.heap.size, 0, none⟩ = some x ∧ wr.cell? ⟨w.heap.size, 1, none⟩ = some y ∧ wr.cell? ⟨w.heap.size, 2, none⟩ = some z ∧
    wr.frozen? ⟨w.heap.size, 0, none⟩ = false ∧ wr.frozen? ⟨w.heap.size, 1, none⟩ = false ∧ wr.frozen? ⟨w.heap.size, 2, none⟩ = false := by
  obtain ⟨x, y, z, hx⟩ := h.res
  refine ⟨x, y, z, ?_, ?_, ?_, Lib.frozen_of_heap hx 0, Lib.frozen_of_heap hx 1, Lib.frozen_of_heap hx 2⟩ <;> (rw [Lib.cell_of_heap hx]; rfl)
theorem Ap.final {w wr : World} {rb jb : Nat} {a : Option Addr} {n c p : Nat} {k nm st : ByteArray} (h : Ap w wr rb jb a n c p k nm st) (hg : ∀ g off, a = some ⟨g, off, none⟩ → 0 < n → g < w.heap.size) {X Y Z : Value} :
    (((wr.setCell ⟨w.heap.size, 0, none⟩ X).setCell ⟨w.heap.size, 1, none⟩ Y).setCell ⟨w.heap.size, 2, none⟩ Z).cell? ⟨w.heap.size, 0, none⟩ = some X ∧
    (((wr.setCell ⟨w.heap.size, 0, none⟩ X).setCell ⟨w.heap.size, 1, none⟩ Y).setCell ⟨w.heap.size, 2, none⟩ Z).cell? ⟨w.heap.size, 1, none⟩ = some Y ∧
    (((wr.setCell ⟨w.heap.size, 0, none⟩ X).setCell ⟨w.heap.size, 1, none⟩ Y).setCell ⟨w.heap.size, 2, none⟩ Z).cell? ⟨w.heap.size, 2, none⟩ = some Z ∧
    Rdr (((wr.setCell ⟨w.heap.size, 0, none⟩ X).setCell ⟨w.heap.size, 1, none⟩ Y).setCell ⟨w.heap.size, 2, none⟩ Z) rb a n c p ∧
    w.grownBy (((wr.setCell ⟨w.heap.size, 0, none⟩ X).setCell ⟨w.heap.size, 1, none⟩ Y).setCell ⟨w.heap.size, 2, none⟩ Z) (some rb) := by
  obtain ⟨x, y, z, hx⟩ := h.res
  have h1 := heap_set_same (k := 2) (heap_set_same (k := 1) (heap_set_same (k := 0) hx X) Y) Z
  have ho := h.old
  refine ⟨by rw [Lib.cell_of_heap h1]; rfl, by rw [Lib.cell_of_heap h1]; rfl, by rw [Lib.cell_of_heap h1]; rfl, ?_, ?_⟩
  · exact ((h.rdr.set (by omega) (fun g off ha hn => by have := hg g off ha hn; omega) _).set (by omega) (fun g off ha hn => by have := hg g off ha hn; omega) _).set (by omega) (fun g off ha hn => by have := hg g off ha hn; omega) _
  · refine ⟨h.grown.os, h.grown.tape, h.grown.output, by simp [World.setCell]; exact h.grown.size, fun j hj hne => ?_⟩
    rw [heap_set_other (by omega), heap_set_other (by omega), heap_set_other (by omega)]
    exact h.grown.block j hj hne
theorem Ap.final' {w wr : World} {rb jb : Nat} {a : Option Addr} {n c p : Nat} {k nm st : ByteArray} (h : Ap w wr rb jb a n c p k nm st) (hg : ∀ g off, a = some ⟨g, off, none⟩ → 0 < n → g < w.heap.size) (X Y Z : Value) :
    ∃ wf, ((wr.setCell ⟨w.heap.size, 0, none⟩ X).setCell ⟨w.heap.size, 1, none⟩ Y).setCell ⟨w.heap.size, 2, none⟩ Z = wf ∧ wf.cell? ⟨w.heap.size, 0, none⟩ = some X ∧ wf.cell? ⟨w.heap.size, 1, none⟩ = some Y ∧ wf.cell? ⟨w.heap.size, 2, none⟩ = some Z ∧ Rdr wf rb a n c p ∧ w.grownBy wf (some rb) :=
  ⟨_, rfl, h.final hg⟩
end Go.Proofs.YtecifbncfglckaaGreatDoor
