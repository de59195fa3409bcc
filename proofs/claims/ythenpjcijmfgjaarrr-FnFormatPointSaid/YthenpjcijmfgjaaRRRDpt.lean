/- The model's l3Point: it returns a join point of short texts, whatever the bytes behind the source. Conditions: counts up to 60000. -/
import Derived.Test.YthenpjcijmfgjaaRRRDrawO
import Derived.Test.YthenpjcijmfgjaaRRRMany
import Derived.Test.YthenpjcijmfgjaaRRRJp3
import Derived.Deep.RegionWith
namespace Go.Proofs.YthenpjcijmfgjaaRRR
open Go.RowKit Gram

/-- what a draw of a join point hands back -/
def DrewP (w : World) (rb : Nat) (a : Option Addr) (n c p : Nat) (e : Ending) (w' : World) : Prop :=
  ∃ (k nm st : ByteArray) (q : Nat), e = .returned (pV k nm st) ∧ k.size ≤ 100 ∧ nm.size ≤ 100 ∧ st.size ≤ 1000 ∧ q ≤ p + 20 ∧ Rdr w' rb a n c q ∧ w.grownBy w' (some rb)

/-- the point that is drawn lies at block jb -/
structure Pt (w wr : World) (rb jb : Nat) (a : Option Addr) (n c p : Nat) (k nm st : ByteArray) : Prop where
  own : wr.heap[jb]? = some (.cells #[.string k, .string nm, .string st] 24 (0, 0))
  res : ∃ x y z, wr.heap[w.heap.size]? = some (.cells #[x, y, z] 24 (0, 0))
  new : w.heap.size < jb
  old : rb < w.heap.size
  rdr : Rdr wr rb a n c p
  grown : w.grownBy wr (some rb)
theorem Pt.read {w wr : World} {rb jb : Nat} {a : Option Addr} {n c p : Nat} {k nm st : ByteArray} (h : Pt w wr rb jb a n c p k nm st) :
    wr.cell? ⟨jb, 0, none⟩ = some (.string k) ∧ wr.cell? ⟨jb, 1, none⟩ = some (.string nm) ∧ wr.cell? ⟨jb, 2, none⟩ = some (.string st) ∧
    wr.frozen? ⟨jb, 0, none⟩ = false ∧ wr.frozen? ⟨jb, 1, none⟩ = false ∧ wr.frozen? ⟨jb, 2, none⟩ = false := by
  refine ⟨?_, ?_, ?_, Lib.frozen_of_heap h.own 0, Lib.frozen_of_heap h.own 1, Lib.frozen_of_heap h.own 2⟩ <;> (rw [Lib.cell_of_heap h.own]; rfl)
theorem Pt.later {w wr w' : World} {rb jb : Nat} {a : Option Addr} {n c p q : Nat} {k nm st : ByteArray} (h : Pt w wr rb jb a n c p k nm st) (hr : Rdr w' rb a n c q) (hg : wr.grownBy w' (some rb)) : Pt w w' rb jb a n c q k nm st :=
  ⟨by rw [hg.block jb (heap_lt h.own) (by have := h.new; have := h.old; intro e; injection e; omega)]; exact h.own,
    by obtain ⟨x, y, z, hx⟩ := h.res; exact ⟨x, y, z, by rw [hg.block w.heap.size (heap_lt hx) (by have := h.old; intro e; injection e; omega)]; exact hx⟩, h.new, h.old, hr, grownBy_trans h.grown hg⟩
theorem Pt.alloc {w wr : World} {rb jb : Nat} {a : Option Addr} {n c p : Nat} {k nm st : ByteArray} (h : Pt w wr rb jb a n c p k nm st) (o : Obj) : Pt w (wr.alloc o) rb jb a n c p k nm st :=
  h.later (h.rdr.later (alloc_heap o)) (World.grownBy_alloc _ _ _)
theorem Rdr.set {w : World} {rb : Nat} {a : Option Addr} {n c p : Nat} (h : Rdr w rb a n c p) {jb i : Nat} (hne : jb ≠ rb) (hg : ∀ g off, a = some ⟨g, off, none⟩ → 0 < n → g ≠ jb) (u : Value) : Rdr (w.setCell ⟨jb, i, none⟩ u) rb a n c p := by
  refine ⟨by rw [heap_set_other (Ne.symm hne)]; exact h.own, fun k hk => ?_, h.off, h.small⟩
  obtain ⟨g, off, ha, b, hc⟩ := h.bytes k hk
  exact ⟨g, off, ha, b, by rw [← hc]; exact World.cell?_of_block (a := ⟨g, off + k, none⟩) (heap_set_other (hg g off ha (by omega)) u)⟩
theorem Pt.set {w wr : World} {rb jb : Nat} {a : Option Addr} {n c p : Nat} {k nm st : ByteArray} (h : Pt w wr rb jb a n c p k nm st) (hg : ∀ g off, a = some ⟨g, off, none⟩ → 0 < n → g < w.heap.size) (i : Nat) (u : Value) (k' nm' st' : ByteArray)
    (hu : (#[Value.string k, .string nm, .string st] : Array Value).setIfInBounds i u = #[.string k', .string nm', .string st']) : Pt w (wr.setCell ⟨jb, i, none⟩ u) rb jb a n c p k' nm' st' := by
  have h1 := h.new
  have h2 := h.old
  refine ⟨by rw [heap_set_same h.own, hu], by obtain ⟨x, y, z, hx⟩ := h.res; exact ⟨x, y, z, by rw [heap_set_other (by omega)]; exact hx⟩, h.new, h.old, h.rdr.set (by omega) (fun g off ha hn => by have := hg g off ha hn; omega) u, ?_⟩
  exact ⟨h.grown.os, h.grown.tape, h.grown.output, by simp [World.setCell]; exact h.grown.size, fun j hj hne => by rw [heap_set_other (by omega)]; exact h.grown.block j hj hne⟩

theorem Pt.result {w wr : World} {rb jb : Nat} {a : Option Addr} {n c p : Nat} {k nm st : ByteArray} (h : Pt w wr rb jb a n c p k nm st) :
    ∃ x y z, wr.cell? ⟨w.heap.size, 0, none⟩ = some x ∧ wr.cell? ⟨w.heap.size, 1, none⟩ = some y ∧ wr.cell? ⟨w.heap.size, 2, none⟩ = some z ∧
    wr.frozen? ⟨w.heap.size, 0, none⟩ = false ∧ wr.frozen? ⟨w.heap.size, 1, none⟩ = false ∧ wr.frozen? ⟨w.heap.size, 2, none⟩ = false := by
  obtain ⟨x, y, z, hx⟩ := h.res
  refine ⟨x, y, z, ?_, ?_, ?_, Lib.frozen_of_heap hx 0, Lib.frozen_of_heap hx 1, Lib.frozen_of_heap hx 2⟩ <;> (rw [Lib.cell_of_heap hx]; rfl)
theorem Pt.final {w wr : World} {rb jb : Nat} {a : Option Addr} {n c p : Nat} {k nm st : ByteArray} (h : Pt w wr rb jb a n c p k nm st) (hg : ∀ g off, a = some ⟨g, off, none⟩ → 0 < n → g < w.heap.size) {X Y Z : Value} :
    (((wr.setCell ⟨w.heap.size, 0, none⟩ X).setCell ⟨w.heap.size, 1, none⟩ Y).setCell ⟨w.heap.size, 2, none⟩ Z).cell? ⟨w.heap.size, 0, none⟩ = some X ∧
    (((wr.setCell ⟨w.heap.size, 0, none⟩ X).setCell ⟨w.heap.size, 1, none⟩ Y).setCell ⟨w.heap.size, 2, none⟩ Z).cell? ⟨w.heap.size, 1, none⟩ = some Y ∧
    (((wr.setCell ⟨w.heap.size, 0, none⟩ X).setCell ⟨w.heap.size, 1, none⟩ Y).setCell ⟨w.heap.size, 2, none⟩ Z).cell? ⟨w.heap.size, 2, none⟩ = some Z ∧
    Rdr (((wr.setCell ⟨w.heap.size, 0, none⟩ X).setCell ⟨w.heap.size, 1, none⟩ Y).setCell ⟨w.heap.size, 2, none⟩ Z) rb a n c p ∧
    w.grownBy (((wr.setCell ⟨w.heap.size, 0, none⟩ X).setCell ⟨w.heap.size, 1, none⟩ Y).setCell ⟨w.heap.size, 2, none⟩ Z) (some rb) := by
  obtain ⟨x, y, z, hx⟩ := h.res
  have h1 := heap_set_same (k := 2) (heap_set_same (k := 1) (heap_set_same (k := 0) hx X) Y) Z
  have ho := h.old
  refine ⟨by rw [Lib.cell_of_heap h1]; rfl, by rw [Lib.cell_of_heap h1]; rfl, by rw [Lib.cell_of_heap h1]; rfl, ?_, ?_⟩
  · exact ((h.rdr.set (by omega) (fun g off ha hn => by have := hg g off ha hn; omega) _).set (by omega) (fun g off ha hn => by have := hg g off ha hn; omega) _).set (by omega) (fun g off ha hn => by have := hg g off ha hn; omega) _
  · refine ⟨h.grown.os, h.grown.tape, h.grown.output, by simp [World.setCell]; exact h.grown.size, fun j hj hne => ?_⟩
    rw [heap_set_other (by omega), heap_set_other (by omega), heap_set_other (by omega)]
    exact h.grown.block j hj hne
theorem Pt.final' {w wr : World} {rb jb : Nat} {a : Option Addr} {n c p : Nat} {k nm st : ByteArray} (h : Pt w wr rb jb a n c p k nm st) (hg : ∀ g off, a = some ⟨g, off, none⟩ → 0 < n → g < w.heap.size) (X Y Z : Value) :
    ∃ wf, ((wr.setCell ⟨w.heap.size, 0, none⟩ X).setCell ⟨w.heap.size, 1, none⟩ Y).setCell ⟨w.heap.size, 2, none⟩ Z = wf ∧ wf.cell? ⟨w.heap.size, 0, none⟩ = some X ∧ wf.cell? ⟨w.heap.size, 1, none⟩ = some Y ∧ wf.cell? ⟨w.heap.size, 2, none⟩ = some Z ∧ Rdr wf rb a n c p ∧ w.grownBy wf (some rb) :=
  ⟨_, rfl, h.final hg⟩
theorem abc_small : ∀ s ∈ [(⟨#[97]⟩ : ByteArray), ⟨#[98]⟩, ⟨#[99]⟩], s.size ≤ 1 := by decide
theorem abcd_small : ∀ s ∈ [(⟨#[97]⟩ : ByteArray), ⟨#[98]⟩, ⟨#[99]⟩, ⟨#[100]⟩], s.size ≤ 1 := by decide

set_option maxHeartbeats 1000000 in
set_option maxRecDepth 100000 in
theorem point_any (w : World) (rb : Nat) (a : Option Addr) (n c p : Nat) (h : Rdr w rb a n c p) (hp : p ≤ 60000) :
    Calls Try.prog 26 #[.pointer (some ⟨rb, 0, none⟩)] w (DrewP w rb a n c p) := by
  have H := Lib.hid h
  have HA := Lib.hid (show ∀ g off, a = some ⟨g, off, none⟩ → 0 < n → g < w.heap.size from fun g off ha hn => by
    obtain ⟨g', off', ha', b, hc⟩ := h.bytes 0 hn
    rw [ha] at ha'
    injection ha' with ha'; injection ha' with e1 e2
    subst e1
    exact World.block_lt_of_cell? w _ hc)
  have hrb := heap_lt h.own
  clear h
  have P1 := Lib.hid (show Pt w _ rb (w.heap.size + 1) a n c p ⟨#[112, 114, 105, 110, 116]⟩ ⟨#[]⟩ ⟨#[]⟩ from
    ⟨by have := heap_alloc_new (w.alloc (Obj.cells #[.string ⟨#[]⟩, .string ⟨#[]⟩, .string ⟨#[]⟩] 24)) (Obj.cells #[.string ⟨#[112, 114, 105, 110, 116]⟩, .string ⟨#[]⟩, .string ⟨#[]⟩] 24)
        rw [alloc_size'] at this; exact this, ⟨_, _, _, by
        have := heap_alloc_new w (Obj.cells #[.string ⟨#[]⟩, .string ⟨#[]⟩, .string ⟨#[]⟩] 24)
        rw [alloc_heap _ _ (heap_lt this)]; exact this⟩, Nat.lt_succ_self _, hrb, (H.out.later (alloc_heap (w := w) _)).later (alloc_heap _), grownBy_trans (World.grownBy_alloc _ _ _) (World.grownBy_alloc _ _ _)⟩)
  go_enter Try.func26, Try.ntmps26
  go_wp2_with fail
  refine (pick_to 3 P1.out.rdr (by omega) (by omega)).mono ?_
  rintro e w2 ⟨v, rfl, hv, hr2, hg2⟩
  have P2 := Lib.hid (P1.out.later hr2 hg2)
  clear hr2 hg2
  go_wp2_with fail
  go_loopw [8] (fun i wr => ∃ (j q : Nat) (st : ByteArray), i = .int .i64 j ∧ j ≤ 1 + v ∧ q ≤ p + 1 + j ∧ st.size ≤ j ∧ Hid (Pt w wr rb (w.heap.size + 1) a n c q ⟨#[112, 114, 105, 110, 116]⟩ ⟨#[]⟩ st)) (fun i _ => 1 + v - (intOf i).toNat)
  case atStart => exact ⟨0, p + 1, ⟨#[]⟩, by go_num, Nat.zero_le _, by omega, Nat.zero_le _, P2.out⟩
  case round =>
    obtain ⟨j, q, st, rfl, hj, hq, hst, hP⟩ := hrel
    by_cases hlt : j < 1 + v
    · obtain ⟨q0, q1, q2, f0, f1, f2⟩ := hP.out.read
      have hjb := heap_lt hP.out.own
      have hrbw := heap_lt hP.out.rdr.own
      go_wp2_with fail
      go_region_with ((first
        | (go_at_call 40; refine (of_any _ rb a n c q wr.heap.size 3 3 1 (hP.out.rdr.later (alloc_heap (w := wr.drew) _)) (by omega) (by omega) (by omega) (by omega) (plus_cells wr.drew wr.heap.size [⟨#[97]⟩, ⟨#[98]⟩, ⟨#[99]⟩] 1 abc_small rfl)).mono ?_
           rintro e w3 ⟨t, q', rfl, ht, hq', hr3, hg3⟩
           have P3 := Lib.hid ((hP.out.alloc (Obj.cells #[.string ⟨#[97]⟩, .string ⟨#[98]⟩, .string ⟨#[99]⟩] 9)).later hr3 ⟨hg3.os, hg3.tape, hg3.output, hg3.size, hg3.block⟩)
           clear hr3 hg3
           obtain ⟨r0, r1, r2, e0', e1', e2'⟩ := P3.out.read
           have e1 := str_sum st t (by omega))))
      all_goals
        have P4 := Lib.hid (P3.out.set HA.out 2 (.string (st ++ t)) _ _ (st ++ t) rfl)
        clear r0 r1 r2 e0' e1' e2' q0 q1 q2 f0 f1 f2
        go_wp2_with fail
        go_roundw
        case rel => exact ⟨j + 1, q', st ++ t, by go_num, by omega, by omega, by simp; omega, P4.out⟩
        case measure => simp [intOf]; omega
    · go_wp2_with fail
      refine (pick_to 2 hP.out.rdr (by omega) (by omega)).mono ?_
      rintro e w3 ⟨u, rfl, hu, hr3, hg3⟩
      have P3 := Lib.hid (hP.out.later hr3 hg3)
      clear hr3 hg3 P1 P2
      by_cases hu0 : u = 0
      · subst hu0
        obtain ⟨q0, q1, q2, f0, f1, f2⟩ := P3.out.read
        have P4 := Lib.hid (P3.out.set HA.out 0 (.string ⟨#[99, 97, 108, 108]⟩) _ _ _ rfl)
        clear q1 q2 f1 f2
        go_wp2_with fail
        refine (of_any _ rb a n c _ w3.heap.size 4 4 1 (P4.out.alloc _).rdr (by omega) (by omega) (by omega) (by have := P3.out.old; have := P3.out.grown.size; omega) (plus_cells _ w3.heap.size [⟨#[97]⟩, ⟨#[98]⟩, ⟨#[99]⟩, ⟨#[100]⟩] 1 abcd_small (by simp [World.setCell]))).mono ?_
        rintro e w5 ⟨nm, q5, rfl, hnm, hq5, hr5, hg5⟩
        have P5 := Lib.hid ((P4.out.alloc (Obj.cells #[.string ⟨#[97]⟩, .string ⟨#[98]⟩, .string ⟨#[99]⟩, .string ⟨#[100]⟩] 9)).later hr5 hg5)
        clear hr5 hg5 q0 f0
        obtain ⟨q0, q1, q2, f0, f1, f2⟩ := P5.out.read
        have P6 := Lib.hid (P5.out.set HA.out 1 (.string nm) _ _ _ rfl)
        clear q0 q2 f0 f2
        go_wp2_with fail
        refine (pick_to 24 P6.out.rdr (by omega) (by omega)).mono ?_
        rintro e w7 ⟨t, rfl, ht, hr7, hg7⟩
        have P7 := Lib.hid (P6.out.later hr7 hg7)
        clear hr7 hg7
        obtain ⟨q0, q1, q2, f0, f1, f2⟩ := P7.out.read
        obtain ⟨x0, x1, x2, c0, c1, c2, z0, z1, z2⟩ := P7.out.result
        by_cases ht3 : 3 ≤ t
        · have hb0 : ((t : Int) == 0) = false := by rw [beq_eq_false_iff_ne]; omega
          have hb1 : ((t : Int) == 1) = false := by rw [beq_eq_false_iff_ne]; omega
          have hb2 : ((t : Int) == 2) = false := by rw [beq_eq_false_iff_ne]; omega
          go_wp2_with fail
          obtain ⟨wf, hwf, y0, y1, y2, hR, hGr⟩ := P7.out.final' HA.out (.string ⟨#[99, 97, 108, 108]⟩) (.string nm) (.string st)
          rw [hwf]
          refine bodyPost_ret (v := pV ⟨#[99, 97, 108, 108]⟩ nm st) ?_ rfl ?_
          · simp [results, Try.results26, go_sem, y0, y1, y2, pV]
          · exact ⟨_, _, _, _, rfl, by decide, by omega, by omega, by omega, hR, hGr⟩
        · obtain ht0 | ht0 | ht0 : t = 0 ∨ t = 1 ∨ t = 2 := by omega
          · subst ht0
            clear c0 c1 c2 z0 z1 z2
            go_wp2_with fail
            refine (of_any _ rb a n c _ w7.heap.size 4 4 2 (P7.out.alloc _).rdr (by omega) (by omega) (by omega) (by have := P7.out.old; have := P7.out.grown.size; omega) (plus_cells _ w7.heap.size [⟨#[]⟩, ⟨#[97, 98]⟩, ⟨#[65]⟩, ⟨#[97]⟩] 2 (by decide) rfl)).mono ?_
            rintro e w8 ⟨t1, q8, rfl, ht1, hq8, hr8, hg8⟩
            have P8 := Lib.hid ((P7.out.alloc (Obj.cells #[.string ⟨#[]⟩, .string ⟨#[97, 98]⟩, .string ⟨#[65]⟩, .string ⟨#[97]⟩] 9)).later hr8 hg8)
            clear hr8 hg8 q0 q1 q2 f0 f1 f2
            obtain ⟨q0, q1, q2, f0, f1, f2⟩ := P8.out.read
            have P9 := Lib.hid (P8.out.set HA.out 1 (.string t1) _ _ _ rfl)
            obtain ⟨x0, x1, x2, c0, c1, c2, z0, z1, z2⟩ := P8.out.result
            go_wp2_with fail
            obtain ⟨wf, hwf, y0, y1, y2, hR, hGr⟩ := P9.out.final' HA.out (.string ⟨#[99, 97, 108, 108]⟩) (.string t1) (.string st)
            rw [hwf]
            refine bodyPost_ret (v := pV ⟨#[99, 97, 108, 108]⟩ t1 st) ?_ rfl ?_
            · simp [results, Try.results26, go_sem, y0, y1, y2, pV]
            · exact ⟨_, _, _, _, rfl, by decide, by omega, by omega, by omega, hR, hGr⟩
          · subst ht0
            clear c0 c1 c2 z0 z1 z2
            go_wp2_with fail
            refine (many_any ⟨#[97]⟩ 21 21 _ rfl (by omega) (by decide) (by omega)).mono ?_
            rintro e wA ⟨⟨m1, rfl, hm1⟩, rfl⟩
            go_wp2_with fail
            refine (many_any ⟨#[97]⟩ 20 20 _ rfl (by omega) (by decide) (by omega)).mono ?_
            rintro e wA ⟨⟨m2, rfl, hm2⟩, rfl⟩
            go_wp2_with fail
            refine (of_any _ rb a n c _ w7.heap.size 4 4 21 (P7.out.alloc _).rdr (by omega) (by omega) (by omega) (by have := P7.out.old; have := P7.out.grown.size; omega) (plus_cells _ w7.heap.size [⟨#[]⟩, ⟨#[65]⟩, m1, m2] 21 (by intro s hs; simp at hs; rcases hs with rfl | rfl | rfl | rfl; exact Nat.zero_le _; (show 1 ≤ 21; omega); omega; omega) rfl)).mono ?_
            rintro e w8 ⟨t1, q8, rfl, ht1, hq8, hr8, hg8⟩
            have P8 := Lib.hid ((P7.out.alloc (Obj.cells #[.string ⟨#[]⟩, .string ⟨#[65]⟩, .string m1, .string m2] 9)).later hr8 hg8)
            clear hr8 hg8 q0 q1 q2 f0 f1 f2
            obtain ⟨q0, q1, q2, f0, f1, f2⟩ := P8.out.read
            have P9 := Lib.hid (P8.out.set HA.out 2 (.string t1) _ _ _ rfl)
            obtain ⟨x0, x1, x2, c0, c1, c2, z0, z1, z2⟩ := P8.out.result
            go_wp2_with fail
            obtain ⟨wf, hwf, y0, y1, y2, hR, hGr⟩ := P9.out.final' HA.out (.string ⟨#[99, 97, 108, 108]⟩) (.string nm) (.string t1)
            rw [hwf]
            refine bodyPost_ret (v := pV ⟨#[99, 97, 108, 108]⟩ nm t1) ?_ rfl ?_
            · simp [results, Try.results26, go_sem, y0, y1, y2, pV]
            · exact ⟨_, _, _, _, rfl, by decide, by omega, by omega, by omega, hR, hGr⟩
          · subst ht0
            clear c0 c1 c2 z0 z1 z2
            go_wp2_with fail
            refine (of_any _ rb a n c _ w7.heap.size 2 2 5 (P7.out.alloc _).rdr (by omega) (by omega) (by omega) (by have := P7.out.old; have := P7.out.grown.size; omega) (plus_cells _ w7.heap.size [⟨#[]⟩, ⟨#[99, 97, 108, 108, 115]⟩] 5 (by decide) rfl)).mono ?_
            rintro e w8 ⟨t1, q8, rfl, ht1, hq8, hr8, hg8⟩
            have P8 := Lib.hid ((P7.out.alloc (Obj.cells #[.string ⟨#[]⟩, .string ⟨#[99, 97, 108, 108, 115]⟩] 9)).later hr8 hg8)
            clear hr8 hg8 q0 q1 q2 f0 f1 f2
            obtain ⟨q0, q1, q2, f0, f1, f2⟩ := P8.out.read
            have P9 := Lib.hid (P8.out.set HA.out 0 (.string t1) _ _ _ rfl)
            obtain ⟨x0, x1, x2, c0, c1, c2, z0, z1, z2⟩ := P8.out.result
            go_wp2_with fail
            obtain ⟨wf, hwf, y0, y1, y2, hR, hGr⟩ := P9.out.final' HA.out (.string t1) (.string nm) (.string st)
            rw [hwf]
            refine bodyPost_ret (v := pV t1 nm st) ?_ rfl ?_
            · simp [results, Try.results26, go_sem, y0, y1, y2, pV]
            · exact ⟨_, _, _, _, rfl, by omega, by omega, by omega, by omega, hR, hGr⟩
      · have hb : ((u : Int) == 0) = false := by rw [beq_eq_false_iff_ne]; omega
        go_wp2_with fail
        refine (pick_to 24 P3.out.rdr (by omega) (by omega)).mono ?_
        rintro e w7 ⟨t, rfl, ht, hr7, hg7⟩
        have P7 := Lib.hid (P3.out.later hr7 hg7)
        clear hr7 hg7
        obtain ⟨q0, q1, q2, f0, f1, f2⟩ := P7.out.read
        obtain ⟨x0, x1, x2, c0, c1, c2, z0, z1, z2⟩ := P7.out.result
        by_cases ht3 : 3 ≤ t
        · have hb0 : ((t : Int) == 0) = false := by rw [beq_eq_false_iff_ne]; omega
          have hb1 : ((t : Int) == 1) = false := by rw [beq_eq_false_iff_ne]; omega
          have hb2 : ((t : Int) == 2) = false := by rw [beq_eq_false_iff_ne]; omega
          go_wp2_with fail
          obtain ⟨wf, hwf, y0, y1, y2, hR, hGr⟩ := P7.out.final' HA.out (.string ⟨#[112, 114, 105, 110, 116]⟩) (.string ⟨#[]⟩) (.string st)
          rw [hwf]
          refine bodyPost_ret (v := pV ⟨#[112, 114, 105, 110, 116]⟩ ⟨#[]⟩ st) ?_ rfl ?_
          · simp [results, Try.results26, go_sem, y0, y1, y2, pV]
          · exact ⟨_, _, _, _, rfl, by decide, by decide, by omega, by omega, hR, hGr⟩
        · obtain ht0 | ht0 | ht0 : t = 0 ∨ t = 1 ∨ t = 2 := by omega
          · subst ht0
            clear c0 c1 c2 z0 z1 z2
            go_wp2_with fail
            refine (of_any _ rb a n c _ w7.heap.size 4 4 2 (P7.out.alloc _).rdr (by omega) (by omega) (by omega) (by have := P7.out.old; have := P7.out.grown.size; omega) (plus_cells _ w7.heap.size [⟨#[]⟩, ⟨#[97, 98]⟩, ⟨#[65]⟩, ⟨#[97]⟩] 2 (by decide) rfl)).mono ?_
            rintro e w8 ⟨t1, q8, rfl, ht1, hq8, hr8, hg8⟩
            have P8 := Lib.hid ((P7.out.alloc (Obj.cells #[.string ⟨#[]⟩, .string ⟨#[97, 98]⟩, .string ⟨#[65]⟩, .string ⟨#[97]⟩] 9)).later hr8 hg8)
            clear hr8 hg8 q0 q1 q2 f0 f1 f2
            obtain ⟨q0, q1, q2, f0, f1, f2⟩ := P8.out.read
            have P9 := Lib.hid (P8.out.set HA.out 1 (.string t1) _ _ _ rfl)
            obtain ⟨x0, x1, x2, c0, c1, c2, z0, z1, z2⟩ := P8.out.result
            go_wp2_with fail
            obtain ⟨wf, hwf, y0, y1, y2, hR, hGr⟩ := P9.out.final' HA.out (.string ⟨#[112, 114, 105, 110, 116]⟩) (.string t1) (.string st)
            rw [hwf]
            refine bodyPost_ret (v := pV ⟨#[112, 114, 105, 110, 116]⟩ t1 st) ?_ rfl ?_
            · simp [results, Try.results26, go_sem, y0, y1, y2, pV]
            · exact ⟨_, _, _, _, rfl, by decide, by omega, by omega, by omega, hR, hGr⟩
          · subst ht0
            clear c0 c1 c2 z0 z1 z2
            go_wp2_with fail
            refine (many_any ⟨#[97]⟩ 21 21 _ rfl (by omega) (by decide) (by omega)).mono ?_
            rintro e wA ⟨⟨m1, rfl, hm1⟩, rfl⟩
            go_wp2_with fail
            refine (many_any ⟨#[97]⟩ 20 20 _ rfl (by omega) (by decide) (by omega)).mono ?_
            rintro e wA ⟨⟨m2, rfl, hm2⟩, rfl⟩
            go_wp2_with fail
            refine (of_any _ rb a n c _ w7.heap.size 4 4 21 (P7.out.alloc _).rdr (by omega) (by omega) (by omega) (by have := P7.out.old; have := P7.out.grown.size; omega) (plus_cells _ w7.heap.size [⟨#[]⟩, ⟨#[65]⟩, m1, m2] 21 (by intro s hs; simp at hs; rcases hs with rfl | rfl | rfl | rfl; exact Nat.zero_le _; (show 1 ≤ 21; omega); omega; omega) rfl)).mono ?_
            rintro e w8 ⟨t1, q8, rfl, ht1, hq8, hr8, hg8⟩
            have P8 := Lib.hid ((P7.out.alloc (Obj.cells #[.string ⟨#[]⟩, .string ⟨#[65]⟩, .string m1, .string m2] 9)).later hr8 hg8)
            clear hr8 hg8 q0 q1 q2 f0 f1 f2
            obtain ⟨q0, q1, q2, f0, f1, f2⟩ := P8.out.read
            have P9 := Lib.hid (P8.out.set HA.out 2 (.string t1) _ _ _ rfl)
            obtain ⟨x0, x1, x2, c0, c1, c2, z0, z1, z2⟩ := P8.out.result
            go_wp2_with fail
            obtain ⟨wf, hwf, y0, y1, y2, hR, hGr⟩ := P9.out.final' HA.out (.string ⟨#[112, 114, 105, 110, 116]⟩) (.string ⟨#[]⟩) (.string t1)
            rw [hwf]
            refine bodyPost_ret (v := pV ⟨#[112, 114, 105, 110, 116]⟩ ⟨#[]⟩ t1) ?_ rfl ?_
            · simp [results, Try.results26, go_sem, y0, y1, y2, pV]
            · exact ⟨_, _, _, _, rfl, by decide, by decide, by omega, by omega, hR, hGr⟩
          · subst ht0
            clear c0 c1 c2 z0 z1 z2
            go_wp2_with fail
            refine (of_any _ rb a n c _ w7.heap.size 2 2 5 (P7.out.alloc _).rdr (by omega) (by omega) (by omega) (by have := P7.out.old; have := P7.out.grown.size; omega) (plus_cells _ w7.heap.size [⟨#[]⟩, ⟨#[99, 97, 108, 108, 115]⟩] 5 (by decide) rfl)).mono ?_
            rintro e w8 ⟨t1, q8, rfl, ht1, hq8, hr8, hg8⟩
            have P8 := Lib.hid ((P7.out.alloc (Obj.cells #[.string ⟨#[]⟩, .string ⟨#[99, 97, 108, 108, 115]⟩] 9)).later hr8 hg8)
            clear hr8 hg8 q0 q1 q2 f0 f1 f2
            obtain ⟨q0, q1, q2, f0, f1, f2⟩ := P8.out.read
            have P9 := Lib.hid (P8.out.set HA.out 0 (.string t1) _ _ _ rfl)
            obtain ⟨x0, x1, x2, c0, c1, c2, z0, z1, z2⟩ := P8.out.result
            go_wp2_with fail
            obtain ⟨wf, hwf, y0, y1, y2, hR, hGr⟩ := P9.out.final' HA.out (.string t1) (.string ⟨#[]⟩) (.string st)
            rw [hwf]
            refine bodyPost_ret (v := pV t1 ⟨#[]⟩ st) ?_ rfl ?_
            · simp [results, Try.results26, go_sem, y0, y1, y2, pV]
            · exact ⟨_, _, _, _, rfl, by omega, by decide, by omega, by omega, hR, hGr⟩
end Go.Proofs.YthenpjcijmfgjaaRRR
