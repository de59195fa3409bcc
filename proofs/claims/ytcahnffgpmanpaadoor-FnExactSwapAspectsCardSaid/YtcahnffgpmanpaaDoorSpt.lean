/- SwapAspects of the model where two neighbours change places. Conditions: at most five aspects. -/
import Derived.Test.YtcahnffgpmanpaaDoorSps
import Derived.Test.YtcahnffgpmanpaaDoorSpi
import Derived.Deep.RegionHeldLaw
namespace Go.Proofs.YtcahnffgpmanpaaDoor
open Go.RowKit Gram

theorem list_append_asp {ops : Array Oper} {rest : List Oper} {o : Oper} {a : Act} {w : World} {Q : Exit → Act → World → Prop} (hgd : o.guard = none) (s x : Operand)
    (ho : o.op = .call { callee := .builtin .append, args := #[s, x], argTypes := #[24, 24] }) (hty : o.type = 24) (vs vx : Value) (hs : a.eval s = vs) (hx : a.eval x = vx) (n : Nat) (R : Nat → Nat → World → Prop)
    (hr : ∃ g c w', (Builtin.append_ #[24, 24] 24 #[vs, vx]).run Tryd.prog w = .ok (.slice (some ⟨g, 0, none⟩) n c) w' ∧ R g c w')
    (h : ∀ g c w', R g c w' → wpList Tryd.prog ops Q rest (a.put o.dst (.slice (some ⟨g, 0, none⟩) n c)) w') : wpList Tryd.prog ops Q (o :: rest) a w := by
  obtain ⟨g, c, w', hrun, hR⟩ := hr
  exact Lib.wpList_append_run w hgd s x _ _ ho vs vx hs hx _ w' (by rw [hty]; exact hrun) (h _ _ _ hR)

theorem third_asp {W W' : World} {B g n c k g8 c8 off m cc : Nat} {xs ys : List As} {p q : As} (hR : Arow W B g n c (xs ++ [p] ++ [q] ++ ys)) (h8 : Arow W' W.heap.size g8 (k + 2) c8 (xs ++ [q, p])) (hk : k = xs.length)
    (ho : off = if c = k + 2 then 0 else (k + 2) * 3) (hm : m = n - (k + 2)) (hB : Below W.heap.size W W') (hn : n ≤ 1000 := by omega) :
    ∃ g' c' w', (Builtin.append_ #[24, 24] 24 #[.slice (some ⟨g8, 0, none⟩) (k + 2) c8, .slice (some ⟨g, off, none⟩) m cc]).run Tryd.prog W' = .ok (.slice (some ⟨g', 0, none⟩) n c') w' ∧ (Arow w' W.heap.size g' n c' (xs ++ [q, p] ++ ys) ∧ Below W.heap.size W w') := by
  have hl := hR.1
  rw [asC_len] at hl
  simp only [List.length_append, List.length_cons, List.length_nil] at hl
  have hnc := hR.room.1
  have hys : ys.length = m := by omega
  obtain ⟨g', c', w', h1, h2, h3⟩ := more_asps W' W.heap.size g8 (k + 2) c8 (xs ++ [q, p]) h8 g off m cc ys hys (fun j u hu => by
    by_cases hc : c = k + 2
    · have : ys = [] := List.length_eq_zero_iff.1 (by omega)
      subst this
      simp [asC, asF] at hu
    · rw [if_neg hc] at ho
      have h := (Arow.part (xs := xs ++ [p] ++ [q]) (ys := ys) (us := []) (by simpa using hR.keep (hB.block g hR.lt.2))) j u hu
      have e : (xs ++ [p] ++ [q]).length * 3 = off := by simp only [List.length_append, List.length_cons, List.length_nil]; omega
      rw [e] at h
      exact h) (by omega) hB.size
  rw [show k + 2 + m = n by omega] at h1 h2
  exact ⟨g', c', w', h1, h2, hB.grown h3 hB.size (fun j hj => by injection hj with hj; have := h8.lt.1; omega)⟩

theorem heap_second (w : World) (o : Obj) (q p : As) : ((w.alloc o).alloc (twoC q p)).heap[w.heap.size + 1]? = some (twoC q p) := by
  rw [← alloc_size' w o]; exact heap_alloc_new _ _
theorem heap_first (w : World) (q p : As) (o : Obj) : ((w.alloc (twoC q p)).alloc o).heap[w.heap.size]? = some (twoC q p) :=
  (alloc_heap _ _ (by rw [alloc_size']; omega)).trans (heap_alloc_new _ _)

set_option maxHeartbeats 4000000 in
set_option maxRecDepth 100000 in
theorem spec_sw_yes (w : World) (B g n c k : Nat) (zs xs ys : List As) (p q : As) (hz : zs = xs ++ [p] ++ [q] ++ ys) (hR : Arow w B g n c zs) (hl : zs.length = n) (hk : k = xs.length) (h5 : n ≤ 5)
    (hv : ∀ w', Below w.heap.size w w' → Calls Tryd.prog 12 #[.slice (some ⟨g, 0, none⟩) n c, .int .i64 k] w' fun e w'' => e = .returned (.bool true) ∧ Below w'.heap.size w' w'') :
    Calls Tryd.prog 5 #[.slice (some ⟨g, 0, none⟩) n c, .int .i64 k] w fun e w' => ∃ g' c', e = .returned (.tuple #[.slice (some ⟨g', 0, none⟩) n c', .bool true]) ∧ Arow w' w.heap.size g' n c' (xs ++ [q, p] ++ ys) ∧ Below w.heap.size w w' := by
  have hkn : k + 1 < n := by rw [← hl, hz, hk]; simp
  have hnc := hR.room.1
  have HV := Lib.hid hv
  have HR := Lib.hid hR
  have HZ := Lib.hid hz
  have HK := Lib.hid hk
  have HL := Lib.hid hl
  have hsl := aslice_high g n c k k rfl (by omega)
  clear hv hR hl hz hk
  go_enter Tryd.func5, Tryd.ntmps5
  go_wp2_with fail
  refine (HV.out _ (Below.refl _ _)).mono ?_
  rintro e w1 ⟨rfl, hb1⟩
  have HB1 := Lib.hid hb1
  have R1 := Lib.hid (show Arow w1 B g n c (xs ++ [p] ++ [q] ++ ys) by have := HR.out.keep (hb1.block g HR.out.lt.2); rw [HZ.out] at this; exact this)
  have hg1 : g < w1.heap.size := R1.out.lt.2
  have HP := Lib.hid (fun (w' : World) (h : Below w1.heap.size w1 w') => (R1.out.keep (h.block g hg1)).pair HK.out)
  obtain ⟨off, hoff⟩ : ∃ off, off = if c = k + 2 then 0 else (k + 2) * 3 := ⟨_, rfl⟩
  obtain ⟨m, hm⟩ : ∃ m, m = n - (k + 2) := ⟨_, rfl⟩
  obtain ⟨cc, hcc⟩ : ∃ cc, cc = c - (k + 2) := ⟨_, rfl⟩
  have hs2 := aslice_low g n c (k + 2) ((k : Int) + 2) (by omega) (by omega)
  rw [← hoff, ← hm, ← hcc] at hs2
  have HO := Lib.hid hoff
  have HM := Lib.hid hm
  have hwr2 : IntKind.i64.wrap ((k : Int) + 2) = (k : Int) + 2 := IntWalk.i64_in _ (by omega)
  clear hoff hm hcc
  have hwr : IntKind.i64.wrap ((k : Int) + 1) = (k : Int) + 1 := IntWalk.i64_in _ (by omega)
  have BE := Lib.hid (show Below w1.heap.size w1 (w1.alloc (.cells #[] 35)) from (Below.refl _ _).alloc (Nat.le_refl _) _)
  have BEd := Lib.hid BE.out.drew
  have BPn := Lib.hid (fun o => show Below w1.heap.size w1 (w1.alloc o) from (Below.refl _ _).alloc (Nat.le_refl _) _)
  have BEP := Lib.hid (fun o => (Ea.two w1 o).bel)
  have BPE := Lib.hid (fun o => (Ea.late w1 o).bel)
  clear hb1
  go_wp2_with fail
  go_region_held_law (fun w' => w'.cell? ⟨g, k * 3, none⟩ = some (.string p.1) ∧ w'.cell? ⟨g, k * 3 + 1, none⟩ = some (.string p.2.1) ∧ w'.cell? ⟨g, k * 3 + 2, none⟩ = some (.string p.2.2) ∧
    w'.cell? ⟨g, (k + 1) * 3, none⟩ = some (.string q.1) ∧ w'.cell? ⟨g, (k + 1) * 3 + 1, none⟩ = some (.string q.2.1) ∧ w'.cell? ⟨g, (k + 1) * 3 + 2, none⟩ = some (.string q.2.2))
    ((first | exact HP.out _ (Below.refl _ _) | exact HP.out _ (Below.refl _ _).drew | exact HP.out _ BE.out | exact HP.out _ BEd.out | exact HP.out _ (BPn.out _) | exact HP.out _ (BPn.out _).drew | exact HP.out _ (BEP.out _) | exact HP.out _ (BEP.out _).drew | exact HP.out _ (BPE.out _) | exact HP.out _ (BPE.out _).drew | exact HP.out _ B7.out | exact HP.out _ (B7.out.alloc B7.out.size _) | exact HP.out _ B8.out))
    ((first
      | (refine step_append_asp (by rfl) (.tmp 12) (.tmp 15) (by rfl) (by rfl) (.slice (some ⟨w1.heap.size, 0, none⟩) 0 0) (.slice (some ⟨g, 0, none⟩) k c) (by first | (simp [Act.eval]; done) | (simp [Act.eval, Act.put]; done) | rfl) (by first | (simp [Act.eval]; done) | (simp [Act.eval, Act.put]; done) | rfl) k _ (first_asp (W := w1) (by first | exact (Ea.one _).drew | exact (Ea.two _ _).drew | exact Ea.one _ | exact Ea.two _ _) (us := [p] ++ [q] ++ ys) (by simpa using R1.out) HK.out.symm (by omega)) ?_
         intro g7 c7 w7 h7
         have A7 := Lib.hid h7.row
         have B7 := Lib.hid h7.bel
         have K7 := Lib.hid h7.keep
         clear h7)
      | (refine step_append_asp (by rfl) (.tmp 12) (.tmp 15) (by rfl) (by rfl) (.slice (some ⟨w1.heap.size + 1, 0, none⟩) 0 0) (.slice (some ⟨g, 0, none⟩) k c) (by first | (simp [Act.eval]; done) | (simp [Act.eval, Act.put]; done) | rfl) (by first | (simp [Act.eval]; done) | (simp [Act.eval, Act.put]; done) | rfl) k _ (first_asp (W := w1) (by first | exact (Ea.late _ _).drew | exact Ea.late _ _) (us := [p] ++ [q] ++ ys) (by simpa using R1.out) HK.out.symm (by omega)) ?_
         intro g7 c7 w7 h7
         have A7 := Lib.hid h7.row
         have B7 := Lib.hid h7.bel
         have K7 := Lib.hid h7.keep
         clear h7)
      | (refine step_append_asp (by rfl) (.tmp 16) (.tmp 26) (by rfl) (by rfl) (.slice (some ⟨g7, 0, none⟩) k c7) (.slice (some ⟨w7.heap.size, 0, none⟩) 2 2) (by first | (simp [Act.eval]; done) | (simp [Act.eval, Act.put]; done) | rfl) (by first | (simp [Act.eval]; done) | (simp [Act.eval, Act.put]; done) | rfl) (k + 2) _ (second_asp (W := w1) (q := q) (p := p) (A7.out.keep (alloc_heap _ _ A7.out.lt.2)) (twoC_new w7 q p) (B7.out.alloc B7.out.size _) (by omega)) ?_
         rintro g8 c8 w8 ⟨a8, b8⟩
         have A8 := Lib.hid a8
         have B8 := Lib.hid b8
         clear a8 b8)
      | (refine step_append_asp (by rfl) (.tmp 16) (.tmp 26) (by rfl) (by rfl) (.slice (some ⟨g7, 0, none⟩) k c7) (.slice (some ⟨w1.heap.size + 1, 0, none⟩) 2 2) (by first | (simp [Act.eval]; done) | (simp [Act.eval, Act.put]; done) | rfl) (by first | (simp [Act.eval]; done) | (simp [Act.eval, Act.put]; done) | rfl) (k + 2) _ (second_asp (W := w1) (q := q) (p := p) A7.out ((K7.out _ (by simp) (by simp)).trans (heap_second w1 _ q p)) B7.out (by omega)) ?_
         rintro g8 c8 w8 ⟨a8, b8⟩
         have A8 := Lib.hid a8
         have B8 := Lib.hid b8
         clear a8 b8)
      | (refine step_append_asp (by rfl) (.tmp 16) (.tmp 26) (by rfl) (by rfl) (.slice (some ⟨g7, 0, none⟩) k c7) (.slice (some ⟨w1.heap.size, 0, none⟩) 2 2) (by first | (simp [Act.eval]; done) | (simp [Act.eval, Act.put]; done) | rfl) (by first | (simp [Act.eval]; done) | (simp [Act.eval, Act.put]; done) | rfl) (k + 2) _ (second_asp (W := w1) (q := q) (p := p) A7.out ((K7.out _ (by simp; omega) (by omega)).trans (heap_first w1 q p _)) B7.out (by omega)) ?_
         rintro g8 c8 w8 ⟨a8, b8⟩
         have A8 := Lib.hid a8
         have B8 := Lib.hid b8
         clear a8 b8)))
  all_goals
    clear A7 B7 K7 hsl
    go_wp2_with (at_builtin; go_loud (refine list_append_asp rfl (.tmp 28) (.tmp 32) rfl rfl (.slice (some ⟨g8, 0, none⟩) (k + 2) c8) (.slice (some ⟨g, off, none⟩) m cc) rfl rfl n _ (third_asp R1.out (show Arow _ w1.heap.size g8 (k + 2) c8 (xs ++ [q, p]) from A8.out) HK.out HO.out HM.out (show Below w1.heap.size w1 _ by first | exact B8.out | exact B8.out.drew)) ?_); rintro g9 c9 w9 ⟨a9, b9⟩)
    have A9 := Lib.hid a9
    have B9 := Lib.hid b9
    clear a9 b9
    go_wp2_with fail
    go_ret2
    exact ⟨g9, c9, rfl, A9.out.mono HB1.out.size, HB1.out.trans (B9.out.mono HB1.out.size)⟩
end Go.Proofs.YtcahnffgpmanpaaDoor
