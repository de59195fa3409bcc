/- The law FnExactMergeAdvice answers true at every two aspects. Conditions: the errors lie where start-up laid them; the library's own number can be read. -/
import Derived.Test.YthkokokeppoieaaGreatDoorMgi
import Derived.Test.YthkokokeppoieaaGreatDoorAsz
import Derived.Test.YthkokokeppoieaaGreatDoorEqa
namespace Go.Proofs.YthkokokeppoieaaGreatDoor
open Go.RowKit Gram

/-- the two results -/
theorem parV_mg (o : Option (ByteArray × ByteArray × ByteArray)) : ∃ k c b t, parV o = .tuple #[aspV k c b, .bool t] := by
  cases o with
  | none => exact ⟨_, _, _, _, rfl⟩
  | some p => obtain ⟨k, c, b⟩ := p; exact ⟨_, _, _, _, rfl⟩

set_option maxHeartbeats 1000000 in
theorem szl_fits (k n s : ByteArray) (L : Nat) (w : World) (hL : L ≤ 1048576) (h : k.size + n.size + s.size ≤ L) :
    Calls Tryz.prog 12 #[aspV k n s, .int .i64 L] w fun e w' => e = .returned (.int .i64 ((L - (k.size + n.size + s.size) : Nat) : Int)) ∧ Below w.heap.size w w' := by
  unfold aspV
  go_enter Tryz.func12, Tryz.ntmps12
  go_wp2_with fail
  go_ret
  exact ⟨ret_int (by omega), (Below.refl _ _).alloc (Nat.le_refl _) _⟩
set_option maxHeartbeats 1000000 in
theorem szl_over (k n s : ByteArray) (L : Nat) (w : World) (hL : L ≤ 1048576) (hk : k.size ≤ maxLen) (hn : n.size ≤ maxLen) (hs : s.size ≤ maxLen) (h : L < k.size + n.size + s.size) :
    Calls Tryz.prog 12 #[aspV k n s, .int .i64 L] w fun e w' => e = .returned (.int .i64 (-1)) ∧ Below w.heap.size w w' := by
  unfold aspV
  unfold maxLen at hk hn hs
  by_cases h1 : L < k.size
  · go_enter Tryz.func12, Tryz.ntmps12
    go_wp2_with fail
    go_ret
    exact ⟨rfl, (Below.refl _ _).alloc (Nat.le_refl _) _⟩
  · by_cases h2 : L < k.size + n.size
    · go_enter Tryz.func12, Tryz.ntmps12
      go_wp2_with fail
      go_ret
      exact ⟨rfl, (Below.refl _ _).alloc (Nat.le_refl _) _⟩
    · go_enter Tryz.func12, Tryz.ntmps12
      go_wp2_with fail
      go_ret
      exact ⟨rfl, (Below.refl _ _).alloc (Nat.le_refl _) _⟩

/-- an argument of the law in a block of its own -/
def Arg3 (w : World) (B : Nat) (k c b : ByteArray) : Prop := w.heap[B]? = some (.cells #[.string k, .string c, .string b] 32 (0, 0))
theorem Arg3.read {w : World} {B : Nat} {k c b : ByteArray} (h : Arg3 w B k c b) : w.cell? ⟨B, 0, none⟩ = some (.string k) ∧ w.cell? ⟨B, 1, none⟩ = some (.string c) ∧ w.cell? ⟨B, 2, none⟩ = some (.string b) := by
  refine ⟨?_, ?_, ?_⟩
  all_goals (rw [Lib.cell_of_heap h]; rfl)
theorem Arg3.later {w w' : World} {B : Nat} {k c b : ByteArray} (h : Arg3 w B k c b) (hb : Below w.heap.size w w') : Arg3 w' B k c b := (hb.block _ (heap_lt h)).trans h
theorem Arg3.new (w : World) (k c b : ByteArray) : Arg3 (w.alloc (.cells #[.string k, .string c, .string b] 32)) w.heap.size k c b := heap_alloc_new _ _

set_option maxHeartbeats 2000000 in
set_option maxRecDepth 100000 in
theorem mgl_over1 (k c b k' c' b' : ByteArray) (w : World) (hk : k.size ≤ maxLen) (hn : c.size ≤ maxLen) (hs : b.size ≤ maxLen) (h : 1048576 < k.size + c.size + b.size) :
    Calls Tryz.prog 4 #[aspV k c b, aspV k' c' b'] w fun e w' => e = .returned (.bool true) ∧ Below w.heap.size w w' := by
  have HZ := Lib.hid (fun w => szl_over k c b 1048576 w (Nat.le_refl _) hk hn hs h)
  unfold aspV at *
  clear hk hn hs h
  go_enter Tryz.func4, Tryz.ntmps4
  go_wp2_with fail
  refine (HZ.out _).mono ?_
  rintro e w2 ⟨rfl, hb2⟩
  have HB := Lib.hid ((((Below.refl _ w).alloc (Nat.le_refl _) _).alloc (by simp) _).trans (hb2.mono (by simp; omega)))
  clear hb2
  go_wp2_with fail
  go_ret
  exact ⟨rfl, HB.out⟩

/-- the six cells -/
abbrev M6 (wz : World) (X Y : Nat) (k c b k' c' b' : ByteArray) (w' : World) : Prop :=
  w'.cell? ⟨X, 0, none⟩ = some (.string k) ∧ w'.cell? ⟨X, 1, none⟩ = some (.string c) ∧ w'.cell? ⟨X, 2, none⟩ = some (.string b) ∧ w'.cell? ⟨Y, 0, none⟩ = some (.string k') ∧ w'.cell? ⟨Y, 1, none⟩ = some (.string c') ∧ w'.cell? ⟨Y, 2, none⟩ = some (.string b') ∧ Below wz.heap.size wz w'
theorem m6_below {wz : World} {X Y : Nat} {k c b k' c' b' : ByteArray} {w' : World} (h : M6 wz X Y k c b k' c' b' w') : Below wz.heap.size wz w' := h.2.2.2.2.2.2
theorem m6_of {wz : World} {X Y : Nat} {k c b k' c' b' : ByteArray} {w' : World} (h : M6 wz X Y k c b k' c' b' wz) (hb : Below wz.heap.size wz w') : M6 wz X Y k c b k' c' b' w' :=
  ⟨cell_later hb h.1, cell_later hb h.2.1, cell_later hb h.2.2.1, cell_later hb h.2.2.2.1, cell_later hb h.2.2.2.2.1, cell_later hb h.2.2.2.2.2.1, hb⟩
theorem m6_later {wz : World} {X Y : Nat} {k c b k' c' b' : ByteArray} {w1 w2 : World} (h0 : M6 wz X Y k c b k' c' b' wz) (h : M6 wz X Y k c b k' c' b' w1) (hb : Below w1.heap.size w1 w2) : M6 wz X Y k c b k' c' b' w2 :=
  m6_of h0 ((m6_below h).trans (hb.mono (m6_below h).size))
theorem m6_alloc {wz : World} {X Y : Nat} {k c b k' c' b' : ByteArray} {w1 : World} (h0 : M6 wz X Y k c b k' c' b' wz) (o : Obj) (h : M6 wz X Y k c b k' c' b' w1) : M6 wz X Y k c b k' c' b' (w1.alloc o) :=
  m6_later h0 h ((Below.refl _ _).alloc (Nat.le_refl _) o)
theorem m6_alloc_drew {wz : World} {X Y : Nat} {k c b k' c' b' : ByteArray} {w1 : World} (h0 : M6 wz X Y k c b k' c' b' wz) (o : Obj) (h : M6 wz X Y k c b k' c' b' w1.drew) : M6 wz X Y k c b k' c' b' (w1.alloc o).drew :=
  m6_of h0 ((m6_below h).trans (((show Below w1.drew.heap.size w1.drew (w1.drew.alloc o) from (Below.refl _ _).alloc (Nat.le_refl _) o).mono (m6_below h).size)))
theorem m6_put {wz : World} {X Y : Nat} {k c b k' c' b' : ByteArray} {w2 : World} {B : Nat} (h0 : M6 wz X Y k c b k' c' b' wz) (hz : Za wz w2 B) (p q r : Value) (h : M6 wz X Y k c b k' c' b' w2) : M6 wz X Y k c b k' c' b' (((w2.setCell ⟨B, 0, none⟩ p).setCell ⟨B, 1, none⟩ q).setCell ⟨B, 2, none⟩ r) :=
  m6_of h0 ((((m6_below h).setCell (by simpa using hz.2) p).setCell (by simpa using hz.2) q).setCell (by simpa using hz.2) r)
theorem m6_swap {wz W : World} {X Y : Nat} {k c b k' c' b' : ByteArray} (h0 : M6 wz X Y k c b k' c' b' wz) (hle : wz.heap.size ≤ W.heap.size) (P D R : Value) (h : M6 wz X Y k c b k' c' b' (W.alloc zeroA)) : M6 wz X Y k c b k' c' b' (W.alloc (.cells #[P, D, R] 34)) := by
  have h4 := m6_below h
  refine m6_of h0 ⟨h4.os, h4.tape, h4.output, by rw [alloc_size']; omega, fun j hj => ?_⟩
  rw [← h4.block j hj, alloc_heap _ j (by omega), alloc_heap _ j (by omega)]
theorem za_at {wz W w' : World} (hle : wz.heap.size ≤ W.heap.size) (hb : Below (W.alloc zeroA).heap.size (W.alloc zeroA) w') : Za wz w' W.heap.size :=
  ⟨(Cell3.new W _ _ _).later hb, hle⟩
theorem le_call {wz U w' : World} (h : Below wz.heap.size wz U) (hb : Below U.heap.size U w') : wz.heap.size ≤ w'.heap.size := Nat.le_trans h.size hb.size

set_option maxHeartbeats 20000000 in
set_option maxRecDepth 100000 in
theorem mgl_fits (k c b k' c' b' : ByteArray) (w : World) (h : k.size + c.size + b.size + (k'.size + c'.size + b'.size) ≤ 1048576) (hm : MaxCell w) (ek ec eb el ep : Addr) (he : Errs w ek ec eb el ep) :
    Calls Tryz.prog 4 #[aspV k c b, aspV k' c' b'] w fun e w' => e = .returned (.bool true) ∧ Below w.heap.size w w' := by
  have HZ := Lib.hid (fun w => szl_fits k c b 1048576 w (Nat.le_refl _) (by omega))
  have HZ' := Lib.hid (fun w => szl_fits k' c' b' (1048576 - (k.size + c.size + b.size)) w (by omega) (by omega))
  have HT := Lib.hid to_any
  have HI := Lib.hid (fun w' (hw : Below w.heap.size w w') => impl_mg k c b k' c' b' w' ek ec eb el ep (he.later hw) (hm.later hw) (by omega) (by omega) (by omega) (by omega))
  have HS := Lib.hid (fun w => spec_mg k c b k' c' b' w h)
  have HE := Lib.hid eqasp_same
  obtain ⟨K, C, B, t, hp⟩ := parV_mg (mgA k c b k' c' b')
  rw [hp] at HI HS
  generalize hr1 : 1048576 - (k.size + c.size + b.size) = r1 at *
  have hr1' : r1 ≤ 1048576 := by omega
  generalize hr2 : r1 - (k'.size + c'.size + b'.size) = r2 at *
  have hr2' : r2 ≤ 1048576 := by omega
  obtain ⟨w2, hw2⟩ : ∃ w2, w2 = ((w.alloc (.cells #[.string k, .string c, .string b] 32)).alloc (.cells #[.string k', .string c', .string b'] 32)) := ⟨_, rfl⟩
  have Z1 : (w.alloc (.cells #[.string k, .string c, .string b] 32)).heap.size = w.heap.size + 1 := alloc_size' _ _
  have up : ∀ (w0 : World) (o : Obj), Below w0.heap.size w0 (w0.alloc o) := fun w0 o => (Below.refl _ _).alloc (Nat.le_refl _) _
  have HX2 := Lib.hid (show Arg3 w2 w.heap.size k c b by rw [hw2]; exact (Arg3.new _ _ _ _).later (up _ _))
  have HY2 := Lib.hid (show Arg3 w2 (w.heap.size + 1) k' c' b' by rw [hw2, ← Z1]; exact Arg3.new _ _ _ _)
  have HW2 := Lib.hid (show Below w.heap.size w w2 by rw [hw2]; exact ((Below.refl _ w).alloc (Nat.le_refl _) _).alloc (by simp) _)
  have HE2 := Lib.hid hw2
  unfold aspV at *
  clear h he hp hm hr1 hr2 Z1 up hw2
  go_enter Tryz.func4, Tryz.ntmps4
  go_wp2_with fail
  rw [← HE2.out]
  refine (HZ.out _).mono ?_
  rintro e w3 ⟨rfl, hb3⟩
  have HX3 := Lib.hid (HX2.out.later hb3)
  have HY3 := Lib.hid (HY2.out.later hb3)
  have HW3 := Lib.hid (HW2.out.trans (hb3.mono HW2.out.size))
  clear hb3
  obtain ⟨y0, y1, y2⟩ := HY3.out.read
  go_wp2_with fail
  refine (HZ'.out _).mono ?_
  rintro e w4 ⟨rfl, hb4⟩
  clear y0 y1 y2
  have HX4 := Lib.hid (HX3.out.later hb4)
  have HY4 := Lib.hid (HY3.out.later hb4)
  have HW4 := Lib.hid (HW3.out.trans (hb4.mono HW3.out.size))
  clear hb4
  go_wp2_with fail
  rename_i Kk hKk
  have hTail : ∀ (wf : World) (B0 : Nat) (v5 v8 v9 v10 v11 v12 v13 v14 v15 v16 v17 v18 v19 v20 v21 v22 v23 v24 v25 v26 v27 v28 v29 v30 v31 v32 v33 v34 v35 v36 v37 v38 v39 v40 v41 v42 v43 v44 : Value), Below w4.heap.size w4 wf → Cell3 wf B0 (.string K) (.string C) (.string B) → Kk ({ tmps := #[.agg #[.string k, .string c, .string b], .agg #[.string k', .string c', .string b'], .pointer (some ⟨w.heap.size, 0, none⟩), .pointer (some ⟨w.heap.size + 1, 0, none⟩), .bool false, v5, .pointer (some ⟨B0, 0, none⟩), .bool t, v8, v9, v10, v11, v12, v13, v14, v15, v16, v17, v18, v19, v20, v21, v22, v23, v24, v25, v26, v27, v28, v29, v30, v31, v32, v33, v34, v35, v36, v37, v38, v39, v40, v41, v42, v43, v44], defers := [] } : Act) wf := by
    intro wf B0 v5 v8 v9 v10 v11 v12 v13 v14 v15 v16 v17 v18 v19 v20 v21 v22 v23 v24 v25 v26 v27 v28 v29 v30 v31 v32 v33 v34 v35 v36 v37 v38 v39 v40 v41 v42 v43 v44 hbf hcf
    refine hKk _ _ ?_
    have HXZ := Lib.hid (HX4.out.later hbf)
    have HYZ := Lib.hid (HY4.out.later hbf)
    have HWZ := Lib.hid (HW4.out.trans (hbf.mono HW4.out.size))
    have HCF := Lib.hid hcf
    clear hbf hcf hKk
    go_wp2_with fail
    have HM6 := Lib.hid (show M6 wf w.heap.size (w.heap.size + 1) k c b k' c' b' wf from ⟨HXZ.out.read.1, HXZ.out.read.2.1, HXZ.out.read.2.2, HYZ.out.read.1, HYZ.out.read.2.1, HYZ.out.read.2.2, Below.refl _ _⟩)
    have HBl := Lib.hid (fun w' (h : M6 wf w.heap.size (w.heap.size + 1) k c b k' c' b' w') => m6_below h)
    have n0 := fun w x y z => (Cell3.new w x y z).read.1
    have n1 := fun w x y z => (Cell3.new w x y z).read.2.1
    have n2 := fun w x y z => (Cell3.new w x y z).read.2.2.1
    have n3 := fun w x y z => (Cell3.new w x y z).read.2.2.2.1
    have n4 := fun w x y z => (Cell3.new w x y z).read.2.2.2.2.1
    have n5 := fun w x y z => (Cell3.new w x y z).read.2.2.2.2.2
    go_region_held3 (fun w' => w'.cell? ⟨w.heap.size, 0, none⟩ = some (.string k) ∧ w'.cell? ⟨w.heap.size, 1, none⟩ = some (.string c) ∧ w'.cell? ⟨w.heap.size, 2, none⟩ = some (.string b) ∧ w'.cell? ⟨w.heap.size + 1, 0, none⟩ = some (.string k') ∧ w'.cell? ⟨w.heap.size + 1, 1, none⟩ = some (.string c') ∧ w'.cell? ⟨w.heap.size + 1, 2, none⟩ = some (.string b') ∧ Below wf.heap.size wf w')
      ((first | assumption | exact m6_of HM6.out (Below.refl _ _).drew | (apply m6_later HM6.out; assumption; assumption) | (refine m6_alloc HM6.out _ ?_; assumption) | (refine m6_alloc_drew HM6.out _ ?_; assumption) | (refine m6_put HM6.out Z7.out _ _ _ ?_; assumption) | (refine m6_swap HM6.out L7.out _ _ _ ?_; assumption) | (refine m6_put HM6.out ⟨Cell3.new _ _ _ _, L7.out⟩ _ _ _ ?_; assumption)))
      ((first
      | (go_at_call 14; refine (HT.out _ _ _ _).mono ?_
         rintro e w5 ⟨rfl, hb5⟩
         (first | have Z7 := Lib.hid (Z7.out.later hb5) | have Z7 := Lib.hid (za_first hb5) | have Z7 := Lib.hid (za_at L7.out hb5) | skip)
         (have L7 := Lib.hid (le_call (HBl.out _ (by assumption)) hb5)))
      | (go_at_call 15; refine (HI.out _ (HWZ.out.trans ((HBl.out _ (by assumption)).mono HWZ.out.size))).mono ?_
         rintro e w6 ⟨rfl, hb6⟩
         (first | have Z7 := Lib.hid (Z7.out.later hb6) | have Z7 := Lib.hid (za_first hb6) | have Z7 := Lib.hid (za_at L7.out hb6) | skip)
         (have L7 := Lib.hid (le_call (HBl.out _ (by assumption)) hb6))
         (try obtain ⟨m0, m1, m2, m3, m4, m5⟩ := Z7.out.1.read))))
    all_goals
      have HBg := Lib.hid (HWZ.out.trans ((HBl.out _ (by assumption)).mono HWZ.out.size))
      have HG := Lib.hid (HCF.out.later (HBl.out _ (by assumption)))
      clear n0 n1 n2 n3 n4 n5
      first
      | (have HF := Lib.hid (Z7.out.1.put (.string K) (.string C) (.string B))
         clear m0 m1 m2 m3 m4 m5
         generalize ((w6.setCell _ _).setCell _ _).setCell _ _ = wg at *)
      | (have HF := Lib.hid (Cell3.new w6 (.string K) (.string C) (.string B))
         generalize w6.alloc _ = wg at *)
      obtain ⟨f0, f1, f2, _⟩ := HF.out.read
      obtain ⟨g0, g1, g2, _⟩ := HG.out.read
      go_wp2_with fail
      refine (HE.out _ _ _ _).mono ?_
      rintro e w9 ⟨rfl, hb9⟩
      have HB9 := Lib.hid (HBg.out.trans (hb9.mono HBg.out.size))
      clear hb9
      go_wp2_with fail
      go_ret
      exact ⟨rfl, HB9.out⟩
  have HTl := Lib.hid hTail
  clear hTail hKk
  have HM6 := Lib.hid (show M6 w4 w.heap.size (w.heap.size + 1) k c b k' c' b' w4 from ⟨HX4.out.read.1, HX4.out.read.2.1, HX4.out.read.2.2, HY4.out.read.1, HY4.out.read.2.1, HY4.out.read.2.2, Below.refl _ _⟩)
  have HBl := Lib.hid (fun w' (h : M6 w4 w.heap.size (w.heap.size + 1) k c b k' c' b' w') => m6_below h)
  have n0 := fun w x y z => (Cell3.new w x y z).read.1
  have n1 := fun w x y z => (Cell3.new w x y z).read.2.1
  have n2 := fun w x y z => (Cell3.new w x y z).read.2.2.1
  have n3 := fun w x y z => (Cell3.new w x y z).read.2.2.2.1
  have n4 := fun w x y z => (Cell3.new w x y z).read.2.2.2.2.1
  have n5 := fun w x y z => (Cell3.new w x y z).read.2.2.2.2.2
  go_region_held3 (fun w' => w'.cell? ⟨w.heap.size, 0, none⟩ = some (.string k) ∧ w'.cell? ⟨w.heap.size, 1, none⟩ = some (.string c) ∧ w'.cell? ⟨w.heap.size, 2, none⟩ = some (.string b) ∧ w'.cell? ⟨w.heap.size + 1, 0, none⟩ = some (.string k') ∧ w'.cell? ⟨w.heap.size + 1, 1, none⟩ = some (.string c') ∧ w'.cell? ⟨w.heap.size + 1, 2, none⟩ = some (.string b') ∧ Below w4.heap.size w4 w')
    ((first | assumption | exact m6_of HM6.out (Below.refl _ _).drew | (apply m6_later HM6.out; assumption; assumption) | (refine m6_alloc HM6.out _ ?_; assumption) | (refine m6_alloc_drew HM6.out _ ?_; assumption) | (refine m6_put HM6.out Z7.out _ _ _ ?_; assumption) | (refine m6_swap HM6.out L7.out _ _ _ ?_; assumption) | (refine m6_put HM6.out ⟨Cell3.new _ _ _ _, L7.out⟩ _ _ _ ?_; assumption)))
    ((first
    | (go_at_call 14; refine (HT.out _ _ _ _).mono ?_
       rintro e w5 ⟨rfl, hb5⟩
       (first | have Z7 := Lib.hid (Z7.out.later hb5) | have Z7 := Lib.hid (za_first hb5) | have Z7 := Lib.hid (za_at L7.out hb5) | skip)
       (have L7 := Lib.hid (le_call (HBl.out _ (by assumption)) hb5)))
    | (go_at_call 13; refine (HS.out _).mono ?_
       rintro e w6 ⟨rfl, hb6⟩
       (first | have Z7 := Lib.hid (Z7.out.later hb6) | have Z7 := Lib.hid (za_first hb6) | have Z7 := Lib.hid (za_at L7.out hb6) | skip)
       (have L7 := Lib.hid (le_call (HBl.out _ (by assumption)) hb6))
       (try obtain ⟨m0, m1, m2, m3, m4, m5⟩ := Z7.out.1.read))))
  all_goals
    first
    | exact HTl.out _ _ _ _ _ _ _ _ _ _ _ _ _ _ _ _ _ _ _ _ _ _ _ _ _ _ _ _ _ _ _ _ _ _ _ _ _ _ _ _ (HBl.out _ (by assumption)) (Z7.out.1.put (.string K) (.string C) (.string B))
    | exact HTl.out _ _ _ _ _ _ _ _ _ _ _ _ _ _ _ _ _ _ _ _ _ _ _ _ _ _ _ _ _ _ _ _ _ _ _ _ _ _ _ _ (HBl.out _ (by assumption)) (Cell3.new w6 (.string K) (.string C) (.string B))

theorem mgl_over2 (k c b k' c' b' : ByteArray) (w : World) (h1 : k.size + c.size + b.size ≤ 1048576) (hk : k'.size ≤ maxLen) (hn : c'.size ≤ maxLen) (hs : b'.size ≤ maxLen) (h : 1048576 < k.size + c.size + b.size + (k'.size + c'.size + b'.size)) :
    Calls Tryz.prog 4 #[aspV k c b, aspV k' c' b'] w fun e w' => e = .returned (.bool true) ∧ Below w.heap.size w w' := by
  have HZ := Lib.hid (fun w => szl_fits k c b 1048576 w (Nat.le_refl _) h1)
  have HZ' := Lib.hid (fun w => szl_over k' c' b' (1048576 - (k.size + c.size + b.size)) w (by omega) hk hn hs (by omega))
  generalize hr1 : 1048576 - (k.size + c.size + b.size) = r1 at *
  have hr1' : r1 ≤ 1048576 := by omega
  obtain ⟨w2, hw2⟩ : ∃ w2, w2 = ((w.alloc (.cells #[.string k, .string c, .string b] 32)).alloc (.cells #[.string k', .string c', .string b'] 32)) := ⟨_, rfl⟩
  have Z1 : (w.alloc (.cells #[.string k, .string c, .string b] 32)).heap.size = w.heap.size + 1 := alloc_size' _ _
  have HY2 := Lib.hid (show Arg3 w2 (w.heap.size + 1) k' c' b' by rw [hw2, ← Z1]; exact Arg3.new _ _ _ _)
  have HW2 := Lib.hid (show Below w.heap.size w w2 by rw [hw2]; exact ((Below.refl _ w).alloc (Nat.le_refl _) _).alloc (by simp) _)
  have HE2 := Lib.hid hw2
  unfold aspV at *
  clear h h1 hk hn hs hr1 Z1 hw2
  go_enter Tryz.func4, Tryz.ntmps4
  go_wp2_with fail
  rw [← HE2.out]
  refine (HZ.out _).mono ?_
  rintro e w3 ⟨rfl, hb3⟩
  have HY3 := Lib.hid (HY2.out.later hb3)
  have HW3 := Lib.hid (HW2.out.trans (hb3.mono HW2.out.size))
  clear hb3
  obtain ⟨y0, y1, y2⟩ := HY3.out.read
  go_wp2_with fail
  refine (HZ'.out _).mono ?_
  rintro e w4 ⟨rfl, hb4⟩
  have HW4 := Lib.hid (HW3.out.trans (hb4.mono HW3.out.size))
  clear hb4
  go_wp2_with fail
  go_ret
  exact ⟨rfl, HW4.out⟩

theorem mgl_any (k c b k' c' b' : ByteArray) (w : World) (hk : k.size ≤ maxLen) (hc : c.size ≤ maxLen) (hb : b.size ≤ maxLen) (hk' : k'.size ≤ maxLen) (hc' : c'.size ≤ maxLen) (hb' : b'.size ≤ maxLen) (hm : MaxCell w) (ek ec eb el ep : Addr) (he : Errs w ek ec eb el ep) :
    Calls Tryz.prog 4 #[aspV k c b, aspV k' c' b'] w fun e w' => e = .returned (.bool true) ∧ Below w.heap.size w w' := by
  by_cases h : k.size + c.size + b.size + (k'.size + c'.size + b'.size) ≤ 1048576
  · exact mgl_fits k c b k' c' b' w h hm ek ec eb el ep he
  · by_cases h1 : k.size + c.size + b.size ≤ 1048576
    · exact mgl_over2 k c b k' c' b' w h1 hk' hc' hb' (by omega)
    · exact mgl_over1 k c b k' c' b' w hk hc hb (by omega)
end Go.Proofs.YthkokokeppoieaaGreatDoor
