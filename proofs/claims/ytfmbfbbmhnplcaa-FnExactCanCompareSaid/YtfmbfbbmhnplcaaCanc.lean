/- CanCompare of the program and of the model; the law FnExactCanCompare answers true at every two texts. No condition. -/
import Derived.Test.YtfmbfbbmhnplcaaCnam
namespace Go.Proofs.Ytfmbfbbmhnplcaa
open Go.RowKit Gram

/-- whether two texts are cuts that can be compared -/
def canP (a b : ByteArray) : Bool := match cutOf a, cutOf b with
  | some x, some y => decide ((setText (behind [67, 87, 70] (.two 38 x y))).length ≤ 5)
  | _, _ => false
theorem canP_no {a b : ByteArray} (h : cutOf a = none ∨ cutOf b = none) : canP a b = false := by
  unfold canP
  rcases h with h | h
  · rw [h]
  · rw [h]; cases cutOf a <;> rfl

/-- a pair of cuts in a block of its own -/
structure CAt (w : World) (g : Nat) (n : Int) (x y : Value) : Prop where
  own : w.heap[g]? = some (Obj.cells #[.int .u8 n, x, y] 31 (0, 0))
theorem CAt.read {w : World} {g : Nat} {n : Int} {x y : Value} (h : CAt w g n x y) : w.cell? ⟨g, 0, none⟩ = some (.int .u8 n) ∧ w.cell? ⟨g, 1, none⟩ = some x ∧ w.cell? ⟨g, 2, none⟩ = some y ∧ w.frozen? ⟨g, 0, none⟩ = false ∧ w.frozen? ⟨g, 1, none⟩ = false ∧ w.frozen? ⟨g, 2, none⟩ = false :=
  ⟨Lib.cell_of_heap h.own 0, Lib.cell_of_heap h.own 1, Lib.cell_of_heap h.own 2, Lib.frozen_of_heap h.own 0, Lib.frozen_of_heap h.own 1, Lib.frozen_of_heap h.own 2⟩
theorem CAt.put {w : World} {g : Nat} {n : Int} {x y : Value} (h : CAt w g n x y) (n' : Int) (x' y' : Value) : CAt (((w.setCell ⟨g, 0, none⟩ (.int .u8 n')).setCell ⟨g, 1, none⟩ x').setCell ⟨g, 2, none⟩ y') g n' x' y' :=
  ⟨by rw [heap_set_same (heap_set_same (heap_set_same h.own _) _) _]; rfl⟩
theorem CAt.later {w w' : World} {g : Nat} {n : Int} {x y : Value} (h : CAt w g n x y) (hb : Below w.heap.size w w') : CAt w' g n x y := ⟨by rw [hb.block g (heap_lt h.own)]; exact h.own⟩
theorem cput_below {w w1 : World} (hb : Below w.heap.size w w1) (n : Int) (x y : Value) : Below w.heap.size w (((w1.setCell ⟨w.heap.size, 0, none⟩ (.int .u8 n)).setCell ⟨w.heap.size, 1, none⟩ x).setCell ⟨w.heap.size, 2, none⟩ y) :=
  ((hb.setCell (p := ⟨w.heap.size, 0, none⟩) (Nat.le_refl _) _).setCell (p := ⟨w.heap.size, 1, none⟩) (Nat.le_refl _) _).setCell (p := ⟨w.heap.size, 2, none⟩) (Nat.le_refl _) _

/-- what readBoth hands back -/
def BothTo (a b : ByteArray) (w : World) (e : Ending) (w' : World) : Prop := (e = .returned (.tuple #[.agg #[.int .u8 0, .nilIface, .nilIface], .bool (canP a b)]) ∨ ∃ tx ax ty ay, e = .returned (.tuple #[.agg #[.int .u8 38, .iface tx ax, .iface ty ay], .bool (canP a b)])) ∧ Below w.heap.size w w'

set_option maxHeartbeats 1000000 in
set_option maxRecDepth 100000 in
theorem both_any (a b : ByteArray) (w : World) (ha : a.size ≤ 1073741824) (hb : b.size ≤ 1073741824) :
    Calls Try.prog 14 #[.string a, .string b] w (BothTo a b w) := by
  have hba : Below w.heap.size w (w.alloc (Obj.cells #[.int .u8 0, .nilIface, .nilIface] 31)) := (Below.refl _ _).alloc (Nat.le_refl _) _
  have H0 := Lib.hid (⟨hba, ⟨heap_alloc_new w _⟩⟩ : Below w.heap.size w _ ∧ CAt (w.alloc (Obj.cells #[.int .u8 0, .nilIface, .nilIface] 31)) w.heap.size 0 .nilIface .nilIface)
  have HA := Lib.hid (fun w => read_cut a w ha)
  have HB := Lib.hid (fun w => read_cut b w hb)
  unfold ReadC at HA HB
  clear ha hb hba
  cases hca : cutOf a with
  | none =>
    have HN := Lib.hid (canP_no (b := b) (.inl hca))
    rw [hca] at HA
    cases hcb : cutOf b with
    | none =>
      rw [hcb] at HB
      go_enter Try.func14, Try.ntmps14
      go_wp2_with fail
      refine (HA.out _).mono ?_
      rintro e w1 ⟨rfl, hb1⟩
      have H1 := Lib.hid (⟨H0.out.1.trans (hb1.mono H0.out.1.size), H0.out.2.later hb1⟩ : _ ∧ _)
      clear hb1
      go_wp2_with fail
      refine (HB.out _).mono ?_
      rintro e w2 ⟨rfl, hb2⟩
      have H2 := Lib.hid (⟨H1.out.1.trans (hb2.mono H1.out.1.size), H1.out.2.later hb2⟩ : _ ∧ _)
      obtain ⟨_, _, _, f0, f1, f2⟩ := H2.out.2.read
      clear hb2
      go_wp2_with fail
      obtain ⟨r0, r1, r2, _⟩ := (H2.out.2.put 0 .nilIface .nilIface).read
      refine bodyPost_ret (v := .tuple #[.agg #[.int .u8 0, .nilIface, .nilIface], .bool false]) ?_ rfl ⟨.inl (by rw [HN.out]), cput_below H2.out.1 0 .nilIface .nilIface⟩
      simp [results, Try.results14, go_sem, r0, r1, r2]
    | some y =>
      rw [hcb] at HB
      go_enter Try.func14, Try.ntmps14
      go_wp2_with fail
      refine (HA.out _).mono ?_
      rintro e w1 ⟨rfl, hb1⟩
      have H1 := Lib.hid (⟨H0.out.1.trans (hb1.mono H0.out.1.size), H0.out.2.later hb1⟩ : _ ∧ _)
      clear hb1
      go_wp2_with fail
      refine (HB.out _).mono ?_
      rintro e w2 ⟨rfl, hb2⟩
      have H2 := Lib.hid (⟨H1.out.1.trans (hb2.mono H1.out.1.size), H1.out.2.later hb2⟩ : _ ∧ _)
      obtain ⟨_, _, _, f0, f1, f2⟩ := H2.out.2.read
      clear hb2
      unfold Ct.val
      generalize y.arg = ya at *
      go_wp2_with fail
      obtain ⟨r0, r1, r2, _⟩ := (H2.out.2.put 0 .nilIface .nilIface).read
      refine bodyPost_ret (v := .tuple #[.agg #[.int .u8 0, .nilIface, .nilIface], .bool false]) ?_ rfl ⟨.inl (by rw [HN.out]), cput_below H2.out.1 0 .nilIface .nilIface⟩
      simp [results, Try.results14, go_sem, r0, r1, r2]
  | some x =>
    rw [hca] at HA
    cases hcb : cutOf b with
    | none =>
      have HN := Lib.hid (canP_no (a := a) (.inr hcb))
      rw [hcb] at HB
      go_enter Try.func14, Try.ntmps14
      go_wp2_with fail
      refine (HA.out _).mono ?_
      rintro e w1 ⟨rfl, hb1⟩
      have H1 := Lib.hid (⟨H0.out.1.trans (hb1.mono H0.out.1.size), H0.out.2.later hb1⟩ : _ ∧ _)
      clear hb1
      unfold Ct.val
      generalize x.arg = xa at *
      go_wp2_with fail
      refine (HB.out _).mono ?_
      rintro e w2 ⟨rfl, hb2⟩
      have H2 := Lib.hid (⟨H1.out.1.trans (hb2.mono H1.out.1.size), H1.out.2.later hb2⟩ : _ ∧ _)
      obtain ⟨_, _, _, f0, f1, f2⟩ := H2.out.2.read
      clear hb2
      go_wp2_with fail
      obtain ⟨r0, r1, r2, _⟩ := (H2.out.2.put 0 .nilIface .nilIface).read
      refine bodyPost_ret (v := .tuple #[.agg #[.int .u8 0, .nilIface, .nilIface], .bool false]) ?_ rfl ⟨.inl (by rw [HN.out]), cput_below H2.out.1 0 .nilIface .nilIface⟩
      simp [results, Try.results14, go_sem, r0, r1, r2]
    | some y =>
      rw [hcb] at HB
      have HC := Lib.hid (show canP a b = decide ((setText (behind [67, 87, 70] (.two 38 x y))).length ≤ 5) by unfold canP; rw [hca, hcb])
      obtain ⟨_, _, wx, _⟩ := cutOf_some hca
      obtain ⟨_, _, wy, _⟩ := cutOf_some hcb
      have hw : (Ct.two 38 x y).wf = true := by simp [Ct.wf, isAO, wx, wy]
      have HN := Lib.hid (names_behind (.two 38 x y) ⟨#[67, 87, 70]⟩ hw)
      have HX := Lib.hid (text_set _ (behind_lets [67, 87, 70] (.two 38 x y) hw))
      change Hid (∀ w, Calls _ _ _ _ fun e w' => e = .returned (.int .u32 ((setOf (behind [67, 87, 70] (.two 38 x y)) : Nat) : Int)) ∧ _) at HN
      change Hid (∀ w, Calls _ _ _ _ fun e w' => e = .returned (.string (txtOf (setText (behind [67, 87, 70] (.two 38 x y))))) ∧ _) at HX
      change Hid (∀ w, Calls _ _ #[.iface 31 (.agg #[.int .u8 38, x.val, y.val]), .string _] _ _) at HN
      have hsz : (txtOf (setText (behind [67, 87, 70] (.two 38 x y)))).size = (setText (behind [67, 87, 70] (.two 38 x y))).length := txtOf_size _
      rw [← hsz] at HC
      clear hw wx wy hsz hca hcb
      generalize setOf (behind [67, 87, 70] (.two 38 x y)) = m at *
      generalize txtOf (setText (behind [67, 87, 70] (.two 38 x y))) = t at *
      go_enter Try.func14, Try.ntmps14
      go_wp2_with fail
      refine (HA.out _).mono ?_
      rintro e w1 ⟨rfl, hb1⟩
      have H1 := Lib.hid (⟨H0.out.1.trans (hb1.mono H0.out.1.size), H0.out.2.later hb1⟩ : _ ∧ _)
      clear hb1
      unfold Ct.val at *
      generalize x.arg = xa at *
      generalize y.arg = ya at *
      go_wp2_with fail
      refine (HB.out _).mono ?_
      rintro e w2 ⟨rfl, hb2⟩
      have H2 := Lib.hid (⟨H1.out.1.trans (hb2.mono H1.out.1.size), H1.out.2.later hb2⟩ : _ ∧ _)
      obtain ⟨_, _, _, f0, f1, f2⟩ := H2.out.2.read
      clear hb2
      go_wp2_with fail
      have hx2 : Below w2.heap.size w2 (w2.alloc (Obj.cells #[.int .u8 38, .iface x.ty xa, .iface y.ty ya] 31)) := (Below.refl _ _).alloc (Nat.le_refl _) _
      have H3 := Lib.hid (⟨H2.out.1.trans (hx2.mono H2.out.1.size), H2.out.2.later hx2, ⟨heap_alloc_new w2 _⟩⟩ : _ ∧ _ ∧ CAt (w2.alloc (Obj.cells #[.int .u8 38, .iface x.ty xa, .iface y.ty ya] 31)) w2.heap.size 38 (.iface x.ty xa) (.iface y.ty ya))
      clear hx2
      refine (HN.out _).mono ?_
      rintro e w3 ⟨rfl, hb3⟩
      have H4 := Lib.hid (⟨H3.out.1.trans (hb3.mono H3.out.1.size), H3.out.2.1.later hb3, H3.out.2.2.later hb3⟩ : _ ∧ _ ∧ _)
      clear hb3
      go_wp2_with fail
      refine (HX.out _).mono ?_
      rintro e w4 ⟨rfl, hb4⟩
      have H5 := Lib.hid (⟨H4.out.1.trans (hb4.mono H4.out.1.size), H4.out.2.1.later hb4, H4.out.2.2.later hb4⟩ : _ ∧ _ ∧ _)
      obtain ⟨_, _, _, f0', f1', f2'⟩ := H5.out.2.1.read
      obtain ⟨c0, c1, c2, _⟩ := H5.out.2.2.read
      clear hb4 f0 f1 f2
      go_wp2_with fail
      obtain ⟨r0, r1, r2, _⟩ := (H5.out.2.1.put 38 (.iface x.ty xa) (.iface y.ty ya)).read
      have hd : decide ((t.size : Int) ≤ 5) = decide (t.size ≤ 5) := by
        by_cases h : t.size ≤ 5
        · rw [decide_eq_true h, decide_eq_true (by omega)]
        · rw [decide_eq_false h, decide_eq_false (by omega)]
      refine bodyPost_ret (v := .tuple #[.agg #[.int .u8 38, .iface x.ty xa, .iface y.ty ya], .bool (decide ((t.size : Int) ≤ 5))]) ?_ rfl ⟨.inr ⟨_, _, _, _, by rw [HC.out, hd]⟩, cput_below H5.out.1 38 (.iface x.ty xa) (.iface y.ty ya)⟩
      simp [results, Try.results14, go_sem, r0, r1, r2]

set_option maxHeartbeats 1000000 in
set_option maxRecDepth 100000 in
theorem impl_canc (a b : ByteArray) (w : World) (ha : a.size ≤ 1073741824) (hb : b.size ≤ 1073741824) :
    Calls Try.prog 7 #[.string a, .string b] w fun e w' => e = .returned (.bool (canP a b)) ∧ Below w.heap.size w w' := by
  have HB := Lib.hid (both_any a b w ha hb)
  unfold BothTo at HB
  generalize canP a b = ok at *
  clear ha hb
  go_enter Try.func7, Try.ntmps7
  go_wp2_with fail
  refine HB.out.mono ?_
  rintro e w1 ⟨hx, hb1⟩
  have H1 := Lib.hid hb1
  clear hb1
  rcases hx with rfl | ⟨tx, ax, ty, ay, rfl⟩
  · go_wp2_with fail
    go_ret
    exact ⟨rfl, H1.out.alloc H1.out.size _⟩
  · go_wp2_with fail
    go_ret
    exact ⟨rfl, H1.out.alloc H1.out.size _⟩

set_option maxHeartbeats 400000 in
theorem names_m (a b : ByteArray) (w : World) (ha : a.size ≤ 1048576) (hb : b.size ≤ 1048576) :
    Calls Try.prog 13 #[.string a, .string b] w fun e w' => e = .returned (.string (txtOf (setText (a ++ b).data.toList))) ∧ Below w.heap.size w w' := by
  have HH := Lib.hid (fun w => l1set_any (a ++ b) w (by rw [ByteArray.size_append]; omega))
  have hs := str_sum a b (by omega)
  generalize txtOf (setText (a ++ b).data.toList) = t at *
  go_enter Try.func13, Try.ntmps13
  go_wp2_with fail
  refine (HH.out _).mono ?_
  rintro e w1 ⟨rfl, hb1⟩
  have H1 := Lib.hid hb1
  clear hb1
  go_wp2_with fail
  go_ret
  exact ⟨rfl, H1.out⟩

set_option maxHeartbeats 1000000 in
set_option maxRecDepth 100000 in
theorem spec_canc (a b : ByteArray) (w : World) (ha : a.size ≤ 1048576) (hb : b.size ≤ 1048576) :
    Calls Try.prog 6 #[.string a, .string b] w fun e w' => e = .returned (.bool (canP a b)) ∧ Below w.heap.size w w' := by
  have HA := Lib.hid (fun w => spec_cval a w (by omega))
  have HB := Lib.hid (fun w => spec_cval b w (by omega))
  cases hca : cutOf a with
  | none =>
    have HN := Lib.hid (canP_no (b := b) (.inl hca))
    rw [hca] at HA
    clear hca
    go_enter Try.func6, Try.ntmps6
    go_wp2_with fail
    refine (HA.out _).mono ?_
    rintro e w1 ⟨rfl, rfl⟩
    go_wp2_with fail
    go_ret
    exact ⟨ret_bool HN.out.symm, Below.refl _ _⟩
  | some x =>
    rw [hca] at HA
    cases hcb : cutOf b with
    | none =>
      have HN := Lib.hid (canP_no (a := a) (.inr hcb))
      rw [hcb] at HB
      clear hca hcb
      go_enter Try.func6, Try.ntmps6
      go_wp2_with fail
      refine (HA.out _).mono ?_
      rintro e w1 ⟨rfl, rfl⟩
      go_wp2_with fail
      refine (HB.out _).mono ?_
      rintro e w2 ⟨rfl, rfl⟩
      go_wp2_with fail
      go_ret
      exact ⟨ret_bool HN.out.symm, Below.refl _ _⟩
    | some y =>
      rw [hcb] at HB
      obtain ⟨_, tx, wx, _⟩ := cutOf_some hca
      obtain ⟨_, ty, wy, _⟩ := cutOf_some hcb
      have hcat : (a ++ b).data.toList = x.txt ++ y.txt := by
        have : (a ++ b).data.toList = a.data.toList ++ b.data.toList := by simp
        rw [this, tx, ty]
      have hset : setText (a ++ b).data.toList = setText (behind [67, 87, 70] (.two 38 x y)) := by
        rw [hcat]
        refine up_to_congr _ _ fun z hz => ?_
        have h1 := names_txt z hz x wx
        have h2 := names_txt z hz y wy
        show _ = (behind [67, 87, 70] x ++ behind [67, 87, 70] y).contains z
        rw [show ∀ l m : List UInt8, (l ++ m).contains z = (l.contains z || m.contains z) from fun l m => by simp, h1, h2]
        simp
      have HC := Lib.hid (show canP a b = decide ((txtOf (setText (a ++ b).data.toList)).size ≤ 5) by unfold canP; rw [hca, hcb, txtOf_size, hset])
      have HH := Lib.hid (fun w => names_m a b w ha hb)
      clear hca hcb tx ty wx wy hcat hset
      generalize txtOf (setText (a ++ b).data.toList) = t at *
      go_enter Try.func6, Try.ntmps6
      go_wp2_with fail
      refine (HA.out _).mono ?_
      rintro e w1 ⟨rfl, rfl⟩
      go_wp2_with fail
      refine (HB.out _).mono ?_
      rintro e w2 ⟨rfl, rfl⟩
      go_wp2_with fail
      refine (HH.out _).mono ?_
      rintro e w3 ⟨rfl, hb3⟩
      have H3 := Lib.hid hb3
      clear hb3
      have hd : decide ((t.size : Int) ≤ 5) = decide (t.size ≤ 5) := by
        by_cases h : t.size ≤ 5
        · rw [decide_eq_true h, decide_eq_true (by omega)]
        · rw [decide_eq_false h, decide_eq_false (by omega)]
      have HD := Lib.hid (HC.out.trans hd.symm)
      clear hd
      go_wp2_with fail
      go_ret
      exact ⟨ret_bool HD.out.symm, H3.out⟩

set_option maxHeartbeats 400000 in
theorem canc_long1 (a b : ByteArray) (w : World) (hl : 1048576 < a.size) (hx : a.size ≤ maxLen) :
    Calls Try.prog 3 #[.string a, .string b] w fun e w' => e = .returned (.bool true) ∧ Below w.heap.size w w' := by
  unfold maxLen at hx
  go_enter Try.func3, Try.ntmps3
  go_wp2_with fail
  go_ret
  exact ⟨rfl, Below.refl _ _⟩
set_option maxHeartbeats 400000 in
theorem canc_long2 (a b : ByteArray) (w : World) (hs : a.size ≤ 1048576) (hl : 1048576 < b.size) (hx : b.size ≤ maxLen) :
    Calls Try.prog 3 #[.string a, .string b] w fun e w' => e = .returned (.bool true) ∧ Below w.heap.size w w' := by
  unfold maxLen at hx
  go_enter Try.func3, Try.ntmps3
  go_wp2_with fail
  go_ret
  exact ⟨rfl, Below.refl _ _⟩
set_option maxHeartbeats 400000 in
theorem canc_short (a b : ByteArray) (w : World) (hl : a.size ≤ 1048576) (hl2 : b.size ≤ 1048576) :
    Calls Try.prog 3 #[.string a, .string b] w fun e w' => e = .returned (.bool true) ∧ Below w.heap.size w w' := by
  have HI := Lib.hid (fun w => impl_canc a b w (by omega) (by omega))
  have HS := Lib.hid (fun w => spec_canc a b w (by omega) (by omega))
  generalize canP a b = ok at *
  go_enter Try.func3, Try.ntmps3
  go_wp2_with fail
  refine (HS.out _).mono ?_
  rintro e w1 ⟨rfl, b1⟩
  have B1 := Lib.hid b1
  clear b1
  go_wp2_with fail
  refine (HI.out _).mono ?_
  rintro e w2 ⟨rfl, b2⟩
  have B2 := Lib.hid (B1.out.trans (b2.mono B1.out.size))
  clear b2
  cases ok
  all_goals
    go_wp2_with fail
    go_ret
    exact ⟨rfl, B2.out⟩
theorem canc_any (a b : ByteArray) (w : World) (hx : a.size ≤ maxLen) (hx2 : b.size ≤ maxLen) :
    Calls Try.prog 3 #[.string a, .string b] w fun e w' => e = .returned (.bool true) ∧ Below w.heap.size w w' := by
  by_cases h : a.size ≤ 1048576
  · by_cases h2 : b.size ≤ 1048576
    · exact canc_short a b w h h2
    · exact canc_long2 a b w h (by omega) hx2
  · exact canc_long1 a b w (by omega) hx
end Go.Proofs.Ytfmbfbbmhnplcaa
