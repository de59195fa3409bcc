/- The program's cutReader and readCut: the cut that a text is, as a value, and true; else nil and false. No condition but that of a text's length: what is longer than 40 bytes is refused. The model's l3End answers where the cut at an index ends, as the plain reading cutAt does; else -1. Condition: texts of at most 2^30 bytes, indices up to 2^31. CutValid of the program and of the model. Condition: texts of at most 2^30 bytes. -/
import Derived.Test.YtkdnbdgpcgookaaGreatDoorKx
import Derived.Test.YtkdnbdgpcgookaaGreatDoorCt
import Derived.Test.YtkdnbdgpcgookaaGreatDoorTxt
import Derived.Test.YtkdnbdgpcgookaaGreatDoorLow
namespace Go.Proofs.YtkdnbdgpcgookaaGreatDoor
open Go.RowKit Gram

/-- a cut's type and what it holds -/
def _root_.Go.Proofs.YtkdnbdgpcgookaaGreatDoor.Gram.Ct.ty : Ct → TypeId
  | .prt => 178
  | .lt _ _ => 180
  | .fix _ => 182
  | .opp _ => 184
  | .two _ _ _ => 186
def _root_.Go.Proofs.YtkdnbdgpcgookaaGreatDoor.Gram.Ct.arg : Ct → Value
  | .prt => .agg #[]
  | .lt g c => .agg #[.int .u8 g.toNat, .int .u8 c.toNat]
  | .fix b => .agg #[.bool b]
  | .opp x => .agg #[.iface x.ty x.arg]
  | .two g x y => .agg #[.int .u8 g.toNat, .iface x.ty x.arg, .iface y.ty y.arg]
/-- a cut as a value -/
def _root_.Go.Proofs.YtkdnbdgpcgookaaGreatDoor.Gram.Ct.val (x : Ct) : Value := .iface x.ty x.arg

theorem val_iface (x : Ct) : ∃ ty pv, x.val = .iface ty pv := ⟨_, _, rfl⟩

/-- the reader at block rb, with what is left -/
def RdC (w : World) (rb : Nat) (l : List UInt8) : Prop := w.heap[rb]? = some (.cells #[.string (txtOf l)] 153 (0, 0))

theorem tail_of (c : UInt8) (r : List UInt8) : (txtOf (c :: r)).extract 1 (txtOf (c :: r)).size = txtOf r := by
  apply ByteArray.ext
  apply Array.ext'
  simp [txtOf, ByteArray.size]

theorem heap_set_same' {w : World} {g k : Nat} {cur : Array Value} {e : TypeId} {fz : Nat × Nat} (h : w.heap[g]? = some (.cells cur e fz)) (u : Value) :
    (w.setCell ⟨g, k, none⟩ u).heap[g]? = some (.cells (cur.setIfInBounds k u) e fz) := by
  simp [World.setCell, Array.getElem?_modify, h]

set_option maxHeartbeats 400000 in
theorem sign_no (w : World) (rb : Nat) (h : RdC w rb []) :
    Calls Tryz.prog 112 #[.pointer (some ⟨rb, 0, none⟩)] w fun e w' => Panics e ∧ w = w' := by
  have hc : w.cell? ⟨rb, 0, none⟩ = some (.string (txtOf [])) := by rw [Lib.cell_of_heap h]; rfl
  have h0 := text_none (s := txtOf []) rfl
  clear h
  go_enter Tryz.func112, Tryz.ntmps112
  go_wp2_with fail
  exact ⟨rfl, ⟨_, _, rfl⟩, rfl⟩

set_option maxHeartbeats 400000 in
theorem sign_yes (w : World) (rb : Nat) (c : UInt8) (r : List UInt8) (h : RdC w rb (c :: r)) (hl : r.length ≤ 1048576) :
    Calls Tryz.prog 112 #[.pointer (some ⟨rb, 0, none⟩)] w fun e w' => e = .returned (.int .u8 c.toNat) ∧ RdC w' rb r ∧ Below rb w w' := by
  have hc : w.cell? ⟨rb, 0, none⟩ = some (.string (txtOf (c :: r))) := by rw [Lib.cell_of_heap h]; rfl
  have hf : w.frozen? ⟨rb, 0, none⟩ = false := Lib.frozen_of_heap h 0
  have hz : (txtOf (c :: r)).size = r.length + 1 := rfl
  have h0 := text_some (s := txtOf (c :: r)) (by omega)
  have hg : ∀ hh : 0 < (txtOf (c :: r)).size, (txtOf (c :: r))[0] = c := fun _ => rfl
  have HT := Lib.hid (tail_of c r)
  have HH := Lib.hid h
  clear h
  generalize txtOf (c :: r) = t at *
  go_enter Tryz.func112, Tryz.ntmps112
  go_wp2_with fail
  go_ret
  rw [← hz, HT.out]
  refine ⟨rfl, ?_, (Below.refl rb w).setCell (p := ⟨rb, 0, none⟩) (Nat.le_refl _) _⟩
  have := heap_set_same' (k := 0) HH.out (.string (txtOf r))
  exact this

/-- what takeCut does to the reader at block rb -/
def Took (rb : Nat) (w : World) (l : List UInt8) (e : Ending) (w' : World) : Prop :=
  (match cutAt l with
    | some (x, r) => e = .returned x.val ∧ RdC w' rb r
    | none => Panics e) ∧ Below rb w w'
def SaidTake (m : Nat) : Prop := ∀ (l : List UInt8) (w : World) (rb : Nat), l.length < m → l.length ≤ 1048576 → RdC w rb l → Calls Tryz.prog 92 #[.pointer (some ⟨rb, 0, none⟩)] w (Took rb w l)

set_option maxHeartbeats 400000 in
theorem take_nil (w : World) (rb : Nat) (h : RdC w rb []) : Calls Tryz.prog 92 #[.pointer (some ⟨rb, 0, none⟩)] w (Took rb w []) := by
  have HS := Lib.hid (sign_no w rb h)
  clear h
  go_enter Tryz.func92, Tryz.ntmps92
  go_wp2_with fail
  refine HS.out.mono ?_
  rintro e w' ⟨⟨u, pv, rfl⟩, rfl⟩
  go_wp2_with fail
  exact ⟨rfl, ⟨_, _, rfl⟩, Below.refl _ _⟩

section
variable (w : World) (rb : Nat) (c : UInt8) (r : List UInt8)

/-- a cut of one sign -/
def one (d : UInt8) : Ct := if d = 80 then .prt else if d = 84 then .fix true else .fix false

set_option maxHeartbeats 400000 in
theorem take_one (d : UInt8) (hd : d = 80 ∨ d = 84 ∨ d = 78) (hr : r.length ≤ 1048576) (h : RdC w rb (d :: r)) : Calls Tryz.prog 92 #[.pointer (some ⟨rb, 0, none⟩)] w fun e w' => e = .returned (one d).val ∧ RdC w' rb r ∧ Below rb w w' := by
  have HS := Lib.hid (sign_yes w rb d r h hr)
  clear h
  rcases hd with rfl | rfl | rfl
  all_goals
    go_enter Tryz.func92, Tryz.ntmps92
    go_wp2_with fail
    refine HS.out.mono ?_
    rintro e w' ⟨rfl, h1, h2⟩
    have H1 := Lib.hid h1
    have H2 := Lib.hid h2
    clear h1 h2
    go_wp2_with fail
    go_ret
    exact ⟨rfl, H1.out, H2.out⟩

set_option maxHeartbeats 400000 in
theorem take_lit0 (d : UInt8) (hd : d = 67 ∨ d = 87 ∨ d = 70) (h : RdC w rb [d]) : Calls Tryz.prog 92 #[.pointer (some ⟨rb, 0, none⟩)] w fun e w' => Panics e ∧ Below rb w w' := by
  have HS := Lib.hid (sign_yes w rb d [] h (by simp))
  clear h
  rcases hd with rfl | rfl | rfl
  all_goals
    go_enter Tryz.func92, Tryz.ntmps92
    go_wp2_with fail
    refine HS.out.mono ?_
    rintro e w' ⟨rfl, h1, h2⟩
    have H1 := Lib.hid (sign_no _ _ h1)
    have H2 := Lib.hid h2
    clear h1 h2
    go_wp2_with fail
    refine H1.out.mono ?_
    rintro e w' ⟨⟨u, pv, rfl⟩, rfl⟩
    go_wp2_with fail
    exact ⟨rfl, ⟨_, _, rfl⟩, H2.out⟩

set_option maxHeartbeats 400000 in
theorem take_lit (d : UInt8) (hd : d = 67 ∨ d = 87 ∨ d = 70) (hc : isLet c = true) (hr : r.length + 1 ≤ 1048576) (h : RdC w rb (d :: c :: r)) : Calls Tryz.prog 92 #[.pointer (some ⟨rb, 0, none⟩)] w fun e w' => e = .returned (Ct.lt d c).val ∧ RdC w' rb r ∧ Below rb w w' := by
  have HS := Lib.hid (sign_yes w rb d (c :: r) h (by simpa using hr))
  rw [isLet_int] at hc
  simp only [Bool.and_eq_true, decide_eq_true_eq] at hc
  have HB := Lib.hid (fun w => between_yes c.toNat 97 122 (by omega) hc.1 hc.2 (by omega) w)
  obtain ⟨hc1, hc2⟩ := hc
  clear h
  rcases hd with rfl | rfl | rfl
  all_goals
    go_enter Tryz.func92, Tryz.ntmps92
    go_wp2_with fail
    refine HS.out.mono ?_
    rintro e w' ⟨rfl, h1, h2⟩
    have H1 := Lib.hid (sign_yes _ _ _ _ h1 (by omega))
    have H2 := Lib.hid h2
    clear h1 h2
    go_wp2_with fail
    refine H1.out.mono ?_
    rintro e w2 ⟨rfl, h3, h4⟩
    have H3 := Lib.hid h3
    have H4 := Lib.hid (H2.out.trans h4)
    clear h3 h4
    go_wp2_with fail
    refine (HB.out _).mono ?_
    rintro e w3 ⟨rfl, rfl⟩
    go_wp2_with fail
    go_ret
    exact ⟨rfl, H3.out, H4.out⟩

set_option maxHeartbeats 400000 in
theorem take_litno (d : UInt8) (hd : d = 67 ∨ d = 87 ∨ d = 70) (hc : isLet c = false) (hr : r.length + 1 ≤ 1048576) (h : RdC w rb (d :: c :: r)) : Calls Tryz.prog 92 #[.pointer (some ⟨rb, 0, none⟩)] w fun e w' => Panics e ∧ Below rb w w' := by
  have HS := Lib.hid (sign_yes w rb d (c :: r) h (by simpa using hr))
  rw [isLet_int] at hc
  simp only [Bool.and_eq_false_iff, decide_eq_false_iff_not] at hc
  have HB := Lib.hid (fun w => between_no c.toNat 97 122 (by omega) w)
  have hu := c.toNat_lt
  clear h hc
  rcases hd with rfl | rfl | rfl
  all_goals
    go_enter Tryz.func92, Tryz.ntmps92
    go_wp2_with fail
    refine HS.out.mono ?_
    rintro e w' ⟨rfl, h1, h2⟩
    have H1 := Lib.hid (sign_yes _ _ _ _ h1 (by omega))
    have H2 := Lib.hid h2
    clear h1 h2
    go_wp2_with fail
    refine H1.out.mono ?_
    rintro e w2 ⟨rfl, h3, h4⟩
    have H4 := Lib.hid (H2.out.trans h4)
    clear h3 h4
    go_wp2_with fail
    refine (HB.out _).mono ?_
    rintro e w3 ⟨⟨u, pv, rfl⟩, rfl⟩
    go_wp2_with fail
    exact ⟨rfl, ⟨_, _, rfl⟩, H4.out⟩

set_option maxHeartbeats 400000 in
theorem take_opp (hr : r.length ≤ 1048576) (h : RdC w rb (33 :: r)) (hx : ∀ w, RdC w rb r → Calls Tryz.prog 92 #[.pointer (some ⟨rb, 0, none⟩)] w (Took rb w r)) :
    Calls Tryz.prog 92 #[.pointer (some ⟨rb, 0, none⟩)] w (Took rb w (33 :: r)) := by
  have HS := Lib.hid (sign_yes w rb 33 r h hr)
  have HX := Lib.hid hx
  have e1 : cutAt (33 :: r) = match cutAt r with | none => none | some (x, r1) => some (.opp x, r1) := by
    rw [cutAt_cons, if_neg (by decide), if_neg (by decide), if_neg (by decide), if_neg (by decide), if_pos rfl]
    rfl
  have HE := Lib.hid e1
  clear h hx e1
  cases hc : cutAt r with
  | none =>
    have HC := Lib.hid hc
    clear hc
    go_enter Tryz.func92, Tryz.ntmps92
    go_wp2_with fail
    refine HS.out.mono ?_
    rintro e w' ⟨rfl, h1, h2⟩
    have H1 := Lib.hid (HX.out _ h1)
    have H2 := Lib.hid h2
    clear h1 h2
    go_wp2_with fail
    refine H1.out.mono ?_
    rintro e w2 ⟨h3, h4⟩
    rw [HC.out] at h3
    obtain ⟨u, pv, rfl⟩ := h3
    have H4 := Lib.hid (H2.out.trans h4)
    clear h4
    go_wp2_with fail
    exact ⟨rfl, by rw [HE.out, HC.out]; exact ⟨_, _, rfl⟩, H4.out⟩
  | some p =>
    obtain ⟨x, r1⟩ := p
    have HC := Lib.hid hc
    clear hc
    go_enter Tryz.func92, Tryz.ntmps92
    go_wp2_with fail
    refine HS.out.mono ?_
    rintro e w' ⟨rfl, h1, h2⟩
    have H1 := Lib.hid (HX.out _ h1)
    have H2 := Lib.hid h2
    clear h1 h2
    go_wp2_with fail
    refine H1.out.mono ?_
    rintro e w2 ⟨h3, h4⟩
    rw [HC.out] at h3
    obtain ⟨rfl, h5⟩ := h3
    have H5 := Lib.hid h5
    have H4 := Lib.hid (H2.out.trans h4)
    clear h4 h5
    have HV := Lib.hid (show (Ct.opp x).val = .iface 184 (.agg #[x.val]) from rfl)
    have hv := val_iface x
    generalize x.val = v at *
    obtain ⟨ty, pv, rfl⟩ := hv
    go_wp2_with fail
    go_ret
    exact ⟨by rw [HE.out, HC.out]; exact ⟨by rw [HV.out]; rfl, H5.out⟩, H4.out⟩

set_option maxHeartbeats 1000000 in
theorem take_two (d : UInt8) (hd : d = 38 ∨ d = 124) (hr : r.length ≤ 1048576) (h : RdC w rb (d :: r)) (hx : ∀ w l, l.length ≤ r.length → RdC w rb l → Calls Tryz.prog 92 #[.pointer (some ⟨rb, 0, none⟩)] w (Took rb w l)) :
    Calls Tryz.prog 92 #[.pointer (some ⟨rb, 0, none⟩)] w (Took rb w (d :: r)) := by
  have HS := Lib.hid (sign_yes w rb d r h hr)
  have HX := Lib.hid hx
  have e1 : cutAt (d :: r) = match cutAt r with | none => none | some (x, r1) => match cutAt r1 with | none => none | some (y, r2) => some (.two d x y, r2) := by
    rw [cutAt_cons]
    rcases hd with rfl | rfl <;> rw [if_neg (by decide), if_neg (by decide), if_neg (by decide), if_neg (by decide), if_neg (by decide), if_pos (by decide)] <;> rfl
  have HE := Lib.hid e1
  clear h hx e1
  cases hc : cutAt r with
  | none =>
    have HC := Lib.hid hc
    clear hc
    rcases hd with rfl | rfl
    all_goals
      go_enter Tryz.func92, Tryz.ntmps92
      go_wp2_with fail
      refine HS.out.mono ?_
      rintro e w' ⟨rfl, h1, h2⟩
      have H1 := Lib.hid (HX.out _ r (Nat.le_refl _) h1)
      have H2 := Lib.hid h2
      clear h1 h2
      go_wp2_with fail
      refine H1.out.mono ?_
      rintro e w2 ⟨h3, h4⟩
      rw [HC.out] at h3
      obtain ⟨u, pv, rfl⟩ := h3
      have H4 := Lib.hid (H2.out.trans h4)
      clear h4
      go_wp2_with fail
      exact ⟨rfl, by rw [HE.out, HC.out]; exact ⟨_, _, rfl⟩, H4.out⟩
  | some p =>
    obtain ⟨x, r1⟩ := p
    have HC := Lib.hid hc
    have hsh := Lib.hid (cutAt_shorter hc)
    clear hc
    cases hc2 : cutAt r1 with
    | none =>
      have HC2 := Lib.hid hc2
      clear hc2
      rcases hd with rfl | rfl
      all_goals
        go_enter Tryz.func92, Tryz.ntmps92
        go_wp2_with fail
        refine HS.out.mono ?_
        rintro e w' ⟨rfl, h1, h2⟩
        have H1 := Lib.hid (HX.out _ r (Nat.le_refl _) h1)
        have H2 := Lib.hid h2
        clear h1 h2
        go_wp2_with fail
        refine H1.out.mono ?_
        rintro e w2 ⟨h3, h4⟩
        rw [HC.out] at h3
        obtain ⟨rfl, h5⟩ := h3
        have H5 := Lib.hid (HX.out _ r1 (by have := hsh.out; omega) h5)
        have H4 := Lib.hid (H2.out.trans h4)
        clear h4 h5
        have hv := val_iface x
        generalize x.val = v at *
        obtain ⟨ty, pv, rfl⟩ := hv
        go_wp2_with fail
        refine H5.out.mono ?_
        rintro e w3 ⟨h6, h7⟩
        rw [HC2.out] at h6
        obtain ⟨u, pv, rfl⟩ := h6
        have H7 := Lib.hid (H4.out.trans h7)
        clear h7
        go_wp2_with fail
        exact ⟨rfl, by rw [HE.out, HC.out]; simp only [HC2.out]; exact ⟨_, _, rfl⟩, H7.out⟩
    | some q =>
      obtain ⟨y, r2⟩ := q
      have HC2 := Lib.hid hc2
      clear hc2
      have HV := Lib.hid (show ∀ d, (Ct.two d x y).val = .iface 186 (.agg #[.int .u8 d.toNat, x.val, y.val]) from fun _ => rfl)
      rcases hd with rfl | rfl
      all_goals
        go_enter Tryz.func92, Tryz.ntmps92
        go_wp2_with fail
        refine HS.out.mono ?_
        rintro e w' ⟨rfl, h1, h2⟩
        have H1 := Lib.hid (HX.out _ r (Nat.le_refl _) h1)
        have H2 := Lib.hid h2
        clear h1 h2
        go_wp2_with fail
        refine H1.out.mono ?_
        rintro e w2 ⟨h3, h4⟩
        rw [HC.out] at h3
        obtain ⟨rfl, h5⟩ := h3
        have H5 := Lib.hid (HX.out _ r1 (by have := hsh.out; omega) h5)
        have H4 := Lib.hid (H2.out.trans h4)
        clear h4 h5
        have hv := val_iface x
        generalize x.val = v at *
        obtain ⟨ty, pv, rfl⟩ := hv
        go_wp2_with fail
        refine H5.out.mono ?_
        rintro e w3 ⟨h6, h7⟩
        rw [HC2.out] at h6
        obtain ⟨rfl, h8⟩ := h6
        have H8 := Lib.hid h8
        have H7 := Lib.hid (H4.out.trans h7)
        clear h7 h8
        have hv := val_iface y
        generalize y.val = v2 at *
        obtain ⟨ty2, pv2, rfl⟩ := hv
        go_wp2_with fail
        go_ret
        exact ⟨by rw [HE.out, HC.out]; simp only [HC2.out]; exact ⟨by rw [HV.out]; rfl, H8.out⟩, H7.out⟩

set_option maxHeartbeats 400000 in
theorem take_bad (hr : r.length ≤ 1048576) (h : RdC w rb (c :: r)) (h1 : c ≠ 80) (h2 : c ≠ 84) (h3 : c ≠ 78) (h4 : isCWF c = false) (h5 : c ≠ 33) (h6 : isAO c = false) :
    Calls Tryz.prog 92 #[.pointer (some ⟨rb, 0, none⟩)] w fun e w' => Panics e ∧ Below rb w w' := by
  have HS := Lib.hid (sign_yes w rb c r h hr)
  simp only [isCWF, isAO, Bool.or_eq_false_iff, beq_eq_false_iff_ne] at h4 h6
  have g0 := ne_int h1
  have g1 := ne_int h2
  have g2 := ne_int h3
  have g3 := ne_int h4.1.1
  have g4 := ne_int h4.1.2
  have g5 := ne_int h4.2
  have g6 := ne_int h5
  have g7 := ne_int h6.1
  have g8 := ne_int h6.2
  simp only [UInt8.reduceToNat, Int.cast_ofNat_Int] at g0 g1 g2 g3 g4 g5 g6 g7 g8
  clear h h1 h2 h3 h4 h5 h6
  go_enter Tryz.func92, Tryz.ntmps92
  go_wp2_with fail
  refine HS.out.mono ?_
  rintro e w' ⟨rfl, h1, h2⟩
  have H2 := Lib.hid h2
  clear h1 h2
  go_wp2_with fail
  exact ⟨rfl, ⟨_, _, rfl⟩, H2.out⟩
end

theorem cwf_or {c : UInt8} (h : isCWF c = true) : c = 67 ∨ c = 87 ∨ c = 70 := by
  simp only [isCWF, Bool.or_eq_true, beq_iff_eq] at h
  rcases h with (h | h) | h
  · exact .inl h
  · exact .inr (.inl h)
  · exact .inr (.inr h)

theorem take_step (m : Nat) (ih : SaidTake m) : SaidTake (m + 1) := by
  intro l w rb hm hl h
  cases l with
  | nil => exact take_nil w rb h
  | cons c r =>
    simp only [List.length_cons] at hm hl
    by_cases h1 : c = 80 ∨ c = 84 ∨ c = 78
    · refine (take_one w rb r c h1 (by omega) h).mono ?_
      rintro e w' ⟨a, b, d⟩
      refine ⟨?_, d⟩
      have : cutAt (c :: r) = some (one c, r) := by
        rw [cutAt_cons]
        rcases h1 with rfl | rfl | rfl <;> rfl
      rw [this]; exact ⟨a, b⟩
    have n1 : c ≠ 80 := fun h => h1 (.inl h)
    have n2 : c ≠ 84 := fun h => h1 (.inr (.inl h))
    have n3 : c ≠ 78 := fun h => h1 (.inr (.inr h))
    by_cases h4 : isCWF c = true
    · have e1 : cutAt (c :: r) = litC c r := by rw [cutAt_cons, if_neg n1, if_neg n2, if_neg n3, if_pos h4]
      cases r with
      | nil =>
        refine (take_lit0 w rb c (cwf_or h4) h).mono ?_
        rintro e w' ⟨a, b⟩
        exact ⟨by rw [e1]; exact a, b⟩
      | cons d t =>
        simp only [List.length_cons] at hl
        cases hd : isLet d with
        | true =>
          refine (take_lit w rb d t c (cwf_or h4) hd (by omega) h).mono ?_
          rintro e w' ⟨a, b, g⟩
          exact ⟨by rw [e1, litC, if_pos hd]; exact ⟨a, b⟩, g⟩
        | false =>
          refine (take_litno w rb d t c (cwf_or h4) hd (by omega) h).mono ?_
          rintro e w' ⟨a, b⟩
          exact ⟨by rw [e1, litC, if_neg (by rw [hd]; decide)]; exact a, b⟩
    by_cases h5 : c = 33
    · subst h5
      exact take_opp w rb r (by omega) h fun w' h' => ih r w' rb (by omega) (by omega) h'
    by_cases h6 : isAO c = true
    · have h6' : c = 38 ∨ c = 124 := by
        simpa only [isAO, Bool.or_eq_true, beq_iff_eq] using h6
      exact take_two w rb r c h6' (by omega) h fun w' l hl' h' => ih l w' rb (by omega) (by omega) h'
    · refine (take_bad w rb c r (by omega) h n1 n2 n3 (by simpa using h4) h5 (by simpa using h6)).mono ?_
      rintro e w' ⟨a, b⟩
      refine ⟨?_, b⟩
      rw [cutAt_cons, if_neg n1, if_neg n2, if_neg n3, if_neg h4, if_neg h5, if_neg h6]; exact a

theorem take_all (m : Nat) : SaidTake m := by
  induction m with
  | zero => intro l w rb h; omega
  | succ m ih => exact take_step m ih

/-- the deferred literal: of a reading that panics, and of one that returns -/
theorem rescue_panicking (p q : Addr) (x y : Value) (u : TypeId) (pv : Value) (older : List PanicEntry) (w : World) (hc : w.cell? p = some x) (hz : w.frozen? p = false) (hd : ∀ v, (w.setCell p v).cell? q = some y) (hy : ∀ v, (w.setCell p v).frozen? q = false) :
    CallsD Tryz.prog 91 #[.pointer (some p), .pointer (some q)] (.panicking ({ v := .iface u pv, recovered := false } :: older)) w fun e u' w' =>
      e = .returned (.tuple #[]) ∧ u' = .panicking ({ v := .iface u pv, recovered := true } :: older) ∧ w' = (w.setCell p .nilIface).setCell q (.bool false) := by
  refine callsD_of_wpS Tryz.func91 rfl fun c₀ cs hu => ?_
  apply wpS_seq
  apply wpS_region
  simp [wpOpsS, go_sem, recoverD, hu, Tryz.ntmps91, Exit.thenS]
  refine wpS_cond (t := true) (by simp [Act.eval, Array.replicate]) ?_
  simp only [if_true]
  apply wpS_region
  simp [wpOpsS, go_sem, hc, hz, hd, hy, bodyPostS, results, Tryz.results91]

theorem rescue_idle (p q : Addr) (w : World) :
    CallsD Tryz.prog 91 #[.pointer (some p), .pointer (some q)] .returning w fun e u' w' => e = .returned (.tuple #[]) ∧ u' = .returning ∧ w' = w := by
  refine callsD_of_wpS Tryz.func91 rfl fun c₀ cs hu => ?_
  apply wpS_seq
  apply wpS_region
  simp [wpOpsS, go_sem, recoverD, hu, Tryz.ntmps91, Exit.thenS]
  refine wpS_cond (t := false) (by simp [Act.eval, Array.replicate]) ?_
  simp only [Bool.false_eq_true, if_false]
  refine wpS_of_wp (wp_skip ?_)
  cases c₀
  simp_all [bodyPostS, results, Tryz.results91]

/-- what readCut hands back -/
def ReadC (s : ByteArray) (w : World) (e : Ending) (w' : World) : Prop :=
  (match cutOf s with
    | some x => e = .returned (.tuple #[x.val, .bool true])
    | none => e = .returned (.tuple #[.nilIface, .bool false])) ∧ Below w.heap.size w w'

set_option maxHeartbeats 400000 in
theorem read_over (s : ByteArray) (w : World) (hs : 40 < s.size) (hm : s.size ≤ 1073741824) :
    Calls Tryz.prog 70 #[.string s] w (ReadC s w) := by
  have hmf : ∀ (fn : Fn) (first cap : Array Value) (w : World), (Instr.makeFunc fn first cap).run Tryz.prog w = .ok (.func fn first cap) w := fun _ _ _ _ => rfl
  have HN := Lib.hid (show cutOf s = none by rw [cutOf, if_neg (by omega)])
  go_enter_defers Tryz.func70, Tryz.ntmps70
  go_wp2_with fail
  refine leaves_cons (f := 91) (args := #[.pointer (some ⟨w.heap.size, 0, none⟩), .pointer (some ⟨w.heap.size + 1, 0, none⟩)]) (by simp) (by simp [go_sem]) ?_
  refine (rescue_idle _ _ _).mono ?_
  rintro e u' w'' ⟨rfl, rfl, rfl⟩
  refine ⟨.tuple #[.nilIface, .bool false], ?_, ?_, ?_⟩
  · simp [results, Tryz.results70, go_sem]
  · rw [HN.out]
  · exact ((Below.refl _ _).alloc (Nat.le_refl _) _).alloc (by simp) _

theorem txt_self (s : ByteArray) : txtOf s.data.toList = s := by
  apply ByteArray.ext
  simp [txtOf]
theorem heap_other' {w : World} {g k j : Nat} (h : j ≠ g) (u : Value) : (w.setCell ⟨g, k, none⟩ u).heap[j]? = w.heap[j]? :=
  Below.heap_setCell _ _ _ _ h

/-- the two results' cells -/
structure Cells2 (w wr : World) (x y : Value) : Prop where
  c0 : wr.heap[w.heap.size]? = some (.cells #[x] 114 (0, 0))
  c1 : wr.heap[w.heap.size + 1]? = some (.cells #[y] 4 (0, 0))
  below : Below w.heap.size w wr
theorem Cells2.read {w wr : World} {x y : Value} (h : Cells2 w wr x y) : wr.cell? ⟨w.heap.size, 0, none⟩ = some x ∧ wr.cell? ⟨w.heap.size + 1, 0, none⟩ = some y ∧ wr.frozen? ⟨w.heap.size, 0, none⟩ = false ∧ wr.frozen? ⟨w.heap.size + 1, 0, none⟩ = false := by
  refine ⟨?_, ?_, Lib.frozen_of_heap h.c0 0, Lib.frozen_of_heap h.c1 0⟩
  · rw [Lib.cell_of_heap h.c0]; rfl
  · rw [Lib.cell_of_heap h.c1]; rfl
theorem Cells2.set0 {w wr : World} {x y : Value} (h : Cells2 w wr x y) (v : Value) : Cells2 w (wr.setCell ⟨w.heap.size, 0, none⟩ v) v y :=
  ⟨heap_set_same' (k := 0) h.c0 v, by rw [heap_other' (by omega)]; exact h.c1, h.below.setCell (p := ⟨w.heap.size, 0, none⟩) (Nat.le_refl _) _⟩
theorem Cells2.set1 {w wr : World} {x y : Value} (h : Cells2 w wr x y) (v : Value) : Cells2 w (wr.setCell ⟨w.heap.size + 1, 0, none⟩ v) x v :=
  ⟨by rw [heap_other' (by omega)]; exact h.c0, heap_set_same' (k := 0) h.c1 v, h.below.setCell (p := ⟨w.heap.size + 1, 0, none⟩) (Nat.le_succ _) _⟩
theorem Cells2.later {w wr wr' : World} {x y : Value} (h : Cells2 w wr x y) (hb : Below (w.heap.size + 1 + 1) wr wr') : Cells2 w wr' x y :=
  ⟨by rw [hb.block _ (by omega)]; exact h.c0, by rw [hb.block _ (by omega)]; exact h.c1, h.below.trans (hb.mono (by omega))⟩

theorem rescue_any (w wr : World) (x y : Value) (u : TypeId) (pv : Value) (h : Cells2 w wr x y) :
    CallsD Tryz.prog 91 #[.pointer (some ⟨w.heap.size, 0, none⟩), .pointer (some ⟨w.heap.size + 1, 0, none⟩)] (.panicking [{ v := .iface u pv, recovered := false }]) wr fun e u' w' =>
      e = .returned (.tuple #[]) ∧ u' = .panicking [{ v := .iface u pv, recovered := true }] ∧ w'.cell? ⟨w.heap.size, 0, none⟩ = some .nilIface ∧ w'.cell? ⟨w.heap.size + 1, 0, none⟩ = some (.bool false) ∧ Below w.heap.size w w' := by
  refine (rescue_panicking _ _ _ _ u pv [] wr h.read.1 h.read.2.2.1 (fun v => (h.set0 v).read.2.1) (fun v => (h.set0 v).read.2.2.2)).mono ?_
  rintro e u' w' ⟨h1, h2, rfl⟩
  have h3 := (h.set0 .nilIface).set1 (.bool false)
  exact ⟨h1, h2, h3.read.1, h3.read.2.1, h3.below⟩

/-- the world in which the signs are taken -/
def startC (w : World) (s : ByteArray) : World := ((w.alloc (Obj.cells #[.nilIface] 114)).alloc (Obj.cells #[.bool false] 4)).alloc (Obj.cells #[.string s] 153)
theorem startC_facts (w : World) (s : ByteArray) : RdC (startC w s) (w.heap.size + 1 + 1) s.data.toList ∧ Cells2 w (startC w s) .nilIface (.bool false) := by
  have old : ∀ (b : Array Obj) (x : Obj) (k : Nat), k < b.size → (b.push x)[k]? = b[k]? := fun b x k h => by rw [Array.getElem?_push, if_neg (by omega)]
  have new : ∀ (b : Array Obj) (x : Obj) (k : Nat), k = b.size → (b.push x)[k]? = some x := fun b x k h => by subst h; simp
  refine ⟨?_, ?_, ?_, ?_⟩
  · show (((w.heap.push _).push _).push _)[_]? = _
    rw [new _ _ _ (by simp), txt_self]
  · show (((w.heap.push _).push _).push _)[_]? = _
    rw [old _ _ _ (by simp; omega), old _ _ _ (by simp), new _ _ _ rfl]
  · show (((w.heap.push _).push _).push _)[_]? = _
    rw [old _ _ _ (by simp), new _ _ _ (by simp)]
  · exact (((Below.refl _ w).alloc (Nat.le_refl _) _).alloc (by simp) _).alloc (by simp; omega) _

set_option maxHeartbeats 1000000 in
theorem read_within (s : ByteArray) (w : World) (hs : s.size ≤ 40) :
    Calls Tryz.prog 70 #[.string s] w (ReadC s w) := by
  have hmf : ∀ (fn : Fn) (first cap : Array Value) (w : World), (Instr.makeFunc fn first cap).run Tryz.prog w = .ok (.func fn first cap) w := fun _ _ _ _ => rfl
  obtain ⟨f1, f2⟩ := startC_facts w s
  have HT := Lib.hid (take_all (s.data.toList.length + 1) s.data.toList _ _ (by omega) (by simp; omega) f1)
  have F2 := Lib.hid f2
  clear f1 f2
  have hcase : (∃ x, cutAt s.data.toList = some (x, []) ∧ cutOf s = some x) ∨ (∃ x c r, cutAt s.data.toList = some (x, c :: r) ∧ cutOf s = none) ∨ (cutAt s.data.toList = none ∧ cutOf s = none) := by
    rw [cutOf, if_pos hs]
    cases h : cutAt s.data.toList with
    | none => exact .inr (.inr ⟨rfl, rfl⟩)
    | some p =>
      obtain ⟨x, r⟩ := p
      cases r with
      | nil => exact .inl ⟨x, rfl, rfl⟩
      | cons c r => exact .inr (.inl ⟨x, c, r, rfl, rfl⟩)
  rcases hcase with ⟨x, hc, ho⟩ | ⟨x, c, r, hc, ho⟩ | ⟨hc, ho⟩
  · have HC := Lib.hid hc
    have HO := Lib.hid ho
    clear hc ho
    go_enter_defers Tryz.func70, Tryz.ntmps70
    go_wp2_with fail
    refine HT.out.mono ?_
    rintro e w1 ⟨h1, hb⟩
    rw [HC.out] at h1
    obtain ⟨rfl, h2⟩ := h1
    have g1 := F2.out.later hb
    have HV := Lib.hid (show x.val = x.val from rfl)
    have hv := val_iface x
    generalize hxv : x.val = v at *
    have HX := Lib.hid hxv
    obtain ⟨ty, pv, rfl⟩ := hv
    clear hxv HV
    obtain ⟨q1, q2, q3, q4⟩ := g1.read
    have g2 := g1.set0 (.iface ty pv)
    obtain ⟨q5, q6, q7, q8⟩ := g2.read
    have q9 : (w1.setCell ⟨w.heap.size, 0, none⟩ (.iface ty pv)).cell? ⟨w.heap.size + 1 + 1, 0, none⟩ = some (.string (txtOf [])) := by
      rw [World.cell?_of_block (a := ⟨w.heap.size + 1 + 1, 0, none⟩) (heap_other' (show w.heap.size + 1 + 1 ≠ w.heap.size by omega) _), Lib.cell_of_heap h2]; rfl
    have q10 := text_none (s := txtOf []) rfl
    have g3 := g2.set0 (.iface ty pv)
    obtain ⟨q11, q12, q13, q14⟩ := g3.read
    have G4 := Lib.hid (g3.set1 (.bool true))
    clear h2 hb g1 g2 g3
    generalize txtOf [] = t0 at *
    go_wp2_with fail
    refine leaves_cons (f := 91) (args := #[.pointer (some ⟨w.heap.size, 0, none⟩), .pointer (some ⟨w.heap.size + 1, 0, none⟩)]) (by simp) (by simp [go_sem]) ?_
    refine (rescue_idle _ _ _).mono ?_
    rintro e u' w'' ⟨rfl, rfl, rfl⟩
    obtain ⟨r1, r2, _, _⟩ := G4.out.read
    refine ⟨.tuple #[.iface ty pv, .bool true], ?_, ?_, G4.out.below⟩
    · simp [results, Tryz.results70, go_sem, r1, r2]
    · rw [HO.out]; simp only; rw [HX.out]
  · have HC := Lib.hid hc
    have HO := Lib.hid ho
    clear hc ho
    go_enter_defers Tryz.func70, Tryz.ntmps70
    go_wp2_with fail
    refine HT.out.mono ?_
    rintro e w1 ⟨h1, hb⟩
    rw [HC.out] at h1
    obtain ⟨rfl, h2⟩ := h1
    have g1 := F2.out.later hb
    have hv := val_iface x
    generalize x.val = v at *
    obtain ⟨ty, pv, rfl⟩ := hv
    obtain ⟨q1, q2, q3, q4⟩ := g1.read
    have g2 := g1.set0 (.iface ty pv)
    have q9 : (w1.setCell ⟨w.heap.size, 0, none⟩ (.iface ty pv)).cell? ⟨w.heap.size + 1 + 1, 0, none⟩ = some (.string (txtOf (c :: r))) := by
      rw [World.cell?_of_block (a := ⟨w.heap.size + 1 + 1, 0, none⟩) (heap_other' (show w.heap.size + 1 + 1 ≠ w.heap.size by omega) _), Lib.cell_of_heap h2]; rfl
    have q10 := text_some (s := txtOf (c :: r)) (by rw [txtOf_size]; simp)
    have G2 := Lib.hid g2
    clear h2 hb g1 g2
    generalize txtOf (c :: r) = t0 at *
    go_wp2_with fail
    refine leaves_cons (f := 91) (args := #[.pointer (some ⟨w.heap.size, 0, none⟩), .pointer (some ⟨w.heap.size + 1, 0, none⟩)]) (by simp) (by simp [go_sem]) ?_
    refine (rescue_any _ _ _ _ _ _ G2.out).mono ?_
    rintro e u' w'' ⟨rfl, rfl, r1, r2, hP⟩
    simp [Leaves, settle, results, Tryz.results70, go_sem, r1, r2]
    exact ⟨by rw [HO.out], hP⟩
  · have HC := Lib.hid hc
    have HO := Lib.hid ho
    clear hc ho
    go_enter_defers Tryz.func70, Tryz.ntmps70
    go_wp2_with fail
    refine HT.out.mono ?_
    rintro e w1 ⟨h1, hb⟩
    rw [HC.out] at h1
    obtain ⟨u, pv, rfl⟩ := h1
    have G1 := Lib.hid (F2.out.later hb)
    clear hb
    go_wp2_with fail
    refine leaves_cons (f := 91) (args := #[.pointer (some ⟨w.heap.size, 0, none⟩), .pointer (some ⟨w.heap.size + 1, 0, none⟩)]) (by simp) (by simp [go_sem]) ?_
    refine (rescue_any _ _ _ _ _ _ G1.out).mono ?_
    rintro e u' w'' ⟨rfl, rfl, r1, r2, hP⟩
    simp [Leaves, settle, results, Tryz.results70, go_sem, r1, r2]
    exact ⟨by rw [HO.out], hP⟩

/-- readCut: the cut that a text is -/
theorem read_cut (s : ByteArray) (w : World) (hm : s.size ≤ 1073741824) :
    Calls Tryz.prog 70 #[.string s] w (ReadC s w) := by
  by_cases h : s.size ≤ 40
  · exact read_within s w h
  · exact read_over s w (by omega) hm
end Go.Proofs.YtkdnbdgpcgookaaGreatDoor
namespace Go.Proofs.YtkdnbdgpcgookaaGreatDoor
open Go.RowKit Gram

set_option maxHeartbeats 400000 in
theorem cend_neg (s : ByteArray) (w : World) :
    Calls Tryz.prog 61 #[.string s, .int .i64 (-1)] w fun e w' => e = .returned (.int .i64 (-1)) ∧ w = w' := by
  go_enter Tryz.func61, Tryz.ntmps61
  go_wp2_with fail
  go_ret
  exact ⟨rfl, rfl⟩

section
variable (s : ByteArray) (k : Nat) (w : World) (hb : (k : Int) ≤ 2147483648)
include hb

set_option maxHeartbeats 400000 in
theorem cend_one (d : UInt8) (hd : d = 80 ∨ d = 84 ∨ d = 78) (H0 : byteAt s k = d) :
    Calls Tryz.prog 61 #[.string s, .int .i64 k] w fun e w' => e = .returned (.int .i64 ((k : Int) + 1)) ∧ w = w' := by
  have HB := Lib.hid (fun w => byte_at s k k rfl (by omega) (d.toNat : Int) (by rw [H0]) w)
  clear H0
  rcases hd with rfl | rfl | rfl
  all_goals
    go_enter Tryz.func61, Tryz.ntmps61
    go_wp2_with fail
    refine (HB.out _).mono ?_
    rintro e w' ⟨rfl, rfl⟩
    go_wp2_with fail
    go_ret
    exact ⟨rfl, rfl⟩

set_option maxHeartbeats 400000 in
theorem cend_lit (d : UInt8) (hd : d = 67 ∨ d = 87 ∨ d = 70) (H0 : byteAt s k = d) :
    Calls Tryz.prog 61 #[.string s, .int .i64 k] w fun e w' => e = .returned (.int .i64 (if isLet (byteAt s (k + 1)) = true then (k : Int) + 2 else -1)) ∧ w = w' := by
  have HB := Lib.hid (fun w => byte_at s k k rfl (by omega) (d.toNat : Int) (by rw [H0]) w)
  have HB1 := Lib.hid (fun w => byte_at s (k + 1) (k + 1) (by omega) (by omega) ((byteAt s (k + 1)).toNat : Int) rfl w)
  have HL := Lib.hid (fun w => letter_any (byteAt s (k + 1)) w)
  clear H0
  generalize byteAt s (k + 1) = c at *
  cases hc : isLet c with
  | true =>
    rw [hc] at HL
    simp only [if_true]
    clear hc
    rcases hd with rfl | rfl | rfl
    all_goals
      go_enter Tryz.func61, Tryz.ntmps61
      go_wp2_with fail
      refine (HB.out _).mono ?_
      rintro e w' ⟨rfl, rfl⟩
      go_wp2_with fail
      refine (HB1.out _).mono ?_
      rintro e w' ⟨rfl, rfl⟩
      go_wp2_with fail
      refine (HL.out _).mono ?_
      rintro e w' ⟨rfl, rfl⟩
      go_wp2_with fail
      go_ret
      exact ⟨rfl, rfl⟩
  | false =>
    rw [hc] at HL
    simp only [Bool.false_eq_true, if_false]
    clear hc
    rcases hd with rfl | rfl | rfl
    all_goals
      go_enter Tryz.func61, Tryz.ntmps61
      go_wp2_with fail
      refine (HB.out _).mono ?_
      rintro e w' ⟨rfl, rfl⟩
      go_wp2_with fail
      refine (HB1.out _).mono ?_
      rintro e w' ⟨rfl, rfl⟩
      go_wp2_with fail
      refine (HL.out _).mono ?_
      rintro e w' ⟨rfl, rfl⟩
      go_wp2_with fail
      go_ret
      exact ⟨rfl, rfl⟩

set_option maxHeartbeats 400000 in
theorem cend_opp (H0 : byteAt s k = 33) (v : Int) (hv : ∀ w, Calls Tryz.prog 61 #[.string s, .int .i64 ((k : Int) + 1)] w fun e w' => e = .returned (.int .i64 v) ∧ w = w') :
    Calls Tryz.prog 61 #[.string s, .int .i64 k] w fun e w' => e = .returned (.int .i64 v) ∧ w = w' := by
  have HB := Lib.hid (fun w => byte_at s k k rfl (by omega) 33 (by rw [H0]; rfl) w)
  have HV := Lib.hid hv
  clear H0 hv
  go_enter Tryz.func61, Tryz.ntmps61
  go_wp2_with fail
  refine (HB.out _).mono ?_
  rintro e w' ⟨rfl, rfl⟩
  go_wp2_with fail
  refine (HV.out _).mono ?_
  rintro e w' ⟨rfl, rfl⟩
  go_wp2_with fail
  go_ret
  exact ⟨rfl, rfl⟩

set_option maxHeartbeats 400000 in
theorem cend_two (d : UInt8) (hd : d = 38 ∨ d = 124) (H0 : byteAt s k = d) (u v : Int) (hu : ∀ w, Calls Tryz.prog 61 #[.string s, .int .i64 ((k : Int) + 1)] w fun e w' => e = .returned (.int .i64 u) ∧ w = w')
    (hv : ∀ w, Calls Tryz.prog 61 #[.string s, .int .i64 u] w fun e w' => e = .returned (.int .i64 v) ∧ w = w') :
    Calls Tryz.prog 61 #[.string s, .int .i64 k] w fun e w' => e = .returned (.int .i64 v) ∧ w = w' := by
  have HB := Lib.hid (fun w => byte_at s k k rfl (by omega) (d.toNat : Int) (by rw [H0]) w)
  have HU := Lib.hid hu
  have HV := Lib.hid hv
  clear H0 hu hv
  rcases hd with rfl | rfl
  all_goals
    go_enter Tryz.func61, Tryz.ntmps61
    go_wp2_with fail
    refine (HB.out _).mono ?_
    rintro e w' ⟨rfl, rfl⟩
    go_wp2_with fail
    refine (HU.out _).mono ?_
    rintro e w' ⟨rfl, rfl⟩
    go_wp2_with fail
    refine (HV.out _).mono ?_
    rintro e w' ⟨rfl, rfl⟩
    go_wp2_with fail
    go_ret
    exact ⟨rfl, rfl⟩

set_option maxHeartbeats 400000 in
theorem cend_no (c : UInt8) (H0 : byteAt s k = c) (h1 : c ≠ 80) (h2 : c ≠ 84) (h3 : c ≠ 78) (h4 : isCWF c = false) (h5 : c ≠ 33) (h6 : isAO c = false) :
    Calls Tryz.prog 61 #[.string s, .int .i64 k] w fun e w' => e = .returned (.int .i64 (-1)) ∧ w = w' := by
  have HB := Lib.hid (fun w => byte_at s k k rfl (by omega) (c.toNat : Int) (by rw [H0]) w)
  simp only [isCWF, isAO, Bool.or_eq_false_iff, beq_eq_false_iff_ne] at h4 h6
  have g0 := ne_int h1
  have g1 := ne_int h2
  have g2 := ne_int h3
  have g3 := ne_int h4.1.1
  have g4 := ne_int h4.1.2
  have g5 := ne_int h4.2
  have g6 := ne_int h5
  have g7 := ne_int h6.1
  have g8 := ne_int h6.2
  simp only [UInt8.reduceToNat, Int.cast_ofNat_Int] at g0 g1 g2 g3 g4 g5 g6 g7 g8
  clear H0 h1 h2 h3 h4 h5 h6
  go_enter Tryz.func61, Tryz.ntmps61
  go_wp2_with fail
  refine (HB.out _).mono ?_
  rintro e w' ⟨rfl, rfl⟩
  go_wp2_with fail
  go_ret
  exact ⟨rfl, rfl⟩
end

def SaidC (m : Nat) : Prop := ∀ (s : ByteArray) (k : Nat) (w : World), s.size ≤ 1073741824 → (k : Int) ≤ 2147483648 → s.size - k < m →
    Calls Tryz.prog 61 #[.string s, .int .i64 k] w fun e w' => e = .returned (.int .i64 (endI s (cutAt (from_ s k)))) ∧ w = w'

theorem cend_step (m : Nat) (h : SaidC m) : SaidC (m + 1) := by
  intro s k w hs hk hm
  cases hf : from_ s k with
  | nil =>
    obtain ⟨h0, _⟩ := from_nil hf
    refine (cend_no s k w hk 0 h0 (by decide) (by decide) (by decide) (by decide) (by decide) (by decide)).mono ?_
    rintro e w' ⟨rfl, rfl⟩
    exact ⟨rfl, rfl⟩
  | cons c r =>
    obtain ⟨h0, hlt, hf1⟩ := from_cons hf
    have hrl : r.length = s.size - (k + 1) := by rw [← hf1, from_len]
    rw [cutAt_cons]
    by_cases h1 : c = 80
    · rw [if_pos h1]
      refine (cend_one s k w hk c (.inl h1) h0).mono ?_
      rintro e w' ⟨rfl, rfl⟩
      exact ⟨ret_int (by simp only [endI]; omega), rfl⟩
    rw [if_neg h1]
    by_cases h2 : c = 84
    · rw [if_pos h2]
      refine (cend_one s k w hk c (.inr (.inl h2)) h0).mono ?_
      rintro e w' ⟨rfl, rfl⟩
      exact ⟨ret_int (by simp only [endI]; omega), rfl⟩
    rw [if_neg h2]
    by_cases h3 : c = 78
    · rw [if_pos h3]
      refine (cend_one s k w hk c (.inr (.inr h3)) h0).mono ?_
      rintro e w' ⟨rfl, rfl⟩
      exact ⟨ret_int (by simp only [endI]; omega), rfl⟩
    rw [if_neg h3]
    by_cases h4 : isCWF c = true
    · rw [if_pos h4]
      have h4' : c = 67 ∨ c = 87 ∨ c = 70 := by
        simp only [isCWF, Bool.or_eq_true, beq_iff_eq] at h4
        rcases h4 with (h | h) | h
        · exact .inl h
        · exact .inr (.inl h)
        · exact .inr (.inr h)
      refine (cend_lit s k w hk c h4' h0).mono ?_
      rintro e w' ⟨rfl, rfl⟩
      refine ⟨ret_int ?_, rfl⟩
      cases r with
      | nil =>
        rw [(from_nil hf1).1]; rfl
      | cons d t =>
        rw [(from_cons hf1).1]
        by_cases hd : isLet d = true
        · simp only [litC, if_pos hd, endI]; simp at hrl; omega
        · simp only [litC, if_neg hd, endI]
    rw [if_neg h4]
    by_cases h5 : c = 33
    · rw [if_pos h5]
      have ih := fun w => h s (k + 1) w hs (by omega) (by omega)
      rw [hf1] at ih
      have e1 : ((k + 1 : Nat) : Int) = (k : Int) + 1 := by omega
      rw [e1] at ih
      refine (cend_opp s k w hk (h0.trans h5) _ ih).mono ?_
      rintro e w' ⟨rfl, rfl⟩
      refine ⟨ret_int ?_, rfl⟩
      cases cutAt r with
      | none => rfl
      | some p => rfl
    rw [if_neg h5]
    by_cases h6 : isAO c = true
    · rw [if_pos h6]
      have h6' : c = 38 ∨ c = 124 := by
        simpa only [isAO, Bool.or_eq_true, beq_iff_eq] using h6
      have ih := fun w => h s (k + 1) w hs (by omega) (by omega)
      rw [hf1] at ih
      have e1 : ((k + 1 : Nat) : Int) = (k : Int) + 1 := by omega
      rw [e1] at ih
      cases hx : cutAt r with
      | none =>
        rw [hx] at ih
        refine (cend_two s k w hk c h6' h0 (-1) (-1) ih (fun w => cend_neg s w)).mono ?_
        rintro e w' ⟨rfl, rfl⟩
        exact ⟨rfl, rfl⟩
      | some p =>
        obtain ⟨x, r1⟩ := p
        rw [hx] at ih
        have hsx := (cutAt_sound hx).1
        have hsh := cutAt_shorter hx
        obtain ⟨q1, q2, q3⟩ := from_suffix (hf1.trans hsx)
        have ih2 := fun w => h s (s.size - r1.length) w hs (by omega) (by omega)
        rw [q1] at ih2
        have e2 : ((s.size - r1.length : Nat) : Int) = (s.size : Int) - r1.length := by omega
        rw [e2] at ih2
        refine (cend_two s k w hk c h6' h0 _ _ ih ih2).mono ?_
        rintro e w' ⟨rfl, rfl⟩
        refine ⟨ret_int ?_, rfl⟩
        simp only
        cases cutAt r1 with
        | none => rfl
        | some p => rfl
    · rw [if_neg h6]
      refine (cend_no s k w hk c h0 h1 h2 h3 (by simpa using h4) h5 (by simpa using h6)).mono ?_
      rintro e w' ⟨rfl, rfl⟩
      exact ⟨rfl, rfl⟩

theorem cend_all (m : Nat) : SaidC m := by
  induction m with
  | zero => intro s k w _ _ h; omega
  | succ m ih => exact cend_step m ih

/-- l3End at an index -/
theorem cend_any (s : ByteArray) (k : Nat) (w : World) (hs : s.size ≤ 1073741824) (hk : (k : Int) ≤ 2147483648) :
    Calls Tryz.prog 61 #[.string s, .int .i64 k] w fun e w' => e = .returned (.int .i64 (endI s (cutAt (from_ s k)))) ∧ w = w' :=
  cend_all (s.size - k + 1) s k w hs hk (by omega)
end Go.Proofs.YtkdnbdgpcgookaaGreatDoor
namespace Go.Proofs.YtkdnbdgpcgookaaGreatDoor
open Go.RowKit Gram

set_option maxHeartbeats 400000 in
theorem impl_cval (s : ByteArray) (w : World) (hs : s.size ≤ 1073741824) :
    Calls Tryz.prog 57 #[.string s] w fun e w' => e = .returned (.bool (cutOf s).isSome) ∧ Below w.heap.size w w' := by
  have HR := Lib.hid (read_cut s w hs)
  cases hc : cutOf s with
  | none =>
    have HC := Lib.hid hc
    clear hc
    go_enter Tryz.func57, Tryz.ntmps57
    go_wp2_with fail
    refine HR.out.mono ?_
    rintro e w1 ⟨h1, hb⟩
    rw [HC.out] at h1
    subst h1
    go_wp2_with fail
    go_ret
    exact ⟨rfl, hb⟩
  | some x =>
    have HC := Lib.hid hc
    clear hc
    go_enter Tryz.func57, Tryz.ntmps57
    go_wp2_with fail
    refine HR.out.mono ?_
    rintro e w1 ⟨h1, hb⟩
    rw [HC.out] at h1
    subst h1
    go_wp2_with fail
    go_ret
    exact ⟨rfl, hb⟩

theorem cval_end (s : ByteArray) (h0 : 0 < s.size) (h : s.size ≤ 40) : (endI s (cutAt (from_ s 0)) == (s.size : Int)) = (cutOf s).isSome := by
  have e : from_ s 0 = s.data.toList := rfl
  rw [e, cutOf, if_pos h]
  cases hc : cutAt s.data.toList with
  | none => simp only [endI]; rw [beq_eq_false_iff_ne.2 (by omega)]; rfl
  | some p =>
    obtain ⟨x, r⟩ := p
    cases r with
    | nil => simp [endI]
    | cons c r => simp only [endI, List.length_cons]; rw [beq_eq_false_iff_ne.2 (by omega)]; rfl
theorem cval_nil (s : ByteArray) (h : s.size = 0) : cutOf s = none := by
  have : s.data.toList = [] := List.eq_nil_of_length_eq_zero (by simpa using h)
  rw [cutOf, if_pos (by omega), this]; rfl

set_option maxHeartbeats 400000 in
theorem spec_cval (s : ByteArray) (w : World) (hs : s.size ≤ 1073741824) :
    Calls Tryz.prog 30 #[.string s] w fun e w' => e = .returned (.bool (cutOf s).isSome) ∧ w = w' := by
  by_cases h0 : s.size = 0
  · have HN := Lib.hid (cval_nil s h0)
    have he := text_none h0
    go_enter Tryz.func30, Tryz.ntmps30
    go_wp2_with fail
    go_ret
    exact ⟨by rw [HN.out]; rfl, rfl⟩
  · have he := text_some (s := s) (by omega)
    by_cases h1 : s.size ≤ 40
    · have HB := Lib.hid (cval_end s (by omega) h1)
      have HE := Lib.hid (fun w => cend_any s 0 w hs (by omega))
      generalize endI s (cutAt (from_ s 0)) = i at *
      go_enter Tryz.func30, Tryz.ntmps30
      go_wp2_with fail
      refine (HE.out _).mono ?_
      rintro e w1 ⟨rfl, rfl⟩
      go_wp2_with fail
      go_ret
      exact ⟨by rw [← HB.out]; rfl, rfl⟩
    · have HN := Lib.hid (show cutOf s = none by rw [cutOf, if_neg h1])
      go_enter Tryz.func30, Tryz.ntmps30
      go_wp2_with fail
      go_ret
      exact ⟨by rw [HN.out]; rfl, rfl⟩

end Go.Proofs.YtkdnbdgpcgookaaGreatDoor
