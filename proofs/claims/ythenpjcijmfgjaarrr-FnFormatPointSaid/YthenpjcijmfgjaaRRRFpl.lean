/- The law FnFormatPoint answers true at every two slices of bytes. No condition but that their bytes can be read. -/
import Derived.Test.YthenpjcijmfgjaaRRRDpt
import Derived.Deep.RegionHeld3
namespace Go.Proofs.YthenpjcijmfgjaaRRR
open Go.RowKit Gram

/-- what a draw out of bytes hands back -/
def DrewPt (w : World) (e : Ending) (w' : World) : Prop := (∃ k nm st : ByteArray, e = .returned (pV k nm st) ∧ k.size ≤ 100 ∧ nm.size ≤ 100 ∧ st.size ≤ 1000) ∧ Below w.heap.size w w'

theorem BytesAt.later {w w' : World} {a : Option Addr} {n : Nat} (h : BytesAt w a n) (hb : Below w.heap.size w w') : BytesAt w' a n := fun k hk => by
  obtain ⟨g, off, ha, b, hc⟩ := h k hk
  exact ⟨g, off, ha, b, by rw [hb.cell (p := ⟨g, off + k, none⟩) (World.block_lt_of_cell? w _ hc)]; exact hc⟩

theorem drew_final {w w1 w2 : World} {o : Obj} {x y z : Value} (hz : (w.alloc o).heap[w.heap.size]? = some (.cells #[x, y, z] 24 (0, 0))) (hb : Below (w.heap.size + 1) (w.alloc o) w1) (hg : w1.grownBy w2 (some (w.heap.size + 1))) :
    w2.cell? ⟨w.heap.size, 0, none⟩ = some x ∧ w2.cell? ⟨w.heap.size, 1, none⟩ = some y ∧ w2.cell? ⟨w.heap.size, 2, none⟩ = some z ∧
    w2.frozen? ⟨w.heap.size, 0, none⟩ = false ∧ w2.frozen? ⟨w.heap.size, 1, none⟩ = false ∧ w2.frozen? ⟨w.heap.size, 2, none⟩ = false ∧
    ∀ X Y Z, ∃ wf, ((w2.setCell ⟨w.heap.size, 0, none⟩ X).setCell ⟨w.heap.size, 1, none⟩ Y).setCell ⟨w.heap.size, 2, none⟩ Z = wf ∧ wf.cell? ⟨w.heap.size, 0, none⟩ = some X ∧ wf.cell? ⟨w.heap.size, 1, none⟩ = some Y ∧ wf.cell? ⟨w.heap.size, 2, none⟩ = some Z ∧ Below w.heap.size w wf := by
  have h1 : w1.heap[w.heap.size]? = some (.cells #[x, y, z] 24 (0, 0)) := by rw [hb.block _ (by omega)]; exact hz
  have h2 : w2.heap[w.heap.size]? = some (.cells #[x, y, z] 24 (0, 0)) := by rw [hg.block _ (heap_lt h1) (by intro e; injection e; omega)]; exact h1
  refine ⟨by rw [Lib.cell_of_heap h2]; rfl, by rw [Lib.cell_of_heap h2]; rfl, by rw [Lib.cell_of_heap h2]; rfl, Lib.frozen_of_heap h2 0, Lib.frozen_of_heap h2 1, Lib.frozen_of_heap h2 2, fun X Y Z => ⟨_, rfl, ?_⟩⟩
  have h3 := heap_set_same (k := 2) (heap_set_same (k := 1) (heap_set_same (k := 0) h2 X) Y) Z
  refine ⟨by rw [Lib.cell_of_heap h3]; rfl, by rw [Lib.cell_of_heap h3]; rfl, by rw [Lib.cell_of_heap h3]; rfl, ?_⟩
  have hb1 : Below w.heap.size w w1 := ((Below.refl w.heap.size w).alloc (Nat.le_refl _) o).trans (hb.mono (Nat.le_succ _))
  have hb2 : Below w.heap.size w w2 := hb1.trans ⟨hg.os, hg.tape, hg.output, hg.size, fun j hj => hg.block j (Nat.lt_of_lt_of_le hj hb1.size) (by intro e; injection e; omega)⟩
  exact ((hb2.setCell (p := ⟨w.heap.size, 0, none⟩) (Nat.le_refl _) _).setCell (p := ⟨w.heap.size, 1, none⟩) (Nat.le_refl _) _).setCell (p := ⟨w.heap.size, 2, none⟩) (Nat.le_refl _) _

set_option maxHeartbeats 1000000 in
theorem drawF_any (w : World) (a : Option Addr) (n c : Nat) (h : BytesAt w a n) (hn : n ≤ c) (hc : c ≤ 9223372036854775807) (hnil : a = none → n = 0) :
    Calls Try.prog 10 #[.slice a n c] w (DrewPt w) := by
  have H := Lib.hid (fun o => open_any (w.alloc o) a n c (h.later ((Below.refl w.heap.size w).alloc (Nat.le_refl _) o)) hn hc hnil)
  have HZ := Lib.hid (heap_alloc_new w (Obj.cells #[.string ⟨#[]⟩, .string ⟨#[]⟩, .string ⟨#[]⟩] 24))
  clear h hnil
  go_enter Try.func10, Try.ntmps10
  go_wp2_with fail
  refine (H.out _).mono ?_
  rintro e w1 ⟨m, rfl, hr, hb⟩
  rw [alloc_size'] at hr hb ⊢
  have HR := Lib.hid hr
  have HB := Lib.hid hb
  clear hr hb
  go_wp2_with fail
  refine (point_any _ (w.heap.size + 1) a m c 0 HR.out (by omega)).mono ?_
  rintro e w2 ⟨k, nm, st, q, rfl, hk, hnm, hst, hq, hr2, hg2⟩
  have HF := Lib.hid (drew_final HZ.out HB.out hg2)
  clear hr2 hg2
  obtain ⟨c0, c1, c2, z0, z1, z2, hfin⟩ := HF.out
  unfold pV
  go_wp2_with fail
  obtain ⟨wf, hwf, y0, y1, y2, hB⟩ := hfin (.string k) (.string nm) (.string st)
  rw [hwf]
  refine bodyPost_ret (v := pV k nm st) ?_ rfl ?_
  · simp [results, Try.results10, go_sem, y0, y1, y2, pV]
  · exact ⟨⟨k, nm, st, rfl, hk, hnm, hst⟩, hB⟩

set_option maxHeartbeats 1000000 in
theorem drawV_any (w : World) (a : Option Addr) (n c : Nat) (h : BytesAt w a n) (hn : n ≤ c) (hc : c ≤ 9223372036854775807) (hnil : a = none → n = 0) :
    Calls Try.prog 12 #[.slice a n c] w (DrewPt w) := by
  have H := Lib.hid (fun o => open_any (w.alloc o) a n c (h.later ((Below.refl w.heap.size w).alloc (Nat.le_refl _) o)) hn hc hnil)
  have HZ := Lib.hid (heap_alloc_new w (Obj.cells #[.string ⟨#[]⟩, .string ⟨#[]⟩, .string ⟨#[]⟩] 24))
  clear h hnil
  go_enter Try.func12, Try.ntmps12
  go_wp2_with fail
  refine (H.out _).mono ?_
  rintro e w1 ⟨m, rfl, hr, hb⟩
  rw [alloc_size'] at hr hb ⊢
  have HR := Lib.hid hr
  have HB := Lib.hid hb
  clear hr hb
  go_wp2_with fail
  refine (point_any _ (w.heap.size + 1) a m c 0 HR.out (by omega)).mono ?_
  rintro e w2 ⟨k, nm, st, q, rfl, hk, hnm, hst, hq, hr2, hg2⟩
  have HF := Lib.hid (drew_final HZ.out HB.out hg2)
  clear hr2 hg2
  obtain ⟨c0, c1, c2, z0, z1, z2, hfin⟩ := HF.out
  unfold pV
  go_wp2_with fail
  obtain ⟨wf, hwf, y0, y1, y2, hB⟩ := hfin (.string k) (.string nm) (.string st)
  rw [hwf]
  refine bodyPost_ret (v := pV k nm st) ?_ rfl ?_
  · simp [results, Try.results12, go_sem, y0, y1, y2, pV]
  · exact ⟨⟨k, nm, st, rfl, hk, hnm, hst⟩, hB⟩

theorem ptext_empty (k n s : ByteArray) : (ptext k n s).toList.isEmpty = !pvalid k n s := by
  cases h : pvalid k n s with
  | false => rw [ptext, h]; exact text_none rfl
  | true =>
    apply text_some
    rw [ptext, if_pos h]
    split
    · simp only [ByteArray.size_append]
      have : (⟨#[99, 97, 108, 108, 32]⟩ : ByteArray).size = 5 := rfl
      omega
    · simp only [ByteArray.size_append]
      have : (⟨#[112, 114, 105, 110, 116, 32, 105, 110, 32]⟩ : ByteArray).size = 9 := rfl
      omega

theorem bytes_eq {a b : ByteArray} (h : a.toList = b.toList) : a = b := by
  rw [ByteArray.toList_eq, ByteArray.toList_eq] at h
  apply ByteArray.ext
  apply Array.ext'
  exact h
theorem bytes_nil {a : ByteArray} (h : a.toList.isEmpty = true) : a = ⟨#[]⟩ := by
  apply bytes_eq
  rw [List.isEmpty_iff] at h
  rw [h, ByteArray.toList_eq]

/-- valid join points of the same text are the same -/
theorem ptext_inj {k n s k' n' s' : ByteArray} (h : pvalid k n s = true) (h' : pvalid k' n' s' = true) (he : ptext k n s = ptext k' n' s') : k = k' ∧ n = n' ∧ s = s' := by
  have hd := congrArg (fun t : ByteArray => t.data.toList) he
  simp only [ptext, if_pos h, if_pos h'] at hd
  have g : ∀ {k n s : ByteArray}, pvalid k n s = true → isCall k = true → ∃ c, n = ⟨#[c]⟩ := fun {k n s} hv hc => by
    have hn := (pv_size hv).2.1 hc
    have hl : n.data.toList.length = 1 := by simpa using hn
    obtain ⟨c, hcd⟩ := List.length_eq_one_iff.1 hl
    exact ⟨c, by apply ByteArray.ext; apply Array.ext'; rw [hcd]⟩
  have g2 : ∀ {k n s : ByteArray}, pvalid k n s = true → isCall k = false → n = ⟨#[]⟩ := fun {k n s} hv hc => by
    simp only [pvalid, Bool.and_eq_true] at hv
    have := hv.2
    rw [if_neg (by rw [hc]; decide), Bool.and_eq_true] at this
    exact bytes_nil this.2
  cases hc : isCall k with
  | true =>
    cases hc' : isCall k' with
    | true =>
      obtain ⟨c, rfl⟩ := g h hc
      obtain ⟨c', rfl⟩ := g h' hc'
      rw [if_pos hc, if_pos hc'] at hd
      simp at hd
      have hk : k = k' := by
        simp only [isCall, beq_iff_eq] at hc hc'
        exact bytes_eq (hc.trans hc'.symm)
      obtain ⟨h1, h2⟩ := hd
      subst h1
      exact ⟨hk, rfl, by apply ByteArray.ext; first | exact h2 | (apply Array.ext'; simpa using h2)⟩
    | false =>
      rw [if_pos hc, if_neg (by rw [hc']; decide)] at hd
      simp at hd
  | false =>
    cases hc' : isCall k' with
    | true =>
      rw [if_neg (by rw [hc]; decide), if_pos hc'] at hd
      simp at hd
    | false =>
      rw [if_neg (by rw [hc]; decide), if_neg (by rw [hc']; decide)] at hd
      simp at hd
      have hk : k = k' := by
        have p1 := (pv_size h).2.2 hc
        have p2 := (pv_size h').2.2 hc'
        simp only [isPrint, beq_iff_eq] at p1 p2
        exact bytes_eq (p1.trans p2.symm)
      exact ⟨hk, (g2 h hc).trans (g2 h' hc').symm, by apply ByteArray.ext; first | exact hd | (apply Array.ext'; simpa using hd)⟩

theorem fin_eq {k n s k' n' s' : ByteArray} (hk : k.toList = k'.toList) (hn : n.toList = n'.toList) (hs : s.toList = s'.toList) : ((ptext k n s).toList == (ptext k' n' s').toList) = true := by
  rw [bytes_eq hk, bytes_eq hn, bytes_eq hs]; simp
theorem fin_ne {k n s k' n' s' : ByteArray} (h : pvalid k n s = true) (h' : pvalid k' n' s' = true) (hne : ¬ k.toList = k'.toList ∨ ¬ n.toList = n'.toList ∨ ¬ s.toList = s'.toList) : (!(ptext k n s).toList == (ptext k' n' s').toList) = true := by
  have hx : ((ptext k n s).toList == (ptext k' n' s').toList) = false := by
    rw [beq_eq_false_iff_ne]
    intro he
    obtain ⟨rfl, rfl, rfl⟩ := ptext_inj h h' (bytes_eq he)
    rcases hne with h | h | h <;> exact h rfl
  rw [hx]; rfl

set_option maxHeartbeats 1000000 in
theorem law_fp (w : World) (a : Option Addr) (n c : Nat) (a2 : Option Addr) (n2 c2 : Nat) (h : BytesAt w a n) (hn : n ≤ c) (hc : c ≤ 9223372036854775807) (hnil : a = none → n = 0)
    (h2 : BytesAt w a2 n2) (hn2 : n2 ≤ c2) (hc2 : c2 ≤ 9223372036854775807) (hnil2 : a2 = none → n2 = 0) (hl : n ≤ 1048576) (hl2 : n2 ≤ 1048576) :
    Calls Try.prog 3 #[.slice a n c, .slice a2 n2 c2] w fun e w' => e = .returned (.bool true) ∧ Below w.heap.size w w' := by
  have H := Lib.hid (drawF_any w a n c h hn hc hnil)
  have H2 := Lib.hid h2
  clear h h2
  go_enter Try.func3, Try.ntmps3
  go_wp2_with fail
  refine H.out.mono ?_
  rintro e w1 ⟨⟨k, nm, st, rfl, hk, hnm, hst⟩, hb1⟩
  have HB1 := Lib.hid hb1
  clear hb1
  have HI := Lib.hid (fun w => impl_ptext k nm st w)
  have HS := Lib.hid (fun w => spec_ptext k nm st w (by omega))
  have HV := Lib.hid (fun w => impl_pvalid k nm st w)
  have HE := Lib.hid (ptext_empty k nm st)
  unfold pV at *
  go_wp2_with fail
  refine (HI.out _).mono ?_
  rintro e w2 ⟨rfl, hb2⟩
  have HC2 := Lib.hid ((hb2.block _ (by simp)).trans (pv_cells w1 k nm st 24))
  have HB2 := Lib.hid (HB1.out.trans ((((Below.refl _ w1).alloc (Nat.le_refl _) (Obj.cells #[.string k, .string nm, .string st] 24)).trans (hb2.mono (by simp))).mono HB1.out.size))
  clear hb2
  go_wp2_with fail
  refine (drawV_any _ a2 n2 c2 (H2.out.later HB2.out) hn2 hc2 hnil2).mono ?_
  rintro e w3 ⟨⟨k', nm', st', rfl, hk', hnm', hst'⟩, hb3⟩
  have HC3 := Lib.hid ((hb3.block _ (heap_lt HC2.out)).trans HC2.out)
  have HB3 := Lib.hid (HB2.out.trans (hb3.mono HB2.out.size))
  clear hb3
  have HI' := Lib.hid (fun w => impl_ptext k' nm' st' w)
  have HS' := Lib.hid (fun w => spec_ptext k' nm' st' w (by omega))
  unfold pV at *
  go_wp2_with fail
  refine (HI'.out _).mono ?_
  rintro e w4 ⟨rfl, hb4⟩
  have HD4 := Lib.hid ((hb4.block _ (by simp)).trans (pv_cells w3 k' nm' st' 24))
  have HC4 := Lib.hid ((hb4.block _ (by rw [alloc_size']; have := heap_lt HC3.out; omega)).trans ((alloc_heap (w := w3) (Obj.cells #[.string k', .string nm', .string st'] 24) _ (heap_lt HC3.out)).trans HC3.out))
  have HB4 := Lib.hid (HB3.out.trans ((((Below.refl _ w3).alloc (Nat.le_refl _) (Obj.cells #[.string k', .string nm', .string st'] 24)).trans (hb4.mono (by simp))).mono HB3.out.size))
  clear hb4
  have HK := Lib.hid (fun (wx : World) (hb : Below w4.heap.size w4 wx) => (⟨by rw [Lib.cell_of_heap ((hb.block _ (heap_lt HC4.out)).trans HC4.out)]; rfl, by rw [Lib.cell_of_heap ((hb.block _ (heap_lt HC4.out)).trans HC4.out)]; rfl, by rw [Lib.cell_of_heap ((hb.block _ (heap_lt HC4.out)).trans HC4.out)]; rfl,
    by rw [Lib.cell_of_heap ((hb.block _ (heap_lt HD4.out)).trans HD4.out)]; rfl, by rw [Lib.cell_of_heap ((hb.block _ (heap_lt HD4.out)).trans HD4.out)]; rfl, by rw [Lib.cell_of_heap ((hb.block _ (heap_lt HD4.out)).trans HD4.out)]; rfl⟩ :
    wx.cell? ⟨w1.heap.size, 0, none⟩ = some (.string k) ∧ wx.cell? ⟨w1.heap.size, 1, none⟩ = some (.string nm) ∧ wx.cell? ⟨w1.heap.size, 2, none⟩ = some (.string st) ∧
    wx.cell? ⟨w3.heap.size, 0, none⟩ = some (.string k') ∧ wx.cell? ⟨w3.heap.size, 1, none⟩ = some (.string nm') ∧ wx.cell? ⟨w3.heap.size, 2, none⟩ = some (.string st')))
  obtain ⟨q0, q1, q2, r0, r1, r2⟩ := HK.out w4 (Below.refl _ _)
  go_wp2_with fail
  refine (HS.out _).mono ?_
  rintro e w5 ⟨rfl, hb5⟩
  have HB5 := Lib.hid hb5
  clear hb5 q0 q1 q2 r0 r1 r2
  obtain ⟨q0, q1, q2, r0, r1, r2⟩ := HK.out w5 HB5.out
  go_wp2_with fail
  refine (HS'.out _).mono ?_
  rintro e w6 ⟨rfl, hb6⟩
  have HB6 := Lib.hid (HB5.out.trans (hb6.mono HB5.out.size))
  clear hb6 q0 q1 q2 r0 r1 r2
  obtain ⟨q0, q1, q2, r0, r1, r2⟩ := HK.out w6 HB6.out
  go_wp2_with fail
  refine (HV.out _).mono ?_
  rintro e w7 ⟨rfl, hb7⟩
  have HB7 := Lib.hid (HB6.out.trans (hb7.mono HB6.out.size))
  clear hb7 q0 q1 q2 r0 r1 r2
  obtain ⟨q0, q1, q2, r0, r1, r2⟩ := HK.out w7 HB7.out
  have hE' := ptext_empty k' nm' st'
  have hE := HE.out
  have HB8 := Lib.hid (HB4.out.trans (HB7.out.mono HB4.out.size))
  cases hv : pvalid k nm st with
  | false =>
    rw [hv] at hE
    go_wp2_with fail
    go_ret
    exact ⟨rfl, HB8.out⟩
  | true =>
    rw [hv] at hE
    cases hv' : pvalid k' nm' st' with
    | false =>
      rw [hv'] at hE'
      go_wp2_with fail
      all_goals go_ret
      all_goals exact ⟨rfl, HB8.out⟩
    | true =>
      rw [hv'] at hE'
      have HV1 := Lib.hid hv
      have HV2 := Lib.hid hv'
      clear hv hv'
      go_wp2_with fail
      all_goals go_ret
      all_goals first
        | exact ⟨ret_bool (fin_eq (by assumption) (by assumption) (by assumption)), HB8.out⟩
        | exact ⟨ret_bool (fin_ne HV1.out HV2.out (.inl (by assumption))), HB8.out⟩
        | exact ⟨ret_bool (fin_ne HV1.out HV2.out (.inr (.inl (by assumption)))), HB8.out⟩
        | exact ⟨ret_bool (fin_ne HV1.out HV2.out (.inr (.inr (by assumption)))), HB8.out⟩

set_option maxHeartbeats 400000 in
theorem law_fp_over (w : World) (a : Option Addr) (n c : Nat) (a2 : Option Addr) (n2 c2 : Nat) (hn : n ≤ c) (hc : c ≤ 9223372036854775807) (hn2 : n2 ≤ c2) (hc2 : c2 ≤ 9223372036854775807) (hl : 1048576 < n ∨ 1048576 < n2) :
    Calls Try.prog 3 #[.slice a n c, .slice a2 n2 c2] w fun e w' => e = .returned (.bool true) ∧ Below w.heap.size w w' := by
  by_cases h1 : 1048576 < n
  · have e1 : (1048576 : Int) < n := by omega
    clear hl
    go_enter Try.func3, Try.ntmps3
    go_wp2_with fail
    go_ret
    exact ⟨rfl, Below.refl _ _⟩
  · have h2 : 1048576 < n2 := by omega
    have e1 : ¬ (1048576 : Int) < n := by omega
    have e2 : (1048576 : Int) < n2 := by omega
    clear hl
    go_enter Try.func3, Try.ntmps3
    go_wp2_with fail
    go_ret
    exact ⟨rfl, Below.refl _ _⟩
theorem law_fp_any (w : World) (a : Option Addr) (n c : Nat) (a2 : Option Addr) (n2 c2 : Nat) (h : BytesAt w a n) (hn : n ≤ c) (hc : c ≤ 9223372036854775807) (hnil : a = none → n = 0)
    (h2 : BytesAt w a2 n2) (hn2 : n2 ≤ c2) (hc2 : c2 ≤ 9223372036854775807) (hnil2 : a2 = none → n2 = 0) :
    Calls Try.prog 3 #[.slice a n c, .slice a2 n2 c2] w fun e w' => e = .returned (.bool true) ∧ Below w.heap.size w w' := by
  by_cases hl : n ≤ 1048576 ∧ n2 ≤ 1048576
  · exact law_fp w a n c a2 n2 c2 h hn hc hnil h2 hn2 hc2 hnil2 hl.1 hl.2
  · exact law_fp_over w a n c a2 n2 c2 hn hc hn2 hc2 (by omega)
end Go.Proofs.YthenpjcijmfgjaaRRR
