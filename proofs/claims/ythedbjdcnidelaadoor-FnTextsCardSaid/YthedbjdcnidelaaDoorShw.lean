/- The model's DrawFormatShadow, DrawFormatCopy, DrawFormatNumbers; shadows, copies and lists of numbers of the same text are the same. No condition but that the bytes can be read. -/
import Derived.Test.YthedbjdcnidelaaDoorShd
import Derived.Test.YthedbjdcnidelaaDoorSht
import Derived.Test.YthedbjdcnidelaaDoorCpt
import Derived.Test.YthedbjdcnidelaaDoorFnm
import Derived.Deep.RegionHeld3
namespace Go.Proofs.YthedbjdcnidelaaDoor
open Go.RowKit Gram

/-- what a draw out of bytes hands back -/
def DrewShw (w : World) (e : Ending) (w' : World) : Prop := (∃ k nm st : ByteArray, e = .returned (pV k nm st) ∧ k.size ≤ 100 ∧ nm.size ≤ 100 ∧ st.size ≤ 1000) ∧ Below w.heap.size w w'

theorem BytesAt.later {w w' : World} {a : Option Addr} {n : Nat} (h : BytesAt w a n) (hb : Below w.heap.size w w') : BytesAt w' a n := fun k hk => by
  obtain ⟨g, off, ha, b, hc⟩ := h k hk
  exact ⟨g, off, ha, b, by rw [hb.cell (p := ⟨g, off + k, none⟩) (World.block_lt_of_cell? w _ hc)]; exact hc⟩

theorem drew_final {w w1 w2 : World} {o : Obj} {x y z : Value} (hz : (w.alloc o).heap[w.heap.size]? = some (.cells #[x, y, z] 24 (0, 0))) (hb : Below (w.heap.size + 1) (w.alloc o) w1) (hg : w1.grownBy w2 (some (w.heap.size + 1))) :
    w2.cell? ⟨w.heap.size, 0, none⟩ = some x ∧ w2.cell? ⟨w.heap.size, 1, none⟩ = some y ∧ w2.cell? ⟨w.heap.size, 2, none⟩ = some z ∧
    w2.frozen? ⟨w.heap.size, 0, none⟩ = false ∧ w2.frozen? ⟨w.heap.size, 1, none⟩ = false ∧ w2.frozen? ⟨w.heap.size, 2, none⟩ = false ∧
    ∀ X Y Z, ∃ wf, ((w2.setCell ⟨w.heap.size, 0, none⟩ X).setCell ⟨w.heap.size, 1, none⟩ Y).setCell ⟨w.heap.size, 2, none⟩ Z = wf ∧ wf.cell? ⟨w.heap.size, 0, none⟩ = some X ∧ wf.cell? ⟨w.heap.size, 1, none⟩ = some Y ∧ wf.cell? ⟨w.heap.size, 2, none⟩ = some Z ∧ Below w.heap.size w wf := by
  have h1 : w1.heap[w.heap.size]? = some (.cells #[x, y, z] 24 (0, 0)) := by rw [hb.block _ (by omega)]; exact hz
  have h2 : w2.heap[w.heap.size]? = some (.cells #[x, y, z] 24 (0, 0)) := by rw [hg.block _ (heap_lt h1) (by intro e; injection e; omega)]; exact h1
  refine ⟨by rw [Lib.cell_of_heap h2]; rfl, by rw [Lib.cell_of_heap h2]; rfl, by rw [Lib.cell_of_heap h2]; rfl, Lib.frozen_of_heap h2 0, Lib.frozen_of_heap h2 1, Lib.frozen_of_heap h2 2, fun X Y Z => ⟨_, rfl, ?_⟩⟩
  have h3 := heap_set_same (k := 2) (heap_set_same (k := 1) (heap_set_same (k := 0) h2 X) Y) Z
  refine ⟨by rw [Lib.cell_of_heap h3]; rfl, by rw [Lib.cell_of_heap h3]; rfl, by rw [Lib.cell_of_heap h3]; rfl, ?_⟩
  have hb1 : Below w.heap.size w w1 := ((Below.refl w.heap.size w).alloc (Nat.le_refl _) o).trans (hb.mono (Nat.le_succ _))
  have hb2 : Below w.heap.size w w2 := hb1.trans ⟨hg.os, hg.tape, hg.output, hg.size, fun j hj => hg.block j (Nat.lt_of_lt_of_le hj hb1.size) (by intro e; injection e; omega)⟩
  exact ((hb2.setCell (p := ⟨w.heap.size, 0, none⟩) (Nat.le_refl _) _).setCell (p := ⟨w.heap.size, 1, none⟩) (Nat.le_refl _) _).setCell (p := ⟨w.heap.size, 2, none⟩) (Nat.le_refl _) _

set_option maxHeartbeats 1000000 in
theorem drawSh_any (w : World) (a : Option Addr) (n c : Nat) (h : BytesAt w a n) (hn : n ≤ c) (hc : c ≤ 9223372036854775807) (hnil : a = none → n = 0) :
    Calls Tryd.prog 5 #[.slice a n c] w (DrewShw w) := by
  have H := Lib.hid (fun o => open_any (w.alloc o) a n c (h.later ((Below.refl w.heap.size w).alloc (Nat.le_refl _) o)) hn hc hnil)
  have HZ := Lib.hid (heap_alloc_new w (Obj.cells #[.string ⟨#[]⟩, .string ⟨#[]⟩, .string ⟨#[]⟩] 24))
  clear h hnil
  go_enter Tryd.func5, Tryd.ntmps5
  go_wp2_with fail
  refine (H.out _).mono ?_
  rintro e w1 ⟨m, rfl, hr, hb⟩
  rw [alloc_size'] at hr hb ⊢
  have HR := Lib.hid hr
  have HB := Lib.hid hb
  clear hr hb
  go_wp2_with fail
  refine (shadow_any _ (w.heap.size + 1) a m c 0 HR.out (by omega)).mono ?_
  rintro e w2 ⟨k, nm, st, q, rfl, hk, hnm, hst, hq, hr2, hg2⟩
  have HF := Lib.hid (drew_final HZ.out HB.out hg2)
  clear hr2 hg2
  obtain ⟨c0, c1, c2, z0, z1, z2, hfin⟩ := HF.out
  unfold pV
  go_wp2_with fail
  obtain ⟨wf, hwf, y0, y1, y2, hB⟩ := hfin (.string k) (.string nm) (.string st)
  rw [hwf]
  refine bodyPost_ret (v := pV k nm st) ?_ rfl ?_
  · simp [results, Tryd.results5, go_sem, y0, y1, y2, pV]
  · exact ⟨⟨k, nm, st, rfl, hk, hnm, hst⟩, hB⟩

theorem ptext_empty (k n s : ByteArray) : (ptext k n s).toList.isEmpty = !pvalid k n s := by
  cases h : pvalid k n s with
  | false => rw [ptext, h]; exact text_none rfl
  | true =>
    apply text_some
    rw [ptext, if_pos h]
    split
    · simp only [ByteArray.size_append]
      have : (⟨#[99, 97, 108, 108, 32]⟩ : ByteArray).size = 5 := rfl
      omega
    · simp only [ByteArray.size_append]
      have : (⟨#[112, 114, 105, 110, 116, 32, 105, 110, 32]⟩ : ByteArray).size = 9 := rfl
      omega

theorem bytes_eq {a b : ByteArray} (h : a.toList = b.toList) : a = b := by
  rw [ByteArray.toList_eq, ByteArray.toList_eq] at h
  apply ByteArray.ext
  apply Array.ext'
  exact h
theorem bytes_nil {a : ByteArray} (h : a.toList.isEmpty = true) : a = ⟨#[]⟩ := by
  apply bytes_eq
  rw [List.isEmpty_iff] at h
  rw [h, ByteArray.toList_eq]

/-- valid join points of the same text are the same -/
theorem ptext_inj {k n s k' n' s' : ByteArray} (h : pvalid k n s = true) (h' : pvalid k' n' s' = true) (he : ptext k n s = ptext k' n' s') : k = k' ∧ n = n' ∧ s = s' := by
  have hd := congrArg (fun t : ByteArray => t.data.toList) he
  simp only [ptext, if_pos h, if_pos h'] at hd
  have g : ∀ {k n s : ByteArray}, pvalid k n s = true → isCall k = true → ∃ c, n = ⟨#[c]⟩ := fun {k n s} hv hc => by
    have hn := (pv_size hv).2.1 hc
    have hl : n.data.toList.length = 1 := by simpa using hn
    obtain ⟨c, hcd⟩ := List.length_eq_one_iff.1 hl
    exact ⟨c, by apply ByteArray.ext; apply Array.ext'; rw [hcd]⟩
  have g2 : ∀ {k n s : ByteArray}, pvalid k n s = true → isCall k = false → n = ⟨#[]⟩ := fun {k n s} hv hc => by
    simp only [pvalid, Bool.and_eq_true] at hv
    have := hv.2
    rw [if_neg (by rw [hc]; decide), Bool.and_eq_true] at this
    exact bytes_nil this.2
  cases hc : isCall k with
  | true =>
    cases hc' : isCall k' with
    | true =>
      obtain ⟨c, rfl⟩ := g h hc
      obtain ⟨c', rfl⟩ := g h' hc'
      rw [if_pos hc, if_pos hc'] at hd
      simp at hd
      have hk : k = k' := by
        simp only [isCall, beq_iff_eq] at hc hc'
        exact bytes_eq (hc.trans hc'.symm)
      obtain ⟨h1, h2⟩ := hd
      subst h1
      exact ⟨hk, rfl, by apply ByteArray.ext; first | exact h2 | (apply Array.ext'; simpa using h2)⟩
    | false =>
      rw [if_pos hc, if_neg (by rw [hc']; decide)] at hd
      simp at hd
  | false =>
    cases hc' : isCall k' with
    | true =>
      rw [if_neg (by rw [hc]; decide), if_pos hc'] at hd
      simp at hd
    | false =>
      rw [if_neg (by rw [hc]; decide), if_neg (by rw [hc']; decide)] at hd
      simp at hd
      have hk : k = k' := by
        have p1 := (pv_size h).2.2 hc
        have p2 := (pv_size h').2.2 hc'
        simp only [isPrint, beq_iff_eq] at p1 p2
        exact bytes_eq (p1.trans p2.symm)
      exact ⟨hk, (g2 h hc).trans (g2 h' hc').symm, by apply ByteArray.ext; first | exact hd | (apply Array.ext'; simpa using hd)⟩


/-- valid shadows of the same text are the same -/
theorem stext_inj {k n s k' n' s' : ByteArray} (h : svalid k n s = true) (h' : svalid k' n' s' = true) (he : stext k n s = stext k' n' s') : k = k' ∧ n = n' ∧ s = s' := by
  obtain ⟨h1, h2⟩ := stext_is h
  obtain ⟨h1', h2'⟩ := stext_is h'
  rw [h1, h1'] at he
  exact ptext_inj h2 h2' he
theorem stext_empty (k n s : ByteArray) : (stext k n s).toList.isEmpty = !svalid k n s := by
  cases h : svalid k n s with
  | false => rw [stext_not h]; exact text_none rfl
  | true => rw [(stext_is h).1, ptext_empty, (stext_is h).2]

/-- an element of a list of texts is drawn -/
def DrewQ (Q : ByteArray → Prop) (w : World) (rb : Nat) (a : Option Addr) (n c p : Nat) (e : Ending) (w' : World) : Prop :=
  ∃ s : ByteArray, e = .returned (.string s) ∧ Q s ∧ Rdr w' rb a n c (p + 1) ∧ w.grownBy w' (some rb)
set_option maxHeartbeats 400000 in
set_option maxRecDepth 100000 in
theorem of_is (Q : ByteArray → Prop) (w : World) (rb : Nat) (a : Option Addr) (n c p : Nat) (g ln lc : Nat) (h : Rdr w rb a n c p) (hp : p ≤ 100000) (hl : 1 ≤ ln) (hlb : ln ≤ 1000) (hg : g ≠ rb)
    (hc : ∀ i, i < ln → ∃ s : ByteArray, w.cell? ⟨g, i, none⟩ = some (.string s) ∧ Q s) :
    Calls Tryd.prog 19 #[.pointer (some ⟨rb, 0, none⟩), .slice (some ⟨g, 0, none⟩) ln lc] w (DrewQ Q w rb a n c p) := by
  have H := Lib.hid h
  have HC := Lib.hid hc
  clear h hc
  go_enter Tryd.func19, Tryd.ntmps19
  go_wp2_with fail
  refine (pick_to _ H.out hp (by omega)).mono ?_
  rintro e w1 ⟨v, rfl, hv, hr, hgr⟩
  have hv' : v < ln := by omega
  obtain ⟨s, hcs, hsz⟩ := HC.out v hv'
  have hc1 : w1.cell? ⟨g, v, none⟩ = some (.string s) := hgr.cell hcs (by simpa using hg)
  have HR := Lib.hid hr
  have HG := Lib.hid hgr
  have HQ := Lib.hid hsz
  clear hr hgr hcs hsz
  go_wp2_with fail
  go_ret
  exact ⟨s, rfl, HQ.out, HR.out, HG.out⟩
theorem is_cells (Q : ByteArray → Prop) (w : World) (g : Nat) (ss : List ByteArray) (hM : ∀ s ∈ ss, Q s) (hg : g = w.heap.size) : ∀ i, i < ss.length → ∃ s : ByteArray, (w.alloc (Obj.cells (ss.map Value.string).toArray 9)).cell? ⟨g, i, none⟩ = some (.string s) ∧ Q s := by
  subst hg
  intro i hi
  refine ⟨ss[i], ?_, hM _ (List.getElem_mem hi)⟩
  rw [Lib.cell_of_heap (heap_alloc_new w _)]
  simp [hi]

/-- the parts that copies are drawn of -/
def cNames : List ByteArray := [⟨#[97]⟩, ⟨#[98]⟩, ⟨#[]⟩]
def cProcs : List ByteArray := [⟨#[97]⟩, ⟨#[98]⟩, ⟨#[99]⟩]
def cActs : List ByteArray := [⟨#[]⟩, ⟨#[97]⟩, ⟨#[97, 98]⟩]
/-- drawn copies of the same text are the same -/
theorem ctext_inj : ∀ n ∈ cNames, ∀ p ∈ cProcs, ∀ a ∈ cActs, ∀ n' ∈ cNames, ∀ p' ∈ cProcs, ∀ a' ∈ cActs, (ctext n p a).data.toList = (ctext n' p' a').data.toList → n.data.toList = n'.data.toList ∧ p.data.toList = p'.data.toList ∧ a.data.toList = a'.data.toList := by decide +kernel
theorem c_small : (∀ n ∈ cNames, n.size ≤ 2) ∧ (∀ n ∈ cProcs, n.size ≤ 2) ∧ (∀ n ∈ cActs, n.size ≤ 2) := by decide +kernel

theorem drew_finalC {w w1 w2 : World} {o : Obj} {x y z : Value} (hz : (w.alloc o).heap[w.heap.size]? = some (.cells #[x, y, z] 27 (0, 0))) (hb : Below (w.heap.size + 1) (w.alloc o) w1) (hg : w1.grownBy w2 (some (w.heap.size + 1))) :
    w2.cell? ⟨w.heap.size, 0, none⟩ = some x ∧ w2.cell? ⟨w.heap.size, 1, none⟩ = some y ∧ w2.cell? ⟨w.heap.size, 2, none⟩ = some z ∧
    w2.frozen? ⟨w.heap.size, 0, none⟩ = false ∧ w2.frozen? ⟨w.heap.size, 1, none⟩ = false ∧ w2.frozen? ⟨w.heap.size, 2, none⟩ = false ∧
    ∀ X Y Z, ∃ wf, ((w2.setCell ⟨w.heap.size, 0, none⟩ X).setCell ⟨w.heap.size, 1, none⟩ Y).setCell ⟨w.heap.size, 2, none⟩ Z = wf ∧ wf.cell? ⟨w.heap.size, 0, none⟩ = some X ∧ wf.cell? ⟨w.heap.size, 1, none⟩ = some Y ∧ wf.cell? ⟨w.heap.size, 2, none⟩ = some Z ∧ Below w.heap.size w wf := by
  have h1 : w1.heap[w.heap.size]? = some (.cells #[x, y, z] 27 (0, 0)) := by rw [hb.block _ (by omega)]; exact hz
  have h2 : w2.heap[w.heap.size]? = some (.cells #[x, y, z] 27 (0, 0)) := by rw [hg.block _ (heap_lt h1) (by intro e; injection e; omega)]; exact h1
  refine ⟨by rw [Lib.cell_of_heap h2]; rfl, by rw [Lib.cell_of_heap h2]; rfl, by rw [Lib.cell_of_heap h2]; rfl, Lib.frozen_of_heap h2 0, Lib.frozen_of_heap h2 1, Lib.frozen_of_heap h2 2, fun X Y Z => ⟨_, rfl, ?_⟩⟩
  have h3 := heap_set_same (k := 2) (heap_set_same (k := 1) (heap_set_same (k := 0) h2 X) Y) Z
  refine ⟨by rw [Lib.cell_of_heap h3]; rfl, by rw [Lib.cell_of_heap h3]; rfl, by rw [Lib.cell_of_heap h3]; rfl, ?_⟩
  have hb1 : Below w.heap.size w w1 := ((Below.refl w.heap.size w).alloc (Nat.le_refl _) o).trans (hb.mono (Nat.le_succ _))
  have hb2 : Below w.heap.size w w2 := hb1.trans ⟨hg.os, hg.tape, hg.output, hg.size, fun j hj => hg.block j (Nat.lt_of_lt_of_le hj hb1.size) (by intro e; injection e; omega)⟩
  exact ((hb2.setCell (p := ⟨w.heap.size, 0, none⟩) (Nat.le_refl _) _).setCell (p := ⟨w.heap.size, 1, none⟩) (Nat.le_refl _) _).setCell (p := ⟨w.heap.size, 2, none⟩) (Nat.le_refl _) _


/-- what the draw of a copy hands back -/
def DrewC (w : World) (e : Ending) (w' : World) : Prop := (∃ n p a : ByteArray, e = .returned (pV n p a) ∧ n ∈ cNames ∧ p ∈ cProcs ∧ a ∈ cActs) ∧ Below w.heap.size w w'
set_option maxHeartbeats 1000000 in
set_option maxRecDepth 100000 in
theorem drawC_any (w : World) (a : Option Addr) (n c : Nat) (h : BytesAt w a n) (hn : n ≤ c) (hc : c ≤ 9223372036854775807) (hnil : a = none → n = 0) :
    Calls Tryd.prog 6 #[.slice a n c] w (DrewC w) := by
  have H := Lib.hid (fun o => open_any (w.alloc o) a n c (h.later ((Below.refl w.heap.size w).alloc (Nat.le_refl _) o)) hn hc hnil)
  have HZ := Lib.hid (heap_alloc_new w (Obj.cells #[.string ⟨#[]⟩, .string ⟨#[]⟩, .string ⟨#[]⟩] 27))
  clear h hnil
  go_enter Tryd.func6, Tryd.ntmps6
  go_wp2_with fail
  refine (H.out _).mono ?_
  rintro e w1 ⟨m, rfl, hr, hb⟩
  rw [alloc_size'] at hr hb ⊢
  have HR := Lib.hid hr
  have HB := Lib.hid hb
  clear hr hb
  have hrb1 := heap_lt HR.out.own
  go_wp2_with fail
  refine (of_is (· ∈ cNames) _ (w.heap.size + 1) a m c 0 w1.heap.size 3 3 (HR.out.later (alloc_heap _)) (by omega) (by omega) (by omega) (by omega) (is_cells (· ∈ cNames) w1 w1.heap.size cNames (fun _ h => h) rfl)).mono ?_
  rintro e w2 ⟨t1, rfl, ht1, hr2, hg2⟩
  have HR2 := Lib.hid hr2
  have HG2 := Lib.hid (grownBy_trans (World.grownBy_alloc w1 _ _) hg2)
  have hrb2 := heap_lt hr2.own
  clear hr2 hg2
  go_wp2_with fail
  refine (of_is (· ∈ cProcs) _ (w.heap.size + 1) a m c 1 w2.heap.size 3 3 (HR2.out.later (alloc_heap _)) (by omega) (by omega) (by omega) (by omega) (is_cells (· ∈ cProcs) w2 w2.heap.size cProcs (fun _ h => h) rfl)).mono ?_
  rintro e w3 ⟨t2, rfl, ht2, hr3, hg3⟩
  have HR3 := Lib.hid hr3
  have HG3 := Lib.hid (grownBy_trans HG2.out (grownBy_trans (World.grownBy_alloc w2 _ _) hg3))
  have hrb3 := heap_lt hr3.own
  clear hr3 hg3
  go_wp2_with fail
  refine (of_is (· ∈ cActs) _ (w.heap.size + 1) a m c 2 w3.heap.size 3 3 (HR3.out.later (alloc_heap _)) (by omega) (by omega) (by omega) (by omega) (is_cells (· ∈ cActs) w3 w3.heap.size cActs (fun _ h => h) rfl)).mono ?_
  rintro e w4 ⟨t3, rfl, ht3, hr4, hg4⟩
  have HG4 := Lib.hid (grownBy_trans HG3.out (grownBy_trans (World.grownBy_alloc w3 _ _) hg4))
  clear hr4 hg4
  have HF := Lib.hid (drew_finalC HZ.out HB.out HG4.out)
  obtain ⟨c0, c1, c2, z0, z1, z2, hfin⟩ := HF.out
  have HM := Lib.hid (And.intro ht1 (And.intro ht2 ht3))
  clear ht1 ht2 ht3
  go_wp2_with fail
  obtain ⟨wf, hwf, y0, y1, y2, hB⟩ := hfin (.string t1) (.string t2) (.string t3)
  rw [hwf]
  refine bodyPost_ret (v := pV t1 t2 t3) ?_ rfl ?_
  · simp [results, Tryd.results6, go_sem, y0, y1, y2, pV]
  · exact ⟨⟨t1, t2, t3, rfl, HM.out.1, HM.out.2.1, HM.out.2.2⟩, hB⟩
end Go.Proofs.YthedbjdcnidelaaDoor
