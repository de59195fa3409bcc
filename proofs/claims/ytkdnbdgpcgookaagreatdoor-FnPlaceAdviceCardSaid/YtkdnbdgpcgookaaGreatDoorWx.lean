/- The model's 'of' told by a predicate of the texts. Condition: counts up to 100000. What is drawn as an aspect is one, plainly: cuts and bodies by their trees, and how long they may be. No condition; no walk. The model's l3Draw: what it draws is a cut. Conditions: counts up to 60000. The model's l4Draw: what it draws is a body of advice. Conditions: counts up to 60000. The model's l4Some: what it draws is an aspect. Conditions: counts up to 50000. -/
import Derived.Test.YtkdnbdgpcgookaaGreatDoorDx
import Derived.Test.YtkdnbdgpcgookaaGreatDoorAsp
import Derived.Test.YtkdnbdgpcgookaaGreatDoorVx
namespace Go.Proofs.YtkdnbdgpcgookaaGreatDoor
open Go.RowKit

/-- an element of a list of texts is drawn -/
def DrewQ (Q : ByteArray → Prop) (w : World) (rb : Nat) (a : Option Addr) (n c p : Nat) (e : Ending) (w' : World) : Prop :=
  ∃ s : ByteArray, e = .returned (.string s) ∧ Q s ∧ Rdr w' rb a n c (p + 1) ∧ w.grownBy w' (some rb)
set_option maxHeartbeats 400000 in
set_option maxRecDepth 100000 in
theorem of_is (Q : ByteArray → Prop) (w : World) (rb : Nat) (a : Option Addr) (n c p : Nat) (g ln lc : Nat) (h : Rdr w rb a n c p) (hp : p ≤ 100000) (hl : 1 ≤ ln) (hlb : ln ≤ 1000) (hg : g ≠ rb)
    (hc : ∀ i, i < ln → ∃ s : ByteArray, w.cell? ⟨g, i, none⟩ = some (.string s) ∧ Q s) :
    Calls Tryz.prog 36 #[.pointer (some ⟨rb, 0, none⟩), .slice (some ⟨g, 0, none⟩) ln lc] w (DrewQ Q w rb a n c p) := by
  have H := Lib.hid h
  have HC := Lib.hid hc
  clear h hc
  go_enter Tryz.func36, Tryz.ntmps36
  go_wp2_with fail
  refine (pick_to _ H.out hp (by omega)).mono ?_
  rintro e w1 ⟨v, rfl, hv, hr, hgr⟩
  have hv' : v < ln := by omega
  obtain ⟨s, hcs, hsz⟩ := HC.out v hv'
  have hc1 : w1.cell? ⟨g, v, none⟩ = some (.string s) := hgr.cell hcs (by simpa using hg)
  have HR := Lib.hid hr
  have HG := Lib.hid hgr
  have HQ := Lib.hid hsz
  clear hr hgr hcs hsz
  go_wp2_with fail
  go_ret
  exact ⟨s, rfl, HQ.out, HR.out, HG.out⟩
theorem is_cells (Q : ByteArray → Prop) (w : World) (g : Nat) (ss : List ByteArray) (hM : ∀ s ∈ ss, Q s) (hg : g = w.heap.size) : ∀ i, i < ss.length → ∃ s : ByteArray, (w.alloc (Obj.cells (ss.map Value.string).toArray 9)).cell? ⟨g, i, none⟩ = some (.string s) ∧ Q s := by
  subst hg
  intro i hi
  refine ⟨ss[i], ?_, hM _ (List.getElem_mem hi)⟩
  rw [Lib.cell_of_heap (heap_alloc_new w _)]
  simp [hi]
end Go.Proofs.YtkdnbdgpcgookaaGreatDoor
namespace Go.Proofs.YtkdnbdgpcgookaaGreatDoor
open Go.RowKit Gram

/-- a text that is a cut, of at most n bytes -/
def IsCut (s : ByteArray) (n : Nat) : Prop := ∃ x : Ct, s.data.toList = x.txt ∧ x.wf = true ∧ s.size ≤ n
theorem IsCut.valid {s : ByteArray} {n : Nat} (h : IsCut s n) (hn : n ≤ 40) : (cutOf s).isSome = true := by
  obtain ⟨x, h1, h2, h3⟩ := h
  have h4 := cutAt_complete x [] h2
  rw [List.append_nil] at h4
  rw [cutOf, if_pos (by omega), h1, h4]; rfl
theorem IsCut.mono {s : ByteArray} {n m : Nat} (h : IsCut s n) (hm : n ≤ m) : IsCut s m := by
  obtain ⟨x, h1, h2, h3⟩ := h
  exact ⟨x, h1, h2, by omega⟩
theorem IsCut.opp {s : ByteArray} {n : Nat} (h : IsCut s n) : IsCut (⟨#[33]⟩ ++ s) (n + 1) := by
  obtain ⟨x, h1, h2, h3⟩ := h
  have e : (⟨#[33]⟩ : ByteArray).data.toList = [33] := rfl
  refine ⟨.opp x, ?_, h2, ?_⟩
  · simp [Ct.txt, h1]
  · have : (⟨#[33]⟩ : ByteArray).size = 1 := rfl
    simp; omega
theorem IsCut.two {g : UInt8} (hg : isAO g = true) {s t : ByteArray} {n m : Nat} (h : IsCut s n) (h' : IsCut t m) : IsCut (⟨#[g]⟩ ++ s ++ t) (n + m + 1) := by
  obtain ⟨x, h1, h2, h3⟩ := h
  obtain ⟨y, k1, k2, k3⟩ := h'
  refine ⟨.two g x y, ?_, ?_, ?_⟩
  · simp [Ct.txt, h1, k1]
  · simp [Ct.wf, hg, h2, k2]
  · have : (⟨#[g]⟩ : ByteArray).size = 1 := rfl
    simp; omega
theorem IsCut.prt : IsCut ⟨#[80]⟩ 1 := ⟨.prt, rfl, rfl, by decide⟩
theorem IsCut.fix (b : Bool) : IsCut ⟨#[if b then 84 else 78]⟩ 1 := ⟨.fix b, rfl, rfl, by show _ ≤ 1; decide +revert⟩
theorem IsCut.lt {g c : UInt8} (hg : isCWF g = true) (hc : isLet c = true) : IsCut ⟨#[g, c]⟩ 2 := ⟨.lt g c, rfl, by simp [Ct.wf, hg, hc], Nat.le_refl _⟩

/-- a text of statements without calls, of at most n bytes; with signs to proceed only where k says so -/
def IsAdv (k : Bool) (s : ByteArray) (n : Nat) : Prop := ∃ xs : List Stm, s.data.toList = txts xs ∧ wfs xs = true ∧ (dds xs).call = false ∧ (k = false → (dds xs).most = 0) ∧ s.size ≤ n
theorem IsAdv.mono {k : Bool} {s : ByteArray} {n m : Nat} (h : IsAdv k s n) (hm : n ≤ m) : IsAdv k s m := by
  obtain ⟨xs, h1, h2, h3, h4, h5⟩ := h
  exact ⟨xs, h1, h2, h3, h4, by omega⟩
theorem IsAdv.nil (k : Bool) : IsAdv k ⟨#[]⟩ 0 := ⟨[], rfl, rfl, rfl, fun _ => rfl, Nat.le_refl _⟩
theorem wfs_app (a b : List Stm) : wfs (a ++ b) = (wfs a && wfs b) := by
  induction a with
  | nil => simp [wfs]
  | cons x xs ih => simp [wfs, ih, Bool.and_assoc]
theorem IsAdv.app {k : Bool} {s t : ByteArray} {n m : Nat} (h : IsAdv k s n) (h' : IsAdv k t m) : IsAdv k (s ++ t) (n + m) := by
  obtain ⟨xs, h1, h2, h3, h4, h5⟩ := h
  obtain ⟨ys, k1, k2, k3, k4, k5⟩ := h'
  refine ⟨xs ++ ys, by rw [txts_append]; simp [h1, k1], by rw [wfs_app, h2, k2]; rfl, ?_, ?_, by simp; omega⟩
  · rw [dds_append]
    show ((dds xs).call || (dds ys).call) = false
    rw [h3, k3]; rfl
  · intro hk
    rw [dds_append]
    show (dds xs).most + (dds ys).most = 0
    rw [h4 hk, k4 hk]
theorem IsAdv.prt (k : Bool) : IsAdv k ⟨#[80]⟩ 1 := ⟨[.prt], rfl, rfl, rfl, fun _ => rfl, Nat.le_refl _⟩
theorem IsAdv.pro : IsAdv true ⟨#[75]⟩ 1 := ⟨[.pro], rfl, rfl, rfl, (fun h => by cases h), Nat.le_refl _⟩
theorem IsAdv.chg (k : Bool) {g d : UInt8} (hg : isSgn g = true) (hd : isDig d = true) : IsAdv k ⟨#[g, d]⟩ 2 := ⟨[.chg g d], rfl, by simp [wfs, Stm.wf, hg, hd], rfl, fun _ => rfl, Nat.le_refl _⟩
theorem IsAdv.cho {k : Bool} {s t : ByteArray} {n m : Nat} (h : IsAdv k s n) (h' : IsAdv k t m) : IsAdv k (⟨#[63, 91]⟩ ++ s ++ ⟨#[93, 91]⟩ ++ t ++ ⟨#[93]⟩) (n + m + 5) := by
  obtain ⟨xs, h1, h2, h3, h4, h5⟩ := h
  obtain ⟨ys, k1, k2, k3, k4, k5⟩ := h'
  have z1 : (⟨#[63, 91]⟩ : ByteArray).size = 2 := rfl
  have z2 : (⟨#[93, 91]⟩ : ByteArray).size = 2 := rfl
  have z3 : (⟨#[93]⟩ : ByteArray).size = 1 := rfl
  refine ⟨[.cho xs ys], by simp [txts, Stm.txt, h1, k1], by simp [wfs, Stm.wf, h2, k2], ?_, ?_, by simp; omega⟩
  · show (((dds xs).call || (dds ys).call) || false) = false
    rw [h3, k3]; rfl
  · intro hk
    show max (dds xs).most (dds ys).most + 0 = 0
    rw [h4 hk, k4 hk]; rfl
/-- a kind, a cut and a body that goes with the kind: an aspect -/
theorem adv_valid {k c b : ByteArray} {n : Nat} (hk : kindOf k = some n) (hc : IsCut c 40) (hb : IsAdv (n == 2) b 60) : (aspOf k c b).isSome = true := by
  obtain ⟨xs, h1, h2, h3, h4, h5⟩ := hb
  have ha : advOf b = some xs := by
    rw [advOf, if_pos h5]
    exact (pA_iff _ _).2 ⟨h1, h2⟩
  have hm : mayStand n xs = true := by
    unfold mayStand
    rw [h3]
    cases hn : (n == 2) with
    | true => rfl
    | false => rw [h4 hn]; rfl
  unfold aspOf
  rw [hk, hc.valid (Nat.le_refl _), ha]
  simp [hm]
end Go.Proofs.YtkdnbdgpcgookaaGreatDoor
namespace Go.Proofs.YtkdnbdgpcgookaaGreatDoor
open Go.RowKit Gram

theorem IsCut.size {s : ByteArray} {n : Nat} (h : IsCut s n) : s.size ≤ n := by obtain ⟨_, _, _, h3⟩ := h; exact h3
/-- a text with a property is drawn -/
def DrewV (P : ByteArray → Prop) (w : World) (rb : Nat) (a : Option Addr) (n c p cost : Nat) (e : Ending) (w' : World) : Prop :=
  ∃ (s : ByteArray) (q : Nat), e = .returned (.string s) ∧ P s ∧ q ≤ p + cost ∧ Rdr w' rb a n c q ∧ w.grownBy w' (some rb)
def OneLet (s : ByteArray) : Prop := ∃ c, isLet c = true ∧ s = ⟨#[c]⟩
theorem OneLet.size {s : ByteArray} (h : OneLet s) : s.size ≤ 1 := by obtain ⟨c, _, rfl⟩ := h; exact Nat.le_refl 1
theorem abcb_let : ∀ s ∈ [(⟨#[97]⟩ : ByteArray), ⟨#[98]⟩, ⟨#[99]⟩, ⟨#[98]⟩], OneLet s := by
  intro s hs
  simp only [List.mem_cons, List.not_mem_nil, or_false] at hs
  rcases hs with rfl | rfl | rfl | rfl
  · exact ⟨97, rfl, rfl⟩
  · exact ⟨98, rfl, rfl⟩
  · exact ⟨99, rfl, rfl⟩
  · exact ⟨98, rfl, rfl⟩
theorem leaf_cut (t : ByteArray) (ht : OneLet t) : ∀ s ∈ [(⟨#[80]⟩ : ByteArray), ⟨#[67]⟩ ++ t, ⟨#[87]⟩ ++ t, ⟨#[70]⟩ ++ t, ⟨#[67]⟩ ++ t, ⟨#[80]⟩, ⟨#[84]⟩, ⟨#[78]⟩], IsCut s 2 := by
  obtain ⟨c, hc, rfl⟩ := ht
  intro s hs
  simp only [List.mem_cons, List.not_mem_nil, or_false] at hs
  rcases hs with rfl | rfl | rfl | rfl | rfl | rfl | rfl | rfl
  · exact IsCut.prt.mono (by omega)
  · exact IsCut.lt (g := 67) rfl hc
  · exact IsCut.lt (g := 87) rfl hc
  · exact IsCut.lt (g := 70) rfl hc
  · exact IsCut.lt (g := 67) rfl hc
  · exact IsCut.prt.mono (by omega)
  · exact (IsCut.fix true).mono (by omega)
  · exact (IsCut.fix false).mono (by omega)

set_option maxHeartbeats 1000000 in
set_option maxRecDepth 100000 in
theorem l3v_zero (w : World) (rb : Nat) (a : Option Addr) (n c p : Nat) (h : Rdr w rb a n c p) (hp : p ≤ 60000) :
    Calls Tryz.prog 65 #[.pointer (some ⟨rb, 0, none⟩), .int .i64 0] w (DrewV (fun s => IsCut s 2) w rb a n c p 3) := by
  have H := Lib.hid h
  have hrb := heap_lt h.own
  clear h
  go_enter Tryz.func65, Tryz.ntmps65
  go_wp2_with fail
  refine (of_is OneLet _ rb a n c p w.heap.size 4 4 (H.out.later (alloc_heap (w := w) _)) (by omega) (by omega) (by omega) (by have := heap_lt H.out.own; omega) (is_cells OneLet w w.heap.size [⟨#[97]⟩, ⟨#[98]⟩, ⟨#[99]⟩, ⟨#[98]⟩] abcb_let rfl)).mono ?_
  rintro e w2 ⟨t, rfl, ht, hr, hg⟩
  obtain ⟨q, hq⟩ : ∃ q, q = p + 1 := ⟨_, rfl⟩
  rw [← hq] at hr
  have htz := ht.size
  have HR := Lib.hid hr
  have HG := Lib.hid (grownBy_trans (World.grownBy_alloc w _ _) hg)
  clear hr hg
  have e1 := str_sum ⟨#[67]⟩ t (by have : (⟨#[67]⟩ : ByteArray).size = 1 := rfl; omega)
  have e2 := str_sum ⟨#[87]⟩ t (by have : (⟨#[87]⟩ : ByteArray).size = 1 := rfl; omega)
  have e3 := str_sum ⟨#[70]⟩ t (by have : (⟨#[70]⟩ : ByteArray).size = 1 := rfl; omega)
  go_wp2_with fail
  refine (of_is (fun s => IsCut s 2) _ rb a n c q w2.heap.size 8 8 (HR.out.later (alloc_heap (w := w2) _)) (by omega) (by omega) (by omega) (by have := heap_lt HR.out.own; omega) (is_cells (fun s => IsCut s 2) w2 w2.heap.size [⟨#[80]⟩, ⟨#[67]⟩ ++ t, ⟨#[87]⟩ ++ t, ⟨#[70]⟩ ++ t, ⟨#[67]⟩ ++ t, ⟨#[80]⟩, ⟨#[84]⟩, ⟨#[78]⟩] (leaf_cut t ht) rfl)).mono ?_
  rintro e w3 ⟨t', rfl, ht', hr', hg'⟩
  obtain ⟨q', hq'⟩ : ∃ q', q' = q + 1 := ⟨_, rfl⟩
  rw [← hq'] at hr'
  have HR3 := Lib.hid hr'
  have HG3 := Lib.hid (grownBy_trans HG.out (grownBy_trans (World.grownBy_alloc w2 _ _) hg'))
  clear hr' hg'
  go_wp2_with fail
  go_ret
  exact ⟨t', q', rfl, ht', by omega, HR3.out, HG3.out⟩

set_option maxHeartbeats 1000000 in
set_option maxRecDepth 100000 in
theorem l3v_succ (d : Nat) (hd : d ≤ 3) (rb : Nat) (a : Option Addr) (n c : Nat)
    (IH : ∀ (w : World) (p : Nat) (k : Int), k = d → Rdr w rb a n c p → p + lC d ≤ 60000 → Calls Tryz.prog 65 #[.pointer (some ⟨rb, 0, none⟩), .int .i64 k] w (DrewV (fun s => IsCut s (lB d)) w rb a n c p (lC d)))
    (w : World) (p : Nat) (k : Int) (hk : k = d + 1) (h : Rdr w rb a n c p) (hp : p + lC (d + 1) ≤ 60000) :
    Calls Tryz.prog 65 #[.pointer (some ⟨rb, 0, none⟩), .int .i64 k] w (DrewV (fun s => IsCut s (lB (d + 1))) w rb a n c p (lC (d + 1))) := by
  have H := Lib.hid h
  have HI := Lib.hid IH
  have b2 := lB_le d
  have c3 := lC_le d
  have bB : lB d ≤ 1000 := by
    have : d = 0 ∨ d = 1 ∨ d = 2 ∨ d = 3 := by omega
    rcases this with rfl | rfl | rfl | rfl <;> decide
  have eB : lB (d + 1) = 2 * lB d + 1 := rfl
  have eC : lC (d + 1) = 2 * lC d + 2 := rfl
  rw [eC] at hp
  rw [eB, eC]
  clear h IH eB eC
  generalize lB d = B at *
  generalize lC d = C at *
  go_enter Tryz.func65, Tryz.ntmps65
  go_wp2_with fail
  refine (pick_to 4 H.out (by omega) (by omega)).mono ?_
  rintro e w1 ⟨v, rfl, hv, hr1, hg1⟩
  have H1 := Lib.hid hr1
  have G1 := Lib.hid hg1
  clear hr1 hg1
  by_cases hv0 : v = 0
  · subst hv0
    go_wp2_with fail
    refine (of_is OneLet _ rb a n c (p + 1) w1.heap.size 4 4 (H1.out.later (alloc_heap (w := w1) _)) (by omega) (by omega) (by omega) (by have := heap_lt H1.out.own; omega) (is_cells OneLet w1 w1.heap.size [⟨#[97]⟩, ⟨#[98]⟩, ⟨#[99]⟩, ⟨#[98]⟩] abcb_let rfl)).mono ?_
    rintro e w2 ⟨t, rfl, ht, hr, hg⟩
    obtain ⟨q, hq⟩ : ∃ q, q = p + 1 + 1 := ⟨_, rfl⟩
    rw [← hq] at hr
    have htz := ht.size
    have HR := Lib.hid hr
    have HG := Lib.hid (grownBy_trans (World.grownBy_alloc w1 _ _) hg)
    clear hr hg
    have e1 := str_sum ⟨#[67]⟩ t (by have : (⟨#[67]⟩ : ByteArray).size = 1 := rfl; omega)
    have e2 := str_sum ⟨#[87]⟩ t (by have : (⟨#[87]⟩ : ByteArray).size = 1 := rfl; omega)
    have e3 := str_sum ⟨#[70]⟩ t (by have : (⟨#[70]⟩ : ByteArray).size = 1 := rfl; omega)
    go_wp2_with fail
    refine (of_is (fun s => IsCut s 2) _ rb a n c q w2.heap.size 8 8 (HR.out.later (alloc_heap (w := w2) _)) (by omega) (by omega) (by omega) (by have := heap_lt HR.out.own; omega) (is_cells (fun s => IsCut s 2) w2 w2.heap.size [⟨#[80]⟩, ⟨#[67]⟩ ++ t, ⟨#[87]⟩ ++ t, ⟨#[70]⟩ ++ t, ⟨#[67]⟩ ++ t, ⟨#[80]⟩, ⟨#[84]⟩, ⟨#[78]⟩] (leaf_cut t ht) rfl)).mono ?_
    rintro e w3 ⟨t', rfl, ht', hr', hg'⟩
    obtain ⟨q', hq'⟩ : ∃ q', q' = q + 1 := ⟨_, rfl⟩
    rw [← hq'] at hr'
    have HR3 := Lib.hid hr'
    have HG3 := Lib.hid (grownBy_trans HG.out (grownBy_trans (World.grownBy_alloc w2 _ _) hg'))
    clear hr' hg'
    go_wp2_with fail
    go_ret
    exact ⟨t', q', rfl, ht'.mono (by omega), by omega, HR3.out, grownBy_trans G1.out HG3.out⟩
  · have hvb : ((v : Int) == 0) = false := by rw [beq_eq_false_iff_ne]; omega
    go_wp2_with fail
    refine (pick_to 3 H1.out (by omega) (by omega)).mono ?_
    rintro e w2 ⟨u, rfl, hu, hr2, hg2⟩
    have H2 := Lib.hid hr2
    have G2 := Lib.hid (grownBy_trans G1.out hg2)
    clear hr2 hg2
    by_cases hu0 : u = 0
    · subst hu0
      go_wp2_with fail
      refine (HI.out _ _ _ (by omega) H2.out (by omega)).mono ?_
      rintro e w3 ⟨t, q, rfl, ht, hq, hr, hg⟩
      have htz := ht.size
      have HR := Lib.hid hr
      have HG := Lib.hid (grownBy_trans G2.out hg)
      clear hr hg
      have o33 : (⟨#[33]⟩ : ByteArray).size = 1 := rfl
      have e1 := str_sum ⟨#[33]⟩ t (by omega)
      go_wp2_with fail
      go_ret
      exact ⟨_, q, rfl, ht.opp.mono (by omega), by omega, HR.out, HG.out⟩
    · have hub : ((u : Int) == 0) = false := by rw [beq_eq_false_iff_ne]; omega
      by_cases hu1 : u = 1
      · subst hu1
        go_wp2_with fail
        refine (HI.out _ _ _ (by omega) H2.out (by omega)).mono ?_
        rintro e w3 ⟨t, q, rfl, ht, hq, hr, hg⟩
        have htz := ht.size
        have HR := Lib.hid hr
        have HG := Lib.hid (grownBy_trans G2.out hg)
        clear hr hg
        have o38 : (⟨#[38]⟩ : ByteArray).size = 1 := rfl
        have e1 := str_sum ⟨#[38]⟩ t (by omega)
        go_wp2_with fail
        refine (HI.out _ _ _ (by omega) HR.out (by omega)).mono ?_
        rintro e w4 ⟨t', q', rfl, ht', hq', hr', hg'⟩
        have htz' := ht'.size
        have HR' := Lib.hid hr'
        have HG' := Lib.hid (grownBy_trans HG.out hg')
        clear hr' hg'
        have e2 := str_sum (⟨#[38]⟩ ++ t) t' (by rw [ByteArray.size_append]; omega)
        go_wp2_with fail
        go_ret
        exact ⟨_, q', rfl, (IsCut.two (g := 38) rfl ht ht').mono (by omega), by omega, HR'.out, HG'.out⟩
      · have hub1 : ((u : Int) == 1) = false := by rw [beq_eq_false_iff_ne]; omega
        go_wp2_with fail
        refine (HI.out _ _ _ (by omega) H2.out (by omega)).mono ?_
        rintro e w3 ⟨t, q, rfl, ht, hq, hr, hg⟩
        have htz := ht.size
        have HR := Lib.hid hr
        have HG := Lib.hid (grownBy_trans G2.out hg)
        clear hr hg
        have o38 : (⟨#[124]⟩ : ByteArray).size = 1 := rfl
        have e1 := str_sum ⟨#[124]⟩ t (by omega)
        go_wp2_with fail
        refine (HI.out _ _ _ (by omega) HR.out (by omega)).mono ?_
        rintro e w4 ⟨t', q', rfl, ht', hq', hr', hg'⟩
        have htz' := ht'.size
        have HR' := Lib.hid hr'
        have HG' := Lib.hid (grownBy_trans HG.out hg')
        clear hr' hg'
        have e2 := str_sum (⟨#[124]⟩ ++ t) t' (by rw [ByteArray.size_append]; omega)
        go_wp2_with fail
        go_ret
        exact ⟨_, q', rfl, (IsCut.two (g := 124) rfl ht ht').mono (by omega), by omega, HR'.out, HG'.out⟩

theorem l3v_any (rb : Nat) (a : Option Addr) (n c : Nat) : ∀ (d : Nat) (_ : d ≤ 3) (w : World) (p : Nat) (k : Int) (_ : k = d) (_ : Rdr w rb a n c p) (_ : p + lC d ≤ 60000),
    Calls Tryz.prog 65 #[.pointer (some ⟨rb, 0, none⟩), .int .i64 k] w (DrewV (fun s => IsCut s (lB d)) w rb a n c p (lC d))
  | 0, _, w, p, k, hk, h, hp => by
    subst hk
    exact l3v_zero w rb a n c p h (by omega)
  | d + 1, hd, w, p, k, hk, h, hp => l3v_succ d (by omega) rb a n c (fun w p k hk h hp => l3v_any rb a n c d (by omega) w p k hk h hp) w p k (by omega) h hp
end Go.Proofs.YtkdnbdgpcgookaaGreatDoor
namespace Go.Proofs.YtkdnbdgpcgookaaGreatDoor
open Go.RowKit Gram

theorem IsAdv.size {k : Bool} {s : ByteArray} {n : Nat} (h : IsAdv k s n) : s.size ≤ n := by obtain ⟨_, _, _, _, _, h5⟩ := h; exact h5
theorem step_adv (k : Bool) : ∀ s ∈ [(⟨#[43, 49]⟩ : ByteArray), ⟨#[45, 49]⟩, ⟨#[42, 50]⟩, ⟨#[43, 50]⟩], IsAdv k s 2 := by
  intro s hs
  simp only [List.mem_cons, List.not_mem_nil, or_false] at hs
  rcases hs with rfl | rfl | rfl | rfl
  · exact IsAdv.chg k rfl rfl
  · exact IsAdv.chg k rfl rfl
  · exact IsAdv.chg k rfl rfl
  · exact IsAdv.chg k rfl rfl
theorem adv_cho {k : Bool} {st t t' : ByteArray} {n m : Nat} (h0 : IsAdv k st n) (h : IsAdv k t m) (h' : IsAdv k t' m) : IsAdv k (st ++ ⟨#[63, 91]⟩ ++ t ++ ⟨#[93, 91]⟩ ++ t' ++ ⟨#[93]⟩) (n + (m + m + 5)) := by
  have := h0.app (h.cho h')
  rw [← ByteArray.append_assoc, ← ByteArray.append_assoc, ← ByteArray.append_assoc, ← ByteArray.append_assoc] at this
  exact this

set_option maxHeartbeats 2000000 in
set_option maxRecDepth 100000 in
theorem l4v_gen (rb : Nat) (a : Option Addr) (n c : Nat) (ar : Bool) (k : Int) (P C S0 C0 : Nat) (hP2 : 2 ≤ P) (hC2 : 2 ≤ C) (hPb : P ≤ 1000) (hCb : C ≤ 1000) (hS : 0 < k → 5 + 2 * S0 ≤ P ∧ 1 + 2 * C0 ≤ C) (hkb : -1000 ≤ k ∧ k ≤ 1000)
    (IH : 0 < k → ∀ (w : World) (p : Nat) (j : Int), j = k - 1 → Rdr w rb a n c p → p + C0 ≤ 60000 → Calls Tryz.prog 66 #[.pointer (some ⟨rb, 0, none⟩), .bool ar, .int .i64 j] w (DrewV (fun s => IsAdv ar s S0) w rb a n c p C0))
    (w : World) (p : Nat) (h : Rdr w rb a n c p) (hp : p + 1 + 2 * C ≤ 60000) :
    Calls Tryz.prog 66 #[.pointer (some ⟨rb, 0, none⟩), .bool ar, .int .i64 k] w (DrewV (fun s => IsAdv ar s (2 * P)) w rb a n c p (1 + 2 * C)) := by
  have H := Lib.hid h
  have HI := Lib.hid IH
  have HS := Lib.hid hS
  obtain ⟨k1, k2⟩ := hkb
  clear h IH hS
  go_enter Tryz.func66, Tryz.ntmps66
  go_wp2_with fail
  refine (pick_to 3 H.out (by omega) (by omega)).mono ?_
  rintro e w1 ⟨v, rfl, hv, hr1, hg1⟩
  have H1 := Lib.hid hr1
  have G1 := Lib.hid hg1
  clear hr1 hg1
  go_wp2_with fail
  go_loopw [7, 12] (fun o i wr => ∃ (j q : Nat) (st : ByteArray), o = .string st ∧ i = .int .i64 j ∧ j ≤ v ∧ q ≤ p + 1 + j * C ∧ Hid (IsAdv ar st (j * P)) ∧ Hid (Rdr wr rb a n c q) ∧ Hid (w.grownBy wr (some rb))) (fun _ i _ => v - (intOf i).toNat)
  case atStart => exact ⟨0, p + 1, ⟨#[]⟩, rfl, by go_num, Nat.zero_le _, by omega, (show IsAdv ar _ _ from (IsAdv.nil ar).mono (Nat.zero_le _)), H1.out, G1.out⟩
  case round =>
    obtain ⟨j, q, st, rfl, rfl, hj, hq, hA0, hR, hG⟩ := hrel
    have hst := hA0.out.size
    by_cases hlt : j < v
    · have hjv : j = 0 ∨ j = 1 := by omega
      have hqb : q + C ≤ p + 1 + (j + 1) * C ∧ q + C ≤ 60000 := by rcases hjv with rfl | rfl <;> omega
      have hsb : j * P + P ≤ (j + 1) * P ∧ st.size + P ≤ 10000 := by rcases hjv with rfl | rfl <;> omega
      clear hq hst
      obtain ⟨hq1, hq2⟩ := hqb
      obtain ⟨hs1, hs2⟩ := hsb
      have HQ := Lib.hid hq1
      have HZ := Lib.hid hs1
      clear hq1 hs1 hjv
      go_wp2_with fail
      refine (pick_to 7 hR.out (by omega) (by omega)).mono ?_
      rintro e w2 ⟨u, rfl, hu, hr2, hg2⟩
      have H2 := Lib.hid hr2
      have G2 := Lib.hid (grownBy_trans hG.out hg2)
      clear hr2 hg2
      by_cases hA : u = 0 ∧ 0 < k
      · obtain ⟨rfl, hk0⟩ := hA
        have HC := Lib.hid (HS.out hk0)
        have hc1 := HC.out.1
        have hc2 := HC.out.2
        go_wp2_with fail
        refine (HI.out hk0 _ _ _ (by omega) H2.out (by omega)).mono ?_
        rintro e w3 ⟨t, q3, rfl, ht, hq3, hr3, hg3⟩
        have htz := ht.size
        have H3 := Lib.hid hr3
        have G3 := Lib.hid (grownBy_trans G2.out hg3)
        clear hr3 hg3
        have o1 : (⟨#[63, 91]⟩ : ByteArray).size = 2 := rfl
        have o2 : (⟨#[93, 91]⟩ : ByteArray).size = 2 := rfl
        have o3 : (⟨#[93]⟩ : ByteArray).size = 1 := rfl
        have e1 := str_sum st ⟨#[63, 91]⟩ (by omega)
        have e2 := str_sum (st ++ ⟨#[63, 91]⟩) t (by simp only [ByteArray.size_append]; omega)
        have e3 := str_sum (st ++ ⟨#[63, 91]⟩ ++ t) ⟨#[93, 91]⟩ (by simp only [ByteArray.size_append]; omega)
        go_wp2_with fail
        refine (HI.out hk0 _ _ _ (by omega) H3.out (by omega)).mono ?_
        rintro e w4 ⟨t', q4, rfl, ht', hq4, hr4, hg4⟩
        have htz' := ht'.size
        have H4 := Lib.hid hr4
        have G4 := Lib.hid (grownBy_trans G3.out hg4)
        clear hr4 hg4
        have e4 := str_sum (st ++ ⟨#[63, 91]⟩ ++ t ++ ⟨#[93, 91]⟩) t' (by simp only [ByteArray.size_append]; omega)
        have e5 := str_sum (st ++ ⟨#[63, 91]⟩ ++ t ++ ⟨#[93, 91]⟩ ++ t') ⟨#[93]⟩ (by simp only [ByteArray.size_append]; omega)
        go_wp2_with fail
        exact ⟨⟨j + 1, q4, _, rfl, by go_num, by omega, by have := HQ.out; omega, (show IsAdv ar _ _ from (adv_cho hA0.out ht ht').mono (by have := HZ.out; omega)), H4.out, G4.out⟩, by simp [intOf]; omega⟩
      · have o1 : (⟨#[80]⟩ : ByteArray).size = 1 := rfl
        have o2 : (⟨#[75]⟩ : ByteArray).size = 1 := rfl
        have e1 := str_sum st ⟨#[80]⟩ (by omega)
        have e2 := str_sum st ⟨#[75]⟩ (by omega)
        by_cases hu3 : u < 3
        · by_cases hu0 : u = 0
          · have hk0 : ¬ 0 < k := fun h => hA ⟨hu0, h⟩
            subst hu0
            clear hA
            go_wp2_with fail
            exact ⟨⟨j + 1, q + 1, _, rfl, by go_num, by omega, by have := HQ.out; omega, (show IsAdv ar _ _ from (hA0.out.app (IsAdv.prt ar)).mono (by have := HZ.out; omega)), H2.out, G2.out⟩, by simp [intOf]; omega⟩
          · have hub : ((u : Int) == 0) = false := by rw [beq_eq_false_iff_ne]; omega
            clear hA
            go_wp2_with fail
            exact ⟨⟨j + 1, q + 1, _, rfl, by go_num, by omega, by have := HQ.out; omega, (show IsAdv ar _ _ from (hA0.out.app (IsAdv.prt ar)).mono (by have := HZ.out; omega)), H2.out, G2.out⟩, by simp [intOf]; omega⟩
        · have hub : ((u : Int) == 0) = false := by rw [beq_eq_false_iff_ne]; omega
          clear hA
          by_cases hK : u < 5 ∧ ar = true
          · obtain ⟨hu5, rfl⟩ := hK
            go_wp2_with fail
            exact ⟨⟨j + 1, q + 1, _, rfl, by go_num, by omega, by have := HQ.out; omega, (show IsAdv true _ _ from (hA0.out.app IsAdv.pro).mono (by have := HZ.out; omega)), H2.out, G2.out⟩, by simp [intOf]; omega⟩
          · have OF := Lib.hid (of_is (fun s => IsAdv ar s 2) (w2.alloc (Obj.cells #[.string ⟨#[43, 49]⟩, .string ⟨#[45, 49]⟩, .string ⟨#[42, 50]⟩, .string ⟨#[43, 50]⟩] 9)) rb a n c (q + 1) w2.heap.size 4 4 (H2.out.later (alloc_heap (w := w2) _)) (by omega) (by omega) (by omega) (by have := heap_lt H2.out.own; omega) (is_cells (fun s => IsAdv ar s 2) w2 w2.heap.size [⟨#[43, 49]⟩, ⟨#[45, 49]⟩, ⟨#[42, 50]⟩, ⟨#[43, 50]⟩] (step_adv ar) rfl))
            by_cases hu5 : u < 5
            · obtain rfl : ar = false := by cases ar with
                | false => rfl
                | true => exact absurd ⟨hu5, rfl⟩ hK
              clear hK
              go_wp2_with fail
              refine OF.out.mono ?_
              rintro e w3 ⟨t, rfl, ht, hr3, hg3⟩
              have htz := ht.size
              have H3 := Lib.hid hr3
              have G3 := Lib.hid (grownBy_trans G2.out (grownBy_trans (World.grownBy_alloc w2 _ _) hg3))
              clear hr3 hg3
              have e3 := str_sum st t (by omega)
              go_wp2_with fail
              exact ⟨⟨j + 1, q + 1 + 1, _, rfl, by go_num, by omega, by have := HQ.out; omega, (show IsAdv false _ _ from (hA0.out.app ht).mono (by have := HZ.out; omega)), H3.out, G3.out⟩, by simp [intOf]; omega⟩
            · clear hK
              go_wp2_with fail
              refine OF.out.mono ?_
              rintro e w3 ⟨t, rfl, ht, hr3, hg3⟩
              have htz := ht.size
              have H3 := Lib.hid hr3
              have G3 := Lib.hid (grownBy_trans G2.out (grownBy_trans (World.grownBy_alloc w2 _ _) hg3))
              clear hr3 hg3
              have e3 := str_sum st t (by omega)
              go_wp2_with fail
              exact ⟨⟨j + 1, q + 1 + 1, _, rfl, by go_num, by omega, by have := HQ.out; omega, (show IsAdv ar _ _ from (hA0.out.app ht).mono (by have := HZ.out; omega)), H3.out, G3.out⟩, by simp [intOf]; omega⟩
    · have hjv : j = 0 ∨ j = 1 ∨ j = 2 := by omega
      have HB := Lib.hid (show q ≤ p + (1 + 2 * C) ∧ j * P ≤ 2 * P by rcases hjv with rfl | rfl | rfl <;> omega)
      clear hq hst hjv
      go_wp2_with fail
      go_ret
      exact ⟨st, q, rfl, hA0.out.mono HB.out.2, HB.out.1, hR.out, hG.out⟩

theorem l4v_zero (rb : Nat) (a : Option Addr) (n c : Nat) (ar : Bool) (w : World) (p : Nat) (j : Int) (hj : j = 0) (h : Rdr w rb a n c p) (hp : p + 5 ≤ 60000) :
    Calls Tryz.prog 66 #[.pointer (some ⟨rb, 0, none⟩), .bool ar, .int .i64 j] w (DrewV (fun s => IsAdv ar s 4) w rb a n c p 5) := by
  subst hj
  exact l4v_gen rb a n c ar 0 2 2 0 0 (by omega) (by omega) (by omega) (by omega) (fun h => by omega) (by omega) (fun h => by omega) w p h (by omega)
theorem l4v_one (rb : Nat) (a : Option Addr) (n c : Nat) (ar : Bool) (w : World) (p : Nat) (h : Rdr w rb a n c p) (hp : p + 23 ≤ 60000) :
    Calls Tryz.prog 66 #[.pointer (some ⟨rb, 0, none⟩), .bool ar, .int .i64 1] w (DrewV (fun s => IsAdv ar s 26) w rb a n c p 23) :=
  l4v_gen rb a n c ar 1 13 11 4 5 (by omega) (by omega) (by omega) (by omega) (fun _ => by omega) (by omega) (fun _ w p j hj h hp => l4v_zero rb a n c ar w p j (by omega) h hp) w p h (by omega)
end Go.Proofs.YtkdnbdgpcgookaaGreatDoor
namespace Go.Proofs.YtkdnbdgpcgookaaGreatDoor
open Go.RowKit Gram

/-- what a draw of a valid aspect hands back -/
def DrewW (w : World) (rb : Nat) (a : Option Addr) (n c p cost : Nat) (e : Ending) (w' : World) : Prop :=
  ∃ (k cc b : ByteArray) (q : Nat), e = .returned (aspV k cc b) ∧ ((aspOf k cc b).isSome = true ∧ k.size ≤ 100 ∧ cc.size ≤ 100 ∧ b.size ≤ 100) ∧ q ≤ p + cost ∧ Rdr w' rb a n c q ∧ w.grownBy w' (some rb)
def KindQ (t : ByteArray) : Prop := ∃ nn, kindOf t = some nn ∧ (t.toList == [97, 114, 111, 117, 110, 100]) = (nn == 2) ∧ t.size ≤ 6
theorem kinds_q : ∀ s ∈ [(⟨#[98, 101, 102, 111, 114, 101]⟩ : ByteArray), ⟨#[97, 102, 116, 101, 114]⟩, ⟨#[97, 114, 111, 117, 110, 100]⟩, ⟨#[97, 114, 111, 117, 110, 100]⟩], KindQ s := by
  intro s hs
  simp only [List.mem_cons, List.not_mem_nil, or_false] at hs
  have e1 : (⟨#[98, 101, 102, 111, 114, 101]⟩ : ByteArray).toList = [98, 101, 102, 111, 114, 101] := ByteArray.toList_eq _
  have e2 : (⟨#[97, 102, 116, 101, 114]⟩ : ByteArray).toList = [97, 102, 116, 101, 114] := ByteArray.toList_eq _
  have e3 : (⟨#[97, 114, 111, 117, 110, 100]⟩ : ByteArray).toList = [97, 114, 111, 117, 110, 100] := ByteArray.toList_eq _
  rcases hs with rfl | rfl | rfl | rfl
  · exact ⟨0, by unfold kindOf isBefore isAfter isAround; rw [e1]; rfl, by rw [e1]; rfl, by decide⟩
  · exact ⟨1, by unfold kindOf isBefore isAfter isAround; rw [e2]; rfl, by rw [e2]; rfl, by decide⟩
  · exact ⟨2, by unfold kindOf isBefore isAfter isAround; rw [e3]; rfl, by rw [e3]; rfl, by decide⟩
  · exact ⟨2, by unfold kindOf isBefore isAfter isAround; rw [e3]; rfl, by rw [e3]; rfl, by decide⟩

set_option maxHeartbeats 1000000 in
set_option maxRecDepth 100000 in
theorem l4w_any (w : World) (rb : Nat) (a : Option Addr) (n c p : Nat) (h : Rdr w rb a n c p) (hp : p ≤ 50000) :
    Calls Tryz.prog 34 #[.pointer (some ⟨rb, 0, none⟩)] w (DrewW w rb a n c p 100) := by
  have H := Lib.hid h
  have HA := Lib.hid (show ∀ g off, a = some ⟨g, off, none⟩ → 0 < n → g < w.heap.size from fun g off ha hn => by
    obtain ⟨g', off', ha', b, hc⟩ := h.bytes 0 hn
    rw [ha] at ha'
    injection ha' with ha'; injection ha' with e1 e2
    subst e1
    exact World.block_lt_of_cell? w _ hc)
  have hrb := heap_lt h.own
  clear h
  have HD := Lib.hid (l3v_any rb a n c)
  have H0 := Lib.hid (H.out.later (alloc_heap (w := w) (Obj.cells #[.string ⟨#[]⟩, .string ⟨#[]⟩, .string ⟨#[]⟩] 24)))
  have G0 := Lib.hid (World.grownBy_alloc w (Obj.cells #[.string ⟨#[]⟩, .string ⟨#[]⟩, .string ⟨#[]⟩] 24) (some rb))
  have R0 := Lib.hid (heap_alloc_new w (Obj.cells #[.string ⟨#[]⟩, .string ⟨#[]⟩, .string ⟨#[]⟩] 24))
  have Z0 := Lib.hid (alloc_size' w (Obj.cells #[.string ⟨#[]⟩, .string ⟨#[]⟩, .string ⟨#[]⟩] 24))
  go_enter Tryz.func34, Tryz.ntmps34
  go_wp2_with fail
  generalize hw0 : w.alloc (Obj.cells #[.string ⟨#[]⟩, .string ⟨#[]⟩, .string ⟨#[]⟩] 24) = w0 at *
  clear hw0
  have hz0 := Z0.out
  clear Z0
  refine (of_is KindQ _ rb a n c p (w.heap.size + 1) 4 4 (H0.out.later (alloc_heap (w := w0) _)) (by omega) (by omega) (by omega) (by omega) (is_cells KindQ w0 (w.heap.size + 1) [⟨#[98, 101, 102, 111, 114, 101]⟩, ⟨#[97, 102, 116, 101, 114]⟩, ⟨#[97, 114, 111, 117, 110, 100]⟩, ⟨#[97, 114, 111, 117, 110, 100]⟩] kinds_q hz0.symm)).mono ?_
  rintro e w1 ⟨t, rfl, ht, hr1, hg1⟩
  obtain ⟨q1, hq1⟩ : ∃ q1, q1 = p + 1 := ⟨_, rfl⟩
  rw [← hq1] at hr1
  obtain ⟨nn, hkn, hbn, htz⟩ := ht
  have HKn := Lib.hid hkn
  have HBn := Lib.hid hbn
  clear hkn hbn
  have H1 := Lib.hid hr1
  have G1 := Lib.hid (grownBy_trans (World.grownBy_alloc w0 (Obj.cells #[.string ⟨#[98, 101, 102, 111, 114, 101]⟩, .string ⟨#[97, 102, 116, 101, 114]⟩, .string ⟨#[97, 114, 111, 117, 110, 100]⟩, .string ⟨#[97, 114, 111, 117, 110, 100]⟩] 9) _) hg1)
  clear hr1 hg1
  go_wp2_with fail
  refine (pick_to 2 H1.out (by omega) (by omega)).mono ?_
  rintro e w2 ⟨d, rfl, hd, hr2, hg2⟩
  have H2 := Lib.hid hr2
  have G2 := Lib.hid (grownBy_trans G1.out hg2)
  clear hr2 hg2
  have hdd : d ≤ 3 := by omega
  have hB := (lB3 d hdd).1
  have hC := (lB3 d hdd).2
  go_wp2_with fail
  refine (HD.out d hdd _ _ _ rfl H2.out (by omega)).mono ?_
  rintro e w3 ⟨s, q3, rfl, hs, hq3, hr3, hg3⟩
  have hsz := hs.size
  have HSc := Lib.hid hs
  clear hs
  have H3 := Lib.hid hr3
  have G3 := Lib.hid (grownBy_trans G2.out hg3)
  clear hr3 hg3
  have hz3 : w0.heap.size ≤ w3.heap.size := G3.out.size
  have P3 := Lib.hid (show Ap w (w3.alloc (Obj.cells #[.string t, .string s, .string ⟨#[]⟩] 24)) rb w3.heap.size a n c q3 t s ⟨#[]⟩ from
    ⟨heap_alloc_new _ _, ⟨_, _, _, by
      rw [alloc_heap _ _ (by omega), G3.out.block w.heap.size (by omega) (by intro e; injection e; omega)]; exact R0.out⟩, by omega, hrb, H3.out.later (alloc_heap _), grownBy_trans G0.out (grownBy_trans G3.out (World.grownBy_alloc _ _ _))⟩)
  obtain ⟨q0, q1', q2', f0, f1, f2⟩ := P3.out.read
  go_wp2_with fail
  cases hb : (t.toList == [97, 114, 111, 117, 110, 100]) with
  | false =>
    have HB0 := Lib.hid hb
    refine (l4v_one rb a n c _ _ q3 P3.out.rdr (by omega)).mono ?_
    rintro e w5 ⟨b, q5, rfl, hbs, hq5, hr5, hg5⟩
    have hbz := hbs.size
    have HBs := Lib.hid hbs
    clear hbs
    have P5 := Lib.hid (P3.out.later hr5 hg5)
    clear hr5 hg5 q0 q1' q2' f0 f1 f2 P3
    obtain ⟨q0, q1', q2', f0, f1, f2⟩ := P5.out.read
    have P6 := Lib.hid (P5.out.set HA.out 2 (.string b) _ _ b rfl)
    obtain ⟨x0, x1, x2, c0, c1, c2, z0, z1, z2⟩ := P5.out.result
    go_wp2_with fail
    obtain ⟨wf, hwf, y0, y1, y2, hR, hGr⟩ := P6.out.final' HA.out (.string t) (.string s) (.string b)
    rw [hwf]
    refine bodyPost_ret (v := aspV t s b) ?_ rfl ?_
    · simp [results, Tryz.results34, go_sem, y0, y1, y2, aspV]
    · exact ⟨_, _, _, _, rfl, ⟨adv_valid HKn.out (HSc.out.mono (by omega)) (by rw [← HBn.out, HB0.out]; exact HBs.out.mono (by omega)), by omega, by omega, by first | omega | (simp only [ByteArray.size_append]; omega)⟩, by omega, hR, hGr⟩
  | true =>
    have HB0 := Lib.hid hb
    refine (l4v_one rb a n c _ _ q3 P3.out.rdr (by omega)).mono ?_
    rintro e w5 ⟨b, q5, rfl, hbs, hq5, hr5, hg5⟩
    have hbz := hbs.size
    have HBs := Lib.hid hbs
    clear hbs
    have P5 := Lib.hid (P3.out.later hr5 hg5)
    clear hr5 hg5 q0 q1' q2' f0 f1 f2 P3
    obtain ⟨q0, q1', q2', f0, f1, f2⟩ := P5.out.read
    have P6 := Lib.hid (P5.out.set HA.out 2 (.string b) _ _ b rfl)
    have HK := Lib.hid (fun w => show Calls Tryz.prog 63 #[.string b, .int .u8 75] w fun e w' => e = .returned (.bool (b.data.toList.contains 75)) ∧ w = w' from has_any b 75 (by omega) w)
    cases hc : b.data.toList.contains 75 with
    | true =>
      rw [hc] at HK
      go_wp2_with fail
      refine (HK.out _).mono ?_
      rintro e w6 ⟨rfl, rfl⟩
      obtain ⟨x0, x1, x2, c0, c1, c2, z0, z1, z2⟩ := P5.out.result
      go_wp2_with fail
      obtain ⟨wf, hwf, y0, y1, y2, hR, hGr⟩ := P6.out.final' HA.out (.string t) (.string s) (.string b)
      rw [hwf]
      refine bodyPost_ret (v := aspV t s b) ?_ rfl ?_
      · simp [results, Tryz.results34, go_sem, y0, y1, y2, aspV]
      · exact ⟨_, _, _, _, rfl, ⟨adv_valid HKn.out (HSc.out.mono (by omega)) (by rw [← HBn.out, HB0.out]; exact HBs.out.mono (by omega)), by omega, by omega, by first | omega | (simp only [ByteArray.size_append]; omega)⟩, by omega, hR, hGr⟩
    | false =>
      rw [hc] at HK
      go_wp2_with fail
      refine (HK.out _).mono ?_
      rintro e w6 ⟨rfl, rfl⟩
      clear q0 q1' q2' f0 f1 f2
      obtain ⟨q0, q1', q2', f0, f1, f2⟩ := P6.out.read
      go_wp2_with fail
      refine (pick_to 3 P6.out.rdr (by omega) (by omega)).mono ?_
      rintro e w7 ⟨v, rfl, hv, hr7, hg7⟩
      have P7 := Lib.hid (P6.out.later hr7 hg7)
      clear hr7 hg7 q0 q1' q2' f0 f1 f2
      obtain ⟨q0, q1', q2', f0, f1, f2⟩ := P7.out.read
      obtain ⟨x0, x1, x2, c0, c1, c2, z0, z1, z2⟩ := P7.out.result
      by_cases hv0 : v = 0
      · subst hv0
        go_wp2_with fail
        obtain ⟨wf, hwf, y0, y1, y2, hR, hGr⟩ := P7.out.final' HA.out (.string t) (.string s) (.string b)
        rw [hwf]
        refine bodyPost_ret (v := aspV t s b) ?_ rfl ?_
        · simp [results, Tryz.results34, go_sem, y0, y1, y2, aspV]
        · exact ⟨_, _, _, _, rfl, ⟨adv_valid HKn.out (HSc.out.mono (by omega)) (by rw [← HBn.out, HB0.out]; exact HBs.out.mono (by omega)), by omega, by omega, by first | omega | (simp only [ByteArray.size_append]; omega)⟩, by omega, hR, hGr⟩
      · have hvp : (0 : Int) < (v : Int) := by omega
        have o1 : (⟨#[75]⟩ : ByteArray).size = 1 := rfl
        have e1 := str_sum b ⟨#[75]⟩ (by omega)
        have P8 := Lib.hid (P7.out.set HA.out 2 (.string (b ++ ⟨#[75]⟩)) _ _ (b ++ ⟨#[75]⟩) rfl)
        go_wp2_with fail
        obtain ⟨wf, hwf, y0, y1, y2, hR, hGr⟩ := P8.out.final' HA.out (.string t) (.string s) (.string (b ++ ⟨#[75]⟩))
        rw [hwf]
        refine bodyPost_ret (v := aspV t s (b ++ ⟨#[75]⟩)) ?_ rfl ?_
        · simp [results, Tryz.results34, go_sem, y0, y1, y2, aspV]
        · exact ⟨_, _, _, _, rfl, ⟨adv_valid HKn.out (HSc.out.mono (by omega)) (by rw [← HBn.out, HB0.out]; exact (HBs.out.app IsAdv.pro).mono (by omega)), by omega, by omega, by first | omega | (simp only [ByteArray.size_append]; omega)⟩, by omega, hR, hGr⟩
end Go.Proofs.YtkdnbdgpcgookaaGreatDoor
