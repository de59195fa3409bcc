/- A program in memory one of whose bodies or names is put anew: still one. Plain lemmas; no walk. Renaming of calls, plainly: by statements (the program) and by letters behind a 'C' (the model). No condition; no walk. -/
import Derived.Test.YtfmmpahbjkiomaaGreatDoorPRow
import Derived.Test.YtfmmpahbjkiomaaGreatDoorOpen2
import Derived.Test.YtfmmpahbjkiomaaGreatDoorFacts
namespace Go.Proofs.YtfmmpahbjkiomaaGreatDoor
open Go.RowKit Gram

theorem qVs_set (qs : List Qr) (i : Nat) (hi : i < qs.length) (b : List Stm) (bv : Value) : (qVs qs).set (i * 2 + 1) bv = qVs (qs.set i ((qs[i].1.1, b), bv)) := by
  induction qs generalizing i with
  | nil => simp at hi
  | cons p t ih =>
    cases i with
    | zero => rfl
    | succ i =>
      have := ih i (by simpa using hi)
      rw [show qVs (p :: t) = qV p ++ qVs t from rfl, show (i + 1) * 2 + 1 = (qV p).length + (i * 2 + 1) by show _ = 2 + _; omega, List.set_append_right _ _ (by omega)]
      rw [show (qV p).length + (i * 2 + 1) - (qV p).length = i * 2 + 1 by omega, this]
      rfl

theorem IsProg.put {w : World} {B : Nat} {S S2 : Nat → Prop} {qs : List Qr} {g n c : Nat} (i : Nat) (hi : i < qs.length) (b : List Stm) (bv : Value) (h : IsProg w B S qs (.slice (some ⟨g, 0, none⟩) n c)) (hB : IsBody w S2 b bv) (hS : ∀ k, S2 k → B ≤ k ∧ ∃ cur fz, w.heap[k]? = some (.cells cur 103 fz)) :
    IsProg (w.setCell ⟨g, i * 2 + 1, none⟩ bv) B (fun k => S k ∨ S2 k) (qs.set i ((qs[i].1.1, b), bv)) (.slice (some ⟨g, 0, none⟩) n c) := by
  have hne : ∀ k, (S k ∨ S2 k) → k ≠ g := by
    rintro k hk rfl
    rcases hk with hk | hk
    · exact h.apart (v := .slice (some ⟨k, 0, none⟩) n c) rfl hk
    · obtain ⟨_, cur, hc⟩ := h.row_block (v := .slice (some ⟨k, 0, none⟩) n c) rfl
      obtain ⟨_, cur', fz, hc'⟩ := hS k hk
      rw [hc] at hc'
      injection hc' with hc'
      injection hc' with _ ht _
      exact absurd ht (by decide)
  have hk : ∀ k, (S k ∨ S2 k) → (w.setCell ⟨g, i * 2 + 1, none⟩ bv).heap[k]? = w.heap[k]? := fun k hk => Below.heap_setCell w ⟨g, i * 2 + 1, none⟩ bv k (hne k hk)
  refine ⟨?_, ?_, ?_⟩
  · obtain ⟨hl, hr⟩ := h.row
    rcases hr with ⟨h1, _⟩ | ⟨g', cap, cur, hv, hg, hbk, hnc, hm, hcs, ht⟩
    · injection h1 with h2; cases h2
    · injection hv with h2 h3 h4
      injection h2 with h2
      injection h2 with h2
      subst h2; subst h4
      have hlq := qVs_len qs
      refine ⟨by rw [qVs_len], .inr ⟨g, c, cur.setIfInBounds (i * 2 + 1) bv, by rw [List.length_set, ← h3], hg, ?_, by rw [List.length_set]; exact hnc, hm, by rw [Array.size_setIfInBounds]; exact hcs, ?_⟩⟩
      · exact heap_set_same hbk bv
      · rw [List.length_set, Array.toList_setIfInBounds, ← qVs_set qs i hi b bv, ← ht, List.take_set]
  · intro p hp
    rcases List.mem_or_eq_of_mem_set hp with hp | rfl
    · exact (h.body p hp).kept (fun k hS => hk k (.inl hS)) (fun _ h => .inl h)
    · exact hB.kept (fun k hS => hk k (.inr hS)) (fun _ h => .inr h)
  · intro k hS'
    rcases hS' with h1 | h1
    · obtain ⟨a, cur, fz, hc⟩ := h.set k h1; exact ⟨a, cur, fz, by rw [hk k (.inl h1)]; exact hc⟩
    · obtain ⟨a, cur, fz, hc⟩ := hS k h1; exact ⟨a, cur, fz, by rw [hk k (.inr h1)]; exact hc⟩
theorem qVs_name (qs : List Qr) (i : Nat) (hi : i < qs.length) (c : UInt8) : (qVs qs).set (i * 2) (.int .u8 c.toNat) = qVs (qs.set i ((c, qs[i].1.2), qs[i].2)) := by
  induction qs generalizing i with
  | nil => simp at hi
  | cons p t ih =>
    cases i with
    | zero => rfl
    | succ i =>
      have := ih i (by simpa using hi)
      rw [show qVs (p :: t) = qV p ++ qVs t from rfl, show (i + 1) * 2 = (qV p).length + (i * 2) by show _ = 2 + _; omega, List.set_append_right _ _ (by omega)]
      rw [show (qV p).length + (i * 2) - (qV p).length = i * 2 by omega, this]
      rfl
theorem IsProg.name {w : World} {B : Nat} {S : Nat → Prop} {qs : List Qr} {g n c : Nat} (i : Nat) (hi : i < qs.length) (d : UInt8) (h : IsProg w B S qs (.slice (some ⟨g, 0, none⟩) n c)) :
    IsProg (w.setCell ⟨g, i * 2, none⟩ (.int .u8 d.toNat)) B S (qs.set i ((d, qs[i].1.2), qs[i].2)) (.slice (some ⟨g, 0, none⟩) n c) := by
  have hne : ∀ k, S k → k ≠ g := by
    rintro k hk rfl
    exact h.apart (v := .slice (some ⟨k, 0, none⟩) n c) rfl hk
  have hk : ∀ k, S k → (w.setCell ⟨g, i * 2, none⟩ (.int .u8 d.toNat)).heap[k]? = w.heap[k]? := fun k hk => Below.heap_setCell w ⟨g, i * 2, none⟩ _ k (hne k hk)
  refine ⟨?_, ?_, ?_⟩
  · obtain ⟨hl, hr⟩ := h.row
    rcases hr with ⟨h1, _⟩ | ⟨g', cap, cur, hv, hg, hbk, hnc, hm, hcs, ht⟩
    · injection h1 with h2; cases h2
    · injection hv with h2 h3 h4
      injection h2 with h2
      injection h2 with h2
      subst h2; subst h4
      refine ⟨by rw [qVs_len], .inr ⟨g, c, cur.setIfInBounds (i * 2) (.int .u8 d.toNat), by rw [List.length_set, ← h3], hg, ?_, by rw [List.length_set]; exact hnc, hm, by rw [Array.size_setIfInBounds]; exact hcs, ?_⟩⟩
      · exact heap_set_same hbk _
      · rw [List.length_set, Array.toList_setIfInBounds, ← qVs_name qs i hi d, ← ht, List.take_set]
  · intro p hp
    rcases List.mem_or_eq_of_mem_set hp with hp | rfl
    · exact (h.body p hp).kept (fun k hS => hk k hS) (fun _ h => h)
    · exact (h.body _ (List.getElem_mem hi)).kept (fun k hS => hk k hS) (fun _ h => h)
  · intro k hS'
    obtain ⟨a, cur, fz, hc⟩ := h.set k hS'; exact ⟨a, cur, fz, by rw [hk k hS']; exact hc⟩
end Go.Proofs.YtfmmpahbjkiomaaGreatDoor
namespace Go.Proofs.YtfmmpahbjkiomaaGreatDoor
open Go.RowKit Gram

/-- a name, renamed -/
def renN (a b c : UInt8) : UInt8 := if c = a then b else c
mutual
def _root_.Go.Proofs.YtfmmpahbjkiomaaGreatDoor.Gram.Stm.ren (a b : UInt8) : Stm → Stm
  | .chg g d => .chg g d
  | .prt => .prt
  | .pro => .pro
  | .call c => .call (renN a b c)
  | .cho x y => .cho (rens a b x) (rens a b y)
def rens (a b : UInt8) : List Stm → List Stm
  | [] => []
  | x :: xs => x.ren a b :: rens a b xs
end
/-- a text with another letter behind each 'C'; p: the letter in front is a 'C' -/
def renB (a b : UInt8) : Bool → List UInt8 → List UInt8
  | _, [] => []
  | p, c :: t => (if p = true ∧ c = a then b else c) :: renB a b (c == 67) t
/-- no call's sign at the end -/
def endC : Bool → List UInt8 → Bool
  | p, [] => p
  | _, c :: t => endC (c == 67) t
theorem renB_append (a b : UInt8) : ∀ (l : List UInt8) (p : Bool) (r : List UInt8), renB a b p (l ++ r) = renB a b p l ++ renB a b (endC p l) r
  | [], _, _ => rfl
  | c :: l, p, r => by rw [List.cons_append, renB, renB_append a b l _ r]; rfl
theorem endC_append : ∀ (l : List UInt8) (p : Bool) (r : List UInt8), endC p (l ++ r) = endC (endC p l) r
  | [], _, _ => rfl
  | c :: l, p, r => by rw [List.cons_append, endC, endC_append l _ r]; rfl
mutual
theorem stm_ren (a b : UInt8) (x : Stm) (h : x.wf = true) : renB a b false x.txt = (x.ren a b).txt ∧ endC false x.txt = false := by
  match x with
  | .chg g d =>
    simp only [Stm.wf, Bool.and_eq_true] at h
    have hg : (g == 67) = false := by
      rw [beq_eq_false_iff_ne]; rintro rfl; exact absurd h.1 (by decide)
    have hd : (d == 67) = false := by
      rw [beq_eq_false_iff_ne]; rintro rfl; exact absurd h.2 (by decide)
    simp [Stm.txt, Stm.ren, renB, endC, hg, hd]
  | .prt => exact ⟨rfl, rfl⟩
  | .pro => exact ⟨rfl, rfl⟩
  | .call c =>
    simp only [Stm.wf] at h
    have hc : (c == 67) = false := by
      rw [beq_eq_false_iff_ne]; rintro rfl; exact absurd h (by decide)
    simp [Stm.txt, Stm.ren, renB, endC, renN, hc]
  | .cho x y =>
    simp only [Stm.wf, Bool.and_eq_true] at h
    obtain ⟨h1, h2⟩ := stms_ren a b x h.1
    obtain ⟨h3, h4⟩ := stms_ren a b y h.2
    have e1 : renB a b false (Stm.cho x y).txt = 63 :: 91 :: (renB a b false (txts x) ++ renB a b (endC false (txts x)) (93 :: 91 :: (txts y ++ [93]))) := by
      rw [Stm.txt, renB, renB, renB_append]; rfl
    have e2 : renB a b false (93 :: 91 :: (txts y ++ [93])) = 93 :: 91 :: (renB a b false (txts y) ++ renB a b (endC false (txts y)) [93]) := by
      rw [renB, renB, renB_append]; rfl
    have e3 : endC false (Stm.cho x y).txt = endC (endC (endC false (txts x)) (93 :: 91 :: txts y)) [93] := by
      rw [Stm.txt, endC, endC, endC_append, ← List.cons_append, ← List.cons_append, endC_append]; rfl
    refine ⟨?_, ?_⟩
    · rw [e1, h2, e2, h1, h3, h4]
      show _ = Stm.txt (.cho (rens a b x) (rens a b y))
      rw [Stm.txt]; rfl
    · rw [e3]; rfl
theorem stms_ren (a b : UInt8) (xs : List Stm) (h : wfs xs = true) : renB a b false (txts xs) = txts (rens a b xs) ∧ endC false (txts xs) = false := by
  match xs with
  | [] => exact ⟨rfl, rfl⟩
  | x :: xs =>
    simp only [wfs, Bool.and_eq_true] at h
    obtain ⟨h1, h2⟩ := stm_ren a b x h.1
    obtain ⟨h3, h4⟩ := stms_ren a b xs h.2
    rw [txts, renB_append, endC_append, h2, h1, h3, h4, rens, txts]
    exact ⟨rfl, rfl⟩
end
mutual
theorem stm_ren_wf (a b : UInt8) (hb : isLet b = true) (x : Stm) (h : x.wf = true) : (x.ren a b).wf = true ∧ (x.nk = true → (x.ren a b).nk = true) ∧ (x.ren a b).txt.length = x.txt.length ∧ (x.ren a b).calls = x.calls.map (renN a b) := by
  match x with
  | .chg g d => exact ⟨h, fun h => h, rfl, rfl⟩
  | .prt => exact ⟨rfl, fun h => h, rfl, rfl⟩
  | .pro => exact ⟨rfl, fun h => h, rfl, rfl⟩
  | .call c =>
    simp only [Stm.wf] at h
    refine ⟨?_, fun h => h, rfl, rfl⟩
    show isLet (renN a b c) = true
    unfold renN
    split
    · exact hb
    · exact h
  | .cho x y =>
    simp only [Stm.wf, Bool.and_eq_true] at h
    obtain ⟨h1, h2, h3, h4⟩ := stms_ren_wf a b hb x h.1
    obtain ⟨k1, k2, k3, k4⟩ := stms_ren_wf a b hb y h.2
    refine ⟨?_, ?_, ?_, ?_⟩
    · simp only [Stm.ren, Stm.wf, h1, k1, Bool.and_self]
    · intro hn
      simp only [Stm.nk, Bool.and_eq_true] at hn
      simp only [Stm.ren, Stm.nk, h2 hn.1, k2 hn.2, Bool.and_self]
    · simp only [Stm.ren, Stm.txt, List.length_cons, List.length_append, h3, k3]
    · simp only [Stm.ren, Stm.calls, h4, k4, List.map_append]
theorem stms_ren_wf (a b : UInt8) (hb : isLet b = true) (xs : List Stm) (h : wfs xs = true) : wfs (rens a b xs) = true ∧ (nks xs = true → nks (rens a b xs) = true) ∧ (txts (rens a b xs)).length = (txts xs).length ∧ callsIn (rens a b xs) = (callsIn xs).map (renN a b) := by
  match xs with
  | [] => exact ⟨rfl, fun h => h, rfl, rfl⟩
  | x :: xs =>
    simp only [wfs, Bool.and_eq_true] at h
    obtain ⟨h1, h2, h3, h4⟩ := stm_ren_wf a b hb x h.1
    obtain ⟨k1, k2, k3, k4⟩ := stms_ren_wf a b hb xs h.2
    refine ⟨?_, ?_, ?_, ?_⟩
    · simp only [rens, wfs, h1, k1, Bool.and_self]
    · intro hn
      simp only [nks, Bool.and_eq_true] at hn
      simp only [rens, nks, h2 hn.1, k2 hn.2, Bool.and_self]
    · simp only [rens, txts, List.length_append, h3, k3]
    · simp only [rens, callsIn, h4, k4, List.map_append]
end
/-- a procedure, renamed -/
def renP (a b : UInt8) (p : Pr) : Pr := (renN a b p.1, rens a b p.2)
theorem renP_good {p : Pr} (h : Good p) (a b : UInt8) (hb : isLet b = true) : Good (renP a b p) := by
  obtain ⟨h1, h2, h3, h4⟩ := h
  obtain ⟨k1, k2, k3, _⟩ := stms_ren_wf a b hb p.2 h1
  refine ⟨k1, k2 h2, ?_, ?_⟩
  · show (txts (rens a b p.2)).length ≤ 400
    rw [k3]; exact h3
  · show isLet (renN a b p.1) = true
    unfold renN
    split
    · exact hb
    · exact h4
end Go.Proofs.YtfmmpahbjkiomaaGreatDoor
