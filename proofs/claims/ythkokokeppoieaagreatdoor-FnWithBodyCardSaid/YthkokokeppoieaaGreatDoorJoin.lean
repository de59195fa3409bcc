/- A program's text is that of its parts: names, bodies and what stands between them. Plain lemmas; no walk. -/
import Derived.Test.YthkokokeppoieaaGreatDoorFacts
namespace Go.Proofs.YthkokokeppoieaaGreatDoor
open Go.RowKit Gram

/-- the text of procedures, each behind a ';' but the first one -/
def joinP : List Pr → List UInt8
  | [] => []
  | [p] => p.1 :: 58 :: txts p.2
  | p :: q :: r => p.1 :: 58 :: (txts p.2 ++ 59 :: joinP (q :: r))
def joinL : List (List UInt8) → List UInt8
  | [] => []
  | [p] => p
  | p :: q :: r => p ++ 59 :: joinL (q :: r)

theorem cutsP_ne (l : List UInt8) : ∀ p, cutsP p l ≠ [] := by
  induction l with
  | nil => intro p; simp [cutsP]
  | cons c t ih => intro p; rw [cutsP]; split <;> simp [ih]
theorem join_cuts (l : List UInt8) : ∀ p, joinL (cutsP p l) = p ++ l := by
  induction l with
  | nil => intro p; simp [cutsP, joinL]
  | cons c t ih =>
    intro p
    rw [cutsP]
    split
    · rename_i hc
      subst hc
      cases hq : cutsP [] t with
      | nil => exact absurd hq (cutsP_ne t [])
      | cons q r =>
        rw [joinL, ← hq, ih]; simp
    · rw [ih]; simp
theorem procOf_text {q : List UInt8} {p : Pr} (h : procOf q = some p) : q = p.1 :: 58 :: txts p.2 := by
  match q, h with
  | n :: c :: r, h =>
    simp only [procOf] at h
    split at h
    · rename_i hc
      cases hb : bodyOf ⟨r.toArray⟩ with
      | none => rw [hb] at h; cases h
      | some b =>
        rw [hb] at h
        injection h with h
        subst h
        obtain ⟨_, h2, _⟩ := bodyOf_some hb
        have h2' : r = txts b := h2
        rw [h2', hc.2]
    · cases h
theorem procs_texts (parts : List (List UInt8)) : ∀ (acc ps : List Pr), procsOf acc parts = some ps → ∃ qs, ps = acc ++ qs ∧ parts = qs.map fun p => p.1 :: 58 :: txts p.2 := by
  induction parts with
  | nil => intro acc ps h; injection h with h; subst h; exact ⟨[], by simp, rfl⟩
  | cons q r ih =>
    intro acc ps h
    rw [procsOf] at h
    cases hq : procOf q with
    | none => rw [hq] at h; cases h
    | some x =>
      rw [hq] at h
      dsimp only at h
      split at h
      · obtain ⟨qs, h1, h2⟩ := ih _ _ h
        refine ⟨x :: qs, by rw [h1]; simp, ?_⟩
        rw [List.map_cons, ← h2, procOf_text hq]
      · cases h
theorem joinL_map : ∀ ps : List Pr, joinL (ps.map fun p => p.1 :: 58 :: txts p.2) = joinP ps
  | [] => rfl
  | [p] => rfl
  | p :: q :: r => by
    have := joinL_map (q :: r)
    simp only [List.map_cons, joinL, joinP] at this ⊢
    rw [this]; simp
theorem prog_text {s : ByteArray} {ps : List Pr} (h : progOf s = some ps) : s.data.toList = joinP ps ∧ ps ≠ [] := by
  have hf := prog_facts h
  obtain ⟨qs, h1, h2⟩ := procs_texts _ _ _ hf.2.2.2
  have h3 := join_cuts s.data.toList []
  rw [show cutsP [] s.data.toList = cuts s.data.toList from rfl, h2, joinL_map] at h3
  rw [List.nil_append] at h1 h3
  subst h1
  refine ⟨h3.symm, ?_⟩
  intro e
  subst e
  exact cutsP_ne s.data.toList [] h2

/-- the text so far -/
def textTo (ps : List Pr) (k : Nat) : List UInt8 := joinP (ps.take k)
theorem joinP_snoc : ∀ (ps : List Pr) (p : Pr), joinP (ps ++ [p]) = joinP ps ++ (if ps = [] then [] else [59]) ++ (p.1 :: 58 :: txts p.2)
  | [], p => by simp [joinP]
  | [a], p => by simp [joinP]
  | a :: b :: r, p => by
    have := joinP_snoc (b :: r) p
    simp only [List.cons_append, joinP] at this ⊢
    rw [this]; simp
theorem textTo_step (ps : List Pr) (k : Nat) (hk : k < ps.length) : textTo ps (k + 1) = textTo ps k ++ (if k = 0 then [] else [59]) ++ (ps[k].1 :: 58 :: txts ps[k].2) := by
  rw [textTo, List.take_succ_eq_append_getElem hk, joinP_snoc, textTo]
  congr 2
  by_cases h0 : k = 0
  · subst h0; simp
  · rw [if_neg h0, if_neg]
    intro e
    have h2 : (ps.take k).length = k := by rw [List.length_take]; omega
    rw [e] at h2
    exact h0 h2.symm
theorem joinP_len (ps : List Pr) (k : Nat) : (textTo ps k).length ≤ (joinP ps).length := by
  induction ps generalizing k with
  | nil => simp [textTo, joinP]
  | cons p t ih =>
    cases k with
    | zero => simp [textTo, joinP]
    | succ k =>
      have h1 := ih k
      cases t with
      | nil => simp [textTo]
      | cons q r =>
        cases k with
        | zero => simp [textTo, joinP]
        | succ k => simp only [textTo, List.take_succ_cons, joinP, List.length_cons, List.length_append] at h1 ⊢; omega
end Go.Proofs.YthkokokeppoieaaGreatDoor
