/- What readProgram and l1Open hand back, by cases; what a program's plain reading says of it. Plain lemmas; no walk. -/
import Derived.Test.YtfmmpahbjkiomaaGreatDoorRProg
namespace Go.Proofs.YtfmmpahbjkiomaaGreatDoor
open Go.RowKit Gram

theorem ReadPTo.cases {s : ByteArray} {w w' : World} {e : Ending} (h : ReadPTo s w e w') :
    ∃ (a : Option Addr) (n c : Nat), e = .returned (.tuple #[.slice a n c, .bool (progOf s).isSome]) ∧ Below w.heap.size w w' ∧ ∀ ps, progOf s = some ps → ∃ S qs, qs.map (·.1) = ps ∧ IsProg w' w.heap.size S qs (.slice a n c) ∧ (∀ q ∈ qs, Good q.1) := by
  obtain ⟨h1, h2⟩ := h
  cases hp : progOf s with
  | none =>
    rw [hp] at h1
    obtain ⟨a, n, c, rfl⟩ := h1
    exact ⟨a, n, c, rfl, h2, fun ps h => by cases h⟩
  | some ps =>
    rw [hp] at h1
    obtain ⟨v, S, qs, rfl, h3, h4, h5⟩ := h1
    obtain ⟨a, c, rfl⟩ := h4.form
    exact ⟨a, _, c, rfl, h2, fun ps' h => by injection h with h; subst h; exact ⟨S, qs, h3, h4, h5⟩⟩
theorem OpenTo.cases {s : ByteArray} {w w' : World} {e : Ending} (h : OpenTo s w e w') :
    ∃ (a : Option Addr) (n c : Nat) (ps : List Pr), e = .returned (.tuple #[.slice a n c, .bool (progOf s).isSome]) ∧ Below w.heap.size w w' ∧ ps.length = n ∧ w'.ownsRow w.heap.size 75 2 (.slice a n c) n (prVs ps) ∧ ∀ ps', progOf s = some ps' → ps = ps' := by
  obtain ⟨v, b, ps, rfl, h1, h2, h3⟩ := h
  obtain ⟨a, n, c, rfl⟩ := slice_form h2
  have hn : n = ps.length := by
    rcases h2.2 with ⟨h1, h2⟩ | ⟨g, cap, cur, h1, _⟩
    · injection h1 with _ h3; omega
    · injection h1 with _ h3
  subst hn
  rcases h1.out with ⟨hb, hp⟩ | ⟨hb, hp⟩
  · exact ⟨a, _, c, ps, by rw [hb, hp]; rfl, h3, rfl, h2, fun ps' h => by rw [hp] at h; cases h⟩
  · exact ⟨a, _, c, ps, by rw [hb, hp]; rfl, h3, rfl, h2, fun ps' h => by rw [hp] at h; injection h⟩

theorem procs_len (parts : List (List UInt8)) : ∀ (acc ps : List Pr), procsOf acc parts = some ps → ps.length = acc.length + parts.length := by
  induction parts with
  | nil => intro acc ps h; injection h with h; subst h; rfl
  | cons q qs ih =>
    intro acc ps h
    rw [procsOf] at h
    cases hq : procOf q with
    | none => rw [hq] at h; cases h
    | some x =>
      rw [hq] at h
      dsimp only at h
      split at h
      · have := ih _ _ h; simp at this ⊢; omega
      · cases h
theorem prog_facts {s : ByteArray} {ps : List Pr} (h : progOf s = some ps) : ps.length ≤ 401 ∧ (∀ p ∈ ps, Good p) ∧ s.size ≤ 400 ∧ procsOf [] (cuts s.data.toList) = some ps := by
  unfold progOf at h
  split at h
  · rename_i hs
    cases hp : procsOf [] (cuts s.data.toList) with
    | none => rw [hp] at h; cases h
    | some qs =>
      rw [hp, Option.bind_some] at h
      split at h
      · injection h with h
        subst h
        have h1 := procs_len _ _ _ hp
        have h2 := (cuts_le s.data.toList []).1
        rw [show cutsP [] s.data.toList = cuts s.data.toList from rfl] at h2
        simp at h1 h2
        exact ⟨by omega, procs_good _ _ _ hp (by simp), hs, rfl⟩
      · cases h
  · cases h
def asc (l : List UInt8) : Prop := l.Pairwise fun a b => a.toNat < b.toNat
theorem procs_asc (parts : List (List UInt8)) : ∀ (acc ps : List Pr), procsOf acc parts = some ps → asc (namesOf acc) → asc (namesOf ps) := by
  induction parts with
  | nil => intro acc ps h ha; injection h with h; subst h; exact ha
  | cons q qs ih =>
    intro acc ps h ha
    rw [procsOf] at h
    cases hq : procOf q with
    | none => rw [hq] at h; cases h
    | some x =>
      rw [hq] at h
      dsimp only at h
      split at h
      · rename_i hlb
        refine ih _ _ h ?_
        rw [namesOf, List.map_append, asc, List.pairwise_append]
        refine ⟨ha, by simp, ?_⟩
        intro a ha' b hb
        have hbx : b = x.1 := by simpa using hb
        subst hbx
        rcases List.eq_nil_or_concat acc with rfl | ⟨init, l, rfl⟩
        · simp at ha'
        · rw [List.concat_eq_append] at *
          have hl : l.1.toNat < x.1.toNat := by simpa [lastBelow, UInt8.lt_iff_toNat_lt] using hlb
          rw [namesOf, List.map_append, asc, List.pairwise_append] at ha
          rw [List.map_append, List.mem_append] at ha'
          rcases ha' with ha' | ha'
          · have := ha.2.2 a ha' l.1 (by simp); omega
          · have : a = l.1 := by simpa using ha'
            rw [this]; exact hl
      · cases h
end Go.Proofs.YtfmmpahbjkiomaaGreatDoor
