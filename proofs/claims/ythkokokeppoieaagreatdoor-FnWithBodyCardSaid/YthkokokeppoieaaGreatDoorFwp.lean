/- What a program is with another body, plainly: the texts of procedures are cut again as they were joined. No condition; no walk. -/
import Derived.Test.YthkokokeppoieaaGreatDoorJoin
import Derived.Test.YthkokokeppoieaaGreatDoorKx
import Derived.Test.YthkokokeppoieaaGreatDoorWx
namespace Go.Proofs.YthkokokeppoieaaGreatDoor
open Go.RowKit Gram

theorem cutsP_some (t : List UInt8) : ∀ (p a : List UInt8), 59 ∉ p → cutsP a (p ++ 59 :: t) = (a ++ p) :: cutsP [] t
  | [], a, _ => by rw [List.nil_append, cutsP, if_pos rfl, List.append_nil]
  | c :: p, a, h => by
    simp only [List.mem_cons, not_or] at h
    rw [List.cons_append, cutsP, if_neg (Ne.symm h.1), cutsP_some t p _ h.2, List.append_assoc]; rfl
theorem cut_join : ∀ (ps : List (List UInt8)), ps ≠ [] → (∀ p ∈ ps, 59 ∉ p) → cuts (joinL ps) = ps
  | [], h, _ => absurd rfl h
  | [p], _, h => by rw [cuts, joinL, cutsP_none p [] (h p (by simp)), List.nil_append]
  | p :: q :: r, _, h => by
    have ih := cut_join (q :: r) (by simp) fun x hx => h x (List.mem_cons.2 (.inr hx))
    rw [cuts, joinL, cutsP_some _ p [] (h p (by simp)), List.nil_append]
    rw [cuts] at ih
    rw [ih]
mutual
theorem stm_no59 (x : Stm) (h : x.wf = true) : 59 ∉ x.txt := by
  match x with
  | .chg g d =>
    simp only [Stm.wf, Bool.and_eq_true] at h
    simp only [Stm.txt, List.mem_cons, List.not_mem_nil, or_false, not_or]
    constructor
    · rintro rfl; exact absurd h.1 (by decide)
    · rintro rfl; exact absurd h.2 (by decide)
  | .prt => decide
  | .pro => decide
  | .call c =>
    simp only [Stm.wf] at h
    simp only [Stm.txt, List.mem_cons, List.not_mem_nil, or_false, not_or]
    refine ⟨by decide, ?_⟩
    rintro rfl; exact absurd h (by decide)
  | .cho a b =>
    simp only [Stm.wf, Bool.and_eq_true] at h
    have h1 := stms_no59 a h.1
    have h2 := stms_no59 b h.2
    simp only [Stm.txt, List.mem_cons, List.mem_append, List.not_mem_nil, or_false, not_or]
    exact ⟨by decide, by decide, h1, by decide, by decide, h2, by decide⟩
theorem stms_no59 (xs : List Stm) (h : wfs xs = true) : 59 ∉ txts xs := by
  match xs with
  | [] => simp [txts]
  | x :: xs =>
    simp only [wfs, Bool.and_eq_true] at h
    simp only [txts, List.mem_append, not_or]
    exact ⟨stm_no59 x h.1, stms_no59 xs h.2⟩
end
theorem bodyW_text {p : Pr} (h : Good p) : bodyOf (txtOf (txts p.2)) = some p.2 := by
  have h1 : (txtOf (txts p.2)).size ≤ 400 := h.2.2.1
  rw [bodyOf, if_pos h1]
  exact reads_complete false p.2 h.1 (by rw [fks_false]; exact h.2.1)
theorem part_no59 {p : Pr} (h : Good p) : 59 ∉ p.1 :: 58 :: txts p.2 := by
  simp only [List.mem_cons, not_or]
  refine ⟨?_, by decide, stms_no59 _ h.1⟩
  intro e
  have := h.2.2.2
  rw [← e] at this
  exact absurd this (by decide)
theorem parts_inj : ∀ (ps qs : List Pr), (∀ p ∈ ps, Good p) → (∀ q ∈ qs, Good q) → (ps.map fun p => p.1 :: 58 :: txts p.2) = (qs.map fun p => p.1 :: 58 :: txts p.2) → ps = qs
  | [], [], _, _, _ => rfl
  | [], _ :: _, _, _, h => by simp at h
  | _ :: _, [], _, _, h => by simp at h
  | p :: ps, q :: qs, hp, hq, h => by
    simp only [List.map_cons, List.cons.injEq] at h
    obtain ⟨⟨h1, _, h2⟩, h3⟩ := h
    have h4 := parts_inj ps qs (fun x hx => hp x (List.mem_cons.2 (.inr hx))) (fun x hx => hq x (List.mem_cons.2 (.inr hx))) h3
    have h5 := bodyW_text (hp p (by simp))
    have h6 := bodyW_text (hq q (by simp))
    rw [h2, h6] at h5
    injection h5 with h5
    rw [h4]
    congr 1
    exact Prod.ext h1 h5.symm
/-- a joined text is read as what was joined -/
theorem prog_join {qs ps : List Pr} (hq : ∀ q ∈ qs, Good q) (hne : qs ≠ []) (h : progOf (txtOf (joinP qs)) = some ps) : ps = qs := by
  have hf := prog_facts h
  obtain ⟨rs, h1, h2⟩ := procs_texts _ _ _ hf.2.2.2
  rw [List.nil_append] at h1
  subst h1
  have h3 : (txtOf (joinP qs)).data.toList = joinL (qs.map fun p => p.1 :: 58 :: txts p.2) := by rw [joinL_map]; rfl
  rw [h3, cut_join _ (by simpa using hne) (by
    intro p hp
    obtain ⟨q, hq', rfl⟩ := List.mem_map.1 hp
    exact part_no59 (hq q hq'))] at h2
  exact (parts_inj qs ps hq hf.2.1 h2).symm

theorem asc_only : ∀ {ps : List Pr}, asc (namesOf ps) → ∀ p ∈ ps, ∀ q ∈ ps, p.1 = q.1 → p = q
  | [], _, p, hp, _, _, _ => by simp at hp
  | a :: t, h, p, hp, q, hq, he => by
    rw [namesOf, List.map_cons, asc, List.pairwise_cons] at h
    rcases List.mem_cons.1 hp with hp | hp <;> rcases List.mem_cons.1 hq with hq | hq
    · rw [hp, hq]
    · have := h.1 q.1 (List.mem_map.2 ⟨q, hq, rfl⟩)
      rw [hp] at he; rw [he] at this; omega
    · have := h.1 p.1 (List.mem_map.2 ⟨p, hp, rfl⟩)
      rw [hq] at he; rw [he] at this; omega
    · exact asc_only (ps := t) h.2 p hp q hq he
theorem lookW_at {s : ByteArray} {ps : List Pr} (h : progOf s = some ps) (p : Pr) (hp : p ∈ ps) : lookP s (txtOf [p.1]) = some p := by
  have hf := prog_facts h
  have hasc : asc (namesOf ps) := procs_asc _ _ _ hf.2.2.2 (by simp [asc, namesOf])
  have hno : nameOf (txtOf [p.1]).data.toList = some p.1 := by rw [txtOf_data, nameOf, if_pos (hf.2.1 p hp).2.2.2]
  rw [lookP, h, hno]
  dsimp only
  cases hq : ps.find? (fun q => q.1 == p.1) with
  | none =>
    rw [List.find?_eq_none] at hq
    exact absurd (by simp) (hq p hp)
  | some q =>
    have h1 := List.find?_some hq
    have h2 := List.mem_of_find?_eq_some hq
    rw [asc_only hasc q h2 p hp (by simpa using h1)]
theorem set_self (l : List UInt8) (i : Nat) (h : i < l.length) {t : UInt8} (e : l[i] = t) : l.set i t = l := by
  rw [← e]; exact List.set_getElem_self h
theorem txt_same {a b : ByteArray} (h : a.data.toList = b.data.toList) : a = b := ByteArray.ext (Array.ext' h)

/-- what the law FnWithBody asks of a program with another body -/
structure WbF (s nm bt T : ByteArray) (ps : List Pr) : Prop where
  prog : progOf s = some ps
  got : ∃ p, lookP T nm = some p ∧ txtOf (txts p.2) = bt
  valid : (progOf T).isSome = true
  others : ∀ y ∈ namesOf ps, txtOf [y] ≠ nm → bodyT (lookP s (txtOf [y])) = bodyT (lookP T (txtOf [y]))
  back : ∀ p, lookP s nm = some p → withV T nm (txtOf (txts p.2)) = .tuple #[.string s, .bool true]
theorem with_facts {s nm bt T : ByteArray} (h : withV s nm bt = .tuple #[.string T, .bool true]) : ∃ ps, WbF s nm bt T ps := by
  unfold withV at h
  split at h
  · rename_i ps t xs hp hno hbo
    have hf := prog_facts hp
    have hasc : asc (namesOf ps) := procs_asc _ _ _ hf.2.2.2 (by simp [asc, namesOf])
    obtain ⟨b1, b2, b3, b4⟩ := bodyOf_some hbo
    have hlt := (nameOf_some hno).2
    have hnm : nm = txtOf [t] := txt_same (by rw [(nameOf_some hno).1]; rfl)
    have hgood : Good (t, xs) := ⟨b3, b4, by show (txts xs).length ≤ 400; rw [← b2]; simpa using b1, hlt⟩
    have hbt : txtOf (txts xs) = bt := txt_same (by rw [b2]; rfl)
    have key : ∀ qs : List Pr, (∀ q ∈ qs, Good q) → qs ≠ [] → validT (txtOf (joinP qs)) = .tuple #[.string T, .bool true] → T = txtOf (joinP qs) ∧ progOf T = some qs := by
      intro qs hg hne hv
      unfold validT at hv
      split at hv
      · rename_i hs
        injection hv with hv
        injection hv with hv
        simp only [List.cons.injEq, Value.string.injEq] at hv
        obtain ⟨ps2, h2⟩ := Option.isSome_iff_exists.1 hs
        have h3 := prog_join hg hne h2
        subst h3
        exact ⟨hv.1.symm, by rw [← hv.1]; exact h2⟩
      · injection hv with hv
        injection hv with hv
        simp at hv
    by_cases hc : (namesOf ps).contains t = true
    · rw [if_pos hc] at h
      obtain ⟨hr, hre⟩ := (rank_has _ _ hasc).1 hc
      have hrp : rank (namesOf ps) t < ps.length := by simpa [namesOf] using hr
      have hpt : ps[rank (namesOf ps) t].1 = t := by simpa [namesOf] using hre
      obtain ⟨e1, e2⟩ := key (ps.set (rank (namesOf ps) t) (t, xs)) (by
        intro q hq
        rcases List.mem_or_eq_of_mem_set hq with hq | rfl
        · exact hf.2.1 q hq
        · exact hgood) (by
        intro e
        have := congrArg List.length e
        rw [List.length_set, List.length_nil] at this
        omega) h
      have hmem : (t, xs) ∈ ps.set (rank (namesOf ps) t) (t, xs) := List.mem_set hrp ..
      refine ⟨ps, hp, ⟨(t, xs), by rw [hnm]; exact lookW_at e2 (t, xs) hmem, hbt⟩, by rw [e2]; rfl, ?_, ?_⟩
      · intro y hy hne
        obtain ⟨p, hpm, rfl⟩ := List.mem_map.1 hy
        have hne' : p.1 ≠ t := fun e => hne (by rw [e, hnm])
        obtain ⟨i, hi, hie⟩ := List.mem_iff_getElem.1 hpm
        have hir : rank (namesOf ps) t ≠ i := by
          rintro rfl
          rw [hie] at hpt
          exact hne' hpt
        have hm2 : p ∈ ps.set (rank (namesOf ps) t) (t, xs) := by
          rw [List.mem_iff_getElem]
          exact ⟨i, by rw [List.length_set]; exact hi, by rw [List.getElem_set_ne hir]; exact hie⟩
        rw [lookW_at hp p hpm, lookW_at e2 p hm2]
      · intro p hl
        have hpp : p = ps[rank (namesOf ps) t] := by
          have h1 := lookW_at hp _ (List.getElem_mem hrp)
          rw [hpt, ← hnm, hl] at h1
          injection h1
        have hgp := hf.2.1 p (by rw [hpp]; exact List.getElem_mem hrp)
        have hnn : namesOf (ps.set (rank (namesOf ps) t) (t, xs)) = namesOf ps := by
          rw [namesOf, List.map_set]
          show (namesOf ps).set _ t = namesOf ps
          exact set_self _ _ hr hre
        unfold withV
        rw [e2, hno, bodyW_text hgp]
        dsimp only
        rw [hnn, if_pos hc]
        unfold putT
        rw [hnn, List.set_set]
        have hpe : (t, p.2) = ps[rank (namesOf ps) t] := by rw [← hpp]; exact Prod.ext (by rw [hpp, hpt]) rfl
        rw [hpe]
        have hself : ps.set (rank (namesOf ps) t) ps[rank (namesOf ps) t] = ps := by simp
        rw [hself]
        have hsj : txtOf (joinP ps) = s := txt_same (by rw [(prog_text hp).1]; rfl)
        rw [hsj]
        unfold validT
        rw [hp]; rfl
    · rw [if_neg hc] at h
      obtain ⟨e1, e2⟩ := key (ps.take (rank (namesOf ps) t) ++ [(t, xs)] ++ ps.drop (rank (namesOf ps) t)) (by
        intro q hq
        simp only [List.mem_append, List.mem_singleton] at hq
        rcases hq with (hq | rfl) | hq
        · exact hf.2.1 q (List.mem_of_mem_take hq)
        · exact hgood
        · exact hf.2.1 q (List.mem_of_mem_drop hq)) (by simp) h
      refine ⟨ps, hp, ⟨(t, xs), by rw [hnm]; exact lookW_at e2 (t, xs) (by simp), hbt⟩, by rw [e2]; rfl, ?_, ?_⟩
      · intro y hy hne
        obtain ⟨p, hpm, rfl⟩ := List.mem_map.1 hy
        have hm2 : p ∈ ps.take (rank (namesOf ps) t) ++ [(t, xs)] ++ ps.drop (rank (namesOf ps) t) := by
          rw [← List.take_append_drop (rank (namesOf ps) t) ps] at hpm
          rcases List.mem_append.1 hpm with h1 | h1
          · simp [h1]
          · simp [h1]
        rw [lookW_at hp p hpm, lookW_at e2 p hm2]
      · intro p hl
        exfalso
        apply hc
        have : p.1 ∈ namesOf ps := by
          unfold lookP at hl
          rw [hp, hno] at hl
          exact List.mem_map.2 ⟨p, List.mem_of_find?_eq_some hl, rfl⟩
        have hpt : p.1 = t := by
          unfold lookP at hl
          rw [hp, hno] at hl
          simpa using List.find?_some hl
        rw [← hpt]
        exact List.contains_iff_mem.2 this
  · injection h with h
    injection h with h
    simp at h
end Go.Proofs.YthkokokeppoieaaGreatDoor
