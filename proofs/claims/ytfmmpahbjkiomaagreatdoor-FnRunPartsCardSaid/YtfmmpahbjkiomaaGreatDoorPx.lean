/- A program's text is that of its parts: names, bodies and what stands between them. Plain lemmas; no walk. A joined text is read as what was joined; a program's procedure by its name. No condition; no walk. A program with a procedure renamed, plainly: the procedures renamed and put in order are a program, and renaming back gives what it was. No condition; no walk. -/
import Derived.Test.YtfmmpahbjkiomaaGreatDoorFacts
import Derived.Test.YtfmmpahbjkiomaaGreatDoorBody
import Derived.Test.YtfmmpahbjkiomaaGreatDoorQx
import Derived.Test.YtfmmpahbjkiomaaGreatDoorNx
namespace Go.Proofs.YtfmmpahbjkiomaaGreatDoor
open Go.RowKit Gram

/-- the text of procedures, each behind a ';' but the first one -/
def joinP : List Pr → List UInt8
  | [] => []
  | [p] => p.1 :: 58 :: txts p.2
  | p :: q :: r => p.1 :: 58 :: (txts p.2 ++ 59 :: joinP (q :: r))
def joinL : List (List UInt8) → List UInt8
  | [] => []
  | [p] => p
  | p :: q :: r => p ++ 59 :: joinL (q :: r)

theorem cutsP_ne (l : List UInt8) : ∀ p, cutsP p l ≠ [] := by
  induction l with
  | nil => intro p; simp [cutsP]
  | cons c t ih => intro p; rw [cutsP]; split <;> simp [ih]
theorem join_cuts (l : List UInt8) : ∀ p, joinL (cutsP p l) = p ++ l := by
  induction l with
  | nil => intro p; simp [cutsP, joinL]
  | cons c t ih =>
    intro p
    rw [cutsP]
    split
    · rename_i hc
      subst hc
      cases hq : cutsP [] t with
      | nil => exact absurd hq (cutsP_ne t [])
      | cons q r =>
        rw [joinL, ← hq, ih]; simp
    · rw [ih]; simp
theorem procOf_text {q : List UInt8} {p : Pr} (h : procOf q = some p) : q = p.1 :: 58 :: txts p.2 := by
  match q, h with
  | n :: c :: r, h =>
    simp only [procOf] at h
    split at h
    · rename_i hc
      cases hb : bodyOf ⟨r.toArray⟩ with
      | none => rw [hb] at h; cases h
      | some b =>
        rw [hb] at h
        injection h with h
        subst h
        obtain ⟨_, h2, _⟩ := bodyOf_some hb
        have h2' : r = txts b := h2
        rw [h2', hc.2]
    · cases h
theorem procs_texts (parts : List (List UInt8)) : ∀ (acc ps : List Pr), procsOf acc parts = some ps → ∃ qs, ps = acc ++ qs ∧ parts = qs.map fun p => p.1 :: 58 :: txts p.2 := by
  induction parts with
  | nil => intro acc ps h; injection h with h; subst h; exact ⟨[], by simp, rfl⟩
  | cons q r ih =>
    intro acc ps h
    rw [procsOf] at h
    cases hq : procOf q with
    | none => rw [hq] at h; cases h
    | some x =>
      rw [hq] at h
      dsimp only at h
      split at h
      · obtain ⟨qs, h1, h2⟩ := ih _ _ h
        refine ⟨x :: qs, by rw [h1]; simp, ?_⟩
        rw [List.map_cons, ← h2, procOf_text hq]
      · cases h
theorem joinL_map : ∀ ps : List Pr, joinL (ps.map fun p => p.1 :: 58 :: txts p.2) = joinP ps
  | [] => rfl
  | [p] => rfl
  | p :: q :: r => by
    have := joinL_map (q :: r)
    simp only [List.map_cons, joinL, joinP] at this ⊢
    rw [this]; simp
theorem prog_text {s : ByteArray} {ps : List Pr} (h : progOf s = some ps) : s.data.toList = joinP ps ∧ ps ≠ [] := by
  have hf := prog_facts h
  obtain ⟨qs, h1, h2⟩ := procs_texts _ _ _ hf.2.2.2
  have h3 := join_cuts s.data.toList []
  rw [show cutsP [] s.data.toList = cuts s.data.toList from rfl, h2, joinL_map] at h3
  rw [List.nil_append] at h1 h3
  subst h1
  refine ⟨h3.symm, ?_⟩
  intro e
  subst e
  exact cutsP_ne s.data.toList [] h2

/-- the text so far -/
def textTo (ps : List Pr) (k : Nat) : List UInt8 := joinP (ps.take k)
theorem joinP_snoc : ∀ (ps : List Pr) (p : Pr), joinP (ps ++ [p]) = joinP ps ++ (if ps = [] then [] else [59]) ++ (p.1 :: 58 :: txts p.2)
  | [], p => by simp [joinP]
  | [a], p => by simp [joinP]
  | a :: b :: r, p => by
    have := joinP_snoc (b :: r) p
    simp only [List.cons_append, joinP] at this ⊢
    rw [this]; simp
theorem textTo_step (ps : List Pr) (k : Nat) (hk : k < ps.length) : textTo ps (k + 1) = textTo ps k ++ (if k = 0 then [] else [59]) ++ (ps[k].1 :: 58 :: txts ps[k].2) := by
  rw [textTo, List.take_succ_eq_append_getElem hk, joinP_snoc, textTo]
  congr 2
  by_cases h0 : k = 0
  · subst h0; simp
  · rw [if_neg h0, if_neg]
    intro e
    have h2 : (ps.take k).length = k := by rw [List.length_take]; omega
    rw [e] at h2
    exact h0 h2.symm
theorem joinP_len (ps : List Pr) (k : Nat) : (textTo ps k).length ≤ (joinP ps).length := by
  induction ps generalizing k with
  | nil => simp [textTo, joinP]
  | cons p t ih =>
    cases k with
    | zero => simp [textTo, joinP]
    | succ k =>
      have h1 := ih k
      cases t with
      | nil => simp [textTo]
      | cons q r =>
        cases k with
        | zero => simp [textTo, joinP]
        | succ k => simp only [textTo, List.take_succ_cons, joinP, List.length_cons, List.length_append] at h1 ⊢; omega
end Go.Proofs.YtfmmpahbjkiomaaGreatDoor
namespace Go.Proofs.YtfmmpahbjkiomaaGreatDoor
open Go.RowKit Gram

theorem cutsP_some (t : List UInt8) : ∀ (p a : List UInt8), 59 ∉ p → cutsP a (p ++ 59 :: t) = (a ++ p) :: cutsP [] t
  | [], a, _ => by rw [List.nil_append, cutsP, if_pos rfl, List.append_nil]
  | c :: p, a, h => by
    simp only [List.mem_cons, not_or] at h
    rw [List.cons_append, cutsP, if_neg (Ne.symm h.1), cutsP_some t p _ h.2, List.append_assoc]; rfl
theorem cut_join : ∀ (ps : List (List UInt8)), ps ≠ [] → (∀ p ∈ ps, 59 ∉ p) → cuts (joinL ps) = ps
  | [], h, _ => absurd rfl h
  | [p], _, h => by rw [cuts, joinL, cutsP_none p [] (h p (by simp)), List.nil_append]
  | p :: q :: r, _, h => by
    have ih := cut_join (q :: r) (by simp) fun x hx => h x (List.mem_cons.2 (.inr hx))
    rw [cuts, joinL, cutsP_some _ p [] (h p (by simp)), List.nil_append]
    rw [cuts] at ih
    rw [ih]
mutual
theorem stm_no59 (x : Stm) (h : x.wf = true) : 59 ∉ x.txt := by
  match x with
  | .chg g d =>
    simp only [Stm.wf, Bool.and_eq_true] at h
    simp only [Stm.txt, List.mem_cons, List.not_mem_nil, or_false, not_or]
    constructor
    · rintro rfl; exact absurd h.1 (by decide)
    · rintro rfl; exact absurd h.2 (by decide)
  | .prt => decide
  | .pro => decide
  | .call c =>
    simp only [Stm.wf] at h
    simp only [Stm.txt, List.mem_cons, List.not_mem_nil, or_false, not_or]
    refine ⟨by decide, ?_⟩
    rintro rfl; exact absurd h (by decide)
  | .cho a b =>
    simp only [Stm.wf, Bool.and_eq_true] at h
    have h1 := stms_no59 a h.1
    have h2 := stms_no59 b h.2
    simp only [Stm.txt, List.mem_cons, List.mem_append, List.not_mem_nil, or_false, not_or]
    exact ⟨by decide, by decide, h1, by decide, by decide, h2, by decide⟩
theorem stms_no59 (xs : List Stm) (h : wfs xs = true) : 59 ∉ txts xs := by
  match xs with
  | [] => simp [txts]
  | x :: xs =>
    simp only [wfs, Bool.and_eq_true] at h
    simp only [txts, List.mem_append, not_or]
    exact ⟨stm_no59 x h.1, stms_no59 xs h.2⟩
end
theorem bodyW_text {p : Pr} (h : Good p) : bodyOf (txtOf (txts p.2)) = some p.2 := by
  have h1 : (txtOf (txts p.2)).size ≤ 400 := h.2.2.1
  rw [bodyOf, if_pos h1]
  exact reads_complete false p.2 h.1 (by rw [fks_false]; exact h.2.1)
theorem part_no59 {p : Pr} (h : Good p) : 59 ∉ p.1 :: 58 :: txts p.2 := by
  simp only [List.mem_cons, not_or]
  refine ⟨?_, by decide, stms_no59 _ h.1⟩
  intro e
  have := h.2.2.2
  rw [← e] at this
  exact absurd this (by decide)
theorem parts_inj : ∀ (ps qs : List Pr), (∀ p ∈ ps, Good p) → (∀ q ∈ qs, Good q) → (ps.map fun p => p.1 :: 58 :: txts p.2) = (qs.map fun p => p.1 :: 58 :: txts p.2) → ps = qs
  | [], [], _, _, _ => rfl
  | [], _ :: _, _, _, h => by simp at h
  | _ :: _, [], _, _, h => by simp at h
  | p :: ps, q :: qs, hp, hq, h => by
    simp only [List.map_cons, List.cons.injEq] at h
    obtain ⟨⟨h1, _, h2⟩, h3⟩ := h
    have h4 := parts_inj ps qs (fun x hx => hp x (List.mem_cons.2 (.inr hx))) (fun x hx => hq x (List.mem_cons.2 (.inr hx))) h3
    have h5 := bodyW_text (hp p (by simp))
    have h6 := bodyW_text (hq q (by simp))
    rw [h2, h6] at h5
    injection h5 with h5
    rw [h4]
    congr 1
    exact Prod.ext h1 h5.symm
/-- a joined text is read as what was joined -/
theorem prog_join {qs ps : List Pr} (hq : ∀ q ∈ qs, Good q) (hne : qs ≠ []) (h : progOf (txtOf (joinP qs)) = some ps) : ps = qs := by
  have hf := prog_facts h
  obtain ⟨rs, h1, h2⟩ := procs_texts _ _ _ hf.2.2.2
  rw [List.nil_append] at h1
  subst h1
  have h3 : (txtOf (joinP qs)).data.toList = joinL (qs.map fun p => p.1 :: 58 :: txts p.2) := by rw [joinL_map]; rfl
  rw [h3, cut_join _ (by simpa using hne) (by
    intro p hp
    obtain ⟨q, hq', rfl⟩ := List.mem_map.1 hp
    exact part_no59 (hq q hq'))] at h2
  exact (parts_inj qs ps hq hf.2.1 h2).symm

theorem asc_only : ∀ {ps : List Pr}, asc (namesOf ps) → ∀ p ∈ ps, ∀ q ∈ ps, p.1 = q.1 → p = q
  | [], _, p, hp, _, _, _ => by simp at hp
  | a :: t, h, p, hp, q, hq, he => by
    rw [namesOf, List.map_cons, asc, List.pairwise_cons] at h
    rcases List.mem_cons.1 hp with hp | hp <;> rcases List.mem_cons.1 hq with hq | hq
    · rw [hp, hq]
    · have := h.1 q.1 (List.mem_map.2 ⟨q, hq, rfl⟩)
      rw [hp] at he; rw [he] at this; omega
    · have := h.1 p.1 (List.mem_map.2 ⟨p, hp, rfl⟩)
      rw [hq] at he; rw [he] at this; omega
    · exact asc_only (ps := t) h.2 p hp q hq he
theorem lookW_at {s : ByteArray} {ps : List Pr} (h : progOf s = some ps) (p : Pr) (hp : p ∈ ps) : lookP s (txtOf [p.1]) = some p := by
  have hf := prog_facts h
  have hasc : asc (namesOf ps) := procs_asc _ _ _ hf.2.2.2 (by simp [asc, namesOf])
  have hno : nameOf (txtOf [p.1]).data.toList = some p.1 := by rw [txtOf_data, nameOf, if_pos (hf.2.1 p hp).2.2.2]
  rw [lookP, h, hno]
  dsimp only
  cases hq : ps.find? (fun q => q.1 == p.1) with
  | none =>
    rw [List.find?_eq_none] at hq
    exact absurd (by simp) (hq p hp)
  | some q =>
    have h1 := List.find?_some hq
    have h2 := List.mem_of_find?_eq_some hq
    rw [asc_only hasc q h2 p hp (by simpa using h1)]
theorem set_self (l : List UInt8) (i : Nat) (h : i < l.length) {t : UInt8} (e : l[i] = t) : l.set i t = l := by
  rw [← e]; exact List.set_getElem_self h
theorem txt_same {a b : ByteArray} (h : a.data.toList = b.data.toList) : a = b := ByteArray.ext (Array.ext' h)

/-- parts that ascend are read one behind another -/
theorem procs_made : ∀ (qs acc : List Pr), (∀ q ∈ qs, Good q) → asc (namesOf (acc ++ qs)) → procsOf acc (qs.map fun p => p.1 :: 58 :: txts p.2) = some (acc ++ qs)
  | [], acc, _, _ => by rw [List.map_nil, procsOf, List.append_nil]
  | q :: qs, acc, hg, ha => by
    have h1 := hg q (by simp)
    have h2 : procOf (q.1 :: 58 :: txts q.2) = some q := by
      rw [procOf, if_pos ⟨h1.2.2.2, rfl⟩]
      rw [show bodyOf ⟨(txts q.2).toArray⟩ = some q.2 from bodyW_text h1]
      rfl
    have h3 : lastBelow acc q.1 = true := by
      unfold lastBelow
      cases hl : acc.getLast? with
      | none => rfl
      | some p =>
        rw [decide_eq_true_eq]
        have hp := List.mem_of_getLast? hl
        rw [asc, namesOf, List.map_append, List.pairwise_append] at ha
        have := ha.2.2 p.1 (List.mem_map.2 ⟨p, hp, rfl⟩) q.1 (by simp)
        exact this
    rw [List.map_cons, procsOf]
    simp only [h2, h3, if_true]
    rw [procs_made qs (acc ++ [q]) (fun x hx => hg x (List.mem_cons.2 (.inr hx))) (by rw [List.append_assoc]; exact ha), List.append_assoc]
    rfl
/-- good parts that ascend, call nobody else and fit are a program -/
theorem prog_made {qs : List Pr} (hq : ∀ q ∈ qs, Good q) (hne : qs ≠ []) (ha : asc (namesOf qs)) (ho : ownCalls qs = true) (hl : (joinP qs).length ≤ 400) : progOf (txtOf (joinP qs)) = some qs := by
  have h3 : (txtOf (joinP qs)).data.toList = joinL (qs.map fun p => p.1 :: 58 :: txts p.2) := by rw [joinL_map]; rfl
  rw [progOf, if_pos (by rw [txtOf_size]; exact hl), h3, cut_join _ (by simpa using hne) (by
    intro p hp
    obtain ⟨q, hq', rfl⟩ := List.mem_map.1 hp
    exact part_no59 (hq q hq')), procs_made qs [] hq (by rw [List.nil_append]; exact ha), List.nil_append, Option.bind_some, if_pos ho]
end Go.Proofs.YtfmmpahbjkiomaaGreatDoor
namespace Go.Proofs.YtfmmpahbjkiomaaGreatDoor
open Go.RowKit Gram

/-- in the order of the letters -/
def sortP (qs : List Pr) : List Pr := (List.range' 97 26).flatMap fun c => qs.filter fun p => p.1.toNat == c
theorem let_range {c : UInt8} (h : isLet c = true) : c.toNat ∈ List.range' 97 26 := by
  simp only [isLet, Bool.and_eq_true, decide_eq_true_eq] at h
  have h1 : (97 : UInt8).toNat ≤ c.toNat := h.1
  have h2 : c.toNat ≤ (122 : UInt8).toNat := h.2
  have e1 : (97 : UInt8).toNat = 97 := rfl
  have e2 : (122 : UInt8).toNat = 122 := rfl
  rw [List.mem_range'_1]; omega
theorem mem_sortP {qs : List Pr} (hl : ∀ q ∈ qs, isLet q.1 = true) (p : Pr) : p ∈ sortP qs ↔ p ∈ qs := by
  unfold sortP
  rw [List.mem_flatMap]
  constructor
  · rintro ⟨c, _, h⟩
    exact (List.mem_filter.1 h).1
  · intro h
    exact ⟨_, let_range (hl p h), List.mem_filter.2 ⟨h, by simp⟩⟩
theorem names_eq {qs : List Pr} (hn : (namesOf qs).Nodup) {p q : Pr} (hp : p ∈ qs) (hq : q ∈ qs) (h : p.1 = q.1) : p = q := by
  induction qs with
  | nil => simp at hp
  | cons a t ih =>
    rw [namesOf, List.map_cons, List.nodup_cons] at hn
    rcases List.mem_cons.1 hp with h1 | h1 <;> rcases List.mem_cons.1 hq with h2 | h2
    · rw [h1, h2]
    · exact absurd (List.mem_map.2 ⟨q, h2, by rw [← h, h1]⟩) hn.1
    · exact absurd (List.mem_map.2 ⟨p, h1, by rw [h, h2]⟩) hn.1
    · exact ih hn.2 h1 h2
theorem nodup_of_names {qs : List Pr} (hn : (namesOf qs).Nodup) : qs.Nodup := by
  unfold List.Nodup at hn ⊢
  rw [namesOf, List.pairwise_map] at hn
  exact hn.imp fun h e => h (by rw [e])
theorem sortP_asc {qs : List Pr} (hn : (namesOf qs).Nodup) : asc (namesOf (sortP qs)) := by
  unfold asc namesOf sortP
  rw [List.pairwise_map, List.pairwise_flatMap]
  refine ⟨fun c _ => ?_, ?_⟩
  · have h1 : (qs.filter fun p => p.1.toNat == c).Pairwise fun p q => p ≠ q := (nodup_of_names hn).sublist List.filter_sublist
    refine h1.imp_of_mem ?_
    intro p q hp hq hne
    obtain ⟨p1, p2⟩ := List.mem_filter.1 hp
    obtain ⟨q1, q2⟩ := List.mem_filter.1 hq
    exfalso
    refine hne (names_eq hn p1 q1 (UInt8.toNat_inj.1 ?_))
    rw [eq_of_beq p2, eq_of_beq q2]
  · refine List.Pairwise.imp ?_ (List.pairwise_lt_range' (s := 97) (n := 26))
    intro c d hcd p hp q hq
    have h1 := eq_of_beq (List.mem_filter.1 hp).2
    have h2 := eq_of_beq (List.mem_filter.1 hq).2
    omega
theorem asc_nodup' {l : List UInt8} (h : asc l) : l.Nodup := h.imp fun h e => by rw [e] at h; omega
theorem sortP_perm {qs : List Pr} (hn : (namesOf qs).Nodup) (hl : ∀ q ∈ qs, isLet q.1 = true) : (sortP qs).Perm qs :=
  (List.perm_ext_iff_of_nodup (nodup_of_names (asc_nodup' (sortP_asc hn))) (nodup_of_names hn)).2 (mem_sortP hl)
/-- two lists that ascend and hold the same are one -/
theorem asc_ext : ∀ (l r : List Pr), asc (namesOf l) → asc (namesOf r) → (∀ p, p ∈ l ↔ p ∈ r) → l = r
  | [], [], _, _, _ => rfl
  | [], q :: r, _, _, h => absurd ((h q).2 (by simp)) (by simp)
  | p :: l, [], _, _, h => absurd ((h p).1 (by simp)) (by simp)
  | p :: l, q :: r, hl, hr, h => by
    have hl' := hl
    have hr' := hr
    rw [namesOf, List.map_cons, asc, List.pairwise_cons] at hl hr
    have hpq : p = q := by
      rcases List.mem_cons.1 ((h p).1 (by simp)) with h1 | h1
      · exact h1
      · rcases List.mem_cons.1 ((h q).2 (by simp)) with h2 | h2
        · exact h2.symm
        · have h3 := hr.1 p.1 (List.mem_map.2 ⟨p, h1, rfl⟩)
          have h4 := hl.1 q.1 (List.mem_map.2 ⟨q, h2, rfl⟩)
          omega
    subst hpq
    rw [asc_ext l r hl.2 hr.2 fun x => ?_]
    have hx := h x
    rw [List.mem_cons, List.mem_cons] at hx
    constructor
    · intro hm
      rcases hx.1 (.inr hm) with h1 | h1
      · subst h1
        have := hl.1 x.1 (List.mem_map.2 ⟨x, hm, rfl⟩)
        omega
      · exact h1
    · intro hm
      rcases hx.2 (.inr hm) with h1 | h1
      · subst h1
        have := hr.1 x.1 (List.mem_map.2 ⟨x, hm, rfl⟩)
        omega
      · exact h1
theorem sortP_self {ps : List Pr} (ha : asc (namesOf ps)) (hl : ∀ q ∈ ps, isLet q.1 = true) : sortP ps = ps :=
  asc_ext _ _ (sortP_asc (asc_nodup' ha)) ha (mem_sortP hl)

/-- the length of a joined text -/
def wgt (qs : List Pr) : Nat := (qs.map fun p => (txts p.2).length + 3).sum
theorem joinP_wgt : ∀ qs : List Pr, qs ≠ [] → (joinP qs).length + 1 = wgt qs
  | [], h => absurd rfl h
  | [p], _ => by simp [joinP, wgt]
  | p :: q :: r, _ => by
    have := joinP_wgt (q :: r) (by simp)
    simp only [joinP, wgt, List.map_cons, List.sum_cons, List.length_cons, List.length_append] at this ⊢
    omega
theorem wgt_perm {l r : List Pr} (h : l.Perm r) : wgt l = wgt r := (h.map _).sum_nat

theorem renN_inj {a b : UInt8} {L : List UInt8} (hb : b ∉ L ∨ b = a) {x y : UInt8} (hx : x ∈ L) (hy : y ∈ L) (h : renN a b x = renN a b y) : x = y := by
  unfold renN at h
  rcases hb with hb | rfl
  · split at h <;> split at h
    · rename_i h1 h2; rw [h1, h2]
    · exact absurd (h ▸ hy) hb
    · exact absurd (h ▸ hx) hb
    · exact h
  · split at h <;> split at h
    · rename_i h1 h2; rw [h1, h2]
    · rename_i h1 h2; exact absurd h.symm h2
    · rename_i h1 h2; exact absurd h h1
    · exact h
theorem renN_back {a b : UInt8} {L : List UInt8} (hb : b ∉ L ∨ b = a) {x : UInt8} (hx : x ∈ L) : renN b a (renN a b x) = x := by
  unfold renN
  rcases hb with hb | rfl
  · by_cases h : x = a
    · rw [if_pos h, if_pos rfl, h]
    · rw [if_neg h, if_neg (by rintro rfl; exact hb hx)]
  · by_cases h : x = b
    · rw [if_pos h, if_pos rfl, h]
    · rw [if_neg h, if_neg h]
mutual
theorem stm_back {a b : UInt8} {L : List UInt8} (hb : b ∉ L ∨ b = a) (x : Stm) (hx : ∀ c ∈ x.calls, c ∈ L) : (x.ren a b).ren b a = x := by
  match x with
  | .chg _ _ => rfl
  | .prt => rfl
  | .pro => rfl
  | .call c => rw [Stm.ren, Stm.ren, renN_back hb (hx c (by simp [Stm.calls]))]
  | .cho y z =>
    simp only [Stm.calls, List.mem_append] at hx
    rw [Stm.ren, Stm.ren, stms_back hb y fun c h => hx c (.inl h), stms_back hb z fun c h => hx c (.inr h)]
theorem stms_back {a b : UInt8} {L : List UInt8} (hb : b ∉ L ∨ b = a) (xs : List Stm) (hx : ∀ c ∈ callsIn xs, c ∈ L) : rens b a (rens a b xs) = xs := by
  match xs with
  | [] => rfl
  | x :: xs =>
    simp only [callsIn, List.mem_append] at hx
    rw [rens, rens, stm_back hb x fun c h => hx c (.inl h), stms_back hb xs fun c h => hx c (.inr h)]
end
theorem own_calls {ps : List Pr} (h : ownCalls ps = true) : ∀ p ∈ ps, ∀ c ∈ callsIn p.2, c ∈ namesOf ps := by
  unfold ownCalls at h
  rw [List.all_eq_true] at h
  intro p hp c hc
  have := h p hp
  rw [List.all_eq_true] at this
  exact List.contains_iff_mem.1 (this c hc)
theorem prog_own {s : ByteArray} {ps : List Pr} (h : progOf s = some ps) : ownCalls ps = true := by
  unfold progOf at h
  split at h
  · cases hq : procsOf [] (cuts s.data.toList) with
    | none => rw [hq] at h; cases h
    | some qs =>
      rw [hq, Option.bind_some] at h
      split at h
      · rename_i ho; injection h with h; rw [← h]; exact ho
      · cases h
  · cases h

/-- what a renamed program is -/
structure RnF (s : ByteArray) (ps : List Pr) (a b : UInt8) : Prop where
  names : namesOf (ps.map (renP a b)) = (namesOf ps).map (renN a b)
  nodup : (namesOf (ps.map (renP a b))).Nodup
  lets : ∀ q ∈ ps.map (renP a b), isLet q.1 = true
  prog : progOf (txtOf (joinP (sortP (ps.map (renP a b))))) = some (sortP (ps.map (renP a b)))
  back : sortP ((sortP (ps.map (renP a b))).map (renP b a)) = ps
  free : a ∉ namesOf (sortP (ps.map (renP a b))) ∨ a = b
theorem ren_facts {s : ByteArray} {ps : List Pr} (hp : progOf s = some ps) {a b : UInt8} (ha : a ∈ namesOf ps) (hl : isLet b = true) (hb : b ∉ namesOf ps ∨ b = a) : RnF s ps a b := by
  have hf := prog_facts hp
  have hasc : asc (namesOf ps) := procs_asc _ _ _ hf.2.2.2 (by simp [asc, namesOf])
  have hown := own_calls (prog_own hp)
  obtain ⟨htx, hne⟩ := prog_text hp
  have h1 : namesOf (ps.map (renP a b)) = (namesOf ps).map (renN a b) := by simp [namesOf, renP, Function.comp_def]
  have h2 : (namesOf (ps.map (renP a b))).Nodup := by
    rw [h1]
    unfold List.Nodup
    rw [List.pairwise_map]
    refine (asc_nodup' hasc).imp_of_mem ?_
    intro x y hx hy hxy e
    exact hxy (renN_inj hb hx hy e)
  have h3 : ∀ q ∈ ps.map (renP a b), Good q := by
    intro q hq
    obtain ⟨p, hpm, rfl⟩ := List.mem_map.1 hq
    exact renP_good (hf.2.1 p hpm) a b hl
  have h3l : ∀ q ∈ ps.map (renP a b), isLet q.1 = true := fun q hq => (h3 q hq).2.2.2
  have hperm := sortP_perm h2 h3l
  have hmem := mem_sortP h3l
  have hnm : ∀ c, c ∈ namesOf (sortP (ps.map (renP a b))) ↔ c ∈ (namesOf ps).map (renN a b) := by
    intro c
    rw [← h1]
    exact (hperm.map _).mem_iff
  have hsne : sortP (ps.map (renP a b)) ≠ [] := by
    intro e
    have := hperm.length_eq
    rw [e, List.length_map] at this
    exact hne (List.length_eq_zero_iff.1 this.symm)
  have hback : sortP ((sortP (ps.map (renP a b))).map (renP b a)) = ps := by
    have hid : ∀ p ∈ ps, renP b a (renP a b p) = p := by
      intro p hpm
      refine Prod.ext ?_ ?_
      · exact renN_back hb (List.mem_map.2 ⟨p, hpm, rfl⟩)
      · exact stms_back hb p.2 (hown p hpm)
    have hm2 : ∀ p, p ∈ (sortP (ps.map (renP a b))).map (renP b a) ↔ p ∈ ps := by
      intro p
      rw [List.mem_map]
      constructor
      · rintro ⟨q, hq, rfl⟩
        obtain ⟨r, hr, rfl⟩ := List.mem_map.1 ((hmem q).1 hq)
        rw [hid r hr]; exact hr
      · intro hpm
        exact ⟨_, (hmem _).2 (List.mem_map.2 ⟨p, hpm, rfl⟩), hid p hpm⟩
    have hpm2 : ((sortP (ps.map (renP a b))).map (renP b a)).Perm ps := by
      have h := (hperm.map (renP b a))
      have e : (ps.map (renP a b)).map (renP b a) = ps := by
        rw [List.map_map]
        exact (List.map_congr_left (g := id) (fun p hpm => hid p hpm)).trans (List.map_id ps)
      rw [e] at h
      exact h
    have hl2 : ∀ q ∈ (sortP (ps.map (renP a b))).map (renP b a), isLet q.1 = true := fun q hq => (hf.2.1 q ((hm2 q).1 hq)).2.2.2
    have hn2 : (namesOf ((sortP (ps.map (renP a b))).map (renP b a))).Nodup := ((hpm2.map _).nodup_iff).2 (asc_nodup' hasc)
    exact asc_ext _ _ (sortP_asc hn2) hasc fun p => (mem_sortP hl2 p).trans (hm2 p)
  refine ⟨h1, h2, h3l, ?_, hback, ?_⟩
  · refine prog_made (fun q hq => h3 q ((hmem q).1 hq)) hsne (sortP_asc h2) ?_ ?_
    · unfold ownCalls
      rw [List.all_eq_true]
      intro q hq
      rw [List.all_eq_true]
      intro c hc
      obtain ⟨p, hpm, rfl⟩ := List.mem_map.1 ((hmem q).1 hq)
      have hc' : c ∈ (callsIn p.2).map (renN a b) := by
        rw [← (stms_ren_wf a b hl p.2 (hf.2.1 p hpm).1).2.2.2]; exact hc
      obtain ⟨d, hd, rfl⟩ := List.mem_map.1 hc'
      rw [List.contains_iff_mem]
      exact (hnm _).2 (List.mem_map.2 ⟨d, hown p hpm d hd, rfl⟩)
    · have e1 := joinP_wgt _ hsne
      have e2 := joinP_wgt ps hne
      have e3 : wgt (sortP (ps.map (renP a b))) = wgt ps := by
        rw [wgt_perm hperm, wgt, wgt, List.map_map]
        congr 1
        refine List.map_congr_left fun p hpm => ?_
        show (txts (rens a b p.2)).length + 3 = _
        rw [(stms_ren_wf a b hl p.2 (hf.2.1 p hpm).1).2.2.1]
      have e4 : s.size = (joinP ps).length := by rw [← htx]; simp
      have := hf.2.2.1
      omega
  · by_cases hab : a = b
    · exact .inr hab
    · left
      rw [hnm]
      intro hm
      obtain ⟨x, hx, hxe⟩ := List.mem_map.1 hm
      unfold renN at hxe
      split at hxe
      · exact hab hxe.symm
      · rename_i h; exact h hxe
end Go.Proofs.YtfmmpahbjkiomaaGreatDoor
