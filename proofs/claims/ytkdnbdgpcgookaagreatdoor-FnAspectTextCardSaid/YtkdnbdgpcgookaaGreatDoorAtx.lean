/- An aspect is told by its text, and the text by the aspect, plainly. No walk, no condition. -/
import Derived.Test.YtkdnbdgpcgookaaGreatDoorSpa
import Derived.Test.YtkdnbdgpcgookaaGreatDoorFa
namespace Go.Proofs.YtkdnbdgpcgookaaGreatDoor
open Go.RowKit Gram

theorem ct_space (x : Ct) (h : x.wf = true) : 32 ∉ x.txt := by
  induction x with
  | prt => simp [Ct.txt]
  | lt g c =>
    simp only [Ct.wf, Bool.and_eq_true] at h
    have h1 : g ≠ 32 := by rintro rfl; exact absurd h.1 (by decide)
    have h2 : c ≠ 32 := by rintro rfl; exact absurd h.2 (by decide)
    simp [Ct.txt, h1.symm, h2.symm]
  | fix b => cases b <;> simp [Ct.txt]
  | opp x ih => simp [Ct.txt, ih h]
  | two g x y ih1 ih2 =>
    simp only [Ct.wf, Bool.and_eq_true] at h
    have h1 : g ≠ 32 := by rintro rfl; exact absurd h.1 (by decide)
    simp [Ct.txt, h1.symm, ih1 h.2.1, ih2 h.2.2]
theorem cut_space {c : ByteArray} (h : (cutOf c).isSome = true) : 32 ∉ c.data.toList := by
  obtain ⟨x, h⟩ := Option.isSome_iff_exists.1 h
  obtain ⟨_, h1, h2, _⟩ := cutOf_some h
  rw [h1]; exact ct_space x h2
theorem kind_space {k : ByteArray} {n : Nat} (h : kindOf k = some n) : 32 ∉ k.data.toList := by
  rw [← ByteArray.toList_eq]
  rcases kindOf_cases h with ⟨_, h⟩ | ⟨_, h, _⟩ | ⟨_, h, _⟩
  · rw [isBefore, beq_iff_eq] at h; rw [h]; decide
  · rw [isAfter, beq_iff_eq] at h; rw [h]; decide
  · rw [isAround, beq_iff_eq] at h; rw [h]; decide

/-- the parts of a text are no longer than it is -/
theorem cutsP_le (l : List UInt8) : ∀ (p : List UInt8), ∀ t ∈ w_cutsP p l, t.length ≤ p.length + l.length := by
  induction l with
  | nil => intro p t h; simp [w_cutsP] at h; subst h; simp
  | cons c l ih =>
    intro p t h
    simp only [w_cutsP] at h
    split at h
    · rcases List.mem_cons.1 h with rfl | h
      · simp
      · have := ih [] t h; simp at this ⊢; omega
    · have := ih (p ++ [c]) t h; simp at this ⊢; omega
theorem cuts_le (l : List UInt8) (t : List UInt8) (h : t ∈ w_cuts l) : t.length ≤ l.length := by
  have := cutsP_le l [] t h; simpa using this

theorem ba_eta (b : ByteArray) : strL b.data.toList = b := by
  obtain ⟨⟨d⟩⟩ := b; rfl
theorem ba_ext {a b : ByteArray} (h : a.data.toList = b.data.toList) : a = b := by
  rw [← ba_eta a, ← ba_eta b, h]

/-- a valid aspect is told by its text -/
theorem par_fmt {k c b : ByteArray} (h : (aspOf k c b).isSome = true) : parA (fmtA k c b) = some (k, c, b) := by
  have hb := asp_space h
  obtain ⟨⟨n, xs⟩, h'⟩ := Option.isSome_iff_exists.1 h
  obtain ⟨h1, h2, _, _⟩ := aspOf_some h'
  have hk := kind_space h1
  have hc := cut_space h2
  have hd : (fmtA k c b).data.toList = k.data.toList ++ 32 :: (c.data.toList ++ 32 :: b.data.toList) := by
    rw [fmtA, if_pos h]; simp [ByteArray.data_append]
  have hw : w_cuts (fmtA k c b).data.toList = [k.data.toList, c.data.toList, b.data.toList] := by
    rw [hd, w_cuts, w_cutsP_hit _ _ _ hk, w_cuts, w_cutsP_hit _ _ _ hc, w_cuts, w_cutsP_none _ _ hb]; rfl
  rw [par_three _ _ _ _ hw, ba_eta, ba_eta, ba_eta, if_pos h]

/-- a text that tells an aspect is that aspect's -/
theorem fmt_par {s k c b : ByteArray} (h : parA s = some (k, c, b)) : (aspOf k c b).isSome = true ∧ fmtA k c b = s := by
  by_cases h3 : (w_cuts s.data.toList).length = 3
  · obtain ⟨x, y, z, hp⟩ : ∃ x y z, w_cuts s.data.toList = [x, y, z] := by
      match w_cuts s.data.toList, h3 with
      | [x, y, z], _ => exact ⟨x, y, z, rfl⟩
    rw [par_three _ _ _ _ hp] at h
    split at h
    · rename_i hv
      simp only [Option.some.injEq, Prod.mk.injEq] at h
      obtain ⟨rfl, rfl, rfl⟩ := h
      refine ⟨hv, ba_ext ?_⟩
      rw [fmtA, if_pos hv]
      rcases w_index_cases 32 s.data.toList with ⟨_, h2⟩ | ⟨a1, r1, e1, n1, _⟩
      · have := w_cutsP_none s.data.toList [] h2
        rw [w_cuts, this] at hp; simp at hp
      · rw [e1, w_cuts, w_cutsP_hit _ _ _ n1] at hp
        rcases w_index_cases 32 r1 with ⟨_, h2⟩ | ⟨a2, r2, e2, n2, _⟩
        · have := w_cutsP_none r1 [] h2
          rw [w_cuts, this] at hp; simp at hp
        · rw [e2, w_cuts, w_cutsP_hit _ _ _ n2] at hp
          rcases w_index_cases 32 r2 with ⟨_, h2⟩ | ⟨a3, r3, e3, n3, _⟩
          · have := w_cutsP_none r2 [] h2
            rw [w_cuts, this] at hp
            simp only [List.nil_append, List.cons.injEq, and_true] at hp
            obtain ⟨rfl, rfl, rfl⟩ := hp
            rw [e1, e2]
            simp [ByteArray.data_append, strL]
          · rw [e3, w_cuts, w_cutsP_hit _ _ _ n3] at hp
            have := cuts_pos r3
            simp only [List.cons.injEq] at hp
            rw [hp.2.2.2] at this
            simp at this
    · cases h
  · rw [par_not _ h3] at h; cases h
theorem fmtA_none {k c b : ByteArray} (h : (aspOf k c b).isSome = false) : fmtA k c b = ⟨#[]⟩ := by
  rw [fmtA, if_neg (by rw [h]; decide)]
theorem fmtA_some {k c b : ByteArray} (h : (aspOf k c b).isSome = true) : (fmtA k c b).toList.isEmpty = false := by
  rw [fmtA, if_pos h, ByteArray.toList_eq]
  simp [ByteArray.data_append]
end Go.Proofs.YtkdnbdgpcgookaaGreatDoor
