/- Ascending letters. No condition. -/
import Derived.Test.YtihjkkoaccmefaaDoorFacts
import Derived.Test.YtihjkkoaccmefaaDoorBset
import Derived.Deep.AppendLies
namespace Go.Proofs.YtihjkkoaccmefaaDoor
open Go.RowKit Gram

theorem filter_step (l : List UInt8) (c : UInt8) (h : asc l) : (l.filter fun d => decide (d.toNat < c.toNat + 1)) = (l.filter fun d => decide (d.toNat < c.toNat)) ++ if l.contains c = true then [c] else [] := by
  induction l with
  | nil => simp
  | cons a t ih =>
    rw [asc, List.pairwise_cons] at h
    have ih' := ih h.2
    rcases Nat.lt_trichotomy a.toNat c.toNat with h1 | h1 | h1
    · have hne : c ≠ a := fun e => by rw [e] at h1; omega
      rw [List.filter_cons_of_pos (by simp; omega), List.filter_cons_of_pos (by simp; omega), ih', List.cons_append]
      simp [hne]
    · have he : a = c := UInt8.toNat.inj h1
      subst he
      have e1 : (t.filter fun d => decide (d.toNat < a.toNat + 1)) = [] := by rw [List.filter_eq_nil_iff]; intro d hd; have := h.1 d hd; simp; omega
      have e2 : (t.filter fun d => decide (d.toNat < a.toNat)) = [] := by rw [List.filter_eq_nil_iff]; intro d hd; have := h.1 d hd; simp; omega
      rw [List.filter_cons_of_pos (by simp), List.filter_cons_of_neg (by simp), e1, e2]
      simp
    · have e1 : (t.filter fun d => decide (d.toNat < c.toNat + 1)) = [] := by rw [List.filter_eq_nil_iff]; intro d hd; have := h.1 d hd; simp; omega
      have e2 : (t.filter fun d => decide (d.toNat < c.toNat)) = [] := by rw [List.filter_eq_nil_iff]; intro d hd; have := h.1 d hd; simp; omega
      have hne : ¬ (a :: t).contains c = true := by
        rw [List.contains_iff_mem, List.mem_cons]
        rintro (e | e)
        · rw [e] at h1; omega
        · have := h.1 c e; omega
      rw [List.filter_cons_of_neg (by simp; omega), List.filter_cons_of_neg (by simp; omega), e1, e2, if_neg hne]; rfl
theorem upTo_asc (l : List UInt8) (h : asc l) (hl : lets l) : setText l = l := by
  have key : ∀ n, n ≤ 26 → upTo l (97 + n) = l.filter fun d => decide (d.toNat < 97 + n) := by
    intro n
    induction n with
    | zero =>
      intro _
      have : (l.filter fun d => decide (d.toNat < 97 + 0)) = [] := by rw [List.filter_eq_nil_iff]; intro d hd; have := let_rng (hl d hd); simp; omega
      rw [this]; rfl
    | succ n ih =>
      intro hn
      have hc : (UInt8.ofNat (97 + n)).toNat = 97 + n := by rw [UInt8.toNat_ofNat']; omega
      have h1 := upTo_step l (UInt8.ofNat (97 + n)) (by omega)
      have h2 := filter_step l (UInt8.ofNat (97 + n)) h
      rw [hc] at h1 h2
      rw [← Nat.add_assoc, h1, h2, ih (by omega)]
  have := key 26 (by omega)
  rw [setText, this, List.filter_eq_self]
  intro d hd
  have := let_rng (hl d hd)
  simp; omega
end Go.Proofs.YtihjkkoaccmefaaDoor
