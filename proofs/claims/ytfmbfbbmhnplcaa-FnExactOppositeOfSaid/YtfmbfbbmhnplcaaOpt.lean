/- Plain mathematics, no program: the signs of a cut in front of its parts; the opposite of a cut, its signs of opposites before the smallest cuts alone. No condition. -/
import Derived.Test.YtfmbfbbmhnplcaaCt
namespace Go.Proofs.Ytfmbfbbmhnplcaa.Gram

/-- the cut (false) or its opposite (true), signs of opposites before the smallest cuts alone -/
def nnf : Bool → Ct → Ct
  | t, .opp x => nnf (!t) x
  | t, .two g x y => .two (if t then 162 - g else g) (nnf t x) (nnf t y)
  | t, .fix b => .fix (b != t)
  | t, .prt => if t then .opp .prt else .prt
  | t, .lt g c => if t then .opp (.lt g c) else .lt g c

theorem ao_turn {g : UInt8} (h : isAO g = true) : isAO (162 - g) = true := by
  simp only [isAO, Bool.or_eq_true, beq_iff_eq] at h
  rcases h with rfl | rfl <;> decide
theorem nnf_wf : ∀ (x : Ct) (t : Bool), x.wf = true → (nnf t x).wf = true
  | .prt, t, _ => by cases t <;> rfl
  | .fix b, t, _ => rfl
  | .lt g c, t, h => by cases t <;> exact h
  | .opp x, t, h => nnf_wf x (!t) h
  | .two g x y, t, h => by
    simp only [Ct.wf, Bool.and_eq_true] at h
    simp only [nnf, Ct.wf, Bool.and_eq_true]
    refine ⟨?_, nnf_wf x t h.2.1, nnf_wf y t h.2.2⟩
    cases t
    · exact h.1
    · exact ao_turn h.1
theorem nnf_len : ∀ (x : Ct) (t : Bool), (nnf t x).txt.length ≤ 2 * x.txt.length
  | .prt, t => by cases t <;> decide
  | .fix b, t => by simp [nnf, Ct.txt]
  | .lt g c, t => by cases t <;> simp [nnf, Ct.txt]
  | .opp x, t => by
    have := nnf_len x (!t)
    simp only [nnf, Ct.txt, List.length_cons]; omega
  | .two g x y, t => by
    have h1 := nnf_len x t
    have h2 := nnf_len y t
    simp only [nnf, Ct.txt, List.length_cons, List.length_append]; omega

/-- the signs of a cut in front of its parts -/
def sgs : Ct → List UInt8
  | .prt => [80]
  | .lt g c => [g, c]
  | .fix b => [if b then 84 else 78]
  | .opp _ => [33]
  | .two g _ _ => [g]
theorem sgs_len (x : Ct) : (sgs x).length ≤ 2 := by cases x <;> simp [sgs]
end Go.Proofs.Ytfmbfbbmhnplcaa.Gram
