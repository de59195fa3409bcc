/- Plain mathematics, no program: what statements of advice do: how often they proceed at least and at most, whether they change the value, print, call; and which signs of a text say so. No condition. -/
import Derived.Test.YtkdnbdgpcgookaaGreatDoorMach
namespace Go.Proofs.YtkdnbdgpcgookaaGreatDoor.Gram

structure Dd where
  least : Nat
  most : Nat
  chg : Bool
  prt : Bool
  call : Bool

def Dd.plus (a b : Dd) : Dd := ⟨a.least + b.least, a.most + b.most, a.chg || b.chg, a.prt || b.prt, a.call || b.call⟩
def Dd.either (a b : Dd) : Dd := ⟨min a.least b.least, max a.most b.most, a.chg || b.chg, a.prt || b.prt, a.call || b.call⟩
def Dd.zero : Dd := ⟨0, 0, false, false, false⟩

mutual
def Stm.dd : Stm → Dd
  | .chg _ _ => ⟨0, 0, true, false, false⟩
  | .prt => ⟨0, 0, false, true, false⟩
  | .pro => ⟨1, 1, false, false, false⟩
  | .call _ => ⟨0, 0, false, false, true⟩
  | .cho a b => (dds a).either (dds b)
def dds : List Stm → Dd
  | [] => Dd.zero
  | x :: xs => x.dd.plus (dds xs)
end

theorem Dd.ext' {a b : Dd} (h1 : a.least = b.least) (h2 : a.most = b.most) (h3 : a.chg = b.chg) (h4 : a.prt = b.prt) (h5 : a.call = b.call) : a = b := by
  cases a; cases b; simp_all
theorem Dd.zero_plus (a : Dd) : Dd.zero.plus a = a := Dd.ext' (by simp [Dd.plus, Dd.zero]) (by simp [Dd.plus, Dd.zero]) rfl rfl rfl
theorem Dd.plus_zero (a : Dd) : a.plus Dd.zero = a := Dd.ext' (by simp [Dd.plus, Dd.zero]) (by simp [Dd.plus, Dd.zero]) (by simp [Dd.plus, Dd.zero]) (by simp [Dd.plus, Dd.zero]) (by simp [Dd.plus, Dd.zero])
theorem Dd.plus_assoc (a b c : Dd) : (a.plus b).plus c = a.plus (b.plus c) :=
  Dd.ext' (by simp [Dd.plus]; omega) (by simp [Dd.plus]; omega) (by simp [Dd.plus, Bool.or_assoc]) (by simp [Dd.plus, Bool.or_assoc]) (by simp [Dd.plus, Bool.or_assoc])
theorem dds_append (a b : List Stm) : dds (a ++ b) = (dds a).plus (dds b) := by
  induction a with
  | nil => simp [dds, Dd.zero_plus]
  | cons x t ih => simp [dds, ih, Dd.plus_assoc]
theorem dds_snoc (a : List Stm) (x : Stm) : dds (a ++ [x]) = (dds a).plus x.dd := by rw [dds_append]; simp [dds, Dd.plus_zero]

/-- what a text says of the deeds -/
structure Tells (d : Dd) (l : List UInt8) : Prop where
  call : d.call = l.contains 67
  prt : d.prt = l.contains 80
  chg : d.chg = (l.contains 43 || l.contains 45 || l.contains 42)
  most : decide (0 < d.most) = l.contains 75
  le : d.most ≤ l.length
  least : d.least ≤ d.most

theorem sgn_cases {g : UInt8} (h : isSgn g = true) : g = 43 ∨ g = 45 ∨ g = 42 := by
  simp [isSgn] at h; rcases h with (h | h) | h <;> simp [h]
theorem dig_ne {d : UInt8} (h : isDig d = true) : d ≠ 67 ∧ d ≠ 80 ∧ d ≠ 43 ∧ d ≠ 45 ∧ d ≠ 42 ∧ d ≠ 75 := by
  refine ⟨?_, ?_, ?_, ?_, ?_, ?_⟩ <;> (rintro rfl; revert h; decide)
theorem let_ne {d : UInt8} (h : isLet d = true) : d ≠ 67 ∧ d ≠ 80 ∧ d ≠ 43 ∧ d ≠ 45 ∧ d ≠ 42 ∧ d ≠ 75 := by
  refine ⟨?_, ?_, ?_, ?_, ?_, ?_⟩ <;> (rintro rfl; revert h; decide)

theorem tells_append {a b : Dd} {l m : List UInt8} (h : Tells a l) (k : Tells b m) : Tells (a.plus b) (l ++ m) := by
  refine ⟨?_, ?_, ?_, ?_, ?_, ?_⟩
  · simp [Dd.plus, h.call, k.call]
  · simp [Dd.plus, h.prt, k.prt]
  · simp only [Dd.plus, h.chg, k.chg, List.contains_append]
    cases l.contains 43 <;> cases l.contains 45 <;> cases l.contains 42 <;> cases m.contains 43 <;> cases m.contains 45 <;> cases m.contains 42 <;> rfl
  · rw [List.contains_append, ← h.most, ← k.most, ← Bool.decide_or]
    exact decide_eq_decide.2 (by show 0 < a.most + b.most ↔ _; omega)
  · have := h.le; have := k.le; simp only [Dd.plus, List.length_append]; omega
  · have := h.least; have := k.least; simp only [Dd.plus]; omega

theorem tells_either {a b : Dd} {l m : List UInt8} (h : Tells a l) (k : Tells b m) : Tells (a.either b) (63 :: 91 :: (l ++ 93 :: 91 :: (m ++ [93]))) := by
  have hc : ∀ c : UInt8, c ≠ 63 → c ≠ 91 → c ≠ 93 → (63 :: 91 :: (l ++ 93 :: 91 :: (m ++ [93]))).contains c = (l.contains c || m.contains c) := fun c h1 h2 h3 => by
    have e1 : (c == 63) = false := by simpa using h1
    have e2 : (c == 91) = false := by simpa using h2
    have e3 : (c == 93) = false := by simpa using h3
    simp only [List.contains_cons, List.contains_append, List.contains_nil, e1, e2, e3, Bool.false_or, Bool.or_false]
  refine ⟨?_, ?_, ?_, ?_, ?_, ?_⟩
  · rw [hc _ (by decide) (by decide) (by decide), ← h.call, ← k.call]; rfl
  · rw [hc _ (by decide) (by decide) (by decide), ← h.prt, ← k.prt]; rfl
  · rw [hc _ (by decide) (by decide) (by decide), hc _ (by decide) (by decide) (by decide), hc _ (by decide) (by decide) (by decide)]
    simp only [Dd.either, h.chg, k.chg]
    cases l.contains 43 <;> cases l.contains 45 <;> cases l.contains 42 <;> cases m.contains 43 <;> cases m.contains 45 <;> cases m.contains 42 <;> rfl
  · rw [hc _ (by decide) (by decide) (by decide), ← h.most, ← k.most, ← Bool.decide_or]
    exact decide_eq_decide.2 (by show 0 < max a.most b.most ↔ _; omega)
  · have := h.le; have := k.le; simp only [Dd.either, List.length_cons, List.length_append, List.length_nil]; omega
  · have := h.least; have := k.least; simp only [Dd.either]; omega

mutual
theorem Stm.tells (x : Stm) (h : x.wf = true) : Tells x.dd x.txt := by
  match x with
  | .chg g d =>
    simp only [Stm.wf, Bool.and_eq_true] at h
    obtain ⟨h1, h2, h3, h4, h5, h6⟩ := dig_ne h.2
    rcases sgn_cases h.1 with rfl | rfl | rfl <;> refine ⟨?_, ?_, ?_, ?_, ?_, ?_⟩ <;> simp [Stm.dd, Stm.txt, h1.symm, h2.symm, h3.symm, h4.symm, h5.symm, h6.symm]
  | .prt => exact ⟨rfl, rfl, rfl, rfl, Nat.zero_le _, Nat.le_refl _⟩
  | .pro => exact ⟨rfl, rfl, rfl, rfl, Nat.le_refl _, Nat.le_refl _⟩
  | .call c =>
    simp only [Stm.wf] at h
    obtain ⟨h1, h2, h3, h4, h5, h6⟩ := let_ne h
    refine ⟨?_, ?_, ?_, ?_, ?_, ?_⟩ <;> simp [Stm.dd, Stm.txt, h1.symm, h2.symm, h3.symm, h4.symm, h5.symm, h6.symm]
  | .cho a b =>
    simp only [Stm.wf, Bool.and_eq_true] at h
    simp only [Stm.dd, Stm.txt]
    exact tells_either (tells_all a h.1) (tells_all b h.2)
theorem tells_all (xs : List Stm) (h : wfs xs = true) : Tells (dds xs) (txts xs) := by
  match xs with
  | [] => exact ⟨rfl, rfl, rfl, rfl, Nat.le_refl _, Nat.le_refl _⟩
  | x :: xs =>
    simp only [wfs, Bool.and_eq_true] at h
    simp only [dds, txts]
    exact tells_append (Stm.tells x h.1) (tells_all xs h.2)
end
end Go.Proofs.YtkdnbdgpcgookaaGreatDoor.Gram
