/- An aspect's kind, cut and body, plainly: when they are valid, and which statements the body has. No walk, no condition. -/
import Derived.Test.YtkdnbdgpcgookaaGreatDoorAx
import Derived.Test.YtkdnbdgpcgookaaGreatDoorCt
import Derived.Test.YtkdnbdgpcgookaaGreatDoorEx
namespace Go.Proofs.YtkdnbdgpcgookaaGreatDoor
open Go.RowKit Gram

def isBefore (k : ByteArray) : Bool := k.toList == [98, 101, 102, 111, 114, 101]
def isAfter (k : ByteArray) : Bool := k.toList == [97, 102, 116, 101, 114]
def isAround (k : ByteArray) : Bool := k.toList == [97, 114, 111, 117, 110, 100]
/-- the kind of advice that a word says: 0 before, 1 after, 2 around -/
def kindOf (k : ByteArray) : Option Nat := if isBefore k = true then some 0 else if isAfter k = true then some 1 else if isAround k = true then some 2 else none

/-- the statements of a body of advice, calls among them -/
def advOf (b : ByteArray) : Option (List Stm) := if b.size ≤ 60 then pA b.data.toList else none

/-- whether statements may stand in advice of a kind -/
def mayStand (n : Nat) (xs : List Stm) : Bool := !(dds xs).call && (n == 2 || !decide (0 < (dds xs).most))

/-- the kind and the statements of a valid aspect -/
def aspOf (k c b : ByteArray) : Option (Nat × List Stm) :=
  match kindOf k, (cutOf c).isSome, advOf b with
  | some n, true, some xs => if mayStand n xs = true then some (n, xs) else none
  | _, _, _ => none

theorem advOf_some {b : ByteArray} {xs : List Stm} (h : advOf b = some xs) : b.size ≤ 60 ∧ b.data.toList = txts xs ∧ wfs xs = true ∧ Tells (dds xs) b.data.toList := by
  unfold advOf at h
  split at h
  · obtain ⟨h1, h2⟩ := (pA_iff _ _).1 h
    exact ⟨by assumption, h1, h2, by rw [h1]; exact tells_all xs h2⟩
  · cases h

theorem aspOf_some {k c b : ByteArray} {n : Nat} {xs : List Stm} (h : aspOf k c b = some (n, xs)) :
    kindOf k = some n ∧ (cutOf c).isSome = true ∧ advOf b = some xs ∧ mayStand n xs = true := by
  unfold aspOf at h
  split at h
  · rename_i h1 h2 h3
    split at h
    · rename_i h4
      simp only [Option.some.injEq, Prod.mk.injEq] at h
      obtain ⟨rfl, rfl⟩ := h
      exact ⟨h1, h2, h3, h4⟩
    · cases h
  · cases h

theorem aspOf_is {k c b : ByteArray} {n : Nat} {xs : List Stm} (h1 : kindOf k = some n) (h2 : (cutOf c).isSome = true) (h3 : advOf b = some xs) :
    aspOf k c b = if mayStand n xs = true then some (n, xs) else none := by
  simp only [aspOf, h1, h2, h3]

theorem kindOf_cases {k : ByteArray} {n : Nat} (h : kindOf k = some n) : n = 0 ∧ isBefore k = true ∨ n = 1 ∧ isAfter k = true ∧ isBefore k = false ∨ n = 2 ∧ isAround k = true ∧ isBefore k = false ∧ isAfter k = false := by
  unfold kindOf at h
  by_cases h1 : isBefore k = true
  · rw [if_pos h1] at h; injection h with h; exact .inl ⟨h.symm, h1⟩
  · rw [if_neg h1] at h
    by_cases h2 : isAfter k = true
    · rw [if_pos h2] at h; injection h with h; exact .inr (.inl ⟨h.symm, h2, by simpa using h1⟩)
    · rw [if_neg h2] at h
      by_cases h3 : isAround k = true
      · rw [if_pos h3] at h; injection h with h; exact .inr (.inr ⟨h.symm, h3, by simpa using h1, by simpa using h2⟩)
      · rw [if_neg h3] at h; cases h

/-- what the model's l4Body says, of a body that is the text of statements -/
theorem mayStand_says {b : ByteArray} {n : Nat} {xs : List Stm} (h : Tells (dds xs) b.data.toList) :
    mayStand n xs = (!b.data.toList.contains 67 && (n == 2 || !b.data.toList.contains 75)) := by
  rw [mayStand, h.call, h.most]
end Go.Proofs.YtkdnbdgpcgookaaGreatDoor
