/- Plain mathematics: the advice around that does the same as an aspect; its text. No walk, no condition. -/
import Derived.Test.YtpahbkjogljndaaGreatDoorOnly
namespace Go.Proofs.YtpahbkjogljndaaGreatDoor
open Go.RowKit Gram

/-- the statements of advice around that does the same -/
def ardOf (n : Nat) (xs : List Stm) : List Stm := if n = 0 then xs ++ [.pro] else if n = 1 then .pro :: xs else xs
def aroundS : ByteArray := ⟨#[97, 114, 111, 117, 110, 100]⟩
/-- the advice around that does the same, if there is one -/
def ardA (k c b : ByteArray) : Option (ByteArray × ByteArray × ByteArray) := match aspOf k c b with
  | some (n, xs) => if (aspOf aroundS c (strL (txts (ardOf n xs)))).isSome = true then some (aroundS, c, strL (txts (ardOf n xs))) else none
  | none => none

theorem ard_len (n : Nat) (xs : List Stm) : (txts (ardOf n xs)).length ≤ (txts xs).length + 1 := by
  unfold ardOf
  split
  · rw [txts_snoc]; simp [Stm.txt]
  · split
    · simp [txts, Stm.txt] <;> omega
    · omega

/-- its body, made of the body's text -/
def bodyA (bef aft : Bool) (b : ByteArray) : ByteArray := if bef = true then b ++ ⟨#[75]⟩ else if aft = true then ⟨#[75]⟩ ++ b else b

theorem ard_body {k c b : ByteArray} {n : Nat} {xs : List Stm} (h : aspOf k c b = some (n, xs)) : strL (txts (ardOf n xs)) = bodyA (isBefore k) (isAfter k) b := by
  obtain ⟨hk, _, ha, _⟩ := aspOf_some h
  obtain ⟨_, htx, _, _⟩ := advOf_some ha
  unfold ardOf bodyA
  rcases kindOf_cases hk with ⟨rfl, e⟩ | ⟨rfl, e1, e2⟩ | ⟨rfl, _, e1, e2⟩
  · rw [if_pos rfl, if_pos e, txts_snoc, ← htx]
    apply ByteArray.ext; rw [← Array.toList_inj]; simp [strL, Stm.txt]
  · rw [if_neg (by decide), if_pos rfl, if_neg (by rw [e2]; decide), if_pos e1]
    simp only [txts, ← htx]
    apply ByteArray.ext; rw [← Array.toList_inj]; simp [strL, Stm.txt]
  · rw [if_neg (by decide), if_neg (by decide), if_neg (by rw [e1]; decide), if_neg (by rw [e2]; decide), ← htx]
    apply ByteArray.ext; simp [strL]

theorem ardA_is (k c b : ByteArray) : ardA k c b = if (aspOf k c b).isSome = true then (if (aspOf aroundS c (bodyA (isBefore k) (isAfter k) b)).isSome = true then some (aroundS, c, bodyA (isBefore k) (isAfter k) b) else none) else none := by
  unfold ardA
  cases h : aspOf k c b with
  | none => simp
  | some p =>
    obtain ⟨n, xs⟩ := p
    dsimp only
    rw [ard_body h]; simp
end Go.Proofs.YtpahbkjogljndaaGreatDoor
