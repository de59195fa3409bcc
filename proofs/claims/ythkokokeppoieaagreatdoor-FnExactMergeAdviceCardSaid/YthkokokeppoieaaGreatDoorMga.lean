/- Plain mathematics: what two aspects of one kind and cut do one behind the other; strings.ReplaceAll of a byte. No walk, no condition. -/
import Derived.Test.YthkokokeppoieaaGreatDoorOnly
import Derived.Test.YthkokokeppoieaaGreatDoorTxt
import Derived.Test.YthkokokeppoieaaGreatDoorIdx
import Derived.Lib.Replace
import Derived.Lib.IndexBytes
namespace Go.Proofs.YthkokokeppoieaaGreatDoor
open Go.RowKit Gram

/-- a text with another one in place of each K -/
def putK (l b : List UInt8) : List UInt8 := l.flatMap fun c => if (c == 75) = true then b else [c]
theorem putK_cons (c : UInt8) (l b : List UInt8) : putK (c :: l) b = (if (c == 75) = true then b else [c]) ++ putK l b := by simp [putK]
theorem putK_take (l b : List UInt8) (k : Nat) (h : k < l.length) : putK (l.take (k + 1)) b = putK (l.take k) b ++ if (l[k] == 75) = true then b else [l[k]] := by
  rw [putK, List.take_succ_eq_append_getElem h, List.flatMap_append]; simp [putK]
theorem putK_len (l b : List UInt8) : (putK l b).length ≤ l.length * (b.length + 1) := by
  induction l with
  | nil => simp [putK]
  | cons c t ih =>
    rw [putK_cons, List.length_append, List.length_cons, Nat.succ_mul]
    split
    · omega
    · rw [List.length_singleton]; omega

theorem index_in (l : List UInt8) (c : UInt8) (h : c ∈ l) : (0 : Int) ≤ Lib.indexByte l c := by
  have := index_has l c
  rw [List.contains_iff_mem.2 h, decide_eq_true_eq] at this
  exact this
theorem replaceK_put (b : List UInt8) : ∀ l : List UInt8, Lib.replaceK [75] b (l.count 75) l = putK l b
  | [] => rfl
  | a :: r => by
    have ih := replaceK_put b r
    rw [putK_cons]
    by_cases ha : a = 75
    · subst ha
      rw [List.count_cons_self, Lib.replaceK, Lib.index_one]
      simp [Lib.indexByte, ih]
    · rw [List.count_cons_of_ne (fun h => ha h)]
      rw [if_neg (by simpa using ha)]
      cases hc : r.count 75 with
      | zero =>
        rw [hc] at ih
        rw [Lib.replaceK] at ih ⊢
        rw [← ih]; rfl
      | succ k =>
        rw [hc] at ih
        have hm : (75 : UInt8) ∈ r := List.count_pos_iff.1 (by omega)
        have hi : ¬ (Lib.indexByte r 75 == -1) = true := by
          have h0 : (0 : Int) ≤ Lib.indexByte r 75 := index_in r 75 hm
          intro e; have := beq_iff_eq.1 e; omega
        have h0 : (0 : Int) ≤ Lib.indexByte r 75 := index_in r 75 hm
        have hi2 : ¬ (Lib.indexByte r 75 + 1 == -1) = true := by
          intro e; have := beq_iff_eq.1 e; omega
        have e1 : (Lib.indexByte r 75 + 1).toNat = (Lib.indexByte r 75).toNat + 1 := by omega
        rw [Lib.replaceK, Lib.index_one, if_neg hi] at ih
        have hidx : Lib.indexByte (a :: r) 75 = Lib.indexByte r 75 + 1 := by rw [Lib.indexByte, if_neg (by simpa using ha), if_neg hi]
        rw [Lib.replaceK, Lib.index_one, hidx, if_neg hi2, e1]
        rw [← ih]
        simp
theorem replaceAll_put (l b : List UInt8) : Lib.replaceAll l [75] b = putK l b := by
  unfold Lib.replaceAll Lib.replace
  split
  · rename_i h
    have hb : [75] = b := by simpa using h
    subst hb
    have : (fun c : UInt8 => if (c == 75) = true then [75] else [c]) = fun c => [c] := by
      funext c
      split
      · rename_i hc; rw [beq_iff_eq.1 hc]
      · rfl
    rw [putK, this]; simp
  · have : Lib.replaceNum l [75] (-1) = l.count 75 := by
      unfold Lib.replaceNum
      rw [if_pos (.inl (by omega)), Lib.count_one]
    rw [this, replaceK_put]

/-- the body of both, by the kind's number -/
def mgB (n : Nat) (a b : ByteArray) : ByteArray := if n = 0 then a ++ b else if n = 1 then b ++ a else txtOf (putK a.data.toList b.data.toList)
/-- the body of both, by the kind's word -/
def mgS (bef aft : Bool) (a b : ByteArray) : ByteArray := if bef = true then a ++ b else if aft = true then b ++ a else txtOf (putK a.data.toList b.data.toList)
theorem mgB_is {k : ByteArray} {n : Nat} (h : kindOf k = some n) (a b : ByteArray) : mgB n a b = mgS (isBefore k) (isAfter k) a b := by
  rcases kindOf_cases h with ⟨rfl, h1⟩ | ⟨rfl, h1, h2⟩ | ⟨rfl, h1, h2, h3⟩
  · simp [mgB, mgS, h1]
  · simp [mgB, mgS, h1, h2]
  · simp [mgB, mgS, h2, h3]
/-- the aspect that does what two do, if there is one -/
def mgA (k c b k' c' b' : ByteArray) : Option (ByteArray × ByteArray × ByteArray) :=
  if ((aspOf k c b).isSome && (aspOf k' c' b').isSome && (k.toList == k'.toList) && (c.toList == c'.toList) && (aspOf k c (mgS (isBefore k) (isAfter k) b b')).isSome) = true then some (k, c, mgS (isBefore k) (isAfter k) b b') else none
end Go.Proofs.YthkokokeppoieaaGreatDoor
