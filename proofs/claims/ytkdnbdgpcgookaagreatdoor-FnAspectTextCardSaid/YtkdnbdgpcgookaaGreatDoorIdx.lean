/- A byte stands in a list exactly if its first index there is not negative. No condition. -/
import Derived.Test.YtkdnbdgpcgookaaGreatDoorLow
import Derived.Test.YtkdnbdgpcgookaaGreatDoorShelf
namespace Go.Proofs.YtkdnbdgpcgookaaGreatDoor
open Go.RowKit Gram

theorem index_has (l : List UInt8) (c : UInt8) : decide (0 ≤ Lib.indexByte l c) = l.contains c := by
  induction l with
  | nil => rfl
  | cons b l ih =>
    have hge := Lib.indexByte_ge l c
    rw [Lib.indexByte, List.contains_cons]
    by_cases hb : b == c
    · rw [if_pos hb]
      have : (c == b) = true := by rw [beq_iff_eq] at hb ⊢; exact hb.symm
      rw [this]; rfl
    · rw [if_neg hb]
      have : (c == b) = false := by
        rw [beq_eq_false_iff_ne]
        rintro rfl
        simp at hb
      rw [this, Bool.false_or, ← ih]
      by_cases h1 : Lib.indexByte l c == -1
      · rw [if_pos h1]; rw [beq_iff_eq] at h1; rw [h1]
      · rw [if_neg h1]
        have : Lib.indexByte l c ≠ -1 := by simpa using h1
        rw [decide_eq_decide]; omega

end Go.Proofs.YtkdnbdgpcgookaaGreatDoor
