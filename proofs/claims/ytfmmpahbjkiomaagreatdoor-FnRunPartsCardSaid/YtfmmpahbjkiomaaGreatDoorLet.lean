/- letterOf: the letter that a name is. No condition. -/
import Derived.Test.YtfmmpahbjkiomaaGreatDoorLow
namespace Go.Proofs.YtfmmpahbjkiomaaGreatDoor
open Go.RowKit Gram

theorem size_of (s : ByteArray) : s.data.toList.length = s.size := by simp

/-- the letter that a name is -/
def nameOf (l : List UInt8) : Option UInt8 := match l with | [n] => if isLet n = true then some n else none | _ => none
def letN (o : Option UInt8) : UInt8 := o.getD 0

set_option maxHeartbeats 400000 in
theorem letter_of (s : ByteArray) (w : World) :
    Calls Tryz.prog 27 #[.string s] w fun e w' => e = .returned (.tuple #[.int .u8 (letN (nameOf s.data.toList)).toNat, .bool (nameOf s.data.toList).isSome]) ∧ w = w' := by
  by_cases h1 : s.size = 1
  · have h0 : 0 < s.size := by omega
    have hN : nameOf s.data.toList = if isLet s[0] = true then some s[0] else none := by
      have hl : s.data.toList.length = 1 := by simpa using h1
      obtain ⟨c, hc⟩ := List.length_eq_one_iff.1 hl
      have h2 : s[0] = c := by
        have : s.data.toList[0]'(by omega) = c := by simp only [hc]; rfl
        rw [← this]; rfl
      rw [hc, h2]; rfl
    have hlt := s[0].toNat_lt
    have hL : isLet s[0] = (decide ((97 : Int) ≤ s[0].toNat) && decide ((s[0].toNat : Int) ≤ 122)) := by
      simp only [isLet, UInt8.le_iff_toNat_le]
      congr 1
      · rw [decide_eq_decide]; show 97 ≤ s[0].toNat ↔ _; omega
      · rw [decide_eq_decide]; show s[0].toNat ≤ 122 ↔ _; omega
    have hb : ((s.size : Int) == 1) = true := by rw [beq_iff_eq]; omega
    rw [hN, hL]
    clear hN hL hlt
    by_cases a1 : (97 : Int) ≤ s[0].toNat
    · by_cases a2 : (s[0].toNat : Int) ≤ 122
      · rw [if_pos (by simp [a1, a2])]
        go_enter Tryz.func27, Tryz.ntmps27
        go_wp2
        go_ret2
        exact ⟨rfl, rfl⟩
      · rw [if_neg (by simp [a2])]
        go_enter Tryz.func27, Tryz.ntmps27
        go_wp2
        go_ret2
        exact ⟨rfl, rfl⟩
    · rw [if_neg (by simp [a1])]
      go_enter Tryz.func27, Tryz.ntmps27
      go_wp2
      go_ret2
      exact ⟨rfl, rfl⟩
  · have hn : nameOf s.data.toList = none := by
      unfold nameOf
      split
      · rename_i n he
        have : s.data.toList.length = 1 := by rw [he]; rfl
        simp at this; exact absurd this h1
      · rfl
    rw [hn]
    clear hn
    have hb : ((s.size : Int) == 1) = false := by rw [beq_eq_false_iff_ne]; omega
    go_enter Tryz.func27, Tryz.ntmps27
    go_wp2
    go_ret2
    exact ⟨rfl, rfl⟩
end Go.Proofs.YtfmmpahbjkiomaaGreatDoor
