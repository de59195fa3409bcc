/- Sets of letters as the program keeps them: a number of 32 bits, the least bit for 'a'. Plain lemmas. Condition: the signs are letters. -/
import Derived.Test.YtfmmpahbjkiomaaGreatDoorLow
import Derived.WalkKit
namespace Go.Proofs.YtfmmpahbjkiomaaGreatDoor
open Go.RowKit Gram

def bitOf (c : UInt8) : Nat := 2 ^ (c.toNat - 97)
def setFrom (m : Nat) (l : List UInt8) : Nat := l.foldl (fun m c => m ||| bitOf c) m
def setOf (l : List UInt8) : Nat := setFrom 0 l
def lets (l : List UInt8) : Prop := ∀ c ∈ l, isLet c = true

theorem let_rng {c : UInt8} (h : isLet c = true) : 97 ≤ c.toNat ∧ c.toNat ≤ 122 := by
  simp only [isLet, Bool.and_eq_true, decide_eq_true_eq, UInt8.le_iff_toNat_le] at h
  exact h
theorem bit_lt {c : UInt8} (h : isLet c = true) : bitOf c < 67108864 := by
  have := let_rng h
  have h2 : bitOf c < 2 ^ 26 := Nat.pow_lt_pow_right (by decide) (by omega)
  exact h2
theorem setFrom_bit (l : List UInt8) : ∀ m i, (setFrom m l).testBit i = (m.testBit i || l.any fun c => c.toNat - 97 == i) := by
  induction l with
  | nil => intro m i; simp [setFrom]
  | cons c t ih =>
    intro m i
    show (setFrom (m ||| bitOf c) t).testBit i = _
    rw [ih, Nat.testBit_or, bitOf, Nat.testBit_two_pow, List.any_cons, Bool.or_assoc]
    rfl
theorem setOf_bit (l : List UInt8) (i : Nat) : (setOf l).testBit i = l.any fun c => c.toNat - 97 == i := by
  rw [setOf, setFrom_bit]; simp
theorem setFrom_lt (l : List UInt8) : ∀ m, m < 67108864 → lets l → setFrom m l < 67108864 := by
  induction l with
  | nil => intro m h _; exact h
  | cons c t ih =>
    intro m h hl
    refine ih _ ?_ (fun d hd => hl d (List.mem_cons_of_mem _ hd))
    exact Nat.or_lt_two_pow (n := 26) h (bit_lt (hl c (List.mem_cons_self ..)))
theorem setOf_lt (l : List UInt8) (h : lets l) : setOf l < 67108864 := setFrom_lt l 0 (by decide) h
theorem set_has (l : List UInt8) (c : UInt8) (hl : lets l) (hc : isLet c = true) : (setOf l).testBit (c.toNat - 97) = l.contains c := by
  rw [setOf_bit, Bool.eq_iff_iff, List.any_eq_true, List.contains_iff_mem]
  constructor
  · rintro ⟨d, hd, he⟩
    have h1 := let_rng (hl d hd)
    have h2 := let_rng hc
    have h3 : d.toNat - 97 = c.toNat - 97 := by simpa using he
    have : d = c := UInt8.toNat.inj (by omega)
    exact this ▸ hd
  · intro h; exact ⟨c, h, by simp⟩

theorem nat32 (a : Nat) (h : a < 4294967296) : (BitVec.ofInt 32 (a : Int)).toNat = a := by
  rw [BitVec.ofInt_natCast, BitVec.toNat_ofNat]; exact Nat.mod_eq_of_lt (by omega)
theorem or32 (a b : Nat) (ha : a < 4294967296) (hb : b < 4294967296) : bits .or .u32 (a : Int) (b : Int) = ((a ||| b : Nat) : Int) := by
  have hx : a ||| b < 2 ^ 32 := Nat.or_lt_two_pow ha hb
  show IntKind.u32.wrap ((BitVec.ofInt 32 (a : Int) ||| BitVec.ofInt 32 (b : Int)).toNat : Int) = _
  rw [BitVec.toNat_or, nat32 a ha, nat32 b hb, IntKind.wrap_u32]
  omega
theorem and32 (a b : Nat) (ha : a < 4294967296) (hb : b < 4294967296) : bits .and .u32 (a : Int) (b : Int) = ((a &&& b : Nat) : Int) := by
  have hx : a &&& b < 2 ^ 32 := Nat.and_lt_two_pow _ hb
  show IntKind.u32.wrap ((BitVec.ofInt 32 (a : Int) &&& BitVec.ofInt 32 (b : Int)).toNat : Int) = _
  rw [BitVec.toNat_and, nat32 a ha, nat32 b hb, IntKind.wrap_u32]
  omega
/-- what of a is not in b -/
def lessOf (a b : Nat) : Nat := (BitVec.ofNat 32 a &&& ~~~ BitVec.ofNat 32 b).toNat
theorem less32 (a b : Nat) : bits .andNot .u32 (a : Int) (b : Int) = (lessOf a b : Int) := by
  show IntKind.u32.wrap ((BitVec.ofInt 32 (a : Int) &&& ~~~ BitVec.ofInt 32 (b : Int)).toNat : Int) = _
  rw [BitVec.ofInt_natCast, BitVec.ofInt_natCast, IntKind.wrap_u32]
  have := (BitVec.ofNat 32 a &&& ~~~ BitVec.ofNat 32 b).isLt
  rw [lessOf]
  omega
theorem lessOf_bit (a b i : Nat) : (lessOf a b).testBit i = (decide (i < 32) && a.testBit i && !b.testBit i) := by
  rw [lessOf, BitVec.testBit_toNat, BitVec.getLsbD_and, BitVec.getLsbD_not, BitVec.getLsbD_ofNat, BitVec.getLsbD_ofNat]
  cases decide (i < 32) <;> simp
theorem lessOf_lt (a b : Nat) : lessOf a b < 4294967296 := (BitVec.ofNat 32 a &&& ~~~ BitVec.ofNat 32 b).isLt
theorem lessOf_zero (a b : List UInt8) (ha : lets a) (hb : lets b) : lessOf (setOf a) (setOf b) = 0 ↔ ∀ c ∈ a, c ∈ b := by
  constructor
  · intro h c hc
    have h1 := lessOf_bit (setOf a) (setOf b) (c.toNat - 97)
    have h2 := let_rng (ha c hc)
    rw [h, Nat.zero_testBit, set_has a c ha (ha c hc), set_has b c hb (ha c hc), show (decide (c.toNat - 97 < 32)) = true from by rw [decide_eq_true_iff]; omega, List.contains_iff_mem.2 hc] at h1
    simpa using h1
  · intro h
    apply Nat.eq_of_testBit_eq
    intro i
    rw [lessOf_bit, Nat.zero_testBit, setOf_bit, setOf_bit]
    cases ha' : (a.any fun c => c.toNat - 97 == i) with
    | false => simp
    | true =>
      have : (b.any fun c => c.toNat - 97 == i) = true := by
        rw [List.any_eq_true] at ha' ⊢
        obtain ⟨c, hc, he⟩ := ha'
        exact ⟨c, h c hc, he⟩
      rw [this]; simp
end Go.Proofs.YtfmmpahbjkiomaaGreatDoor
