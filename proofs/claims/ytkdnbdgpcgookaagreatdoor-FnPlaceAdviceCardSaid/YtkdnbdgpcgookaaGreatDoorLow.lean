/- The model's l1Letter, l1Byte, l13Find, l1Has answer as plain functions on bytes do. Condition: indices up to 2^40. -/
import Derived.Test.YtkdnbdgpcgookaaGreatDoorProg
import Derived.Test.YtkdnbdgpcgookaaGreatDoorGram
import Derived.WalkKit
import Derived.WalkSpells
import Derived.WalkLawsBesides
import Derived.Lib.Hide
namespace Go.Proofs.YtkdnbdgpcgookaaGreatDoor
open Go.RowKit Gram

theorem ret_bool {a b : Bool} (h : a = b) : Ending.returned (.bool a) = .returned (.bool b) := by rw [h]
theorem ret_int {k : IntKind} {a b : Int} (h : a = b) : Ending.returned (.int k a) = .returned (.int k b) := by rw [h]

def byteAt (s : ByteArray) (i : Nat) : UInt8 := s.data.toList.getD i 0

theorem u8_le (a : UInt8) (n : Nat) (hn : n < 256) : decide (UInt8.ofNat n ≤ a) = decide ((n : Int) ≤ a.toNat) := by
  have : (UInt8.ofNat n ≤ a) = (n ≤ a.toNat) := by rw [UInt8.le_iff_toNat_le]; simp [Nat.mod_eq_of_lt hn]
  simp only [this]; congr 1; simp
theorem u8_ge (a : UInt8) (n : Nat) (hn : n < 256) : decide (a ≤ UInt8.ofNat n) = decide ((a.toNat : Int) ≤ n) := by
  have : (a ≤ UInt8.ofNat n) = (a.toNat ≤ n) := by rw [UInt8.le_iff_toNat_le]; simp [Nat.mod_eq_of_lt hn]
  simp only [this]; congr 1; simp
theorem isLet_int (c : UInt8) : isLet c = (decide ((97 : Int) ≤ c.toNat) && decide ((c.toNat : Int) ≤ 122)) := by
  have h1 := u8_le c 97 (by omega); have h2 := u8_ge c 122 (by omega)
  simpa [isLet] using congr (congrArg _ h1) h2
theorem isDig_int (c : UInt8) : isDig c = (decide ((48 : Int) ≤ c.toNat) && decide ((c.toNat : Int) ≤ 57)) := by
  have h1 := u8_le c 48 (by omega); have h2 := u8_ge c 57 (by omega)
  simpa [isDig] using congr (congrArg _ h1) h2

set_option maxHeartbeats 400000 in
theorem letter_any (c : UInt8) (w : World) :
    Calls Tryz.prog 87 #[.int .u8 c.toNat] w fun e w' => e = .returned (.bool (isLet c)) ∧ w = w' := by
  have H := Lib.hid (isLet_int c)
  go_enter Tryz.func87, Tryz.ntmps87
  go_wp2
  all_goals go_ret
  · have h : (97 : Int) ≤ c.toNat := by assumption
    exact ⟨ret_bool (by rw [H.out]; simp [h]), rfl⟩
  · have h : (c.toNat : Int) < 97 := by assumption
    exact ⟨ret_bool (by rw [H.out]; simp; omega), rfl⟩

set_option maxHeartbeats 400000 in
theorem byte_any (s : ByteArray) (i : Int) (h0 : 0 ≤ i) (h1 : i ≤ 1099511627776) (w : World) :
    Calls Tryz.prog 86 #[.string s, .int .i64 i] w fun e w' => e = .returned (.int .u8 (byteAt s i.toNat).toNat) ∧ w = w' := by
  obtain ⟨k, rfl⟩ := Int.eq_ofNat_of_zero_le h0
  rw [Int.toNat_natCast]
  go_enter Tryz.func86, Tryz.ntmps86
  go_wp2
  all_goals go_ret
  · have h : k < s.size := by assumption
    exact ⟨ret_int (by simp [byteAt, List.getD, h]; rfl), rfl⟩
  · have h : ¬ k < s.size := by assumption
    exact ⟨ret_int (by have h2 : s.data.toList[k]? = none := by simpa using h
                       simp [byteAt, List.getD, h2]), rfl⟩

/-- the index of the first c, or -1 -/
def findI (l : List UInt8) (c : UInt8) : Int := match l.findIdx? (· == c) with | some j => j | none => -1

theorem findI_at (l : List UInt8) (c : UInt8) (k : Nat) (hk : k < l.length) (h : ∀ j (hj : j < l.length), j < k → l[j] ≠ c) (he : l[k] = c) : findI l c = k := by
  have : l.findIdx? (· == c) = some k := by
    rw [List.findIdx?_eq_some_iff_getElem]
    exact ⟨hk, by simp [he], fun j hj => by simpa using h j (by omega) hj⟩
  simp [findI, this]
theorem findI_none (l : List UInt8) (c : UInt8) (h : ∀ j (hj : j < l.length), l[j] ≠ c) : findI l c = -1 := by
  have : l.findIdx? (· == c) = none := by
    rw [List.findIdx?_eq_none_iff]
    intro x hx
    obtain ⟨j, hj, rfl⟩ := List.mem_iff_getElem.1 hx
    simpa using h j hj
  simp [findI, this]
theorem findI_has (l : List UInt8) (c : UInt8) : decide (0 ≤ findI l c) = l.contains c := by
  cases h : l.findIdx? (· == c) with
  | none =>
    rw [List.findIdx?_eq_none_iff] at h
    have : ¬ c ∈ l := fun hc => by simpa using h c hc
    rw [findI_none l c (fun j hj e => this (e ▸ List.getElem_mem hj))]
    simp [this]
  | some k =>
    have h' := h
    rw [List.findIdx?_eq_some_iff_getElem] at h'
    obtain ⟨hk, he, _⟩ := h'
    have : c ∈ l := by have : l[k] = c := by simpa using he
                       exact this ▸ List.getElem_mem hk
    simp [findI, h, this]

theorem toNat_beq (a b : UInt8) : ((a.toNat : Int) == (b.toNat : Int)) = (a == b) := by
  rw [Bool.eq_iff_iff]
  simp only [beq_iff_eq]
  constructor
  · intro h; exact UInt8.toNat.inj (by omega)
  · intro h; rw [h]

set_option maxHeartbeats 400000 in
theorem find_any (s : ByteArray) (c : UInt8) (hs : s.size ≤ 1099511627776) (w : World) :
    Calls Tryz.prog 89 #[.string s, .int .u8 c.toNat] w fun e w' => e = .returned (.int .i64 (findI s.data.toList c)) ∧ w = w' := by
  go_enter Tryz.func89, Tryz.ntmps89
  go_wp2
  go_loop [5] (fun i => ∃ k : Nat, k ≤ s.size ∧ i = .int .i64 k ∧ Hid (∀ j (hj : j < s.data.toList.length), j < k → s.data.toList[j] ≠ c)) (fun i => s.size - (intOf i).toNat)
  case atStart => exact ⟨0, Nat.zero_le _, rfl, fun j _ h => absurd h (Nat.not_lt_zero _)⟩
  case round =>
    obtain ⟨k, hk, rfl, hno⟩ := hrel
    by_cases hlt : k < s.size
    · have hbq := Lib.hid (toNat_beq s[k] c)
      go_wp2
      · go_ret
        have he : ((s[k].toNat : Int) == (c.toNat : Int)) = true := by assumption
        rw [hbq.out] at he
        have e1 : s.data[k]'hlt = c := beq_iff_eq.1 he
        exact ⟨ret_int (findI_at _ _ k (by simpa using hlt) hno.out (by simpa using e1)).symm, rfl⟩
      · have he : ((s[k].toNat : Int) == (c.toNat : Int)) = false := by assumption
        have he' := Lib.hid he
        clear he
        go_round
        case rel =>
          refine ⟨k + 1, by omega, by go_num, fun j hj hlj => ?_⟩
          by_cases h9 : j = k
          · subst h9
            have := he'.out
            rw [hbq.out] at this
            have e1 : s.data[j]'hlt ≠ c := beq_eq_false_iff_ne.1 this
            simpa using e1
          · exact hno.out j hj (by omega)
        case measure => simp [intOf]; omega
    · go_wp2
      go_ret
      exact ⟨ret_int (findI_none _ _ (fun j hj => hno.out j hj (by simp at hj; omega))).symm, rfl⟩

set_option maxHeartbeats 400000 in
theorem has_any (s : ByteArray) (c : UInt8) (hs : s.size ≤ 1099511627776) (w : World) :
    Calls Tryz.prog 63 #[.string s, .int .u8 c.toNat] w fun e w' => e = .returned (.bool (s.data.toList.contains c)) ∧ w = w' := by
  have H := Lib.hid (findI_has s.data.toList c)
  go_enter Tryz.func63, Tryz.ntmps63
  go_wp2_with (go_at_call 89; refine (find_any _ _ (by assumption) _).mono ?_; rintro e w' ⟨rfl, rfl⟩)
  go_ret
  exact ⟨ret_bool (by rw [← H.out]), rfl⟩
def from_ (s : ByteArray) (k : Nat) : List UInt8 := s.data.toList.drop k

/-- the index behind what was read, or -1 -/
def endI {α : Type} (s : ByteArray) : Option (α × List UInt8) → Int
  | none => -1
  | some (_, r) => (s.size : Int) - r.length

theorem from_len (s : ByteArray) (k : Nat) : (from_ s k).length = s.size - k := by simp [from_]
theorem from_nil {s : ByteArray} {k : Nat} (h : from_ s k = []) : byteAt s k = 0 ∧ s.size ≤ k := by
  have h1 := from_len s k
  rw [h] at h1
  simp at h1
  have h2 : s.size ≤ k := by omega
  refine ⟨?_, h2⟩
  have h3 : s.data.toList[k]? = none := by simpa using h2
  simp [byteAt, List.getD, h3]
theorem from_cons {s : ByteArray} {k : Nat} {c : UInt8} {r : List UInt8} (h : from_ s k = c :: r) : byteAt s k = c ∧ k < s.size ∧ from_ s (k + 1) = r := by
  have h1 := from_len s k
  rw [h] at h1
  simp at h1
  refine ⟨?_, by omega, ?_⟩
  · have : s.data.toList[k]? = some c := by
      have := congrArg (fun l => l[0]?) h
      simpa [from_] using this
    simp [byteAt, List.getD, this]
  · have := congrArg List.tail h
    simpa [from_] using this
/-- the first byte, 0 if there is none -/
def hdB (r : List UInt8) : UInt8 := r.headD 0

theorem byte_head (s : ByteArray) (k : Nat) : byteAt s k = hdB (from_ s k) := by
  cases h : from_ s k with
  | nil => rw [(from_nil h).1]; rfl
  | cons c r => rw [(from_cons h).1]; rfl

/-- what is left behind a reading is the text from that index on -/
theorem from_suffix {s : ByteArray} {k : Nat} {p r : List UInt8} (h : from_ s k = p ++ r) : from_ s (s.size - r.length) = r ∧ r.length ≤ s.size ∧ (k ≤ s.size → s.size - r.length = k + p.length) := by
  have h1 : r <:+ s.data.toList := ⟨s.data.toList.take k ++ p, by rw [List.append_assoc, ← h]; simp [from_]⟩
  have h2 := List.suffix_iff_eq_drop.1 h1
  have hl := from_len s k
  rw [h] at hl
  simp at hl
  refine ⟨?_, ?_, ?_⟩
  · rw [from_]; simpa using h2.symm
  · have := h1.length_le; simpa using this
  · intro _; omega

theorem byte_at (s : ByteArray) (i : Int) (k : Nat) (hi : i = k) (h1 : i ≤ 1099511627776) (v : Int) (hv : ((byteAt s k).toNat : Int) = v) (w : World) :
    Calls Tryz.prog 86 #[.string s, .int .i64 i] w fun e w' => e = .returned (.int .u8 v) ∧ w = w' := by
  subst hi; subst hv
  exact byte_any s k (by omega) h1 w

theorem letter_is (c : UInt8) (b : Bool) (h : isLet c = b) (w : World) :
    Calls Tryz.prog 87 #[.int .u8 c.toNat] w fun e w' => e = .returned (.bool b) ∧ w = w' := by
  subst h; exact letter_any c w

theorem ne_int {c d : UInt8} (h : c ≠ d) : ((c.toNat : Int) == (d.toNat : Int)) = false := by
  rw [toNat_beq]; simpa using h
end Go.Proofs.YtkdnbdgpcgookaaGreatDoor
