/- Plain mathematics, no program: cuts as trees, their text, the reading of a text by its signs (cutAt), their words, what they have. No condition. -/
import Derived.Test.YtkdnbdgpcgookaaGreatDoorGram
namespace Go.Proofs.YtkdnbdgpcgookaaGreatDoor.Gram

inductive Ct where
  | prt
  | lt (g c : UInt8)
  | fix (b : Bool)
  | opp (x : Ct)
  | two (g : UInt8) (x y : Ct)

def Ct.txt : Ct → List UInt8
  | .prt => [80]
  | .lt g c => [g, c]
  | .fix b => [if b then 84 else 78]
  | .opp x => 33 :: x.txt
  | .two g x y => g :: (x.txt ++ y.txt)

def isCWF (c : UInt8) : Bool := c == 67 || c == 87 || c == 70
def isAO (c : UInt8) : Bool := c == 38 || c == 124

def Ct.wf : Ct → Bool
  | .prt => true
  | .lt g c => isCWF g && isLet c
  | .fix _ => true
  | .opp x => x.wf
  | .two g x y => isAO g && (x.wf && y.wf)

/-- a sign and its letter -/
def litC (c : UInt8) : List UInt8 → Option (Ct × List UInt8)
  | [] => none
  | d :: r => if isLet d = true then some (.lt c d, r) else none

/-- a cut off the front -/
def takeC : Nat → List UInt8 → Option (Ct × List UInt8)
  | 0, _ => none
  | _ + 1, [] => none
  | n + 1, c :: r =>
    if c = 80 then some (.prt, r)
    else if c = 84 then some (.fix true, r)
    else if c = 78 then some (.fix false, r)
    else if isCWF c = true then litC c r
    else if c = 33 then
      match takeC n r with
      | none => none
      | some (x, r1) => some (.opp x, r1)
    else if isAO c = true then
      match takeC n r with
      | none => none
      | some (x, r1) =>
        match takeC n r1 with
        | none => none
        | some (y, r2) => some (.two c x y, r2)
    else none

theorem Ct.txt_pos (x : Ct) : 1 ≤ x.txt.length := by cases x <;> simp [Ct.txt]

theorem takeC_sound : ∀ (n : Nat) (l : List UInt8) (x : Ct) (r : List UInt8), takeC n l = some (x, r) → l = x.txt ++ r ∧ x.wf = true
  | 0, l, x, r, h => by simp [takeC] at h
  | n + 1, [], x, r, h => by simp [takeC] at h
  | n + 1, c :: t, x, r, h => by
    rw [takeC] at h
    by_cases h1 : c = 80
    · rw [if_pos h1] at h; injection h with h; injection h with ha hb; subst ha; subst hb; subst h1
      exact ⟨rfl, rfl⟩
    rw [if_neg h1] at h
    by_cases h2 : c = 84
    · rw [if_pos h2] at h; injection h with h; injection h with ha hb; subst ha; subst hb; subst h2
      exact ⟨rfl, rfl⟩
    rw [if_neg h2] at h
    by_cases h3 : c = 78
    · rw [if_pos h3] at h; injection h with h; injection h with ha hb; subst ha; subst hb; subst h3
      exact ⟨rfl, rfl⟩
    rw [if_neg h3] at h
    by_cases h4 : isCWF c = true
    · rw [if_pos h4] at h
      cases t with
      | nil => cases h
      | cons d t =>
        rw [litC] at h
        by_cases hd : isLet d = true
        · simp only [if_pos hd] at h; injection h with h; injection h with ha hb; subst ha; subst hb
          exact ⟨rfl, by simp [Ct.wf, h4, hd]⟩
        · simp only [if_neg hd] at h; cases h
    rw [if_neg h4] at h
    by_cases h5 : c = 33
    · rw [if_pos h5] at h
      cases hx : takeC n t with
      | none => rw [hx] at h; cases h
      | some p =>
        obtain ⟨y, r1⟩ := p
        rw [hx] at h; injection h with h; injection h with ha hb; subst ha; subst hb; subst h5
        obtain ⟨e, hw⟩ := takeC_sound n t y r1 hx
        exact ⟨by rw [e]; rfl, hw⟩
    rw [if_neg h5] at h
    by_cases h6 : isAO c = true
    · rw [if_pos h6] at h
      cases hx : takeC n t with
      | none => rw [hx] at h; cases h
      | some p =>
        obtain ⟨y, r1⟩ := p
        rw [hx] at h
        cases hy : takeC n r1 with
        | none => simp only [hy] at h; cases h
        | some q =>
          obtain ⟨z, r2⟩ := q
          simp only [hy] at h; injection h with h; injection h with ha hb; subst ha; subst hb
          obtain ⟨e, hw⟩ := takeC_sound n t y r1 hx
          obtain ⟨e2, hw2⟩ := takeC_sound n r1 z r2 hy
          exact ⟨by rw [e, e2]; simp [Ct.txt], by simp [Ct.wf, h6, hw, hw2]⟩
    · rw [if_neg h6] at h; cases h

theorem cwf_ne {g : UInt8} (h : isCWF g = true) : g ≠ 80 ∧ g ≠ 84 ∧ g ≠ 78 := by
  simp only [isCWF, Bool.or_eq_true, beq_iff_eq] at h
  rcases h with (h | h) | h <;> subst h <;> decide
theorem ao_ne {g : UInt8} (h : isAO g = true) : g ≠ 80 ∧ g ≠ 84 ∧ g ≠ 78 ∧ ¬ isCWF g = true ∧ g ≠ 33 := by
  simp only [isAO, Bool.or_eq_true, beq_iff_eq] at h
  rcases h with h | h <;> subst h <;> decide

theorem takeC_complete : ∀ (x : Ct) (n : Nat) (r : List UInt8), x.wf = true → x.txt.length ≤ n → takeC n (x.txt ++ r) = some (x, r)
  | x, 0, r, _, hn => by have := x.txt_pos; omega
  | .prt, n + 1, r, _, _ => by simp [Ct.txt, takeC]
  | .fix true, n + 1, r, _, _ => by simp [Ct.txt, takeC]
  | .fix false, n + 1, r, _, _ => by simp [Ct.txt, takeC]
  | .lt g c, n + 1, r, hw, _ => by
    simp only [Ct.wf, Bool.and_eq_true] at hw
    obtain ⟨h1, h2, h3⟩ := cwf_ne hw.1
    simp [Ct.txt, takeC, litC, h1, h2, h3, hw.1, hw.2]
  | .opp x, n + 1, r, hw, hn => by
    simp only [Ct.txt, List.length_cons] at hn
    have ih := takeC_complete x n r hw (by omega)
    have e : ¬ isCWF 33 = true := by decide
    simp [Ct.txt, takeC, ih, e]
  | .two g x y, n + 1, r, hw, hn => by
    simp only [Ct.wf, Bool.and_eq_true] at hw
    simp only [Ct.txt, List.length_cons, List.length_append] at hn
    obtain ⟨h1, h2, h3, h4, h5⟩ := ao_ne hw.1
    have ih := takeC_complete x n (y.txt ++ r) hw.2.1 (by omega)
    have ih2 := takeC_complete y n r hw.2.2 (by omega)
    simp [Ct.txt, takeC, ih, ih2, h1, h2, h3, h4, h5, hw.1]

theorem takeC_same (n m : Nat) (l : List UInt8) (hn : l.length ≤ n) (hm : l.length ≤ m) : takeC n l = takeC m l := by
  have key : ∀ n m, l.length ≤ n → ∀ p, takeC m l = some p → takeC n l = some p := by
    intro n m hn p hp
    obtain ⟨x, r⟩ := p
    obtain ⟨e, hw⟩ := takeC_sound m l x r hp
    rw [e] at hn ⊢
    simp only [List.length_append] at hn
    exact takeC_complete x n r hw (by omega)
  cases h : takeC m l with
  | some p => exact key n m hn p h
  | none =>
    cases h2 : takeC n l with
    | none => rfl
    | some p => rw [key m n hm p h2] at h; cases h

/-- the cut at the front of a text, and what is left -/
def cutAt (l : List UInt8) : Option (Ct × List UInt8) := takeC l.length l

theorem cutAt_sound {l : List UInt8} {x : Ct} {r : List UInt8} (h : cutAt l = some (x, r)) : l = x.txt ++ r ∧ x.wf = true := takeC_sound _ _ _ _ h
theorem cutAt_shorter {l : List UInt8} {x : Ct} {r : List UInt8} (h : cutAt l = some (x, r)) : r.length < l.length := by
  have := (cutAt_sound h).1
  rw [this]; have := x.txt_pos; simp; omega
theorem cutAt_complete (x : Ct) (r : List UInt8) (hw : x.wf = true) : cutAt (x.txt ++ r) = some (x, r) := takeC_complete x _ r hw (by simp)
theorem cutAt_nil : cutAt [] = none := rfl

theorem cutAt_cons (c : UInt8) (r : List UInt8) : cutAt (c :: r) =
    if c = 80 then some (.prt, r)
    else if c = 84 then some (.fix true, r)
    else if c = 78 then some (.fix false, r)
    else if isCWF c = true then litC c r
    else if c = 33 then
      match cutAt r with
      | none => none
      | some (x, r1) => some (.opp x, r1)
    else if isAO c = true then
      match cutAt r with
      | none => none
      | some (x, r1) =>
        match cutAt r1 with
        | none => none
        | some (y, r2) => some (.two c x y, r2)
    else none := by
  show takeC (r.length + 1) (c :: r) = _
  rw [takeC]
  show _ = (if c = 80 then _ else if c = 84 then _ else if c = 78 then _ else if isCWF c = true then _ else if c = 33 then _ else if isAO c = true then _ else none)
  congr 1; congr 1; congr 1; congr 1; congr 1; congr 1
  show (match takeC r.length r with | none => none | some (x, r1) => _) = (match takeC r.length r with | none => none | some (x, r1) => _)
  cases h : takeC r.length r with
  | none => rfl
  | some p =>
    obtain ⟨x, r1⟩ := p
    have := cutAt_shorter (l := r) h
    simp only [cutAt]
    rw [takeC_same r.length r1.length r1 (by omega) (Nat.le_refl _)]

/-- the cut that a text is -/
def cutOf (s : ByteArray) : Option Ct := if s.size ≤ 40 then match cutAt s.data.toList with | some (x, []) => some x | _ => none else none

theorem cutOf_some {s : ByteArray} {x : Ct} (h : cutOf s = some x) : s.size ≤ 40 ∧ s.data.toList = x.txt ∧ x.wf = true ∧ cutAt s.data.toList = some (x, []) := by
  unfold cutOf at h
  split at h
  · rename_i h1
    cases hc : cutAt s.data.toList with
    | none => rw [hc] at h; cases h
    | some p =>
      obtain ⟨y, r⟩ := p
      rw [hc] at h
      cases r with
      | nil =>
        injection h with h; subst h
        obtain ⟨a, b⟩ := cutAt_sound hc
        exact ⟨h1, by simpa using a, b, rfl⟩
      | cons d r => cases h
  · cases h
theorem cutOf_txt (x : Ct) (hw : x.wf = true) (h : x.txt.length ≤ 40) : cutOf ⟨x.txt.toArray⟩ = some x := by
  have := cutAt_complete x [] hw
  simp only [List.append_nil] at this
  unfold cutOf
  rw [if_pos (by simpa [ByteArray.size] using h)]
  simp [this]

/-- the cuts within a cut, it itself first -/
def Ct.flat : Ct → List Ct
  | .prt => [.prt]
  | .lt g c => [.lt g c]
  | .fix b => [.fix b]
  | .opp x => .opp x :: x.flat
  | .two g x y => .two g x y :: (x.flat ++ y.flat)

/-- in words -/
def Ct.words : Ct → List UInt8
  | .prt => [112, 114, 105, 110, 116]
  | .lt g c => (if g = 87 then [119, 105, 116, 104, 105, 110, 32] else if g = 70 then [97, 99, 116, 105, 118, 101, 32] else [99, 97, 108, 108, 32]) ++ [c]
  | .fix b => if b then [97, 108, 119, 97, 121, 115] else [110, 101, 118, 101, 114]
  | .opp x => [110, 111, 116, 32] ++ x.words
  | .two g x y => [40] ++ x.words ++ (if g = 38 then [32, 97, 110, 100, 32] else [32, 111, 114, 32]) ++ y.words ++ [41]

theorem Ct.words_len (x : Ct) : 1 ≤ x.words.length ∧ x.words.length ≤ 8 * x.txt.length := by
  induction x with
  | prt => simp [Ct.words, Ct.txt]
  | lt g c => simp only [Ct.words, Ct.txt]; split <;> (try split) <;> simp
  | fix b => cases b <;> simp [Ct.words, Ct.txt]
  | opp x ih => simp [Ct.words, Ct.txt]; omega
  | two g x y ihx ihy =>
    simp only [Ct.words, Ct.txt]
    split <;> simp <;> omega

/-- whether a cut has the join point of kind k (call or not), name nm and stack st -/
def Ct.has (call : Bool) (nm : UInt8) (st : List UInt8) : Ct → Bool
  | .prt => !call
  | .lt g c => if g = 87 then st.getLast? == some c else if g = 70 then st.contains c else call && nm == c
  | .fix b => b
  | .opp x => !x.has call nm st
  | .two g x y => if g = 38 then x.has call nm st && y.has call nm st else x.has call nm st || y.has call nm st
end Go.Proofs.YtkdnbdgpcgookaaGreatDoor.Gram
