/- Plain mathematics, no program: the statements of a body as trees, their text, the reading of a text by its signs one behind the other (parseS, parseB, parseA), and the reader that keeps a stack of open bodies (Mach). No condition. The model's l1Letter, l1Byte, l13Find, l1Has answer as plain functions on bytes do. Condition: indices up to 2^40. Plain mathematics, no program: the reader that takes the signs of a body one by one and keeps a stack of open bodies accepts a text exactly if it is the text of well formed statements (without 'K', unless k says that it may stand), and hands back these. No condition. The leaves of the model's reader of bodies: l1Digit beside those of Low. No condition. l1End and l1Block, which call each other, answer where the first statement, or the body in brackets, ends, as the plain readings pS and pK do; else -1. Condition: texts of at most 2^30 bytes, indices up to 2^31. The model's l1Split and StatementsOf: the statements of a body, each as its text, or none. Condition: texts of at most 2^30 bytes. Plain mathematics, no program: the parts of a text between its ';', a procedure's name and body, and the procedures of a text. No condition. letterOf: the letter that a name is. No condition. Worlds that are the same outside one block. Plain lemmas. How the reader of bodies lies in memory: its own two cells, the row of its open bodies, the rows of their statements. Plain lemmas; no walk. -/
import Derived.Test.YtomodlllmbkndaaGreatDoorProg
import Derived.WalkKit
import Derived.WalkSpells
import Derived.WalkLawsBesides
import Derived.Lib.Hide
import Derived.Lib.Split
namespace Go.Proofs.YtomodlllmbkndaaGreatDoor.Gram

inductive Stm where
  | chg (g d : UInt8)
  | prt
  | pro
  | call (c : UInt8)
  | cho (a b : List Stm)

mutual
def Stm.txt : Stm → List UInt8
  | .chg g d => [g, d]
  | .prt => [80]
  | .pro => [75]
  | .call c => [67, c]
  | .cho a b => 63 :: 91 :: (txts a ++ 93 :: 91 :: (txts b ++ [93]))
def txts : List Stm → List UInt8
  | [] => []
  | x :: xs => x.txt ++ txts xs
end

def isSgn (c : UInt8) : Bool := c == 43 || c == 45 || c == 42
def isDig (c : UInt8) : Bool := decide (48 ≤ c) && decide (c ≤ 57)
def isLet (c : UInt8) : Bool := decide (97 ≤ c) && decide (c ≤ 122)

mutual
def Stm.wf : Stm → Bool
  | .chg g d => isSgn g && isDig d
  | .prt => true
  | .pro => true
  | .call c => isLet c
  | .cho a b => wfs a && wfs b
def wfs : List Stm → Bool
  | [] => true
  | x :: xs => x.wf && wfs xs
end

mutual
/-- no 'K' -/
def Stm.nk : Stm → Bool
  | .pro => false
  | .cho a b => nks a && nks b
  | _ => true
def nks : List Stm → Bool
  | [] => true
  | x :: xs => x.nk && nks xs
end

theorem txts_append (a b : List Stm) : txts (a ++ b) = txts a ++ txts b := by
  induction a with
  | nil => simp [txts]
  | cons x xs ih => simp [txts, ih]
theorem wfs_append (a b : List Stm) : wfs (a ++ b) = (wfs a && wfs b) := by
  induction a with
  | nil => simp [wfs]
  | cons x xs ih => simp [wfs, ih, Bool.and_assoc]
theorem nks_append (a b : List Stm) : nks (a ++ b) = (nks a && nks b) := by
  induction a with
  | nil => simp [nks]
  | cons x xs ih => simp [nks, ih, Bool.and_assoc]
theorem txts_snoc (a : List Stm) (x : Stm) : txts (a ++ [x]) = txts a ++ x.txt := by simp [txts_append, txts]
theorem wfs_snoc (a : List Stm) (x : Stm) : wfs (a ++ [x]) = (wfs a && x.wf) := by simp [wfs_append, wfs]
theorem nks_snoc (a : List Stm) (x : Stm) : nks (a ++ [x]) = (nks a && x.nk) := by simp [nks_append, nks]

/-! reading by the signs, one behind the other -/
mutual
def parseS : Nat → List UInt8 → Option (Stm × List UInt8)
  | 0, _ => none
  | _ + 1, [] => none
  | n + 1, c :: r =>
    if isSgn c then
      match r with
      | d :: r' => if isDig d then some (.chg c d, r') else none
      | [] => none
    else if c = 80 then some (.prt, r)
    else if c = 75 then some (.pro, r)
    else if c = 67 then
      match r with
      | d :: r' => if isLet d then some (.call d, r') else none
      | [] => none
    else if c = 63 then
      match parseK n r with
      | none => none
      | some (a, r1) =>
        match parseK n r1 with
        | none => none
        | some (b, r2) => some (.cho a b, r2)
    else none
/-- a body in brackets -/
def parseK : Nat → List UInt8 → Option (List Stm × List UInt8)
  | 0, _ => none
  | _ + 1, [] => none
  | n + 1, c :: r => if c = 91 then parseB n r else none
/-- statements up to the closing bracket -/
def parseB : Nat → List UInt8 → Option (List Stm × List UInt8)
  | 0, _ => none
  | n + 1, l =>
    if l.head? = some 93 then some ([], l.tail) else
    match parseS n l with
    | none => none
    | some (x, r1) =>
      match parseB n r1 with
      | none => none
      | some (xs, r2) => some (x :: xs, r2)
end

theorem Stm.txt_len (x : Stm) : 1 ≤ x.txt.length := by
  cases x <;> simp [Stm.txt]

/-- what is read is the text of what comes out, and well formed -/
theorem parse_sound (n : Nat) :
    (∀ l x r, parseS n l = some (x, r) → l = x.txt ++ r ∧ x.wf = true) ∧
    (∀ l x r, parseK n l = some (x, r) → l = 91 :: (txts x ++ 93 :: r) ∧ wfs x = true) ∧
    (∀ l x r, parseB n l = some (x, r) → l = txts x ++ 93 :: r ∧ wfs x = true) := by
  induction n with
  | zero => refine ⟨?_, ?_, ?_⟩ <;> intro l x r h <;> simp [parseS, parseK, parseB] at h
  | succ n ih =>
    obtain ⟨ihS, ihK, ihB⟩ := ih
    refine ⟨?_, ?_, ?_⟩
    · intro l x r h
      cases l with
      | nil => simp [parseS] at h
      | cons c t =>
        rw [parseS.eq_def] at h
        dsimp only at h
        by_cases h1 : isSgn c = true
        · rw [if_pos h1] at h
          cases t with
          | nil => simp at h
          | cons d t' =>
            by_cases h2 : isDig d = true
            · simp [h2] at h
              obtain ⟨rfl, rfl⟩ := h
              simp [Stm.txt, Stm.wf, h1, h2]
            · simp [h2] at h
        · rw [if_neg h1] at h
          by_cases h2 : c = 80
          · rw [if_pos h2] at h
            simp at h
            obtain ⟨rfl, rfl⟩ := h
            simp [Stm.txt, Stm.wf, h2]
          · rw [if_neg h2] at h
            by_cases h3 : c = 75
            · rw [if_pos h3] at h
              simp at h
              obtain ⟨rfl, rfl⟩ := h
              simp [Stm.txt, Stm.wf, h3]
            · rw [if_neg h3] at h
              by_cases h4 : c = 67
              · rw [if_pos h4] at h
                cases t with
                | nil => simp at h
                | cons d t' =>
                  by_cases h5 : isLet d = true
                  · simp [h5] at h
                    obtain ⟨rfl, rfl⟩ := h
                    simp [Stm.txt, Stm.wf, h4, h5]
                  · simp [h5] at h
              · rw [if_neg h4] at h
                by_cases h5 : c = 63
                · rw [if_pos h5] at h
                  cases h6 : parseK n t with
                  | none => simp [h6] at h
                  | some p =>
                    obtain ⟨a, r1⟩ := p
                    simp only [h6] at h
                    cases h7 : parseK n r1 with
                    | none => simp [h7] at h
                    | some q =>
                      obtain ⟨b, r2⟩ := q
                      simp [h7] at h
                      obtain ⟨rfl, rfl⟩ := h
                      obtain ⟨e1, w1⟩ := ihK _ _ _ h6
                      obtain ⟨e2, w2⟩ := ihK _ _ _ h7
                      refine ⟨?_, by simp [Stm.wf, w1, w2]⟩
                      rw [e1, e2, h5]; simp [Stm.txt]
                · rw [if_neg h5] at h; simp at h
    · intro l x r h
      cases l with
      | nil => simp [parseK] at h
      | cons c t =>
        rw [parseK] at h
        by_cases h1 : c = 91
        · rw [if_pos h1] at h
          obtain ⟨e, w⟩ := ihB _ _ _ h
          exact ⟨by rw [e, h1], w⟩
        · rw [if_neg h1] at h; simp at h
    · intro l x r h
      rw [parseB] at h
      by_cases h1 : l.head? = some 93
      · rw [if_pos h1] at h
        simp at h
        obtain ⟨rfl, rfl⟩ := h
        cases l with
        | nil => simp at h1
        | cons c t => simp at h1; simp [h1, txts, wfs]
      · rw [if_neg h1] at h
        cases h6 : parseS n l with
        | none => simp [h6] at h
        | some p =>
          obtain ⟨y, r1⟩ := p
          simp only [h6] at h
          cases h7 : parseB n r1 with
          | none => simp [h7] at h
          | some q =>
            obtain ⟨ys, r2⟩ := q
            simp [h7] at h
            obtain ⟨rfl, rfl⟩ := h
            obtain ⟨e1, w1⟩ := ihS _ _ _ h6
            obtain ⟨e2, w2⟩ := ihB _ _ _ h7
            refine ⟨?_, by simp [wfs, w1, w2]⟩
            rw [e1, e2]; simp [txts]

/-- a well formed text is read back -/
theorem parse_complete (n : Nat) :
    (∀ x r, x.wf = true → x.txt.length ≤ n → parseS n (x.txt ++ r) = some (x, r)) ∧
    (∀ xs r, wfs xs = true → (txts xs).length + 2 ≤ n → parseK n (91 :: (txts xs ++ 93 :: r)) = some (xs, r)) ∧
    (∀ xs r, wfs xs = true → (txts xs).length + 1 ≤ n → parseB n (txts xs ++ 93 :: r) = some (xs, r)) := by
  induction n with
  | zero =>
    refine ⟨?_, ?_, ?_⟩
    · intro x r _ h; have := x.txt_len; omega
    · intro x r _ h; omega
    · intro x r _ h; omega
  | succ n ih =>
    obtain ⟨ihS, ihK, ihB⟩ := ih
    refine ⟨?_, ?_, ?_⟩
    · intro x r hw hn
      cases x with
      | chg g d =>
        simp [Stm.wf] at hw
        simp [Stm.txt, parseS, hw.1, hw.2]
      | prt => simp [Stm.txt, parseS, isSgn]
      | pro => simp [Stm.txt, parseS, isSgn]
      | call c =>
        simp [Stm.wf] at hw
        simp [Stm.txt, parseS, isSgn, hw]
      | cho a b =>
        simp [Stm.wf] at hw
        simp [Stm.txt] at hn
        have e1 := ihK a (91 :: (txts b ++ 93 :: r)) hw.1 (by omega)
        have e2 := ihK b r hw.2 (by omega)
        simp [Stm.txt, parseS, isSgn, e1, e2]
    · intro xs r hw hn
      simp [parseK, ihB xs r hw (by omega)]
    · intro xs r hw hn
      cases xs with
      | nil => simp [txts, parseB]
      | cons x xs =>
        simp [wfs] at hw
        simp [txts] at hn
        have hl := x.txt_len
        have e1 := ihS x (txts xs ++ 93 :: r) hw.1 (by omega)
        have e2 := ihB xs r hw.2 (by omega)
        have hh : (x.txt ++ (txts xs ++ 93 :: r)).head? ≠ some 93 := by
          cases x <;> simp [Stm.txt]
          simp [Stm.wf, isSgn] at hw
          intro h; rw [h] at hw; simp at hw
        simp only [txts, List.append_assoc]
        rw [parseB, if_neg hh, e1]
        simp [e2]

/-- more fuel reads no less -/
theorem parseS_fuel (n m : Nat) (l : List UInt8) (hl : l.length ≤ n) (x : Stm) (r : List UInt8) (h : parseS m l = some (x, r)) : parseS n l = some (x, r) := by
  obtain ⟨e, w⟩ := (parse_sound m).1 _ _ _ h
  rw [e]; exact (parse_complete n).1 x r w (by rw [e] at hl; simp at hl; omega)

theorem parseK_fuel (n m : Nat) (l : List UInt8) (hl : l.length ≤ n) (x : List Stm) (r : List UInt8) (h : parseK m l = some (x, r)) : parseK n l = some (x, r) := by
  obtain ⟨e, w⟩ := (parse_sound m).2.1 _ _ _ h
  rw [e]; exact (parse_complete n).2.1 x r w (by rw [e] at hl; simp at hl; omega)
theorem parseB_fuel (n m : Nat) (l : List UInt8) (hl : l.length ≤ n) (x : List Stm) (r : List UInt8) (h : parseB m l = some (x, r)) : parseB n l = some (x, r) := by
  obtain ⟨e, w⟩ := (parse_sound m).2.2 _ _ _ h
  rw [e]; exact (parse_complete n).2.2 x r w (by rw [e] at hl; simp at hl; omega)

theorem opt_ext {α : Type} {a b : Option α} (h1 : ∀ x, a = some x → b = some x) (h2 : ∀ x, b = some x → a = some x) : a = b := by
  cases a with
  | none => cases b with
    | none => rfl
    | some y => exact h2 y rfl
  | some x => exact (h1 x rfl).symm

/-! the readings without fuel -/
def pS (l : List UInt8) : Option (Stm × List UInt8) := parseS l.length l
def pK (l : List UInt8) : Option (List Stm × List UInt8) := parseK l.length l
def pB (l : List UInt8) : Option (List Stm × List UInt8) := parseB l.length l

theorem pS_eq (n : Nat) (l : List UInt8) (h : l.length ≤ n) : parseS n l = pS l :=
  opt_ext (fun ⟨x, r⟩ e => parseS_fuel _ _ _ (Nat.le_refl _) x r e) (fun ⟨x, r⟩ e => parseS_fuel _ _ _ h x r e)
theorem pK_eq (n : Nat) (l : List UInt8) (h : l.length ≤ n) : parseK n l = pK l :=
  opt_ext (fun ⟨x, r⟩ e => parseK_fuel _ _ _ (Nat.le_refl _) x r e) (fun ⟨x, r⟩ e => parseK_fuel _ _ _ h x r e)
theorem pB_eq (n : Nat) (l : List UInt8) (h : l.length ≤ n) : parseB n l = pB l :=
  opt_ext (fun ⟨x, r⟩ e => parseB_fuel _ _ _ (Nat.le_refl _) x r e) (fun ⟨x, r⟩ e => parseB_fuel _ _ _ h x r e)

theorem pS_sound {l : List UInt8} {x : Stm} {r : List UInt8} (h : pS l = some (x, r)) : l = x.txt ++ r ∧ x.wf = true := (parse_sound _).1 _ _ _ h
theorem pK_sound {l : List UInt8} {x : List Stm} {r : List UInt8} (h : pK l = some (x, r)) : l = 91 :: (txts x ++ 93 :: r) ∧ wfs x = true := (parse_sound _).2.1 _ _ _ h
theorem pB_sound {l : List UInt8} {x : List Stm} {r : List UInt8} (h : pB l = some (x, r)) : l = txts x ++ 93 :: r ∧ wfs x = true := (parse_sound _).2.2 _ _ _ h

theorem pS_nil : pS [] = none := rfl
theorem pS_sgn (c : UInt8) (r : List UInt8) (h : isSgn c = true) : pS (c :: r) = if isDig (r.headD 0) then some (.chg c (r.headD 0), r.tail) else none := by
  cases r with
  | nil => simp [pS, parseS.eq_def, h, isDig]
  | cons d t => simp [pS, parseS.eq_def, h]
theorem pS_prt (r : List UInt8) : pS (80 :: r) = some (.prt, r) := by simp [pS, parseS, isSgn]
theorem pS_pro (r : List UInt8) : pS (75 :: r) = some (.pro, r) := by simp [pS, parseS, isSgn]
theorem pS_call (r : List UInt8) : pS (67 :: r) = if isLet (r.headD 0) then some (.call (r.headD 0), r.tail) else none := by
  cases r with
  | nil => simp [pS, parseS.eq_def, isSgn, isLet]
  | cons d t => simp [pS, parseS.eq_def, isSgn]
theorem pS_cho (r : List UInt8) : pS (63 :: r) = match pK r with
    | none => none
    | some (a, r1) => match pK r1 with
      | none => none
      | some (b, r2) => some (.cho a b, r2) := by
  have e : pS (63 :: r) = match parseK r.length r with
    | none => none
    | some (a, r1) => match parseK r.length r1 with
      | none => none
      | some (b, r2) => some (.cho a b, r2) := by simp [pS, parseS, isSgn]
  rw [e, pK_eq _ _ (Nat.le_refl _)]
  cases h : pK r with
  | none => rfl
  | some p =>
    obtain ⟨a, r1⟩ := p
    dsimp only
    rw [pK_eq _ _ (by obtain ⟨e2, _⟩ := pK_sound h; rw [e2]; simp; omega)]
theorem pS_bad (c : UInt8) (r : List UInt8) (h1 : isSgn c = false) (h2 : c ≠ 80) (h3 : c ≠ 75) (h4 : c ≠ 67) (h5 : c ≠ 63) : pS (c :: r) = none := by
  simp [pS, parseS.eq_def, h1, h2, h3, h4, h5]
theorem pK_open (r : List UInt8) : pK (91 :: r) = pB r := by
  have : pK (91 :: r) = parseB r.length r := by simp [pK, parseK]
  rw [this, pB_eq _ _ (Nat.le_refl _)]
theorem pK_bad (l : List UInt8) (h : l.headD 0 ≠ 91) : pK l = none := by
  cases l with
  | nil => rfl
  | cons c r => simp at h; simp [pK, parseK.eq_def, h]
theorem pB_end (r : List UInt8) : pB (93 :: r) = some ([], r) := by simp [pB, parseB]
theorem pB_step (l : List UInt8) (h : l.headD 0 ≠ 93) : pB l = match pS l with
    | none => none
    | some (x, r1) => match pB r1 with
      | none => none
      | some (xs, r2) => some (x :: xs, r2) := by
  cases l with
  | nil => rfl
  | cons c r =>
    simp at h
    have e : pB (c :: r) = match parseS r.length (c :: r) with
      | none => none
      | some (x, r1) => match parseB r.length r1 with
        | none => none
        | some (xs, r2) => some (x :: xs, r2) := by
      rw [pB, List.length_cons, parseB]; simp [h]
    rw [e]
    cases h2 : pS (c :: r) with
    | none =>
      have : parseS r.length (c :: r) = none := by
        cases h3 : parseS r.length (c :: r) with
        | none => rfl
        | some p => obtain ⟨x, t⟩ := p; have := parseS_fuel (c :: r).length _ _ (Nat.le_refl _) x t h3; rw [pS] at h2; rw [h2] at this; simp at this
      rw [this]
    | some p =>
      obtain ⟨x, r1⟩ := p
      dsimp only
      obtain ⟨e1, w1⟩ := pS_sound h2
      have hl := x.txt_len
      have hlen : (c :: r).length = x.txt.length + r1.length := by rw [e1]; simp
      by_cases h4 : r1 = []
      · subst h4
        have : pB [] = none := rfl
        rw [this]
        cases h3 : parseS r.length (c :: r) with
        | none => rfl
        | some q =>
          obtain ⟨y, t⟩ := q
          have h5 := parseS_fuel (c :: r).length _ _ (Nat.le_refl _) y t h3
          rw [pS] at h2; rw [h2] at h5; simp at h5
          obtain ⟨_, rfl⟩ := h5
          dsimp only
          have : parseB r.length [] = none := by
            cases hb : parseB r.length [] with
            | none => rfl
            | some q => obtain ⟨y, t⟩ := q; obtain ⟨e9, _⟩ := (parse_sound _).2.2 _ _ _ hb; simp at e9
          rw [this]
      · have hr : 1 ≤ r1.length := by cases r1 with
          | nil => exact absurd rfl h4
          | cons => simp
        have h3 : parseS r.length (c :: r) = some (x, r1) := by
          rw [e1]; exact (parse_complete _).1 x r1 w1 (by simp at hlen; omega)
        rw [h3]
        dsimp only
        rw [pB_eq _ _ (by simp at hlen; omega)]

def parseA : Nat → List UInt8 → Option (List Stm)
  | _, [] => some []
  | 0, _ :: _ => none
  | n + 1, c :: t =>
    match pS (c :: t) with
    | none => none
    | some (x, r) => match parseA n r with
      | none => none
      | some xs => some (x :: xs)

theorem parseA_sound (n : Nat) : ∀ l xs, parseA n l = some xs → l = txts xs ∧ wfs xs = true := by
  induction n with
  | zero =>
    intro l xs h
    cases l with
    | nil => simp [parseA] at h; subst h; simp [txts, wfs]
    | cons c t => simp [parseA] at h
  | succ n ih =>
    intro l xs h
    cases l with
    | nil => simp [parseA] at h; subst h; simp [txts, wfs]
    | cons c t =>
      rw [parseA] at h
      cases h6 : pS (c :: t) with
      | none => simp [h6] at h
      | some p =>
        obtain ⟨x, r⟩ := p
        simp only [h6] at h
        cases h7 : parseA n r with
        | none => simp [h7] at h
        | some ys =>
          simp [h7] at h
          subst h
          obtain ⟨e1, w1⟩ := pS_sound h6
          obtain ⟨e2, w2⟩ := ih _ _ h7
          exact ⟨by rw [e1, e2]; simp [txts], by simp [wfs, w1, w2]⟩

theorem pS_complete (x : Stm) (r : List UInt8) (h : x.wf = true) : pS (x.txt ++ r) = some (x, r) := (parse_complete _).1 x r h (by simp)

theorem parseA_complete (n : Nat) : ∀ xs, wfs xs = true → (txts xs).length ≤ n → parseA n (txts xs) = some xs := by
  induction n with
  | zero =>
    intro xs hw hl
    cases xs with
    | nil => simp [txts, parseA]
    | cons x xs => have := x.txt_len; simp [txts] at hl; simp [hl.1] at this
  | succ n ih =>
    intro xs hw hl
    cases xs with
    | nil => simp [txts, parseA]
    | cons x xs =>
      simp [wfs] at hw
      simp [txts] at hl
      have hx := x.txt_len
      cases ht : x.txt with
      | nil => simp [ht] at hx
      | cons c t =>
        have e := pS_complete x (txts xs) hw.1
        rw [ht] at e
        simp only [txts, ht, List.cons_append] at e ⊢
        rw [parseA, e]
        simp [ih xs hw.2 (by omega)]

def pA (l : List UInt8) : Option (List Stm) := parseA l.length l

/-- the one reading of a text -/
theorem pA_iff (l : List UInt8) (xs : List Stm) : pA l = some xs ↔ l = txts xs ∧ wfs xs = true :=
  ⟨parseA_sound _ l xs, fun ⟨h1, h2⟩ => by rw [h1]; exact parseA_complete _ xs h2 (Nat.le_refl _)⟩

theorem parseA_eq (n : Nat) (l : List UInt8) (h : l.length ≤ n) : parseA n l = pA l :=
  opt_ext (fun xs e => (pA_iff l xs).2 (parseA_sound _ _ _ e)) (fun xs e => by obtain ⟨h1, h2⟩ := (pA_iff l xs).1 e; rw [h1]; exact parseA_complete _ xs h2 (by rw [← h1]; exact h))

theorem pA_nil : pA [] = some [] := rfl
theorem pA_cons (c : UInt8) (t : List UInt8) : pA (c :: t) = match pS (c :: t) with
    | none => none
    | some (x, r) => match pA r with
      | none => none
      | some xs => some (x :: xs) := by
  rw [pA, List.length_cons, parseA]
  cases h : pS (c :: t) with
  | none => rfl
  | some p =>
    obtain ⟨x, r⟩ := p
    dsimp only
    obtain ⟨e, _⟩ := pS_sound h
    have hl := x.txt_len
    have : (c :: t).length = x.txt.length + r.length := by rw [e]; simp
    rw [parseA_eq _ _ (by simp at this; omega)]

/-! 'K' in a text stands for itself alone -/
mutual
theorem Stm.k_iff (x : Stm) (h : x.wf = true) : (x.txt.contains 75 = false) ↔ x.nk = true := by
  match x with
  | .chg g d =>
    simp [Stm.wf, isSgn, isDig, UInt8.le_iff_toNat_le] at h
    simp [Stm.txt, Stm.nk]
    refine ⟨?_, ?_⟩
    · rintro rfl; simp at h
    · rintro rfl; simp at h
  | .prt => simp [Stm.txt, Stm.nk]
  | .pro => simp [Stm.txt, Stm.nk]
  | .call c =>
    simp [Stm.wf, isLet, UInt8.le_iff_toNat_le] at h
    simp [Stm.txt, Stm.nk]
    rintro rfl; simp at h
  | .cho a b =>
    simp only [Stm.wf, Bool.and_eq_true] at h
    have ha := k_iffs a h.1
    have hb := k_iffs b h.2
    simp only [Stm.nk, Bool.and_eq_true, ← ha, ← hb]
    simp [Stm.txt]
theorem k_iffs (xs : List Stm) (h : wfs xs = true) : ((txts xs).contains 75 = false) ↔ nks xs = true := by
  match xs with
  | [] => simp [txts, nks]
  | x :: xs =>
    simp only [wfs, Bool.and_eq_true] at h
    have ha := Stm.k_iff x h.1
    have hb := k_iffs xs h.2
    simp only [nks, Bool.and_eq_true, ← ha, ← hb]
    simp [txts]
end

end Go.Proofs.YtomodlllmbkndaaGreatDoor.Gram
namespace Go.Proofs.YtomodlllmbkndaaGreatDoor
open Go.RowKit Gram

theorem ret_bool {a b : Bool} (h : a = b) : Ending.returned (.bool a) = .returned (.bool b) := by rw [h]
theorem ret_int {k : IntKind} {a b : Int} (h : a = b) : Ending.returned (.int k a) = .returned (.int k b) := by rw [h]

def byteAt (s : ByteArray) (i : Nat) : UInt8 := s.data.toList.getD i 0

theorem u8_le (a : UInt8) (n : Nat) (hn : n < 256) : decide (UInt8.ofNat n ≤ a) = decide ((n : Int) ≤ a.toNat) := by
  have : (UInt8.ofNat n ≤ a) = (n ≤ a.toNat) := by rw [UInt8.le_iff_toNat_le]; simp [Nat.mod_eq_of_lt hn]
  simp only [this]; congr 1; simp
theorem u8_ge (a : UInt8) (n : Nat) (hn : n < 256) : decide (a ≤ UInt8.ofNat n) = decide ((a.toNat : Int) ≤ n) := by
  have : (a ≤ UInt8.ofNat n) = (a.toNat ≤ n) := by rw [UInt8.le_iff_toNat_le]; simp [Nat.mod_eq_of_lt hn]
  simp only [this]; congr 1; simp
theorem isLet_int (c : UInt8) : isLet c = (decide ((97 : Int) ≤ c.toNat) && decide ((c.toNat : Int) ≤ 122)) := by
  have h1 := u8_le c 97 (by omega); have h2 := u8_ge c 122 (by omega)
  simpa [isLet] using congr (congrArg _ h1) h2
theorem isDig_int (c : UInt8) : isDig c = (decide ((48 : Int) ≤ c.toNat) && decide ((c.toNat : Int) ≤ 57)) := by
  have h1 := u8_le c 48 (by omega); have h2 := u8_ge c 57 (by omega)
  simpa [isDig] using congr (congrArg _ h1) h2

set_option maxHeartbeats 400000 in
theorem letter_any (c : UInt8) (w : World) :
    Calls Tryz.prog 82 #[.int .u8 c.toNat] w fun e w' => e = .returned (.bool (isLet c)) ∧ w = w' := by
  have H := Lib.hid (isLet_int c)
  go_enter Tryz.func82, Tryz.ntmps82
  go_wp2
  all_goals go_ret
  · have h : (97 : Int) ≤ c.toNat := by assumption
    exact ⟨ret_bool (by rw [H.out]; simp [h]), rfl⟩
  · have h : (c.toNat : Int) < 97 := by assumption
    exact ⟨ret_bool (by rw [H.out]; simp; omega), rfl⟩

set_option maxHeartbeats 400000 in
theorem byte_any (s : ByteArray) (i : Int) (h0 : 0 ≤ i) (h1 : i ≤ 1099511627776) (w : World) :
    Calls Tryz.prog 149 #[.string s, .int .i64 i] w fun e w' => e = .returned (.int .u8 (byteAt s i.toNat).toNat) ∧ w = w' := by
  obtain ⟨k, rfl⟩ := Int.eq_ofNat_of_zero_le h0
  rw [Int.toNat_natCast]
  go_enter Tryz.func149, Tryz.ntmps149
  go_wp2
  all_goals go_ret
  · have h : k < s.size := by assumption
    exact ⟨ret_int (by simp [byteAt, List.getD, h]; rfl), rfl⟩
  · have h : ¬ k < s.size := by assumption
    exact ⟨ret_int (by have h2 : s.data.toList[k]? = none := by simpa using h
                       simp [byteAt, List.getD, h2]), rfl⟩

/-- the index of the first c, or -1 -/
def findI (l : List UInt8) (c : UInt8) : Int := match l.findIdx? (· == c) with | some j => j | none => -1

theorem findI_at (l : List UInt8) (c : UInt8) (k : Nat) (hk : k < l.length) (h : ∀ j (hj : j < l.length), j < k → l[j] ≠ c) (he : l[k] = c) : findI l c = k := by
  have : l.findIdx? (· == c) = some k := by
    rw [List.findIdx?_eq_some_iff_getElem]
    exact ⟨hk, by simp [he], fun j hj => by simpa using h j (by omega) hj⟩
  simp [findI, this]
theorem findI_none (l : List UInt8) (c : UInt8) (h : ∀ j (hj : j < l.length), l[j] ≠ c) : findI l c = -1 := by
  have : l.findIdx? (· == c) = none := by
    rw [List.findIdx?_eq_none_iff]
    intro x hx
    obtain ⟨j, hj, rfl⟩ := List.mem_iff_getElem.1 hx
    simpa using h j hj
  simp [findI, this]
theorem findI_has (l : List UInt8) (c : UInt8) : decide (0 ≤ findI l c) = l.contains c := by
  cases h : l.findIdx? (· == c) with
  | none =>
    rw [List.findIdx?_eq_none_iff] at h
    have : ¬ c ∈ l := fun hc => by simpa using h c hc
    rw [findI_none l c (fun j hj e => this (e ▸ List.getElem_mem hj))]
    simp [this]
  | some k =>
    have h' := h
    rw [List.findIdx?_eq_some_iff_getElem] at h'
    obtain ⟨hk, he, _⟩ := h'
    have : c ∈ l := by have : l[k] = c := by simpa using he
                       exact this ▸ List.getElem_mem hk
    simp [findI, h, this]

theorem toNat_beq (a b : UInt8) : ((a.toNat : Int) == (b.toNat : Int)) = (a == b) := by
  rw [Bool.eq_iff_iff]
  simp only [beq_iff_eq]
  constructor
  · intro h; exact UInt8.toNat.inj (by omega)
  · intro h; rw [h]

set_option maxHeartbeats 400000 in
theorem find_any (s : ByteArray) (c : UInt8) (hs : s.size ≤ 1099511627776) (w : World) :
    Calls Tryz.prog 60 #[.string s, .int .u8 c.toNat] w fun e w' => e = .returned (.int .i64 (findI s.data.toList c)) ∧ w = w' := by
  go_enter Tryz.func60, Tryz.ntmps60
  go_wp2
  go_loop [5] (fun i => ∃ k : Nat, k ≤ s.size ∧ i = .int .i64 k ∧ Hid (∀ j (hj : j < s.data.toList.length), j < k → s.data.toList[j] ≠ c)) (fun i => s.size - (intOf i).toNat)
  case atStart => exact ⟨0, Nat.zero_le _, rfl, fun j _ h => absurd h (Nat.not_lt_zero _)⟩
  case round =>
    obtain ⟨k, hk, rfl, hno⟩ := hrel
    by_cases hlt : k < s.size
    · have hbq := Lib.hid (toNat_beq s[k] c)
      go_wp2
      · go_ret
        have he : ((s[k].toNat : Int) == (c.toNat : Int)) = true := by assumption
        rw [hbq.out] at he
        have e1 : s.data[k]'hlt = c := beq_iff_eq.1 he
        exact ⟨ret_int (findI_at _ _ k (by simpa using hlt) hno.out (by simpa using e1)).symm, rfl⟩
      · have he : ((s[k].toNat : Int) == (c.toNat : Int)) = false := by assumption
        have he' := Lib.hid he
        clear he
        go_round
        case rel =>
          refine ⟨k + 1, by omega, by go_num, fun j hj hlj => ?_⟩
          by_cases h9 : j = k
          · subst h9
            have := he'.out
            rw [hbq.out] at this
            have e1 : s.data[j]'hlt ≠ c := beq_eq_false_iff_ne.1 this
            simpa using e1
          · exact hno.out j hj (by omega)
        case measure => simp [intOf]; omega
    · go_wp2
      go_ret
      exact ⟨ret_int (findI_none _ _ (fun j hj => hno.out j hj (by simp at hj; omega))).symm, rfl⟩

set_option maxHeartbeats 400000 in
theorem has_any (s : ByteArray) (c : UInt8) (hs : s.size ≤ 1099511627776) (w : World) :
    Calls Tryz.prog 84 #[.string s, .int .u8 c.toNat] w fun e w' => e = .returned (.bool (s.data.toList.contains c)) ∧ w = w' := by
  have H := Lib.hid (findI_has s.data.toList c)
  go_enter Tryz.func84, Tryz.ntmps84
  go_wp2_with (go_at_call 60; refine (find_any _ _ (by assumption) _).mono ?_; rintro e w' ⟨rfl, rfl⟩)
  go_ret
  exact ⟨ret_bool (by rw [← H.out]), rfl⟩
def from_ (s : ByteArray) (k : Nat) : List UInt8 := s.data.toList.drop k

/-- the index behind what was read, or -1 -/
def endI {α : Type} (s : ByteArray) : Option (α × List UInt8) → Int
  | none => -1
  | some (_, r) => (s.size : Int) - r.length

theorem from_len (s : ByteArray) (k : Nat) : (from_ s k).length = s.size - k := by simp [from_]
theorem from_nil {s : ByteArray} {k : Nat} (h : from_ s k = []) : byteAt s k = 0 ∧ s.size ≤ k := by
  have h1 := from_len s k
  rw [h] at h1
  simp at h1
  have h2 : s.size ≤ k := by omega
  refine ⟨?_, h2⟩
  have h3 : s.data.toList[k]? = none := by simpa using h2
  simp [byteAt, List.getD, h3]
theorem from_cons {s : ByteArray} {k : Nat} {c : UInt8} {r : List UInt8} (h : from_ s k = c :: r) : byteAt s k = c ∧ k < s.size ∧ from_ s (k + 1) = r := by
  have h1 := from_len s k
  rw [h] at h1
  simp at h1
  refine ⟨?_, by omega, ?_⟩
  · have : s.data.toList[k]? = some c := by
      have := congrArg (fun l => l[0]?) h
      simpa [from_] using this
    simp [byteAt, List.getD, this]
  · have := congrArg List.tail h
    simpa [from_] using this
/-- the first byte, 0 if there is none -/
def hdB (r : List UInt8) : UInt8 := r.headD 0

theorem byte_head (s : ByteArray) (k : Nat) : byteAt s k = hdB (from_ s k) := by
  cases h : from_ s k with
  | nil => rw [(from_nil h).1]; rfl
  | cons c r => rw [(from_cons h).1]; rfl

/-- what is left behind a reading is the text from that index on -/
theorem from_suffix {s : ByteArray} {k : Nat} {p r : List UInt8} (h : from_ s k = p ++ r) : from_ s (s.size - r.length) = r ∧ r.length ≤ s.size ∧ (k ≤ s.size → s.size - r.length = k + p.length) := by
  have h1 : r <:+ s.data.toList := ⟨s.data.toList.take k ++ p, by rw [List.append_assoc, ← h]; simp [from_]⟩
  have h2 := List.suffix_iff_eq_drop.1 h1
  have hl := from_len s k
  rw [h] at hl
  simp at hl
  refine ⟨?_, ?_, ?_⟩
  · rw [from_]; simpa using h2.symm
  · have := h1.length_le; simpa using this
  · intro _; omega

theorem byte_at (s : ByteArray) (i : Int) (k : Nat) (hi : i = k) (h1 : i ≤ 1099511627776) (v : Int) (hv : ((byteAt s k).toNat : Int) = v) (w : World) :
    Calls Tryz.prog 149 #[.string s, .int .i64 i] w fun e w' => e = .returned (.int .u8 v) ∧ w = w' := by
  subst hi; subst hv
  exact byte_any s k (by omega) h1 w

theorem letter_is (c : UInt8) (b : Bool) (h : isLet c = b) (w : World) :
    Calls Tryz.prog 82 #[.int .u8 c.toNat] w fun e w' => e = .returned (.bool b) ∧ w = w' := by
  subst h; exact letter_any c w

theorem ne_int {c d : UInt8} (h : c ≠ d) : ((c.toNat : Int) == (d.toNat : Int)) = false := by
  rw [toNat_beq]; simpa using h
end Go.Proofs.YtomodlllmbkndaaGreatDoor
namespace Go.Proofs.YtomodlllmbkndaaGreatDoor.Gram

mutual
/-- no 'K', unless k -/
def Stm.fk (k : Bool) : Stm → Bool
  | .pro => k
  | .cho a b => fks k a && fks k b
  | _ => true
def fks (k : Bool) : List Stm → Bool
  | [] => true
  | x :: xs => x.fk k && fks k xs
end
mutual
theorem Stm.fk_true (x : Stm) : x.fk true = true := by
  match x with
  | .chg _ _ => rfl
  | .prt => rfl
  | .pro => rfl
  | .call _ => rfl
  | .cho a b => simp only [Stm.fk, fks_true a, fks_true b]; rfl
theorem fks_true (xs : List Stm) : fks true xs = true := by
  match xs with
  | [] => rfl
  | x :: xs => simp only [fks, Stm.fk_true x, fks_true xs]; rfl
end
mutual
theorem Stm.fk_false (x : Stm) : x.fk false = x.nk := by
  match x with
  | .chg _ _ => rfl
  | .prt => rfl
  | .pro => rfl
  | .call _ => rfl
  | .cho a b => simp only [Stm.fk, Stm.nk, fks_false a, fks_false b]
theorem fks_false (xs : List Stm) : fks false xs = nks xs := by
  match xs with
  | [] => rfl
  | x :: xs => simp only [fks, nks, Stm.fk_false x, fks_false xs]
end
theorem fks_append (k : Bool) (a b : List Stm) : fks k (a ++ b) = (fks k a && fks k b) := by
  induction a with
  | nil => simp [fks]
  | cons x xs ih => simp [fks, ih, Bool.and_assoc]
theorem fks_snoc (k : Bool) (a : List Stm) (x : Stm) : fks k (a ++ [x]) = (fks k a && x.fk k) := by simp [fks_append, fks]

structure Unf where
  list : List Stm
  first : List Stm
  second : Bool

/-- the stack, the top first; and the pending sign -/
structure St where
  top : Unf
  rest : List Unf
  pend : UInt8

def St.add (st : St) (x : Stm) : St := { st with top := { st.top with list := st.top.list ++ [x] } }

def St.start : St := ⟨⟨[], [], false⟩, [], 0⟩

/-- a closing bracket -/
def St.close (st : St) : Option St :=
  match st.rest with
  | [] => none
  | u :: us => if st.top.second then some (St.add ⟨u, us, 0⟩ (.cho st.top.first st.top.list)) else some { st with pend := 93 }

def St.begin (k : Bool) (st : St) (c : UInt8) : Option St :=
  if c = 43 ∨ c = 45 ∨ c = 42 ∨ c = 67 ∨ c = 63 then some { st with pend := c }
  else if c = 80 then some (st.add .prt)
  else if c = 93 then st.close
  else if c = 75 ∧ k = true then some (st.add .pro)
  else none

def St.openB (st : St) (behind : UInt8) : St :=
  if behind = 63 then ⟨⟨[], [], false⟩, st.top :: st.rest, st.pend⟩
  else { st with top := ⟨[], st.top.list, true⟩ }

def St.take (k : Bool) (st : St) (c : UInt8) : Option St :=
  if isSgn st.pend then (if isDig c then some (St.add { st with pend := 0 } (.chg st.pend c)) else none)
  else if st.pend = 67 then (if isLet c then some (St.add { st with pend := 0 } (.call c)) else none)
  else if st.pend = 63 ∨ st.pend = 93 then (if c = 91 then some (St.openB { st with pend := 0 } st.pend) else none)
  else St.begin k { st with pend := 0 } c

def takes (k : Bool) : List UInt8 → St → Option St
  | [], st => some st
  | c :: r, st => match st.take k c with
    | none => none
    | some st' => takes k r st'

def St.finish (st : St) : Option (List Stm) :=
  if st.pend = 0 ∧ st.rest = [] then some st.top.list else none

/-- what the reader makes of a text -/
def reads (k : Bool) (l : List UInt8) : Option (List Stm) := (takes k l St.start).bind St.finish

/-! it reads what is a text -/
theorem takes_append (k : Bool) (a b : List UInt8) (st : St) : takes k (a ++ b) st = (takes k a st).bind (takes k b) := by
  induction a generalizing st with
  | nil => simp [takes]
  | cons c r ih => simp only [takes, List.cons_append]; cases st.take k c <;> simp [ih]

def St.adds (st : St) (xs : List Stm) : St := { st with top := { st.top with list := st.top.list ++ xs } }
theorem St.adds_nil (st : St) : st.adds [] = st := by simp [St.adds]
theorem St.adds_cons (st : St) (x : Stm) (xs : List Stm) : (st.add x).adds xs = st.adds (x :: xs) := by simp [St.adds, St.add]

mutual
theorem take_stm (k : Bool) (x : Stm) (h : x.wf = true) (hk : x.fk k = true) (st : St) (hp : st.pend = 0) : takes k x.txt st = some (st.add x) := by
  match x with
  | .chg g d =>
    simp only [Stm.wf, Bool.and_eq_true] at h
    have hg := h.1
    simp [isSgn] at hg
    rcases hg with (rfl | rfl) | rfl <;>
    · have hd := h.2
      cases st; simp at hp; subst hp
      simp [Stm.txt, takes, St.take, St.begin, isSgn, St.add, hd]
  | .prt => cases st; simp at hp; subst hp; simp [Stm.txt, takes, St.take, St.begin, isSgn, St.add]
  | .pro => simp [Stm.fk] at hk; cases st; simp at hp; subst hp; simp [Stm.txt, takes, St.take, St.begin, isSgn, St.add, hk]
  | .call c =>
    simp only [Stm.wf] at h
    cases st; simp at hp; subst hp
    simp [Stm.txt, takes, St.take, St.begin, isSgn, St.add, h]
  | .cho a b =>
    simp only [Stm.wf, Bool.and_eq_true] at h
    simp only [Stm.fk, Bool.and_eq_true] at hk
    cases st with
    | mk top rest pend =>
      simp at hp; subst hp
      have ha := fun st hp => take_stms k a h.1 hk.1 st hp
      have hb := fun st hp => take_stms k b h.2 hk.2 st hp
      have e1 : takes k [63, 91] ⟨top, rest, 0⟩ = some ⟨⟨[], [], false⟩, top :: rest, 0⟩ := by
        simp [takes, St.take, St.begin, isSgn, St.openB]
      have e2 : takes k [93, 91] (St.adds ⟨⟨[], [], false⟩, top :: rest, 0⟩ a) = some ⟨⟨[], a, true⟩, top :: rest, 0⟩ := by
        simp [takes, St.take, St.begin, isSgn, St.openB, St.adds, St.close]
      have e3 : takes k [93] (St.adds ⟨⟨[], a, true⟩, top :: rest, 0⟩ b) = some (St.add ⟨top, rest, 0⟩ (.cho a b)) := by
        simp [takes, St.take, St.begin, isSgn, St.adds, St.close]
      have et : (Stm.cho a b).txt = [63, 91] ++ (txts a ++ ([93, 91] ++ (txts b ++ [93]))) := by simp [Stm.txt]
      rw [et, takes_append, e1]
      simp only [Option.bind_some]
      rw [takes_append, ha _ rfl]
      simp only [Option.bind_some]
      rw [takes_append, e2]
      simp only [Option.bind_some]
      rw [takes_append, hb _ rfl]
      simp only [Option.bind_some]
      exact e3
theorem take_stms (k : Bool) (xs : List Stm) (h : wfs xs = true) (hk : fks k xs = true) (st : St) (hp : st.pend = 0) : takes k (txts xs) st = some (st.adds xs) := by
  match xs with
  | [] => simp [txts, takes, St.adds_nil]
  | x :: xs =>
    simp only [wfs, Bool.and_eq_true] at h
    simp only [fks, Bool.and_eq_true] at hk
    have e1 := take_stm k x h.1 hk.1 st hp
    have e2 := take_stms k xs h.2 hk.2 (st.add x) (by simp [St.add, hp])
    rw [txts, takes_append, e1]
    simp only [Option.bind_some, e2, St.adds_cons]
end

theorem reads_complete (k : Bool) (xs : List Stm) (h : wfs xs = true) (hk : fks k xs = true) : reads k (txts xs) = some xs := by
  rw [reads, take_stms k xs h hk _ rfl]
  simp [St.adds, St.start, St.finish]

/-! what it reads is the text of what it holds -/
def Unf.text (u : Unf) : List UInt8 := if u.second then 63 :: 91 :: (txts u.first ++ 93 :: 91 :: txts u.list) else 63 :: 91 :: txts u.list
def Unf.ok (k : Bool) (u : Unf) : Prop := wfs u.list = true ∧ fks k u.list = true ∧ (u.second = true → wfs u.first = true ∧ fks k u.first = true)

def textOf (u : Unf) : List Unf → List UInt8
  | [] => txts u.list
  | v :: vs => textOf v vs ++ u.text

def St.text (st : St) : List UInt8 := textOf st.top st.rest ++ (if st.pend = 0 then [] else [st.pend])

structure St.ok (k : Bool) (st : St) : Prop where
  top : st.top.ok k
  rest : ∀ u ∈ st.rest, u.ok k
  pend : st.pend = 93 → st.rest ≠ [] ∧ st.top.second = false
  sign : st.pend = 0 ∨ isSgn st.pend = true ∨ st.pend = 67 ∨ st.pend = 63 ∨ st.pend = 93

theorem textOf_add (u : Unf) (us : List Unf) (x : Stm) : textOf { u with list := u.list ++ [x] } us = textOf u us ++ x.txt := by
  cases us with
  | nil => simp [textOf, txts_snoc]
  | cons v vs => by_cases h : u.second <;> simp [textOf, Unf.text, h, txts_snoc]

theorem Unf.okAdd {k : Bool} {u : Unf} (h : u.ok k) {x : Stm} (hw : x.wf = true) (hk : x.fk k = true) : Unf.ok k { u with list := u.list ++ [x] } :=
  ⟨by simp [wfs_snoc, h.1, hw], by simp [fks_snoc, h.2.1, hk], h.2.2⟩

theorem St.okAdd {k : Bool} {st : St} (h : st.ok k) (hp : st.pend = 0) {x : Stm} (hw : x.wf = true) (hk : x.fk k = true) : (st.add x).ok k ∧ (st.add x).text = st.text ++ x.txt := by
  refine ⟨⟨Unf.okAdd h.top hw hk, h.rest, ?_, .inl hp⟩, ?_⟩
  · intro h'; simp [St.add, hp] at h'
  · simp [St.text, St.add, hp, textOf_add]

theorem take_ok (k : Bool) (st st' : St) (c : UInt8) (h : st.ok k) (ht : st.take k c = some st') : st'.ok k ∧ st'.text = st.text ++ [c] := by
  unfold St.take at ht
  by_cases h1 : isSgn st.pend = true
  · rw [if_pos h1] at ht
    by_cases h2 : isDig c = true
    · rw [if_pos h2] at ht
      simp only [Option.some.injEq] at ht
      subst ht
      have hn : st.pend ≠ 0 := by intro e; rw [e] at h1; simp [isSgn] at h1
      have hk5 : st.pend ≠ 75 := by intro e; rw [e] at h1; simp [isSgn] at h1
      have h0 : St.ok k { st with pend := 0 } := ⟨h.top, h.rest, by simp, .inl rfl⟩
      obtain ⟨a, b⟩ := St.okAdd h0 rfl (x := .chg st.pend c) (by simp [Stm.wf, h1, h2]) (by simp [Stm.fk])
      refine ⟨a, ?_⟩
      rw [b]
      simp [St.text, hn, Stm.txt]
    · rw [if_neg h2] at ht; simp at ht
  · rw [if_neg h1] at ht
    by_cases h2 : st.pend = 67
    · rw [if_pos h2] at ht
      by_cases h3 : isLet c = true
      · rw [if_pos h3] at ht
        simp only [Option.some.injEq] at ht
        subst ht
        have h0 : St.ok k { st with pend := 0 } := ⟨h.top, h.rest, by simp, .inl rfl⟩
        obtain ⟨a, b⟩ := St.okAdd h0 rfl (x := .call c) (by simp [Stm.wf, h3]) (by simp [Stm.fk])
        refine ⟨a, ?_⟩
        rw [b]
        simp [St.text, h2, Stm.txt]
      · rw [if_neg h3] at ht; simp at ht
    · rw [if_neg h2] at ht
      by_cases h3 : st.pend = 63 ∨ st.pend = 93
      · rw [if_pos h3] at ht
        by_cases h4 : c = 91
        · rw [if_pos h4] at ht
          simp only [Option.some.injEq] at ht
          subst ht h4
          rcases h3 with h3 | h3
          · refine ⟨⟨?_, ?_, by simp [St.openB, h3], ?_⟩, ?_⟩
            · simp [St.openB, h3, Unf.ok, wfs, fks]
            · intro u hu
              simp [St.openB, h3] at hu
              rcases hu with rfl | hu
              · exact h.top
              · exact h.rest u hu
            · left; simp [St.openB, h3]
            · simp [St.openB, h3, St.text, textOf, Unf.text, txts]
          · obtain ⟨p1, p2⟩ := h.pend h3
            refine ⟨⟨?_, ?_, by simp [St.openB, h3], ?_⟩, ?_⟩
            · simp [St.openB, h3, Unf.ok, wfs, fks, h.top.1, h.top.2.1]
            · intro u hu
              simp [St.openB, h3] at hu
              exact h.rest u hu
            · left; simp [St.openB, h3]
            · cases hr : st.rest with
              | nil => exact absurd hr p1
              | cons v vs => simp [St.openB, h3, St.text, textOf, Unf.text, txts, hr, p2]
        · rw [if_neg h4] at ht; simp at ht
      · rw [if_neg h3] at ht
        have hp : st.pend = 0 := by
          rcases h.sign with e | e | e | e | e
          · exact e
          · exact absurd e h1
          · exact absurd e h2
          · exact absurd (.inl e) h3
          · exact absurd (.inr e) h3
        have est : ({ st with pend := 0 } : St) = st := by cases st; simp at hp; simp [hp]
        rw [est] at ht
        unfold St.begin at ht
        by_cases h4 : c = 43 ∨ c = 45 ∨ c = 42 ∨ c = 67 ∨ c = 63
        · rw [if_pos h4] at ht
          simp only [Option.some.injEq] at ht
          subst ht
          refine ⟨⟨h.top, h.rest, ?_, ?_⟩, ?_⟩
          · intro e; simp at e; rw [e] at h4; simp at h4
          · right
            rcases h4 with rfl | rfl | rfl | rfl | rfl <;> simp [isSgn]
          · have : c ≠ 0 := by rintro rfl; simp at h4
            simp [St.text, hp, this]
        · rw [if_neg h4] at ht
          by_cases h5 : c = 80
          · rw [if_pos h5] at ht
            simp only [Option.some.injEq] at ht
            subst ht
            obtain ⟨a, b⟩ := St.okAdd h hp (x := .prt) rfl rfl
            exact ⟨a, by rw [b, h5]; rfl⟩
          · rw [if_neg h5] at ht
            by_cases h6 : c = 93
            · rw [if_pos h6] at ht
              subst h6
              unfold St.close at ht
              cases hr : st.rest with
              | nil => simp [hr] at ht
              | cons v vs =>
                simp only [hr] at ht
                have hv := h.rest v (by simp [hr])
                by_cases h7 : st.top.second = true
                · rw [if_pos h7] at ht
                  simp only [Option.some.injEq] at ht
                  subst ht
                  have h8 := h.top.2.2 h7
                  refine ⟨⟨?_, ?_, ?_, .inl rfl⟩, ?_⟩
                  · exact Unf.okAdd hv (by simp [Stm.wf, h8.1, h.top.1]) (by simp [Stm.fk, h8.2, h.top.2.1])
                  · intro u hu; exact h.rest u (by simp [St.add] at hu; simp [hr, hu])
                  · intro e; simp [St.add] at e
                  · simp [St.text, St.add, textOf_add, hr, textOf, Unf.text, h7, hp, Stm.txt]
                · rw [if_neg h7] at ht
                  simp only [Option.some.injEq] at ht
                  subst ht
                  refine ⟨⟨h.top, hr ▸ h.rest, fun _ => ⟨by simp, by simpa using h7⟩, by simp⟩, ?_⟩
                  simp [St.text, hp, hr]
            · rw [if_neg h6] at ht
              by_cases h9 : c = 75 ∧ k = true
              · rw [if_pos h9] at ht
                simp only [Option.some.injEq] at ht
                subst ht
                obtain ⟨a, b⟩ := St.okAdd h hp (x := .pro) rfl h9.2
                exact ⟨a, by rw [b, h9.1]; rfl⟩
              · rw [if_neg h9] at ht; simp at ht

theorem takes_ok (k : Bool) (l : List UInt8) : ∀ (st st' : St), st.ok k → takes k l st = some st' → st'.ok k ∧ st'.text = st.text ++ l := by
  induction l with
  | nil => intro st st' h e; simp [takes] at e; subst e; simp [h]
  | cons c r ih =>
    intro st st' h e
    simp only [takes] at e
    cases h1 : st.take k c with
    | none => simp [h1] at e
    | some s1 =>
      simp only [h1] at e
      obtain ⟨a, b⟩ := take_ok k _ _ _ h h1
      obtain ⟨a', b'⟩ := ih _ _ a e
      exact ⟨a', by rw [b', b]; simp⟩

theorem start_ok (k : Bool) : St.start.ok k := ⟨by simp [St.start, Unf.ok, wfs, fks], by simp [St.start], by simp [St.start], .inl rfl⟩

theorem reads_sound (k : Bool) (l : List UInt8) (xs : List Stm) (h : reads k l = some xs) : l = txts xs ∧ wfs xs = true ∧ fks k xs = true := by
  unfold reads at h
  cases h1 : takes k l St.start with
  | none => simp [h1] at h
  | some st =>
    simp only [h1, Option.bind_some, St.finish] at h
    split at h
    · rename_i h2
      simp at h
      subst h
      obtain ⟨a, b⟩ := takes_ok k _ _ _ (start_ok k) h1
      refine ⟨?_, a.top.1, a.top.2.1⟩
      simp [St.text, h2.1, h2.2, textOf, St.start, txts] at b
      exact b.symm
    · simp at h

/-- the two readings are one -/
theorem reads_iff (l : List UInt8) (xs : List Stm) : reads false l = some xs ↔ pA l = some xs ∧ l.contains 75 = false := by
  constructor
  · intro h
    obtain ⟨h1, h2, h3⟩ := reads_sound false l xs h
    rw [fks_false] at h3
    exact ⟨(pA_iff l xs).2 ⟨h1, h2⟩, by rw [h1]; exact (k_iffs xs h2).2 h3⟩
  · rintro ⟨h1, h2⟩
    obtain ⟨h3, h4⟩ := (pA_iff l xs).1 h1
    rw [h3] at h2 ⊢
    exact reads_complete false xs h4 (by rw [fks_false]; exact (k_iffs xs h4).1 h2)

theorem reads_eq (l : List UInt8) : reads false l = if l.contains 75 then none else pA l := by
  cases h : reads false l with
  | some xs => obtain ⟨a, b⟩ := (reads_iff l xs).1 h; rw [b, a]; rfl
  | none =>
    by_cases hc : l.contains 75 = true
    · rw [hc]; rfl
    · simp only [Bool.not_eq_true] at hc
      rw [hc]
      cases h2 : pA l with
      | none => simp
      | some xs => have := (reads_iff l xs).2 ⟨h2, hc⟩; rw [h] at this; simp at this

theorem reads_all (l : List UInt8) : reads true l = pA l := by
  refine opt_ext (fun xs h => ?_) (fun xs h => ?_)
  · obtain ⟨h1, h2, _⟩ := reads_sound true l xs h
    exact (pA_iff l xs).2 ⟨h1, h2⟩
  · obtain ⟨h1, h2⟩ := (pA_iff l xs).1 h
    rw [h1]
    exact reads_complete true xs h2 (fks_true xs)

end Go.Proofs.YtomodlllmbkndaaGreatDoor.Gram
namespace Go.Proofs.YtomodlllmbkndaaGreatDoor
open Go.RowKit Gram

set_option maxHeartbeats 400000 in
theorem digit_any (c : UInt8) (w : World) :
    Calls Tryz.prog 150 #[.int .u8 c.toNat] w fun e w' => e = .returned (.bool (isDig c)) ∧ w = w' := by
  have H := Lib.hid (isDig_int c)
  go_enter Tryz.func150, Tryz.ntmps150
  go_wp2
  all_goals go_ret
  · have h : (48 : Int) ≤ c.toNat := by assumption
    exact ⟨ret_bool (by rw [H.out]; simp [h]), rfl⟩
  · have h : (c.toNat : Int) < 48 := by assumption
    exact ⟨ret_bool (by rw [H.out]; simp; omega), rfl⟩

theorem digit_is (c : UInt8) (b : Bool) (h : isDig c = b) (w : World) :
    Calls Tryz.prog 150 #[.int .u8 c.toNat] w fun e w' => e = .returned (.bool b) ∧ w = w' := by
  subst h; exact digit_any c w
end Go.Proofs.YtomodlllmbkndaaGreatDoor
namespace Go.Proofs.YtomodlllmbkndaaGreatDoor
open Go.RowKit Gram

def SaidEnd (m : Nat) : Prop := ∀ (s : ByteArray) (k : Nat) (i : Int) (w : World), i = k → s.size ≤ 1073741824 → i ≤ 2147483648 → s.size - k < m →
    Calls Tryz.prog 125 #[.string s, .int .i64 i] w fun e w' => e = .returned (.int .i64 (endI s (pS (from_ s k)))) ∧ w = w'
def SaidBlock (m : Nat) : Prop := ∀ (s : ByteArray) (k : Nat) (i : Int) (w : World), i = k → s.size ≤ 1073741824 → i ≤ 2147483648 → s.size - k < m →
    Calls Tryz.prog 151 #[.string s, .int .i64 i] w fun e w' => e = .returned (.int .i64 (endI s (pK (from_ s k)))) ∧ w = w'

set_option maxHeartbeats 400000 in
theorem end_plus (s : ByteArray) (k : Nat) (w : World) (r : List UInt8) (hb : (k : Int) ≤ 2147483648) (hk : k < s.size) (H0 : Hid (byteAt s k = 43)) (HB1 : Hid (byteAt s (k + 1) = hdB r)) (hr : r.length = s.size - (k + 1)) :
    Calls Tryz.prog 125 #[.string s, .int .i64 k] w fun e w' => e = .returned (.int .i64 (endI s (pS (43 :: r)))) ∧ w = w' := by
  have hsg : isSgn 43 = true := rfl
  cases r with
  | nil =>
    have hfin := Lib.hid (show endI s (pS [43]) = -1 by rw [pS_sgn _ _ hsg]; rfl)
    clear hsg
    · have hd := Lib.hid (show isDig (hdB []) = false from rfl)
      go_enter Tryz.func125, Tryz.ntmps125
      go_wp2_with fail
      refine (byte_at s _ k rfl (by omega) 43 (by rw [H0.out]; rfl) _).mono ?_
      rintro e w' ⟨rfl, rfl⟩
      go_wp2_with fail
      refine (byte_at s _ (k + 1) (by omega) (by omega) (hdB []).toNat (by rw [HB1.out]) _).mono ?_
      rintro e w' ⟨rfl, rfl⟩
      go_wp2_with fail
      refine (digit_is _ false hd.out _).mono ?_
      rintro e w' ⟨rfl, rfl⟩
      go_wp2_with fail
      go_ret
      exact ⟨ret_int hfin.out.symm, rfl⟩
  | cons d t =>
    by_cases hdg : isDig d = true
    · have hfin := Lib.hid (show endI s (pS (43 :: d :: t)) = (k : Int) + 2 by
        rw [pS_sgn _ _ hsg]; simp only [List.headD_cons, hdg, if_true, List.tail_cons, endI]; simp at hr; omega)
      have hd := Lib.hid (show isDig (hdB (d :: t)) = true from hdg)
      clear hsg hdg
      go_enter Tryz.func125, Tryz.ntmps125
      go_wp2_with fail
      refine (byte_at s _ k rfl (by omega) 43 (by rw [H0.out]; rfl) _).mono ?_
      rintro e w' ⟨rfl, rfl⟩
      go_wp2_with fail
      refine (byte_at s _ (k + 1) (by omega) (by omega) (hdB (d :: t)).toNat (by rw [HB1.out]) _).mono ?_
      rintro e w' ⟨rfl, rfl⟩
      go_wp2_with fail
      refine (digit_is _ true hd.out _).mono ?_
      rintro e w' ⟨rfl, rfl⟩
      go_wp2_with fail
      go_ret
      exact ⟨ret_int hfin.out.symm, rfl⟩
    · have hfin := Lib.hid (show endI s (pS (43 :: d :: t)) = -1 by
        rw [pS_sgn _ _ hsg]; simp [hdg, endI])
      have hd := Lib.hid (show isDig (hdB (d :: t)) = false by simpa [hdB] using hdg)
      clear hsg hdg
      go_enter Tryz.func125, Tryz.ntmps125
      go_wp2_with fail
      refine (byte_at s _ k rfl (by omega) 43 (by rw [H0.out]; rfl) _).mono ?_
      rintro e w' ⟨rfl, rfl⟩
      go_wp2_with fail
      refine (byte_at s _ (k + 1) (by omega) (by omega) (hdB (d :: t)).toNat (by rw [HB1.out]) _).mono ?_
      rintro e w' ⟨rfl, rfl⟩
      go_wp2_with fail
      refine (digit_is _ false hd.out _).mono ?_
      rintro e w' ⟨rfl, rfl⟩
      go_wp2_with fail
      go_ret
      exact ⟨ret_int hfin.out.symm, rfl⟩

set_option maxHeartbeats 400000 in
theorem end_minus (s : ByteArray) (k : Nat) (w : World) (r : List UInt8) (hb : (k : Int) ≤ 2147483648) (hk : k < s.size) (H0 : Hid (byteAt s k = 45)) (HB1 : Hid (byteAt s (k + 1) = hdB r)) (hr : r.length = s.size - (k + 1)) :
    Calls Tryz.prog 125 #[.string s, .int .i64 k] w fun e w' => e = .returned (.int .i64 (endI s (pS (45 :: r)))) ∧ w = w' := by
  have hsg : isSgn 45 = true := rfl
  cases r with
  | nil =>
    have hfin := Lib.hid (show endI s (pS [45]) = -1 by rw [pS_sgn _ _ hsg]; rfl)
    clear hsg
    · have hd := Lib.hid (show isDig (hdB []) = false from rfl)
      go_enter Tryz.func125, Tryz.ntmps125
      go_wp2_with fail
      refine (byte_at s _ k rfl (by omega) 45 (by rw [H0.out]; rfl) _).mono ?_
      rintro e w' ⟨rfl, rfl⟩
      go_wp2_with fail
      refine (byte_at s _ (k + 1) (by omega) (by omega) (hdB []).toNat (by rw [HB1.out]) _).mono ?_
      rintro e w' ⟨rfl, rfl⟩
      go_wp2_with fail
      refine (digit_is _ false hd.out _).mono ?_
      rintro e w' ⟨rfl, rfl⟩
      go_wp2_with fail
      go_ret
      exact ⟨ret_int hfin.out.symm, rfl⟩
  | cons d t =>
    by_cases hdg : isDig d = true
    · have hfin := Lib.hid (show endI s (pS (45 :: d :: t)) = (k : Int) + 2 by
        rw [pS_sgn _ _ hsg]; simp only [List.headD_cons, hdg, if_true, List.tail_cons, endI]; simp at hr; omega)
      have hd := Lib.hid (show isDig (hdB (d :: t)) = true from hdg)
      clear hsg hdg
      go_enter Tryz.func125, Tryz.ntmps125
      go_wp2_with fail
      refine (byte_at s _ k rfl (by omega) 45 (by rw [H0.out]; rfl) _).mono ?_
      rintro e w' ⟨rfl, rfl⟩
      go_wp2_with fail
      refine (byte_at s _ (k + 1) (by omega) (by omega) (hdB (d :: t)).toNat (by rw [HB1.out]) _).mono ?_
      rintro e w' ⟨rfl, rfl⟩
      go_wp2_with fail
      refine (digit_is _ true hd.out _).mono ?_
      rintro e w' ⟨rfl, rfl⟩
      go_wp2_with fail
      go_ret
      exact ⟨ret_int hfin.out.symm, rfl⟩
    · have hfin := Lib.hid (show endI s (pS (45 :: d :: t)) = -1 by
        rw [pS_sgn _ _ hsg]; simp [hdg, endI])
      have hd := Lib.hid (show isDig (hdB (d :: t)) = false by simpa [hdB] using hdg)
      clear hsg hdg
      go_enter Tryz.func125, Tryz.ntmps125
      go_wp2_with fail
      refine (byte_at s _ k rfl (by omega) 45 (by rw [H0.out]; rfl) _).mono ?_
      rintro e w' ⟨rfl, rfl⟩
      go_wp2_with fail
      refine (byte_at s _ (k + 1) (by omega) (by omega) (hdB (d :: t)).toNat (by rw [HB1.out]) _).mono ?_
      rintro e w' ⟨rfl, rfl⟩
      go_wp2_with fail
      refine (digit_is _ false hd.out _).mono ?_
      rintro e w' ⟨rfl, rfl⟩
      go_wp2_with fail
      go_ret
      exact ⟨ret_int hfin.out.symm, rfl⟩

set_option maxHeartbeats 400000 in
theorem end_times (s : ByteArray) (k : Nat) (w : World) (r : List UInt8) (hb : (k : Int) ≤ 2147483648) (hk : k < s.size) (H0 : Hid (byteAt s k = 42)) (HB1 : Hid (byteAt s (k + 1) = hdB r)) (hr : r.length = s.size - (k + 1)) :
    Calls Tryz.prog 125 #[.string s, .int .i64 k] w fun e w' => e = .returned (.int .i64 (endI s (pS (42 :: r)))) ∧ w = w' := by
  have hsg : isSgn 42 = true := rfl
  cases r with
  | nil =>
    have hfin := Lib.hid (show endI s (pS [42]) = -1 by rw [pS_sgn _ _ hsg]; rfl)
    clear hsg
    · have hd := Lib.hid (show isDig (hdB []) = false from rfl)
      go_enter Tryz.func125, Tryz.ntmps125
      go_wp2_with fail
      refine (byte_at s _ k rfl (by omega) 42 (by rw [H0.out]; rfl) _).mono ?_
      rintro e w' ⟨rfl, rfl⟩
      go_wp2_with fail
      refine (byte_at s _ (k + 1) (by omega) (by omega) (hdB []).toNat (by rw [HB1.out]) _).mono ?_
      rintro e w' ⟨rfl, rfl⟩
      go_wp2_with fail
      refine (digit_is _ false hd.out _).mono ?_
      rintro e w' ⟨rfl, rfl⟩
      go_wp2_with fail
      go_ret
      exact ⟨ret_int hfin.out.symm, rfl⟩
  | cons d t =>
    by_cases hdg : isDig d = true
    · have hfin := Lib.hid (show endI s (pS (42 :: d :: t)) = (k : Int) + 2 by
        rw [pS_sgn _ _ hsg]; simp only [List.headD_cons, hdg, if_true, List.tail_cons, endI]; simp at hr; omega)
      have hd := Lib.hid (show isDig (hdB (d :: t)) = true from hdg)
      clear hsg hdg
      go_enter Tryz.func125, Tryz.ntmps125
      go_wp2_with fail
      refine (byte_at s _ k rfl (by omega) 42 (by rw [H0.out]; rfl) _).mono ?_
      rintro e w' ⟨rfl, rfl⟩
      go_wp2_with fail
      refine (byte_at s _ (k + 1) (by omega) (by omega) (hdB (d :: t)).toNat (by rw [HB1.out]) _).mono ?_
      rintro e w' ⟨rfl, rfl⟩
      go_wp2_with fail
      refine (digit_is _ true hd.out _).mono ?_
      rintro e w' ⟨rfl, rfl⟩
      go_wp2_with fail
      go_ret
      exact ⟨ret_int hfin.out.symm, rfl⟩
    · have hfin := Lib.hid (show endI s (pS (42 :: d :: t)) = -1 by
        rw [pS_sgn _ _ hsg]; simp [hdg, endI])
      have hd := Lib.hid (show isDig (hdB (d :: t)) = false by simpa [hdB] using hdg)
      clear hsg hdg
      go_enter Tryz.func125, Tryz.ntmps125
      go_wp2_with fail
      refine (byte_at s _ k rfl (by omega) 42 (by rw [H0.out]; rfl) _).mono ?_
      rintro e w' ⟨rfl, rfl⟩
      go_wp2_with fail
      refine (byte_at s _ (k + 1) (by omega) (by omega) (hdB (d :: t)).toNat (by rw [HB1.out]) _).mono ?_
      rintro e w' ⟨rfl, rfl⟩
      go_wp2_with fail
      refine (digit_is _ false hd.out _).mono ?_
      rintro e w' ⟨rfl, rfl⟩
      go_wp2_with fail
      go_ret
      exact ⟨ret_int hfin.out.symm, rfl⟩

set_option maxHeartbeats 400000 in
theorem end_prt (s : ByteArray) (k : Nat) (w : World) (r : List UInt8) (hb : (k : Int) ≤ 2147483648) (hk : k < s.size) (H0 : Hid (byteAt s k = 80)) (hr : r.length = s.size - (k + 1)) :
    Calls Tryz.prog 125 #[.string s, .int .i64 k] w fun e w' => e = .returned (.int .i64 (endI s (pS (80 :: r)))) ∧ w = w' := by
  have hfin := Lib.hid (show endI s (pS (80 :: r)) = (k : Int) + 1 by rw [pS_prt]; simp only [endI]; omega)
  ·
      go_enter Tryz.func125, Tryz.ntmps125
      go_wp2_with fail
      refine (byte_at s _ k rfl (by omega) 80 (by rw [H0.out]; rfl) _).mono ?_
      rintro e w' ⟨rfl, rfl⟩
      go_wp2_with fail
      go_ret
      exact ⟨ret_int hfin.out.symm, rfl⟩

set_option maxHeartbeats 400000 in
theorem end_pro (s : ByteArray) (k : Nat) (w : World) (r : List UInt8) (hb : (k : Int) ≤ 2147483648) (hk : k < s.size) (H0 : Hid (byteAt s k = 75)) (hr : r.length = s.size - (k + 1)) :
    Calls Tryz.prog 125 #[.string s, .int .i64 k] w fun e w' => e = .returned (.int .i64 (endI s (pS (75 :: r)))) ∧ w = w' := by
  have hfin := Lib.hid (show endI s (pS (75 :: r)) = (k : Int) + 1 by rw [pS_pro]; simp only [endI]; omega)
  ·
      go_enter Tryz.func125, Tryz.ntmps125
      go_wp2_with fail
      refine (byte_at s _ k rfl (by omega) 75 (by rw [H0.out]; rfl) _).mono ?_
      rintro e w' ⟨rfl, rfl⟩
      go_wp2_with fail
      go_ret
      exact ⟨ret_int hfin.out.symm, rfl⟩

set_option maxHeartbeats 400000 in
theorem end_call (s : ByteArray) (k : Nat) (w : World) (r : List UInt8) (hb : (k : Int) ≤ 2147483648) (hk : k < s.size) (H0 : Hid (byteAt s k = 67)) (HB1 : Hid (byteAt s (k + 1) = hdB r)) (hr : r.length = s.size - (k + 1)) :
    Calls Tryz.prog 125 #[.string s, .int .i64 k] w fun e w' => e = .returned (.int .i64 (endI s (pS (67 :: r)))) ∧ w = w' := by
  by_cases hdg : isLet (hdB r) = true
  · have hfin := Lib.hid (show endI s (pS (67 :: r)) = (k : Int) + 2 by
      rw [pS_call]; change endI s (if isLet (hdB r) = true then _ else _) = _
      cases r with
      | nil => simp [hdB, isLet] at hdg
      | cons d t => simp only [hdg, if_true, List.tail_cons, endI]; simp at hr; omega)
    · have hd := Lib.hid hdg
      clear hdg
      go_enter Tryz.func125, Tryz.ntmps125
      go_wp2_with fail
      refine (byte_at s _ k rfl (by omega) 67 (by rw [H0.out]; rfl) _).mono ?_
      rintro e w' ⟨rfl, rfl⟩
      go_wp2_with fail
      refine (byte_at s _ (k + 1) (by omega) (by omega) (hdB r).toNat (by rw [HB1.out]) _).mono ?_
      rintro e w' ⟨rfl, rfl⟩
      go_wp2_with fail
      refine (letter_is _ true hd.out _).mono ?_
      rintro e w' ⟨rfl, rfl⟩
      go_wp2_with fail
      go_ret
      exact ⟨ret_int hfin.out.symm, rfl⟩
  · have hfin := Lib.hid (show endI s (pS (67 :: r)) = -1 by
      rw [pS_call]; change endI s (if isLet (hdB r) = true then _ else _) = _
      rw [if_neg hdg]; rfl)
    · have hd := Lib.hid (show isLet (hdB r) = false by simpa using hdg)
      clear hdg
      go_enter Tryz.func125, Tryz.ntmps125
      go_wp2_with fail
      refine (byte_at s _ k rfl (by omega) 67 (by rw [H0.out]; rfl) _).mono ?_
      rintro e w' ⟨rfl, rfl⟩
      go_wp2_with fail
      refine (byte_at s _ (k + 1) (by omega) (by omega) (hdB r).toNat (by rw [HB1.out]) _).mono ?_
      rintro e w' ⟨rfl, rfl⟩
      go_wp2_with fail
      refine (letter_is _ false hd.out _).mono ?_
      rintro e w' ⟨rfl, rfl⟩
      go_wp2_with fail
      go_ret
      exact ⟨ret_int hfin.out.symm, rfl⟩

set_option maxHeartbeats 400000 in
theorem end_cho (s : ByteArray) (k : Nat) (w : World) (r : List UInt8) (hs : s.size ≤ 1073741824) (hb : (k : Int) ≤ 2147483648) (hk : k < s.size) (H0 : Hid (byteAt s k = 63)) (m : Nat) (hm : s.size - (k + 1) < m) (ih : SaidBlock m) (hfr : Hid (from_ s (k + 1) = r)) :
    Calls Tryz.prog 125 #[.string s, .int .i64 k] w fun e w' => e = .returned (.int .i64 (endI s (pS (63 :: r)))) ∧ w = w' := by
  have ih' := Lib.hid ih
  clear ih
  cases h1 : pK r with
  | none =>
    have hfin := Lib.hid (show endI s (pS (63 :: r)) = -1 by rw [pS_cho, h1]; rfl)
    have hn := Lib.hid (show endI s (pK (from_ s (k + 1))) = -1 by rw [hfr.out, h1]; rfl)
    clear h1
    ·
      go_enter Tryz.func125, Tryz.ntmps125
      go_wp2_with fail
      refine (byte_at s _ k rfl (by omega) 63 (by rw [H0.out]; rfl) _).mono ?_
      rintro e w' ⟨rfl, rfl⟩
      go_wp2_with fail
      refine (ih'.out s (k + 1) _ _ (by omega) hs (by omega) (by omega)).mono ?_
      rintro e w' ⟨rfl, rfl⟩
      rw [hn.out]
      go_wp2_with fail
      go_ret
      exact ⟨ret_int hfin.out.symm, rfl⟩
  | some p =>
    obtain ⟨a, r1⟩ := p
    obtain ⟨e1, _⟩ := pK_sound h1
    have hsf := from_suffix (s := s) (k := k + 1) (p := 91 :: (txts a ++ [93])) (r := r1) (by rw [hfr.out, e1]; simp)
    obtain ⟨f1, f2, f3⟩ := hsf
    have f3 := f3 (by omega)
    simp at f3
    generalize hk1 : s.size - r1.length = k1 at *
    have hn := Lib.hid (show endI s (pK (from_ s (k + 1))) = k1 by rw [hfr.out, h1]; simp only [endI]; omega)
    have hfin := Lib.hid (show endI s (pS (63 :: r)) = endI s (pK (from_ s k1)) by
      rw [pS_cho, h1]; dsimp only; rw [f1]
      cases pK r1 with
      | none => rfl
      | some q => rfl)
    have hk1s : k1 ≤ s.size := by omega
    have hk1l : k + 1 < k1 := by omega
    clear h1 e1 f1 f2 f3 hk1
    ·
      go_enter Tryz.func125, Tryz.ntmps125
      go_wp2_with fail
      refine (byte_at s _ k rfl (by omega) 63 (by rw [H0.out]; rfl) _).mono ?_
      rintro e w' ⟨rfl, rfl⟩
      go_wp2_with fail
      refine (ih'.out s (k + 1) _ _ (by omega) hs (by omega) (by omega)).mono ?_
      rintro e w' ⟨rfl, rfl⟩
      rw [hn.out]
      go_wp2_with fail
      refine (ih'.out s k1 _ _ rfl hs (by omega) (by omega)).mono ?_
      rintro e w' ⟨rfl, rfl⟩
      go_wp2_with fail
      go_ret
      exact ⟨ret_int hfin.out.symm, rfl⟩

set_option maxHeartbeats 400000 in
theorem end_bad (s : ByteArray) (k : Nat) (w : World) (c : UInt8) (l : List UInt8) (hb : (k : Int) ≤ 2147483648) (H0 : Hid (byteAt s k = c)) (HL : Hid (pS l = none)) (h1 : isSgn c = false) (h2 : c ≠ 80) (h3 : c ≠ 75) (h4 : c ≠ 67) (h5 : c ≠ 63) :
    Calls Tryz.prog 125 #[.string s, .int .i64 k] w fun e w' => e = .returned (.int .i64 (endI s (pS l))) ∧ w = w' := by
  simp [isSgn] at h1
  have g1 := ne_int h1.1.1; have g2 := ne_int h1.1.2; have g3 := ne_int h1.2
  have g4 := ne_int h2; have g5 := ne_int h3; have g6 := ne_int h4; have g7 := ne_int h5
  simp only [UInt8.reduceToNat, Int.cast_ofNat_Int] at g1 g2 g3 g4 g5 g6 g7
  clear h1 h2 h3 h4 h5
  go_enter Tryz.func125, Tryz.ntmps125
  go_wp2_with fail
  refine (byte_at s _ k rfl (by omega) c.toNat (by rw [H0.out]) _).mono ?_
  rintro e w' ⟨rfl, rfl⟩
  go_wp2_with fail
  go_ret
  exact ⟨ret_int (by rw [HL.out]; rfl), rfl⟩

theorem end_step (m : Nat) (ih : SaidBlock m) : SaidEnd (m + 1) := by
  intro s k i w hi hs hb hm
  subst hi
  cases hl : from_ s k with
  | nil =>
    obtain ⟨h0, _⟩ := from_nil hl
    exact end_bad s k w 0 [] hb h0 rfl rfl (by decide) (by decide) (by decide) (by decide)
  | cons c r =>
    obtain ⟨h0, hk, hr⟩ := from_cons hl
    have hb1 := byte_head s (k + 1)
    rw [hr] at hb1
    have hlen : r.length = s.size - (k + 1) := by rw [← hr, from_len]
    by_cases h1 : isSgn c = true
    · have h1' := h1
      simp [isSgn] at h1'
      rcases h1' with (rfl | rfl) | rfl
      · exact end_plus s k w r hb hk h0 hb1 hlen
      · exact end_minus s k w r hb hk h0 hb1 hlen
      · exact end_times s k w r hb hk h0 hb1 hlen
    · by_cases h2 : c = 80
      · subst h2; exact end_prt s k w r hb hk h0 hlen
      · by_cases h3 : c = 75
        · subst h3; exact end_pro s k w r hb hk h0 hlen
        · by_cases h4 : c = 67
          · subst h4; exact end_call s k w r hb hk h0 hb1 hlen
          · by_cases h5 : c = 63
            · subst h5; exact end_cho s k w r hs hb hk h0 m (by omega) ih hr
            · exact end_bad s k w c (c :: r) hb h0 (pS_bad c r (by simpa using h1) h2 h3 h4 h5) (by simpa using h1) h2 h3 h4 h5

theorem endB_end {s : ByteArray} {k : Nat} (h : byteAt s k = 93) : k < s.size ∧ endI s (pB (from_ s k)) = (k : Int) + 1 := by
  cases hl : from_ s k with
  | nil => rw [(from_nil hl).1] at h; exact absurd h (by decide)
  | cons c r =>
    obtain ⟨h0, hk, hr⟩ := from_cons hl
    rw [h] at h0; subst h0
    refine ⟨hk, ?_⟩
    have := from_len s (k + 1)
    rw [hr] at this
    rw [pB_end]; simp only [endI]; omega
theorem endB_step {s : ByteArray} {k : Nat} (h : byteAt s k ≠ 93) (hk : k ≤ s.size) :
    (endI s (pS (from_ s k)) = -1 ∧ endI s (pB (from_ s k)) = -1) ∨
      ∃ k2, endI s (pS (from_ s k)) = (k2 : Nat) ∧ k < k2 ∧ k2 ≤ s.size ∧ endI s (pB (from_ s k)) = endI s (pB (from_ s k2)) := by
  have hb := byte_head s k
  rw [hb] at h
  cases h1 : pS (from_ s k) with
  | none => left; rw [pB_step _ h, h1]; exact ⟨rfl, rfl⟩
  | some p =>
    obtain ⟨x, r1⟩ := p
    right
    obtain ⟨e1, _⟩ := pS_sound h1
    obtain ⟨f1, f2, f3⟩ := from_suffix e1
    have hx := x.txt_len
    have f3 := f3 hk
    refine ⟨s.size - r1.length, ?_, by omega, by omega, ?_⟩
    · simp only [endI]; omega
    · rw [pB_step _ h, h1]; dsimp only; rw [f1]
      cases pB r1 with
      | none => rfl
      | some q => rfl

set_option maxHeartbeats 400000 in
theorem block_step (m : Nat) (ih : SaidEnd m) : SaidBlock (m + 1) := by
  intro s k i w hi hs hb hm
  subst hi
  have ih' := Lib.hid ih
  clear ih
  by_cases h91 : byteAt s k = 91
  · cases hl : from_ s k with
    | nil => rw [(from_nil hl).1] at h91; exact absurd h91 (by decide)
    | cons c r =>
      obtain ⟨h0, hk, hr⟩ := from_cons hl
      rw [h91] at h0; subst h0
      rw [pK_open, ← hr]
      have H0 := Lib.hid h91
      clear h91 hl hr
      go_enter Tryz.func151, Tryz.ntmps151
      go_wp2_with fail
      refine (byte_at s _ k rfl (by omega) 91 (by rw [H0.out]; rfl) _).mono ?_
      rintro e w' ⟨rfl, rfl⟩
      go_wp2_with fail
      go_loop [1] (fun at_ => ∃ k1 : Nat, at_ = .int .i64 k1 ∧ k < k1 ∧ k1 ≤ s.size ∧ Hid (endI s (pB (from_ s k1)) = endI s (pB (from_ s (k + 1))))) (fun at_ => s.size - (intOf at_).toNat)
      case atStart => exact ⟨k + 1, by go_num, by omega, by omega, rfl⟩
      case round =>
        obtain ⟨k1, rfl, hk1, hk2, hR⟩ := hrel
        by_cases h93 : byteAt s k1 = 93
        · obtain ⟨hlt, he⟩ := endB_end h93
          have H1 := Lib.hid h93
          have HE := Lib.hid (he.symm.trans hR.out)
          clear h93 he
          go_wp2_with fail
          refine (byte_at s _ k1 rfl (by omega) 93 (by rw [H1.out]; rfl) _).mono ?_
          rintro e w' ⟨rfl, rfl⟩
          go_wp2_with fail
          go_ret
          exact ⟨ret_int HE.out, rfl⟩
        · have hne := ne_int h93
          simp only [UInt8.reduceToNat, Int.cast_ofNat_Int] at hne
          rcases endB_step h93 hk2 with ⟨hs1, hs2⟩ | ⟨k2, hs1, hlt, hle, hs2⟩
          · have HS := Lib.hid hs1
            have HE := Lib.hid (hs2.symm.trans hR.out)
            clear h93 hs1 hs2
            go_wp2_with fail
            refine (byte_at s _ k1 rfl (by omega) _ rfl _).mono ?_
            rintro e w' ⟨rfl, rfl⟩
            go_wp2_with fail
            refine (ih'.out s k1 _ _ rfl hs (by omega) (by omega)).mono ?_
            rintro e w' ⟨rfl, rfl⟩
            rw [HS.out]
            go_wp2_with fail
            go_ret
            exact ⟨ret_int HE.out, rfl⟩
          · have HS := Lib.hid hs1
            have HE := Lib.hid (hs2.symm.trans hR.out)
            clear h93 hs1 hs2
            go_wp2_with fail
            refine (byte_at s _ k1 rfl (by omega) _ rfl _).mono ?_
            rintro e w' ⟨rfl, rfl⟩
            go_wp2_with fail
            refine (ih'.out s k1 _ _ rfl hs (by omega) (by omega)).mono ?_
            rintro e w' ⟨rfl, rfl⟩
            rw [HS.out]
            go_wp2_with fail
            go_round
            case rel => exact ⟨k2, rfl, by omega, hle, HE.out⟩
            case measure => simp [intOf]; omega
  · have hne := ne_int h91
    simp only [UInt8.reduceToNat, Int.cast_ofNat_Int] at hne
    have HE := Lib.hid (show endI s (pK (from_ s k)) = -1 by
      rw [pK_bad _ (by rw [byte_head] at h91; exact h91)]; rfl)
    have hne2 : (((byteAt s k).toNat : Int) != 91) = true := by simp only [bne, hne]; rfl
    clear h91
    go_enter Tryz.func151, Tryz.ntmps151
    go_wp2_with fail
    refine (byte_at s _ k rfl (by omega) _ rfl _).mono ?_
    rintro e w' ⟨rfl, rfl⟩
    go_wp2_with fail
    go_ret
    exact ⟨ret_int HE.out.symm, rfl⟩

theorem both_all (m : Nat) : SaidEnd m ∧ SaidBlock m := by
  induction m with
  | zero => exact ⟨fun _ _ _ _ _ _ _ h => absurd h (Nat.not_lt_zero _), fun _ _ _ _ _ _ _ h => absurd h (Nat.not_lt_zero _)⟩
  | succ m ih => exact ⟨end_step m ih.2, block_step m ih.1⟩

theorem end_any (s : ByteArray) (k : Nat) (i : Int) (w : World) (hi : i = k) (hs : s.size ≤ 1073741824) (hb : i ≤ 2147483648) :
    Calls Tryz.prog 125 #[.string s, .int .i64 i] w fun e w' => e = .returned (.int .i64 (endI s (pS (from_ s k)))) ∧ w = w' :=
  (both_all (s.size - k + 1)).1 s k i w hi hs hb (by omega)
end Go.Proofs.YtomodlllmbkndaaGreatDoor
namespace Go.Proofs.YtomodlllmbkndaaGreatDoor
open Go.RowKit Gram

theorem info_str : (Tryz.prog.info? 9).map (fun i => (i.zero, i.size, i.bytes)) = some (some (.string ⟨#[]⟩), 1, 16) := by kernel_rfl

/-- a text as a value -/
def strV (l : List UInt8) : Value := .string ⟨l.toArray⟩
/-- the texts of statements as values -/
def stmVs (xs : List Stm) : List Value := xs.map fun x => strV x.txt

theorem stmVs_len (xs : List Stm) : (stmVs xs).length = xs.length := by simp [stmVs]
theorem stmVs_snoc (xs : List Stm) (x : Stm) : stmVs (xs ++ [x]) = stmVs xs ++ [strV x.txt] := by simp [stmVs]

/-- what a piece of a text is -/
theorem extract_from (s : ByteArray) (k j : Nat) : s.extract k j = ⟨((from_ s k).take (j - k)).toArray⟩ := by
  apply ByteArray.ext
  simp [from_]
  apply Array.ext'
  simp [Array.toList_extract, List.extract_eq_take_drop]

theorem split_step {s : ByteArray} {k : Nat} (hk : k < s.size) :
    (pS (from_ s k) = none ∧ pA (from_ s k) = none) ∨
      ∃ x k2, endI s (pS (from_ s k)) = (k2 : Nat) ∧ k < k2 ∧ k2 ≤ s.size ∧ s.extract k k2 = ⟨x.txt.toArray⟩ ∧ pA (from_ s k) = (pA (from_ s k2)).map (x :: ·) := by
  cases hl : from_ s k with
  | nil => have := (from_nil hl).2; omega
  | cons c t =>
    cases h1 : pS (c :: t) with
    | none => left; exact ⟨rfl, by rw [pA_cons, h1]⟩
    | some p =>
      obtain ⟨x, r1⟩ := p
      right
      obtain ⟨e1, _⟩ := pS_sound h1
      rw [← hl] at e1
      obtain ⟨f1, f2, f3⟩ := from_suffix e1
      have hx := x.txt_len
      have f3 := f3 (by omega)
      refine ⟨x, s.size - r1.length, ?_, by omega, by omega, ?_, ?_⟩
      · simp only [endI]; omega
      · rw [extract_from s k _, f3, e1]
        simp
      · rw [pA_cons, h1]; dsimp only; rw [f1]
        cases pA r1 <;> rfl

set_option maxHeartbeats 1000000 in
set_option maxRecDepth 100000 in
theorem split_any (s : ByteArray) (w : World) (hs : s.size ≤ 1073741824) :
    Calls Tryz.prog 102 #[.string s] w fun e w' => ∃ v b xs, e = .returned (.tuple #[v, .bool b]) ∧ Hid ((b = false ∧ pA (from_ s 0) = none ∧ xs = []) ∨ (b = true ∧ pA (from_ s 0) = some xs)) ∧
      w'.ownsRow w.heap.size 9 1 v xs.length (stmVs xs) ∧ Below w.heap.size w w' := by
  obtain ⟨i0, hi, hz0, hz1, hz2⟩ := info_parts info_str
  go_enter Tryz.func102, Tryz.ntmps102
  go_wp2_with fail
  go_loopw [4, 5] (fun v at_ wr => ∃ (k : Nat) (ys : List Stm), at_ = .int .i64 k ∧ k ≤ s.size ∧ ys.length ≤ k ∧ wr.ownsRow w.heap.size 9 1 v ys.length (stmVs ys) ∧ Below w.heap.size w wr ∧ Hid (pA (from_ s 0) = (pA (from_ s k)).map (ys ++ ·))) (fun _ at_ _ => s.size - (intOf at_).toNat)
  case atStart =>
    refine ⟨0, [], by go_num, by omega, by simp, ?_, (Below.refl _ _).alloc (Nat.le_refl _) _, by show _ = _; cases pA (from_ s 0) <;> simp⟩
    exact ⟨by simp [stmVs], .inr ⟨w.heap.size, 0, #[], rfl, Nat.le_refl _, heap_alloc_new w _, Nat.le_refl _, by simp [maxLen], by simp, by simp [stmVs]⟩⟩
  case round =>
    obtain ⟨k, ys, rfl, hk, hys, hown, hbw, hP⟩ := hrel
    have hsz := hbw.size
    by_cases hlt : k < s.size
    · rcases split_step hlt with ⟨h1, h2⟩ | ⟨x, k2, h1, hk2, hk3, hx, hp⟩
      · have HS := Lib.hid (show endI s (pS (from_ s k)) = -1 by rw [h1]; rfl)
        have HN := Lib.hid (show pA (from_ s 0) = none by rw [hP.out, h2]; rfl)
        clear h1 h2 hP
        go_wp2_with fail
        refine (end_any s k _ _ rfl hs (by omega)).mono ?_
        rintro e w' ⟨rfl, rfl⟩
        rw [HS.out]
        go_wp2_with fail
        go_ret2
        refine ⟨_, _, [], rfl, .inl ⟨rfl, HN.out, rfl⟩, ?_, (hbw.alloc (by omega) _)⟩
        exact ⟨by simp [stmVs], .inr ⟨wr.heap.size, 0, #[], rfl, hsz, heap_alloc_new wr _, Nat.le_refl _, by simp [maxLen], by simp, by simp [stmVs]⟩⟩
      · have HS := Lib.hid h1
        have HX := Lib.hid hx
        have HP := Lib.hid (show pA (from_ s 0) = (pA (from_ s k2)).map (ys ++ [x] ++ ·) by rw [hP.out, hp]; cases pA (from_ s k2) <;> simp)
        clear h1 hx hp hP
        go_wp2_with fail
        refine (end_any s k _ _ rfl hs (by omega)).mono ?_
        rintro e w' ⟨rfl, rfl⟩
        rw [HS.out]
        go_wp2_with (at_builtin; refine wpList_append_own _ rfl _ _ 98 rfl w.heap.size 9 i0 (.string ⟨#[]⟩) 1 16 Tryz.underlying98 hi hz0 hz1 hz2 rfl (by decide) _ _ _ rfl (hown.alloc _) ⟨wr.heap.size, 0, none⟩ 1 1 [.string (s.extract k k2)] rfl rfl ?c1 ?c2 ?c3 ?c4 ?c5 ?_)
        case c1 => exact cell_one_new _ _ _
        case c2 => intro u hu; simp at hu; subst hu; rfl
        case c3 => unfold maxLen; omega
        case c4 => omega
        case c5 => simp; omega
        intro v' w1 hown' hgrow _
        go_wp2_with fail
        go_roundw
        case rel =>
          refine ⟨k2, ys ++ [x], rfl, hk3, by simp; omega, ?_, (hbw.alloc (by omega) _).grown hgrow (by simp; omega) (fun j hj => (hown.lt j hj).1), HP.out⟩
          rw [stmVs_snoc, strV, ← HX.out]; simpa using hown'
        case measure => simp [intOf]; omega
    · have hN := Lib.hid (show pA (from_ s 0) = some ys by
        rw [hP.out]; have : from_ s k = [] := by simp [from_]; omega
        rw [this, pA_nil]; simp)
      clear hP
      go_wp2_with fail
      go_ret2
      exact ⟨_, _, ys, rfl, .inr ⟨rfl, hN.out⟩, hown, hbw⟩

/-- what StatementsOf tells: the statements, if the text is a body -/
def bodyOf (s : ByteArray) : Option (List Stm) := if s.size ≤ 400 then reads false s.data.toList else none

theorem from_zero (s : ByteArray) : from_ s 0 = s.data.toList := by simp [from_]

theorem bodyOf_some {s : ByteArray} {xs : List Stm} (h : bodyOf s = some xs) : s.size ≤ 400 ∧ s.data.toList = txts xs ∧ wfs xs = true ∧ nks xs = true := by
  unfold bodyOf at h
  split at h
  · obtain ⟨h1, h2, h3⟩ := reads_sound false _ _ h
    exact ⟨by assumption, h1, h2, by rw [← fks_false]; exact h3⟩
  · cases h

end Go.Proofs.YtomodlllmbkndaaGreatDoor
namespace Go.Proofs.YtomodlllmbkndaaGreatDoor
open Go.RowKit Gram

/-- the parts of a text, the first one begun with p -/
def cutsP (p : List UInt8) : List UInt8 → List (List UInt8)
  | [] => [p]
  | c :: t => if c = 59 then p :: cutsP [] t else cutsP (p ++ [c]) t
def cuts (l : List UInt8) : List (List UInt8) := cutsP [] l

theorem cutsP_none (l : List UInt8) : ∀ p, 59 ∉ l → cutsP p l = [p ++ l] := by
  induction l with
  | nil => intro p _; simp [cutsP]
  | cons c t ih =>
    intro p h
    simp only [List.mem_cons, not_or] at h
    rw [cutsP, if_neg (Ne.symm h.1), ih _ h.2]
    simp
theorem cutsP_hit (a b : List UInt8) : ∀ p, 59 ∉ a → cutsP p (a ++ 59 :: b) = (p ++ a) :: cuts b := by
  induction a with
  | nil => intro p _; simp [cutsP, cuts]
  | cons c t ih =>
    intro p h
    simp only [List.mem_cons, not_or] at h
    rw [List.cons_append, cutsP, if_neg (Ne.symm h.1), ih _ h.2]
    simp

theorem index_cases (x : UInt8) (l : List UInt8) : (Lib.index l [x] = -1 ∧ x ∉ l) ∨ ∃ a b, l = a ++ x :: b ∧ x ∉ a ∧ Lib.index l [x] = (a.length : Int) := by
  induction l with
  | nil => exact .inl ⟨rfl, by simp⟩
  | cons c t ih =>
    unfold Lib.index
    by_cases hc : x = c
    · subst hc
      refine .inr ⟨[], t, rfl, by simp, ?_⟩
      simp [List.isPrefixOf]
    · have hp : [x].isPrefixOf (c :: t) = false := by simp [List.isPrefixOf, hc]
      rw [hp]
      rcases ih with ⟨h1, h2⟩ | ⟨a, b, h1, h2, h3⟩
      · left
        rw [h1]
        exact ⟨rfl, by simp [hc, h2]⟩
      · right
        refine ⟨c :: a, b, by rw [h1]; rfl, by simp [hc, h2], ?_⟩
        rw [h3]
        have : ((a.length : Int) == -1) = false := by rw [beq_eq_false_iff_ne]; omega
        simp [this]

theorem split_cuts (fuel : Nat) : ∀ l : List UInt8, l.length < fuel → Lib.splitK [59] 0 (Lib.countFrom [59] fuel l) l = cuts l := by
  induction fuel with
  | zero => intro l h; omega
  | succ fuel ih =>
    intro l h
    rcases index_cases 59 l with ⟨h1, h2⟩ | ⟨a, b, h1, h2, h3⟩
    · rw [Lib.countFrom, h1]
      show [l] = _
      rw [cuts, cutsP_none l [] h2]; rfl
    · have hne : (Lib.index l [59] == -1) = false := by rw [beq_eq_false_iff_ne, h3]; omega
      rw [Lib.countFrom, hne]
      have hn : (Lib.index l [59]).toNat = a.length := by rw [h3]; rfl
      have hd : l.drop (a.length + 1) = b := by rw [h1]; simp
      simp only [Bool.false_eq_true, if_false]
      rw [hn, show a.length + ([59] : List UInt8).length = a.length + 1 from rfl, hd, Nat.add_comm 1, Lib.splitK, hne]
      simp only [Bool.false_eq_true, if_false]
      rw [hn, show a.length + ([59] : List UInt8).length = a.length + 1 from rfl, hd, ih b (by rw [h1] at h; simp at h; omega)]
      have hc : cuts (a ++ 59 :: b) = a :: cuts b := by
        show cutsP [] (a ++ 59 :: b) = _
        rw [cutsP_hit a b [] h2]; rfl
      rw [h1, hc]
      simp

theorem splitB_cuts (s : ByteArray) : Lib.splitB ⟨#[59]⟩ 0 (Lib.countB s ⟨#[59]⟩) s = (cuts s.data.toList).map fun l => (⟨l.toArray⟩ : ByteArray) := by
  have h := Lib.splitB_data ⟨#[59]⟩ 0 (Lib.countB s ⟨#[59]⟩) s
  have h2 : Lib.splitK [59] 0 (Lib.count s.data.toList [59]) s.data.toList = cuts s.data.toList := split_cuts _ _ (by omega)
  rw [show (⟨#[59]⟩ : ByteArray).data.toList = [59] from rfl] at h
  rw [show Lib.countB s ⟨#[59]⟩ = Lib.count s.data.toList [59] from rfl] at h ⊢
  rw [h2] at h
  rw [← h, List.map_map]
  exact (List.map_id _).symm.trans (List.map_congr_left fun x _ => rfl)
theorem splitB_len (s : ByteArray) : (cuts s.data.toList).length = Lib.countB s ⟨#[59]⟩ + 1 := by
  have key : ∀ fuel (l : List UInt8), l.length < fuel → (cuts l).length = Lib.countFrom [59] fuel l + 1 := by
    intro fuel
    induction fuel with
    | zero => intro l h; omega
    | succ fuel ih =>
      intro l h
      rcases index_cases 59 l with ⟨h1, h2⟩ | ⟨a, b, h1, h2, h3⟩
      · rw [Lib.countFrom, h1, cuts, cutsP_none l [] h2]; rfl
      · have hne : (Lib.index l [59] == -1) = false := by rw [beq_eq_false_iff_ne, h3]; omega
        have hn : (Lib.index l [59]).toNat = a.length := by rw [h3]; rfl
        have hd : l.drop (a.length + 1) = b := by rw [h1]; simp
        rw [Lib.countFrom, hne]
        simp only [Bool.false_eq_true, if_false]
        rw [hn, show a.length + ([59] : List UInt8).length = a.length + 1 from rfl, hd]
        have := ih b (by rw [h1] at h; simp at h; omega)
        have hc : cuts (a ++ 59 :: b) = a :: cuts b := by
          show cutsP [] (a ++ 59 :: b) = _
          rw [cutsP_hit a b [] h2]; rfl
        rw [h1, hc, List.length_cons, this]; omega
  exact key _ _ (by omega)

/-- the procedures of parts: the name and the body's statements -/
abbrev Pr := UInt8 × List Stm
def procOf (p : List UInt8) : Option Pr :=
  match p with
  | n :: c :: r => if isLet n = true ∧ c = 58 then (bodyOf ⟨r.toArray⟩).map fun b => (n, b) else none
  | _ => none
def lastBelow (acc : List Pr) (n : UInt8) : Bool := match acc.getLast? with | none => true | some p => decide (p.1 < n)
def procsOf (acc : List Pr) : List (List UInt8) → Option (List Pr)
  | [] => some acc
  | p :: ps => match procOf p with
    | none => none
    | some x => if lastBelow acc x.1 = true then procsOf (acc ++ [x]) ps else none

mutual
/-- the names that are called, each as often as it is -/
def _root_.Go.Proofs.YtomodlllmbkndaaGreatDoor.Gram.Stm.calls : Stm → List UInt8
  | .call c => [c]
  | .cho a b => callsIn a ++ callsIn b
  | _ => []
def callsIn : List Stm → List UInt8
  | [] => []
  | x :: xs => x.calls ++ callsIn xs
end
def namesOf (ps : List Pr) : List UInt8 := ps.map (·.1)
def ownCalls (ps : List Pr) : Bool := ps.all fun p => (callsIn p.2).all fun c => (namesOf ps).contains c
/-- the procedures of a text, if it is a program -/
def progOf (s : ByteArray) : Option (List Pr) :=
  if s.size ≤ 400 then (procsOf [] (cuts s.data.toList)).bind fun ps => if ownCalls ps then some ps else none else none

/-- what strings.Cut at ':' makes of a part -/
theorem cut_colon (p : List UInt8) : procOf p = (let c := Lib.cut p [58]; match c.1 with | [n] => if isLet n = true ∧ c.2.2 = true then (bodyOf ⟨c.2.1.toArray⟩).map fun b => (n, b) else none | _ => none) := by
  rcases index_cases 58 p with ⟨h1, h2⟩ | ⟨a, b, h1, h2, h3⟩
  · have hc : Lib.cut p [58] = (p, [], false) := by unfold Lib.cut; rw [h1]; rfl
    rw [hc]
    dsimp only
    match p, h2 with
    | [], _ => rfl
    | [n], _ => simp [procOf]
    | n :: c :: r, h2 =>
      simp only [List.mem_cons, not_or] at h2
      have : ¬ (isLet n = true ∧ c = 58) := fun h => h2.2.1 h.2.symm
      simp only [procOf, if_neg this]
  · have hc : Lib.cut p [58] = (a, b, true) := by
      unfold Lib.cut
      rw [h3, if_pos (by omega)]
      show (p.take a.length, p.drop (a.length + 1), true) = _
      rw [h1]; simp
    rw [hc]
    dsimp only
    subst h1
    match a, h2 with
    | [], _ =>
      cases b with
      | nil => rfl
      | cons c r => simp [procOf, isLet]
    | [n], _ => simp [procOf]
    | n :: c :: r, h2 =>
      simp only [List.mem_cons, not_or] at h2
      have : ¬ (isLet n = true ∧ c = 58) := fun h => h2.2.1 h.2.symm
      simp only [procOf, List.cons_append, if_neg this]
end Go.Proofs.YtomodlllmbkndaaGreatDoor
namespace Go.Proofs.YtomodlllmbkndaaGreatDoor
open Go.RowKit Gram

theorem size_of (s : ByteArray) : s.data.toList.length = s.size := by simp

/-- the letter that a name is -/
def nameOf (l : List UInt8) : Option UInt8 := match l with | [n] => if isLet n = true then some n else none | _ => none
def letN (o : Option UInt8) : UInt8 := o.getD 0

set_option maxHeartbeats 400000 in
theorem letter_of (s : ByteArray) (w : World) :
    Calls Tryz.prog 77 #[.string s] w fun e w' => e = .returned (.tuple #[.int .u8 (letN (nameOf s.data.toList)).toNat, .bool (nameOf s.data.toList).isSome]) ∧ w = w' := by
  by_cases h1 : s.size = 1
  · have h0 : 0 < s.size := by omega
    have hN : nameOf s.data.toList = if isLet s[0] = true then some s[0] else none := by
      have hl : s.data.toList.length = 1 := by simpa using h1
      obtain ⟨c, hc⟩ := List.length_eq_one_iff.1 hl
      have h2 : s[0] = c := by
        have : s.data.toList[0]'(by omega) = c := by simp only [hc]; rfl
        rw [← this]; rfl
      rw [hc, h2]; rfl
    have hlt := s[0].toNat_lt
    have hL : isLet s[0] = (decide ((97 : Int) ≤ s[0].toNat) && decide ((s[0].toNat : Int) ≤ 122)) := by
      simp only [isLet, UInt8.le_iff_toNat_le]
      congr 1
      · rw [decide_eq_decide]; show 97 ≤ s[0].toNat ↔ _; omega
      · rw [decide_eq_decide]; show s[0].toNat ≤ 122 ↔ _; omega
    have hb : ((s.size : Int) == 1) = true := by rw [beq_iff_eq]; omega
    rw [hN, hL]
    clear hN hL hlt
    by_cases a1 : (97 : Int) ≤ s[0].toNat
    · by_cases a2 : (s[0].toNat : Int) ≤ 122
      · rw [if_pos (by simp [a1, a2])]
        go_enter Tryz.func77, Tryz.ntmps77
        go_wp2
        go_ret2
        exact ⟨rfl, rfl⟩
      · rw [if_neg (by simp [a2])]
        go_enter Tryz.func77, Tryz.ntmps77
        go_wp2
        go_ret2
        exact ⟨rfl, rfl⟩
    · rw [if_neg (by simp [a1])]
      go_enter Tryz.func77, Tryz.ntmps77
      go_wp2
      go_ret2
      exact ⟨rfl, rfl⟩
  · have hn : nameOf s.data.toList = none := by
      unfold nameOf
      split
      · rename_i n he
        have : s.data.toList.length = 1 := by rw [he]; rfl
        simp at this; exact absurd this h1
      · rfl
    rw [hn]
    clear hn
    have hb : ((s.size : Int) == 1) = false := by rw [beq_eq_false_iff_ne]; omega
    go_enter Tryz.func77, Tryz.ntmps77
    go_wp2
    go_ret2
    exact ⟨rfl, rfl⟩
end Go.Proofs.YtomodlllmbkndaaGreatDoor
namespace Go.Proofs.YtomodlllmbkndaaGreatDoor
open Go.RowKit Gram

theorem heap_set_same {w : World} {g k : Nat} {cur : Array Value} {e : TypeId} {fz : Nat × Nat} (h : w.heap[g]? = some (.cells cur e fz)) (u : Value) :
    (w.setCell ⟨g, k, none⟩ u).heap[g]? = some (.cells (cur.setIfInBounds k u) e fz) := by
  simp [World.setCell, Array.getElem?_modify, h]
theorem heap_set_other {w : World} {g k j : Nat} (h : j ≠ g) (u : Value) : (w.setCell ⟨g, k, none⟩ u).heap[j]? = w.heap[j]? :=
  Below.heap_setCell _ _ _ _ h
theorem heap_lt {w : World} {g : Nat} {o : Obj} (h : w.heap[g]? = some o) : g < w.heap.size := (Array.getElem?_eq_some_iff.1 h).1

theorem alloc_size' (w : World) (o : Obj) : (w.alloc o).heap.size = w.heap.size + 1 := by
  show (w.heap.push o).size = _
  rw [Array.size_push]

/-- outside block c the world w' is as w was -/
structure But (c : Nat) (w w' : World) : Prop where
  os : w'.os = w.os
  tape : w'.tape = w.tape
  output : w'.output = w.output
  size : w.heap.size ≤ w'.heap.size
  block : ∀ k, k < w.heap.size → k ≠ c → w'.heap[k]? = w.heap[k]?
theorem But.refl (c : Nat) (w : World) : But c w w := ⟨rfl, rfl, rfl, Nat.le_refl _, fun _ _ _ => rfl⟩
theorem But.trans {c : Nat} {a b d : World} (h : But c a b) (k : But c b d) : But c a d :=
  ⟨k.os.trans h.os, k.tape.trans h.tape, k.output.trans h.output, Nat.le_trans h.size k.size, fun i hi hc => (k.block i (Nat.lt_of_lt_of_le hi h.size) hc).trans (h.block i hi hc)⟩
theorem But.of_below {c : Nat} {a b : World} (h : Below a.heap.size a b) : But c a b := ⟨h.os, h.tape, h.output, h.size, fun k hk _ => h.block k hk⟩
theorem But.setCell {c : Nat} {a b : World} (h : But c a b) (k : Nat) (u : Value) : But c a (b.setCell ⟨c, k, none⟩ u) :=
  h.trans ⟨rfl, rfl, rfl, by simp [World.setCell], fun i _ hc => Below.heap_setCell _ _ _ _ hc⟩
theorem But.below {c B : Nat} {a b : World} (h : But c a b) (hB : B ≤ a.heap.size) (hc : B ≤ c) : Below B a b :=
  ⟨h.os, h.tape, h.output, h.size, fun k hk => h.block k (by omega) (by omega)⟩

theorem cell_get {w : World} {g : Nat} {cs : Array Value} {t : TypeId} (h : w.heap[g]? = some (.cells cs t (0, 0))) (k : Nat) : w.cell? ⟨g, k, none⟩ = cs[k]? := Lib.cell_of_heap h k

theorem call_end {w : World} {c : Nat} {x : Value} {T : TypeId} (hc : w.heap[c]? = some (.cells #[x] T (0, 0))) (v : Value) (o : Obj) :
    ((w.setCell ⟨c, 0, none⟩ v).alloc o).drew.heap[c]? = some (.cells #[v] T (0, 0)) ∧ But c w ((w.setCell ⟨c, 0, none⟩ v).alloc o).drew := by
  have h1 : (w.setCell ⟨c, 0, none⟩ v).heap[c]? = some (.cells #[v] T (0, 0)) := heap_set_same (k := 0) hc v
  have hz : (w.setCell ⟨c, 0, none⟩ v).heap.size = w.heap.size := by simp [World.setCell]
  constructor
  · show ((w.setCell ⟨c, 0, none⟩ v).alloc o).heap[c]? = _
    rw [Lib.alloc_old _ _ _ (by rw [hz]; exact heap_lt hc)]; exact h1
  · exact ((But.refl c w).setCell 0 v).trans ⟨rfl, rfl, rfl, by show _ ≤ (Array.push _ _).size; simp, fun k hk _ => Lib.alloc_old _ _ _ hk⟩
theorem but_alloc (c : Nat) (w : World) (o : Obj) : But c w (w.alloc o) := But.of_below ((Below.refl _ _).alloc (Nat.le_refl _) _)
theorem alloc_heap {w : World} (o : Obj) : ∀ k, k < w.heap.size → (w.alloc o).heap[k]? = w.heap[k]? := fun k hk => Lib.alloc_old w o k hk
end Go.Proofs.YtomodlllmbkndaaGreatDoor
namespace Go.Proofs.YtomodlllmbkndaaGreatDoor
open Go.RowKit Gram

/-- a row of statements' values whose block, if any, is in S -/
def Row (w : World) (S : Nat → Prop) (v : Value) (vs : List Value) : Prop :=
  w.ownsRow 0 139 1 v vs.length vs ∧ ∀ g, v.ownBlock = some g → S g

mutual
/-- v is the statement, all it leads to in blocks of S -/
def IsStm (w : World) (S : Nat → Prop) : Stm → Value → Prop
  | .chg g d, v => v = .iface 157 (.agg #[.int .u8 g.toNat, .int .u8 d.toNat])
  | .prt, v => v = .iface 160 (.agg #[])
  | .pro, v => v = .iface 219 (.agg #[])
  | .call c, v => v = .iface 150 (.agg #[.int .u8 c.toNat])
  | .cho a b, v => ∃ va vb vas vbs, v = .iface 163 (.agg #[va, vb]) ∧ Row w S va vas ∧ IsStms w S a vas ∧ Row w S vb vbs ∧ IsStms w S b vbs
def IsStms (w : World) (S : Nat → Prop) : List Stm → List Value → Prop
  | [], vs => vs = []
  | x :: xs, vs => ∃ v t, vs = v :: t ∧ IsStm w S x v ∧ IsStms w S xs t
end
def IsBody (w : World) (S : Nat → Prop) (xs : List Stm) (v : Value) : Prop := ∃ vs, Row w S v vs ∧ IsStms w S xs vs

theorem ownsRow_of {w w' : World} {base : Nat} {e : TypeId} {size n : Nat} {v : Value} {xs : List Value} (h : w.ownsRow base e size v n xs) (hk : ∀ g, v.ownBlock = some g → w'.heap[g]? = w.heap[g]?) : w'.ownsRow base e size v n xs := by
  refine ⟨h.1, ?_⟩
  rcases h.2 with hn | ⟨g, cap, cur, rfl, hb, hg, rest⟩
  · exact .inl hn
  · exact .inr ⟨g, cap, cur, rfl, hb, by rw [hk g rfl]; exact hg, rest⟩
theorem ownsRow_base {w : World} {base base' : Nat} {e : TypeId} {size n : Nat} {v : Value} {xs : List Value} (h : w.ownsRow base e size v n xs) (hk : ∀ g, v.ownBlock = some g → base' ≤ g) : w.ownsRow base' e size v n xs := by
  refine ⟨h.1, ?_⟩
  rcases h.2 with hn | ⟨g, cap, cur, rfl, hb, hg, rest⟩
  · exact .inl hn
  · exact .inr ⟨g, cap, cur, rfl, hk g rfl, hg, rest⟩

theorem Row.kept {w w' : World} {S S' : Nat → Prop} {v : Value} {vs : List Value} (h : Row w S v vs) (hk : ∀ g, S g → w'.heap[g]? = w.heap[g]?) (hS : ∀ g, S g → S' g) : Row w' S' v vs :=
  ⟨ownsRow_of h.1 fun g hg => hk g (h.2 g hg), fun g hg => hS g (h.2 g hg)⟩

mutual
theorem IsStm.kept {w w' : World} {S S' : Nat → Prop} (hk : ∀ g, S g → w'.heap[g]? = w.heap[g]?) (hS : ∀ g, S g → S' g) : ∀ (x : Stm) (v : Value), IsStm w S x v → IsStm w' S' x v
  | .chg _ _, _, h => h
  | .prt, _, h => h
  | .pro, _, h => h
  | .call _, _, h => h
  | .cho a b, v, h => by
    simp only [IsStm] at h ⊢
    obtain ⟨va, vb, vas, vbs, e, r1, s1, r2, s2⟩ := h
    exact ⟨va, vb, vas, vbs, e, r1.kept hk hS, IsStms.kept hk hS a vas s1, r2.kept hk hS, IsStms.kept hk hS b vbs s2⟩
theorem IsStms.kept {w w' : World} {S S' : Nat → Prop} (hk : ∀ g, S g → w'.heap[g]? = w.heap[g]?) (hS : ∀ g, S g → S' g) : ∀ (xs : List Stm) (vs : List Value), IsStms w S xs vs → IsStms w' S' xs vs
  | [], _, h => h
  | x :: xs, vs, h => by
    simp only [IsStms] at h ⊢
    obtain ⟨v, t, e, h1, h2⟩ := h
    exact ⟨v, t, e, IsStm.kept hk hS x v h1, IsStms.kept hk hS xs t h2⟩
end
theorem IsBody.kept {w w' : World} {S S' : Nat → Prop} (hk : ∀ g, S g → w'.heap[g]? = w.heap[g]?) (hS : ∀ g, S g → S' g) {xs : List Stm} {v : Value} (h : IsBody w S xs v) : IsBody w' S' xs v := by
  obtain ⟨vs, r, s⟩ := h
  exact ⟨vs, r.kept hk hS, IsStms.kept hk hS _ _ s⟩

theorem IsStms.len {w : World} {S : Nat → Prop} : ∀ (xs : List Stm) (vs : List Value), IsStms w S xs vs → vs.length = xs.length
  | [], vs, h => by simp only [IsStms] at h; simp [h]
  | x :: xs, vs, h => by
    simp only [IsStms] at h
    obtain ⟨v, t, rfl, _, h2⟩ := h
    simp [IsStms.len xs t h2]
theorem IsStms.snoc {w : World} {S : Nat → Prop} {x : Stm} {v : Value} (hx : IsStm w S x v) : ∀ (xs : List Stm) (vs : List Value), IsStms w S xs vs → IsStms w S (xs ++ [x]) (vs ++ [v])
  | [], vs, h => by simp only [IsStms] at h; subst h; exact ⟨v, [], rfl, hx, rfl⟩
  | y :: ys, vs, h => by
    simp only [IsStms] at h
    obtain ⟨u, t, rfl, h1, h2⟩ := h
    exact ⟨u, t ++ [v], rfl, h1, IsStms.snoc hx ys t h2⟩

/-- below block B all is as it was, and each string's iterator too -/
structure Kept (B : Nat) (w w' : World) : Prop where
  below : Below B w w'
  iter : ∀ (k : Nat) (s : ByteArray) (p : Nat), w.heap[k]? = some (Obj.stringIter s p) → w'.heap[k]? = some (Obj.stringIter s p)

theorem Kept.refl (B : Nat) (w : World) : Kept B w w := ⟨Below.refl B w, fun _ _ _ h => h⟩
theorem Kept.trans {B : Nat} {a b c : World} (h : Kept B a b) (k : Kept B b c) : Kept B a c := ⟨h.below.trans k.below, fun i s p hi => k.iter i s p (h.iter i s p hi)⟩
theorem Kept.mono {B B' : Nat} {w w' : World} (h : Kept B w w') (hB : B' ≤ B) : Kept B' w w' := ⟨h.below.mono hB, h.iter⟩
theorem Kept.alloc {B : Nat} {a w : World} (h : Kept B a w) (hB : B ≤ w.heap.size) (o : Obj) : Kept B a (w.alloc o) :=
  ⟨h.below.alloc hB o, fun k s p hk => by rw [Lib.alloc_old _ _ _ (Array.getElem?_eq_some_iff.1 (h.iter k s p hk)).1]; exact h.iter k s p hk⟩
theorem Kept.setCell {B : Nat} {a w : World} (h : Kept B a w) {q : Addr} (hq : B ≤ q.block) (u : Value) : Kept B a (w.setCell q u) :=
  ⟨h.below.setCell hq u, fun k s p hk => by
    have h1 := h.iter k s p hk
    simp only [World.setCell, Array.getElem?_modify]
    split
    · simp [h1]
    · exact h1⟩
theorem Kept.grown {B : Nat} {a w w' : World} {row : Option Nat} (h : Kept B a w) (hg : w.grownBy w' row) (hB : B ≤ w.heap.size) (hr : ∀ k, row = some k → B ≤ k) (hc : ∀ k, row = some k → ∃ c e f, w.heap[k]? = some (Obj.cells c e f)) : Kept B a w' :=
  ⟨h.below.grown hg hB hr, fun k s p hk => by
    have h1 := h.iter k s p hk
    rw [hg.block k (Array.getElem?_eq_some_iff.1 h1).1 (fun he => by
      obtain ⟨c, e, f, h2⟩ := hc k he.symm
      rw [h1] at h2; cases h2)]
    exact h1⟩

/-- the signs that may begin a statement: kk says whether 'K' may -/
def sigs (kk : Bool) : ByteArray := if kk then ⟨#[43, 45, 42, 80, 67, 63, 75]⟩ else ⟨#[43, 45, 42, 80, 67, 63]⟩

/-- one open body: what it holds; the values of its two rows -/
structure Ent where
  u : Unf
  lv : Value
  fv : Value

/-- the cells of the row of open bodies, the top last -/
def cellsOf : List Ent → List Value
  | [] => []
  | e :: t => cellsOf t ++ [e.lv, e.fv, .bool e.u.second]

theorem cellsOf_len (t : List Ent) : (cellsOf t).length = t.length * 3 := by
  induction t with
  | nil => rfl
  | cons e t ih => simp [cellsOf, ih]; omega

def IsEnt (w : World) (S : Nat → Prop) (B : Nat) (e : Ent) : Prop :=
  (∃ vs, w.ownsRow B 139 1 e.lv vs.length vs ∧ IsStms w S e.u.list vs) ∧ (e.u.second = true → IsBody w S e.u.first e.fv) ∧ (∀ g, e.lv.ownBlock = some g → ¬ S g) ∧ ∃ a n c, e.fv = .slice a n c

def apart (e f : Ent) : Prop := ∀ g, e.lv.ownBlock = some g → f.lv.ownBlock ≠ some g

/-- the reader at block rb; its open bodies in block g -/
structure Rd (w : World) (kk : Bool) (B rb : Nat) (p : Int) (g cap : Nat) (ents : List Ent) (S : Nat → Prop) : Prop where
  own : w.heap[rb]? = some (.cells #[.string (sigs kk), .slice (some ⟨g, 0, none⟩) ents.length cap, .int .i32 p] 177 (0, 0))
  low : B ≤ rb
  row : w.ownsRow B 174 3 (.slice (some ⟨g, 0, none⟩) ents.length cap) ents.length (cellsOf ents)
  each : ∀ e ∈ ents, IsEnt w S B e
  parted : List.Pairwise apart ents
  set : ∀ k, S k → B ≤ k ∧ ∃ cur fz, w.heap[k]? = some (.cells cur 139 fz)

/-- a row of another element type lies in another block -/
theorem ownBlock_type {w : World} {B : Nat} {e e' : TypeId} {sz n : Nat} {v : Value} {xs : List Value} {g : Nat} {cur : Array Value} {fz : Nat × Nat} (h : w.ownsRow B e sz v n xs) (hg : w.heap[g]? = some (.cells cur e' fz)) (hne : e' ≠ e) : v.ownBlock ≠ some g := by
  intro hv
  rcases h.2 with ⟨rfl, _⟩ | ⟨g', cap, cur', rfl, _, hg', _⟩
  · cases hv
  · simp [Value.ownBlock] at hv
    subst hv
    rw [hg'] at hg
    simp at hg
    exact hne hg.2.1.symm

theorem row_cur {w : World} {B : Nat} {e : TypeId} {sz n g cap : Nat} {xs : List Value} (h : w.ownsRow B e sz (.slice (some ⟨g, 0, none⟩) n cap) n xs) :
    ∃ cur, w.heap[g]? = some (.cells cur e (0, 0)) ∧ B ≤ g ∧ n ≤ cap ∧ cap ≤ maxLen ∧ cur.size = cap * sz ∧ cur.toList.take (n * sz) = xs := by
  rcases h.2 with ⟨hv, _⟩ | ⟨g', cap', cur, hv, hb, hg, h1, h2, h3, h4⟩
  · cases hv
  · injection hv with a b c
    injection a with a
    injection a with a
    subst a; subst c
    exact ⟨cur, hg, hb, h1, h2, h3, h4⟩

theorem row_cell {w : World} {B : Nat} {e : TypeId} {sz n g cap : Nat} {xs : List Value} (h : w.ownsRow B e sz (.slice (some ⟨g, 0, none⟩) n cap) n xs) (j : Nat) (v : Value) (hj : xs[j]? = some v) : w.cell? ⟨g, j, none⟩ = some v := by
  obtain ⟨cur, hg, _, _, _, _, ht⟩ := row_cur h
  rw [Lib.cell_of_heap hg, ← Array.getElem?_toList]
  rw [← ht, List.getElem?_take] at hj
  split at hj
  · exact hj
  · cases hj
theorem row_free {w : World} {B : Nat} {e : TypeId} {sz n g cap : Nat} {xs : List Value} (h : w.ownsRow B e sz (.slice (some ⟨g, 0, none⟩) n cap) n xs) (j : Nat) : w.frozen? ⟨g, j, none⟩ = false := by
  obtain ⟨cur, hg, _⟩ := row_cur h
  exact Lib.frozen_of_heap hg j

/-- a store into a row -/
theorem row_set {w : World} {B : Nat} {e : TypeId} {sz n g cap : Nat} {xs : List Value} (h : w.ownsRow B e sz (.slice (some ⟨g, 0, none⟩) n cap) n xs) (j : Nat) (u : Value) :
    (w.setCell ⟨g, j, none⟩ u).ownsRow B e sz (.slice (some ⟨g, 0, none⟩) n cap) n (xs.set j u) := by
  obtain ⟨cur, hg, hb, h1, h2, h3, ht⟩ := row_cur h
  refine ⟨by simp [h.1], .inr ⟨g, cap, cur.setIfInBounds j u, rfl, hb, heap_set_same hg u, h1, h2, by simp [h3], ?_⟩⟩
  rw [← ht, Array.toList_setIfInBounds, List.take_set]

theorem cellsOf_get (e : Ent) (t : List Ent) : (cellsOf (e :: t))[t.length * 3]? = some e.lv ∧ (cellsOf (e :: t))[t.length * 3 + 1]? = some e.fv ∧ (cellsOf (e :: t))[t.length * 3 + 2]? = some (.bool e.u.second) := by
  have h := cellsOf_len t
  simp only [cellsOf]
  refine ⟨?_, ?_, ?_⟩ <;> rw [List.getElem?_append_right (by omega)] <;> simp [h]
theorem cellsOf_set (e : Ent) (t : List Ent) (v : Value) : (cellsOf (e :: t)).set (t.length * 3) v = cellsOf ({ e with lv := v } :: t) := by
  have h := cellsOf_len t
  simp only [cellsOf]
  rw [List.set_append_right _ _ (by omega)]
  simp [h]

section
variable {w : World} {kk : Bool} {B rb g cap : Nat} {p : Int} {e : Ent} {t : List Ent} {S : Nat → Prop}

theorem Rd.ne_rb (h : Rd w kk B rb p g cap (e :: t) S) : rb ≠ g := by
  obtain ⟨cur, hg, _⟩ := row_cur h.row
  intro he
  subst he
  have := h.own.symm.trans hg
  simp at this

theorem Rd.S_ne (h : Rd w kk B rb p g cap (e :: t) S) {k : Nat} (hk : S k) : k ≠ rb ∧ k ≠ g ∧ k < w.heap.size := by
  obtain ⟨_, cur, fz, hc⟩ := h.set k hk
  obtain ⟨cur', hg, _⟩ := row_cur h.row
  refine ⟨?_, ?_, heap_lt hc⟩
  · rintro rfl; have := h.own.symm.trans hc; simp at this
  · rintro rfl; rw [hg] at hc; simp at hc

theorem slice_form {w : World} {B : Nat} {e : TypeId} {sz n : Nat} {v : Value} {xs : List Value} (h : w.ownsRow B e sz v n xs) : ∃ a n c, v = .slice a n c := by
  rcases h.2 with ⟨rfl, _⟩ | ⟨g, cap, cur, rfl, _⟩ <;> exact ⟨_, _, _, rfl⟩

theorem Rd.lv_ne (h : Rd w kk B rb p g cap (e :: t) S) {f : Ent} (hf : f ∈ e :: t) {k : Nat} (hk : f.lv.ownBlock = some k) : k ≠ rb ∧ k ≠ g ∧ k < w.heap.size ∧ B ≤ k := by
  obtain ⟨⟨vs, ho, _⟩, _⟩ := h.each f hf
  obtain ⟨cur', hg, _⟩ := row_cur h.row
  have := ho.lt k hk
  refine ⟨?_, ?_, this.2, this.1⟩
  · rintro rfl; exact ownBlock_type ho h.own (by decide) hk
  · rintro rfl; exact ownBlock_type ho hg (by decide) hk

/-- behind an append to the top's statements and the store of the new row's value -/
theorem Rd.add {w1 : World} {g' cap' : Nat} {vs : List Value} {x : Stm} {v : Value} {o : Obj} (h : Rd w kk B rb p g cap (e :: t) S) (hx : IsStm w S x v)
    (hvs : IsStms w S e.u.list vs) (hown' : w1.ownsRow B 139 1 (.slice (some ⟨g', 0, none⟩) (vs.length + 1) cap') (vs.length + 1) (vs ++ [v]))
    (hg : (w.alloc o).grownBy w1 e.lv.ownBlock) (hat : e.lv.ownBlock = some g' ∨ g' = w.heap.size + 1) (hB : B ≤ w.heap.size) :
    Rd (w1.setCell ⟨g, t.length * 3, none⟩ (.slice (some ⟨g', 0, none⟩) (vs.length + 1) cap')) kk B rb p g cap (⟨{ e.u with list := e.u.list ++ [x] }, .slice (some ⟨g', 0, none⟩) (vs.length + 1) cap', e.fv⟩ :: t) S ∧
      Kept B w (w1.setCell ⟨g, t.length * 3, none⟩ (.slice (some ⟨g', 0, none⟩) (vs.length + 1) cap')) := by
  have hsz : (w.alloc o).heap.size = w.heap.size + 1 := by simp
  have hgrown : ∀ k, k < w.heap.size → e.lv.ownBlock ≠ some k → w1.heap[k]? = w.heap[k]? := fun k hk hn => by
    rw [hg.block k (by omega) (fun he => hn he.symm)]; exact Lib.alloc_old w o k hk
  obtain ⟨cur, hcur, hBg, hrest⟩ := row_cur h.row
  have hgl := heap_lt hcur
  have hrl := heap_lt h.own
  have e0 := List.mem_cons_self (a := e) (l := t)
  have kg : w1.heap[g]? = w.heap[g]? := hgrown g hgl (fun hk => (h.lv_ne e0 hk).2.1 rfl)
  have krb : w1.heap[rb]? = w.heap[rb]? := hgrown rb hrl (fun hk => (h.lv_ne e0 hk).1 rfl)
  have kS : ∀ k, S k → w1.heap[k]? = w.heap[k]? := fun k hk => hgrown k (h.S_ne hk).2.2 (fun he => (h.each e e0).2.2.1 k he hk)
  have g'ne : g' ≠ g := by
    rcases hat with h1 | h1
    · exact (h.lv_ne e0 h1).2.1
    · omega
  have hrow1 : w1.ownsRow B 174 3 (.slice (some ⟨g, 0, none⟩) (e :: t).length cap) (e :: t).length (cellsOf (e :: t)) :=
    ownsRow_of h.row (fun k hk => by simp [Value.ownBlock] at hk; subst hk; exact kg)
  have kset : ∀ k, k ≠ g → ∀ u, (w1.setCell ⟨g, t.length * 3, none⟩ u).heap[k]? = w1.heap[k]? := fun k hk u => heap_set_other hk u
  refine ⟨⟨?_, h.low, ?_, ?_, ?_, ?_⟩, ?_⟩
  · rw [kset rb h.ne_rb, krb]; exact h.own
  · have := row_set hrow1 (t.length * 3) (.slice (some ⟨g', 0, none⟩) (vs.length + 1) cap')
    rw [cellsOf_set] at this
    exact this
  · intro f hf
    rcases List.mem_cons.1 hf with rfl | hf
    · refine ⟨⟨vs ++ [v], ?_, ?_⟩, ?_, ?_, (h.each e e0).2.2.2⟩
      · simp only [List.length_append, List.length_cons, List.length_nil]
        exact ownsRow_of hown' (fun k hk => by simp [Value.ownBlock] at hk; subst hk; exact kset _ g'ne _)
      · exact IsStms.kept (fun k hk => by rw [kset k (h.S_ne hk).2.1, kS k hk]) (fun _ hk => hk) _ _ (IsStms.snoc hx _ _ hvs)
      · intro hs
        exact ((h.each e e0).2.1 hs).kept (fun k hk => by rw [kset k (h.S_ne hk).2.1, kS k hk]) (fun _ hk => hk)
      · intro k hk hS
        simp [Value.ownBlock] at hk
        subst hk
        rcases hat with h1 | h1
        · exact (h.each e e0).2.2.1 _ h1 hS
        · have := (h.S_ne hS).2.2; omega
    · have hf' := List.mem_cons_of_mem e hf
      obtain ⟨⟨us, ho, hu⟩, h2, h3⟩ := h.each f hf'
      have hap := (List.pairwise_cons.1 h.parted).1 f hf
      refine ⟨⟨us, ?_, ?_⟩, ?_, h3⟩
      · exact ownsRow_of ho (fun k hk => by
          rw [kset k (h.lv_ne hf' hk).2.1, hgrown k (h.lv_ne hf' hk).2.2.1 (fun he => hap k he hk)])
      · exact IsStms.kept (fun k hk => by rw [kset k (h.S_ne hk).2.1, kS k hk]) (fun _ hk => hk) _ _ hu
      · intro hs
        exact (h2 hs).kept (fun k hk => by rw [kset k (h.S_ne hk).2.1, kS k hk]) (fun _ hk => hk)
  · refine List.pairwise_cons.2 ⟨?_, (List.pairwise_cons.1 h.parted).2⟩
    intro f hf k hk
    simp [Value.ownBlock] at hk
    subst hk
    rcases hat with h1 | h1
    · exact (List.pairwise_cons.1 h.parted).1 f hf _ h1
    · intro hk2
      have := (h.lv_ne (List.mem_cons_of_mem e hf) hk2).2.2.1
      omega
  · intro k hk
    obtain ⟨a, cur, fz, hc⟩ := h.set k hk
    exact ⟨a, cur, fz, by rw [kset k (h.S_ne hk).2.1, kS k hk]; exact hc⟩
  · refine (((Kept.refl B w).alloc hB o).grown hg (by omega) (fun k hk => (h.lv_ne e0 hk).2.2.2) (fun k hk => ?_)).setCell hBg _
    obtain ⟨⟨us, ho, _⟩, _⟩ := h.each e e0
    rcases ho.2 with ⟨h1, _⟩ | ⟨g2, cap2, cur2, h1, _, hg2, _⟩
    · rw [h1] at hk; cases hk
    · rw [h1] at hk; simp [Value.ownBlock] at hk; subst hk
      exact ⟨_, _, _, by rw [Lib.alloc_old _ _ _ (heap_lt hg2)]; exact hg2⟩

end
end Go.Proofs.YtomodlllmbkndaaGreatDoor
