/- Plain mathematics, no program: the statements of a body as trees, their text, the reading of a text by its signs one behind the other (parseS, parseB, parseA), and the reader that keeps a stack of open bodies (Mach). No condition. -/
namespace Go.Proofs.YtkdnbdgpcgookaaGreatDoor.Gram

inductive Stm where
  | chg (g d : UInt8)
  | prt
  | pro
  | call (c : UInt8)
  | cho (a b : List Stm)

mutual
def Stm.txt : Stm → List UInt8
  | .chg g d => [g, d]
  | .prt => [80]
  | .pro => [75]
  | .call c => [67, c]
  | .cho a b => 63 :: 91 :: (txts a ++ 93 :: 91 :: (txts b ++ [93]))
def txts : List Stm → List UInt8
  | [] => []
  | x :: xs => x.txt ++ txts xs
end

def isSgn (c : UInt8) : Bool := c == 43 || c == 45 || c == 42
def isDig (c : UInt8) : Bool := decide (48 ≤ c) && decide (c ≤ 57)
def isLet (c : UInt8) : Bool := decide (97 ≤ c) && decide (c ≤ 122)

mutual
def Stm.wf : Stm → Bool
  | .chg g d => isSgn g && isDig d
  | .prt => true
  | .pro => true
  | .call c => isLet c
  | .cho a b => wfs a && wfs b
def wfs : List Stm → Bool
  | [] => true
  | x :: xs => x.wf && wfs xs
end

mutual
/-- no 'K' -/
def Stm.nk : Stm → Bool
  | .pro => false
  | .cho a b => nks a && nks b
  | _ => true
def nks : List Stm → Bool
  | [] => true
  | x :: xs => x.nk && nks xs
end

theorem txts_append (a b : List Stm) : txts (a ++ b) = txts a ++ txts b := by
  induction a with
  | nil => simp [txts]
  | cons x xs ih => simp [txts, ih]
theorem wfs_append (a b : List Stm) : wfs (a ++ b) = (wfs a && wfs b) := by
  induction a with
  | nil => simp [wfs]
  | cons x xs ih => simp [wfs, ih, Bool.and_assoc]
theorem nks_append (a b : List Stm) : nks (a ++ b) = (nks a && nks b) := by
  induction a with
  | nil => simp [nks]
  | cons x xs ih => simp [nks, ih, Bool.and_assoc]
theorem txts_snoc (a : List Stm) (x : Stm) : txts (a ++ [x]) = txts a ++ x.txt := by simp [txts_append, txts]
theorem wfs_snoc (a : List Stm) (x : Stm) : wfs (a ++ [x]) = (wfs a && x.wf) := by simp [wfs_append, wfs]
theorem nks_snoc (a : List Stm) (x : Stm) : nks (a ++ [x]) = (nks a && x.nk) := by simp [nks_append, nks]

/-! reading by the signs, one behind the other -/
mutual
def parseS : Nat → List UInt8 → Option (Stm × List UInt8)
  | 0, _ => none
  | _ + 1, [] => none
  | n + 1, c :: r =>
    if isSgn c then
      match r with
      | d :: r' => if isDig d then some (.chg c d, r') else none
      | [] => none
    else if c = 80 then some (.prt, r)
    else if c = 75 then some (.pro, r)
    else if c = 67 then
      match r with
      | d :: r' => if isLet d then some (.call d, r') else none
      | [] => none
    else if c = 63 then
      match parseK n r with
      | none => none
      | some (a, r1) =>
        match parseK n r1 with
        | none => none
        | some (b, r2) => some (.cho a b, r2)
    else none
/-- a body in brackets -/
def parseK : Nat → List UInt8 → Option (List Stm × List UInt8)
  | 0, _ => none
  | _ + 1, [] => none
  | n + 1, c :: r => if c = 91 then parseB n r else none
/-- statements up to the closing bracket -/
def parseB : Nat → List UInt8 → Option (List Stm × List UInt8)
  | 0, _ => none
  | n + 1, l =>
    if l.head? = some 93 then some ([], l.tail) else
    match parseS n l with
    | none => none
    | some (x, r1) =>
      match parseB n r1 with
      | none => none
      | some (xs, r2) => some (x :: xs, r2)
end

theorem Stm.txt_len (x : Stm) : 1 ≤ x.txt.length := by
  cases x <;> simp [Stm.txt]

/-- what is read is the text of what comes out, and well formed -/
theorem parse_sound (n : Nat) :
    (∀ l x r, parseS n l = some (x, r) → l = x.txt ++ r ∧ x.wf = true) ∧
    (∀ l x r, parseK n l = some (x, r) → l = 91 :: (txts x ++ 93 :: r) ∧ wfs x = true) ∧
    (∀ l x r, parseB n l = some (x, r) → l = txts x ++ 93 :: r ∧ wfs x = true) := by
  induction n with
  | zero => refine ⟨?_, ?_, ?_⟩ <;> intro l x r h <;> simp [parseS, parseK, parseB] at h
  | succ n ih =>
    obtain ⟨ihS, ihK, ihB⟩ := ih
    refine ⟨?_, ?_, ?_⟩
    · intro l x r h
      cases l with
      | nil => simp [parseS] at h
      | cons c t =>
        rw [parseS.eq_def] at h
        dsimp only at h
        by_cases h1 : isSgn c = true
        · rw [if_pos h1] at h
          cases t with
          | nil => simp at h
          | cons d t' =>
            by_cases h2 : isDig d = true
            · simp [h2] at h
              obtain ⟨rfl, rfl⟩ := h
              simp [Stm.txt, Stm.wf, h1, h2]
            · simp [h2] at h
        · rw [if_neg h1] at h
          by_cases h2 : c = 80
          · rw [if_pos h2] at h
            simp at h
            obtain ⟨rfl, rfl⟩ := h
            simp [Stm.txt, Stm.wf, h2]
          · rw [if_neg h2] at h
            by_cases h3 : c = 75
            · rw [if_pos h3] at h
              simp at h
              obtain ⟨rfl, rfl⟩ := h
              simp [Stm.txt, Stm.wf, h3]
            · rw [if_neg h3] at h
              by_cases h4 : c = 67
              · rw [if_pos h4] at h
                cases t with
                | nil => simp at h
                | cons d t' =>
                  by_cases h5 : isLet d = true
                  · simp [h5] at h
                    obtain ⟨rfl, rfl⟩ := h
                    simp [Stm.txt, Stm.wf, h4, h5]
                  · simp [h5] at h
              · rw [if_neg h4] at h
                by_cases h5 : c = 63
                · rw [if_pos h5] at h
                  cases h6 : parseK n t with
                  | none => simp [h6] at h
                  | some p =>
                    obtain ⟨a, r1⟩ := p
                    simp only [h6] at h
                    cases h7 : parseK n r1 with
                    | none => simp [h7] at h
                    | some q =>
                      obtain ⟨b, r2⟩ := q
                      simp [h7] at h
                      obtain ⟨rfl, rfl⟩ := h
                      obtain ⟨e1, w1⟩ := ihK _ _ _ h6
                      obtain ⟨e2, w2⟩ := ihK _ _ _ h7
                      refine ⟨?_, by simp [Stm.wf, w1, w2]⟩
                      rw [e1, e2, h5]; simp [Stm.txt]
                · rw [if_neg h5] at h; simp at h
    · intro l x r h
      cases l with
      | nil => simp [parseK] at h
      | cons c t =>
        rw [parseK] at h
        by_cases h1 : c = 91
        · rw [if_pos h1] at h
          obtain ⟨e, w⟩ := ihB _ _ _ h
          exact ⟨by rw [e, h1], w⟩
        · rw [if_neg h1] at h; simp at h
    · intro l x r h
      rw [parseB] at h
      by_cases h1 : l.head? = some 93
      · rw [if_pos h1] at h
        simp at h
        obtain ⟨rfl, rfl⟩ := h
        cases l with
        | nil => simp at h1
        | cons c t => simp at h1; simp [h1, txts, wfs]
      · rw [if_neg h1] at h
        cases h6 : parseS n l with
        | none => simp [h6] at h
        | some p =>
          obtain ⟨y, r1⟩ := p
          simp only [h6] at h
          cases h7 : parseB n r1 with
          | none => simp [h7] at h
          | some q =>
            obtain ⟨ys, r2⟩ := q
            simp [h7] at h
            obtain ⟨rfl, rfl⟩ := h
            obtain ⟨e1, w1⟩ := ihS _ _ _ h6
            obtain ⟨e2, w2⟩ := ihB _ _ _ h7
            refine ⟨?_, by simp [wfs, w1, w2]⟩
            rw [e1, e2]; simp [txts]

/-- a well formed text is read back -/
theorem parse_complete (n : Nat) :
    (∀ x r, x.wf = true → x.txt.length ≤ n → parseS n (x.txt ++ r) = some (x, r)) ∧
    (∀ xs r, wfs xs = true → (txts xs).length + 2 ≤ n → parseK n (91 :: (txts xs ++ 93 :: r)) = some (xs, r)) ∧
    (∀ xs r, wfs xs = true → (txts xs).length + 1 ≤ n → parseB n (txts xs ++ 93 :: r) = some (xs, r)) := by
  induction n with
  | zero =>
    refine ⟨?_, ?_, ?_⟩
    · intro x r _ h; have := x.txt_len; omega
    · intro x r _ h; omega
    · intro x r _ h; omega
  | succ n ih =>
    obtain ⟨ihS, ihK, ihB⟩ := ih
    refine ⟨?_, ?_, ?_⟩
    · intro x r hw hn
      cases x with
      | chg g d =>
        simp [Stm.wf] at hw
        simp [Stm.txt, parseS, hw.1, hw.2]
      | prt => simp [Stm.txt, parseS, isSgn]
      | pro => simp [Stm.txt, parseS, isSgn]
      | call c =>
        simp [Stm.wf] at hw
        simp [Stm.txt, parseS, isSgn, hw]
      | cho a b =>
        simp [Stm.wf] at hw
        simp [Stm.txt] at hn
        have e1 := ihK a (91 :: (txts b ++ 93 :: r)) hw.1 (by omega)
        have e2 := ihK b r hw.2 (by omega)
        simp [Stm.txt, parseS, isSgn, e1, e2]
    · intro xs r hw hn
      simp [parseK, ihB xs r hw (by omega)]
    · intro xs r hw hn
      cases xs with
      | nil => simp [txts, parseB]
      | cons x xs =>
        simp [wfs] at hw
        simp [txts] at hn
        have hl := x.txt_len
        have e1 := ihS x (txts xs ++ 93 :: r) hw.1 (by omega)
        have e2 := ihB xs r hw.2 (by omega)
        have hh : (x.txt ++ (txts xs ++ 93 :: r)).head? ≠ some 93 := by
          cases x <;> simp [Stm.txt]
          simp [Stm.wf, isSgn] at hw
          intro h; rw [h] at hw; simp at hw
        simp only [txts, List.append_assoc]
        rw [parseB, if_neg hh, e1]
        simp [e2]

/-- more fuel reads no less -/
theorem parseS_fuel (n m : Nat) (l : List UInt8) (hl : l.length ≤ n) (x : Stm) (r : List UInt8) (h : parseS m l = some (x, r)) : parseS n l = some (x, r) := by
  obtain ⟨e, w⟩ := (parse_sound m).1 _ _ _ h
  rw [e]; exact (parse_complete n).1 x r w (by rw [e] at hl; simp at hl; omega)

theorem parseK_fuel (n m : Nat) (l : List UInt8) (hl : l.length ≤ n) (x : List Stm) (r : List UInt8) (h : parseK m l = some (x, r)) : parseK n l = some (x, r) := by
  obtain ⟨e, w⟩ := (parse_sound m).2.1 _ _ _ h
  rw [e]; exact (parse_complete n).2.1 x r w (by rw [e] at hl; simp at hl; omega)
theorem parseB_fuel (n m : Nat) (l : List UInt8) (hl : l.length ≤ n) (x : List Stm) (r : List UInt8) (h : parseB m l = some (x, r)) : parseB n l = some (x, r) := by
  obtain ⟨e, w⟩ := (parse_sound m).2.2 _ _ _ h
  rw [e]; exact (parse_complete n).2.2 x r w (by rw [e] at hl; simp at hl; omega)

theorem opt_ext {α : Type} {a b : Option α} (h1 : ∀ x, a = some x → b = some x) (h2 : ∀ x, b = some x → a = some x) : a = b := by
  cases a with
  | none => cases b with
    | none => rfl
    | some y => exact h2 y rfl
  | some x => exact (h1 x rfl).symm

/-! the readings without fuel -/
def pS (l : List UInt8) : Option (Stm × List UInt8) := parseS l.length l
def pK (l : List UInt8) : Option (List Stm × List UInt8) := parseK l.length l
def pB (l : List UInt8) : Option (List Stm × List UInt8) := parseB l.length l

theorem pS_eq (n : Nat) (l : List UInt8) (h : l.length ≤ n) : parseS n l = pS l :=
  opt_ext (fun ⟨x, r⟩ e => parseS_fuel _ _ _ (Nat.le_refl _) x r e) (fun ⟨x, r⟩ e => parseS_fuel _ _ _ h x r e)
theorem pK_eq (n : Nat) (l : List UInt8) (h : l.length ≤ n) : parseK n l = pK l :=
  opt_ext (fun ⟨x, r⟩ e => parseK_fuel _ _ _ (Nat.le_refl _) x r e) (fun ⟨x, r⟩ e => parseK_fuel _ _ _ h x r e)
theorem pB_eq (n : Nat) (l : List UInt8) (h : l.length ≤ n) : parseB n l = pB l :=
  opt_ext (fun ⟨x, r⟩ e => parseB_fuel _ _ _ (Nat.le_refl _) x r e) (fun ⟨x, r⟩ e => parseB_fuel _ _ _ h x r e)

theorem pS_sound {l : List UInt8} {x : Stm} {r : List UInt8} (h : pS l = some (x, r)) : l = x.txt ++ r ∧ x.wf = true := (parse_sound _).1 _ _ _ h
theorem pK_sound {l : List UInt8} {x : List Stm} {r : List UInt8} (h : pK l = some (x, r)) : l = 91 :: (txts x ++ 93 :: r) ∧ wfs x = true := (parse_sound _).2.1 _ _ _ h
theorem pB_sound {l : List UInt8} {x : List Stm} {r : List UInt8} (h : pB l = some (x, r)) : l = txts x ++ 93 :: r ∧ wfs x = true := (parse_sound _).2.2 _ _ _ h

theorem pS_nil : pS [] = none := rfl
theorem pS_sgn (c : UInt8) (r : List UInt8) (h : isSgn c = true) : pS (c :: r) = if isDig (r.headD 0) then some (.chg c (r.headD 0), r.tail) else none := by
  cases r with
  | nil => simp [pS, parseS.eq_def, h, isDig]
  | cons d t => simp [pS, parseS.eq_def, h]
theorem pS_prt (r : List UInt8) : pS (80 :: r) = some (.prt, r) := by simp [pS, parseS, isSgn]
theorem pS_pro (r : List UInt8) : pS (75 :: r) = some (.pro, r) := by simp [pS, parseS, isSgn]
theorem pS_call (r : List UInt8) : pS (67 :: r) = if isLet (r.headD 0) then some (.call (r.headD 0), r.tail) else none := by
  cases r with
  | nil => simp [pS, parseS.eq_def, isSgn, isLet]
  | cons d t => simp [pS, parseS.eq_def, isSgn]
theorem pS_cho (r : List UInt8) : pS (63 :: r) = match pK r with
    | none => none
    | some (a, r1) => match pK r1 with
      | none => none
      | some (b, r2) => some (.cho a b, r2) := by
  have e : pS (63 :: r) = match parseK r.length r with
    | none => none
    | some (a, r1) => match parseK r.length r1 with
      | none => none
      | some (b, r2) => some (.cho a b, r2) := by simp [pS, parseS, isSgn]
  rw [e, pK_eq _ _ (Nat.le_refl _)]
  cases h : pK r with
  | none => rfl
  | some p =>
    obtain ⟨a, r1⟩ := p
    dsimp only
    rw [pK_eq _ _ (by obtain ⟨e2, _⟩ := pK_sound h; rw [e2]; simp; omega)]
theorem pS_bad (c : UInt8) (r : List UInt8) (h1 : isSgn c = false) (h2 : c ≠ 80) (h3 : c ≠ 75) (h4 : c ≠ 67) (h5 : c ≠ 63) : pS (c :: r) = none := by
  simp [pS, parseS.eq_def, h1, h2, h3, h4, h5]
theorem pK_open (r : List UInt8) : pK (91 :: r) = pB r := by
  have : pK (91 :: r) = parseB r.length r := by simp [pK, parseK]
  rw [this, pB_eq _ _ (Nat.le_refl _)]
theorem pK_bad (l : List UInt8) (h : l.headD 0 ≠ 91) : pK l = none := by
  cases l with
  | nil => rfl
  | cons c r => simp at h; simp [pK, parseK.eq_def, h]
theorem pB_end (r : List UInt8) : pB (93 :: r) = some ([], r) := by simp [pB, parseB]
theorem pB_step (l : List UInt8) (h : l.headD 0 ≠ 93) : pB l = match pS l with
    | none => none
    | some (x, r1) => match pB r1 with
      | none => none
      | some (xs, r2) => some (x :: xs, r2) := by
  cases l with
  | nil => rfl
  | cons c r =>
    simp at h
    have e : pB (c :: r) = match parseS r.length (c :: r) with
      | none => none
      | some (x, r1) => match parseB r.length r1 with
        | none => none
        | some (xs, r2) => some (x :: xs, r2) := by
      rw [pB, List.length_cons, parseB]; simp [h]
    rw [e]
    cases h2 : pS (c :: r) with
    | none =>
      have : parseS r.length (c :: r) = none := by
        cases h3 : parseS r.length (c :: r) with
        | none => rfl
        | some p => obtain ⟨x, t⟩ := p; have := parseS_fuel (c :: r).length _ _ (Nat.le_refl _) x t h3; rw [pS] at h2; rw [h2] at this; simp at this
      rw [this]
    | some p =>
      obtain ⟨x, r1⟩ := p
      dsimp only
      obtain ⟨e1, w1⟩ := pS_sound h2
      have hl := x.txt_len
      have hlen : (c :: r).length = x.txt.length + r1.length := by rw [e1]; simp
      by_cases h4 : r1 = []
      · subst h4
        have : pB [] = none := rfl
        rw [this]
        cases h3 : parseS r.length (c :: r) with
        | none => rfl
        | some q =>
          obtain ⟨y, t⟩ := q
          have h5 := parseS_fuel (c :: r).length _ _ (Nat.le_refl _) y t h3
          rw [pS] at h2; rw [h2] at h5; simp at h5
          obtain ⟨_, rfl⟩ := h5
          dsimp only
          have : parseB r.length [] = none := by
            cases hb : parseB r.length [] with
            | none => rfl
            | some q => obtain ⟨y, t⟩ := q; obtain ⟨e9, _⟩ := (parse_sound _).2.2 _ _ _ hb; simp at e9
          rw [this]
      · have hr : 1 ≤ r1.length := by cases r1 with
          | nil => exact absurd rfl h4
          | cons => simp
        have h3 : parseS r.length (c :: r) = some (x, r1) := by
          rw [e1]; exact (parse_complete _).1 x r1 w1 (by simp at hlen; omega)
        rw [h3]
        dsimp only
        rw [pB_eq _ _ (by simp at hlen; omega)]

def parseA : Nat → List UInt8 → Option (List Stm)
  | _, [] => some []
  | 0, _ :: _ => none
  | n + 1, c :: t =>
    match pS (c :: t) with
    | none => none
    | some (x, r) => match parseA n r with
      | none => none
      | some xs => some (x :: xs)

theorem parseA_sound (n : Nat) : ∀ l xs, parseA n l = some xs → l = txts xs ∧ wfs xs = true := by
  induction n with
  | zero =>
    intro l xs h
    cases l with
    | nil => simp [parseA] at h; subst h; simp [txts, wfs]
    | cons c t => simp [parseA] at h
  | succ n ih =>
    intro l xs h
    cases l with
    | nil => simp [parseA] at h; subst h; simp [txts, wfs]
    | cons c t =>
      rw [parseA] at h
      cases h6 : pS (c :: t) with
      | none => simp [h6] at h
      | some p =>
        obtain ⟨x, r⟩ := p
        simp only [h6] at h
        cases h7 : parseA n r with
        | none => simp [h7] at h
        | some ys =>
          simp [h7] at h
          subst h
          obtain ⟨e1, w1⟩ := pS_sound h6
          obtain ⟨e2, w2⟩ := ih _ _ h7
          exact ⟨by rw [e1, e2]; simp [txts], by simp [wfs, w1, w2]⟩

theorem pS_complete (x : Stm) (r : List UInt8) (h : x.wf = true) : pS (x.txt ++ r) = some (x, r) := (parse_complete _).1 x r h (by simp)

theorem parseA_complete (n : Nat) : ∀ xs, wfs xs = true → (txts xs).length ≤ n → parseA n (txts xs) = some xs := by
  induction n with
  | zero =>
    intro xs hw hl
    cases xs with
    | nil => simp [txts, parseA]
    | cons x xs => have := x.txt_len; simp [txts] at hl; simp [hl.1] at this
  | succ n ih =>
    intro xs hw hl
    cases xs with
    | nil => simp [txts, parseA]
    | cons x xs =>
      simp [wfs] at hw
      simp [txts] at hl
      have hx := x.txt_len
      cases ht : x.txt with
      | nil => simp [ht] at hx
      | cons c t =>
        have e := pS_complete x (txts xs) hw.1
        rw [ht] at e
        simp only [txts, ht, List.cons_append] at e ⊢
        rw [parseA, e]
        simp [ih xs hw.2 (by omega)]

def pA (l : List UInt8) : Option (List Stm) := parseA l.length l

/-- the one reading of a text -/
theorem pA_iff (l : List UInt8) (xs : List Stm) : pA l = some xs ↔ l = txts xs ∧ wfs xs = true :=
  ⟨parseA_sound _ l xs, fun ⟨h1, h2⟩ => by rw [h1]; exact parseA_complete _ xs h2 (Nat.le_refl _)⟩

theorem parseA_eq (n : Nat) (l : List UInt8) (h : l.length ≤ n) : parseA n l = pA l :=
  opt_ext (fun xs e => (pA_iff l xs).2 (parseA_sound _ _ _ e)) (fun xs e => by obtain ⟨h1, h2⟩ := (pA_iff l xs).1 e; rw [h1]; exact parseA_complete _ xs h2 (by rw [← h1]; exact h))

theorem pA_nil : pA [] = some [] := rfl
theorem pA_cons (c : UInt8) (t : List UInt8) : pA (c :: t) = match pS (c :: t) with
    | none => none
    | some (x, r) => match pA r with
      | none => none
      | some xs => some (x :: xs) := by
  rw [pA, List.length_cons, parseA]
  cases h : pS (c :: t) with
  | none => rfl
  | some p =>
    obtain ⟨x, r⟩ := p
    dsimp only
    obtain ⟨e, _⟩ := pS_sound h
    have hl := x.txt_len
    have : (c :: t).length = x.txt.length + r.length := by rw [e]; simp
    rw [parseA_eq _ _ (by simp at this; omega)]

/-! 'K' in a text stands for itself alone -/
mutual
theorem Stm.k_iff (x : Stm) (h : x.wf = true) : (x.txt.contains 75 = false) ↔ x.nk = true := by
  match x with
  | .chg g d =>
    simp [Stm.wf, isSgn, isDig, UInt8.le_iff_toNat_le] at h
    simp [Stm.txt, Stm.nk]
    refine ⟨?_, ?_⟩
    · rintro rfl; simp at h
    · rintro rfl; simp at h
  | .prt => simp [Stm.txt, Stm.nk]
  | .pro => simp [Stm.txt, Stm.nk]
  | .call c =>
    simp [Stm.wf, isLet, UInt8.le_iff_toNat_le] at h
    simp [Stm.txt, Stm.nk]
    rintro rfl; simp at h
  | .cho a b =>
    simp only [Stm.wf, Bool.and_eq_true] at h
    have ha := k_iffs a h.1
    have hb := k_iffs b h.2
    simp only [Stm.nk, Bool.and_eq_true, ← ha, ← hb]
    simp [Stm.txt]
theorem k_iffs (xs : List Stm) (h : wfs xs = true) : ((txts xs).contains 75 = false) ↔ nks xs = true := by
  match xs with
  | [] => simp [txts, nks]
  | x :: xs =>
    simp only [wfs, Bool.and_eq_true] at h
    have ha := Stm.k_iff x h.1
    have hb := k_iffs xs h.2
    simp only [nks, Bool.and_eq_true, ← ha, ← hb]
    simp [txts]
end

end Go.Proofs.YtkdnbdgpcgookaaGreatDoor.Gram
