/- Plain mathematics, no program: the reader that takes the signs of a body one by one and keeps a stack of open bodies accepts a text exactly if it is the text of well formed statements (without 'K', unless k says that it may stand), and hands back these. No condition. -/
import Derived.Test.YtkdnbdgpcgookaaGreatDoorGram
namespace Go.Proofs.YtkdnbdgpcgookaaGreatDoor.Gram

mutual
/-- no 'K', unless k -/
def Stm.fk (k : Bool) : Stm → Bool
  | .pro => k
  | .cho a b => fks k a && fks k b
  | _ => true
def fks (k : Bool) : List Stm → Bool
  | [] => true
  | x :: xs => x.fk k && fks k xs
end
mutual
theorem Stm.fk_true (x : Stm) : x.fk true = true := by
  match x with
  | .chg _ _ => rfl
  | .prt => rfl
  | .pro => rfl
  | .call _ => rfl
  | .cho a b => simp only [Stm.fk, fks_true a, fks_true b]; rfl
theorem fks_true (xs : List Stm) : fks true xs = true := by
  match xs with
  | [] => rfl
  | x :: xs => simp only [fks, Stm.fk_true x, fks_true xs]; rfl
end
mutual
theorem Stm.fk_false (x : Stm) : x.fk false = x.nk := by
  match x with
  | .chg _ _ => rfl
  | .prt => rfl
  | .pro => rfl
  | .call _ => rfl
  | .cho a b => simp only [Stm.fk, Stm.nk, fks_false a, fks_false b]
theorem fks_false (xs : List Stm) : fks false xs = nks xs := by
  match xs with
  | [] => rfl
  | x :: xs => simp only [fks, nks, Stm.fk_false x, fks_false xs]
end
theorem fks_append (k : Bool) (a b : List Stm) : fks k (a ++ b) = (fks k a && fks k b) := by
  induction a with
  | nil => simp [fks]
  | cons x xs ih => simp [fks, ih, Bool.and_assoc]
theorem fks_snoc (k : Bool) (a : List Stm) (x : Stm) : fks k (a ++ [x]) = (fks k a && x.fk k) := by simp [fks_append, fks]

structure Unf where
  list : List Stm
  first : List Stm
  second : Bool

/-- the stack, the top first; and the pending sign -/
structure St where
  top : Unf
  rest : List Unf
  pend : UInt8

def St.add (st : St) (x : Stm) : St := { st with top := { st.top with list := st.top.list ++ [x] } }

def St.start : St := ⟨⟨[], [], false⟩, [], 0⟩

/-- a closing bracket -/
def St.close (st : St) : Option St :=
  match st.rest with
  | [] => none
  | u :: us => if st.top.second then some (St.add ⟨u, us, 0⟩ (.cho st.top.first st.top.list)) else some { st with pend := 93 }

def St.begin (k : Bool) (st : St) (c : UInt8) : Option St :=
  if c = 43 ∨ c = 45 ∨ c = 42 ∨ c = 67 ∨ c = 63 then some { st with pend := c }
  else if c = 80 then some (st.add .prt)
  else if c = 93 then st.close
  else if c = 75 ∧ k = true then some (st.add .pro)
  else none

def St.openB (st : St) (behind : UInt8) : St :=
  if behind = 63 then ⟨⟨[], [], false⟩, st.top :: st.rest, st.pend⟩
  else { st with top := ⟨[], st.top.list, true⟩ }

def St.take (k : Bool) (st : St) (c : UInt8) : Option St :=
  if isSgn st.pend then (if isDig c then some (St.add { st with pend := 0 } (.chg st.pend c)) else none)
  else if st.pend = 67 then (if isLet c then some (St.add { st with pend := 0 } (.call c)) else none)
  else if st.pend = 63 ∨ st.pend = 93 then (if c = 91 then some (St.openB { st with pend := 0 } st.pend) else none)
  else St.begin k { st with pend := 0 } c

def takes (k : Bool) : List UInt8 → St → Option St
  | [], st => some st
  | c :: r, st => match st.take k c with
    | none => none
    | some st' => takes k r st'

def St.finish (st : St) : Option (List Stm) :=
  if st.pend = 0 ∧ st.rest = [] then some st.top.list else none

/-- what the reader makes of a text -/
def reads (k : Bool) (l : List UInt8) : Option (List Stm) := (takes k l St.start).bind St.finish

/-! it reads what is a text -/
theorem takes_append (k : Bool) (a b : List UInt8) (st : St) : takes k (a ++ b) st = (takes k a st).bind (takes k b) := by
  induction a generalizing st with
  | nil => simp [takes]
  | cons c r ih => simp only [takes, List.cons_append]; cases st.take k c <;> simp [ih]

def St.adds (st : St) (xs : List Stm) : St := { st with top := { st.top with list := st.top.list ++ xs } }
theorem St.adds_nil (st : St) : st.adds [] = st := by simp [St.adds]
theorem St.adds_cons (st : St) (x : Stm) (xs : List Stm) : (st.add x).adds xs = st.adds (x :: xs) := by simp [St.adds, St.add]

mutual
theorem take_stm (k : Bool) (x : Stm) (h : x.wf = true) (hk : x.fk k = true) (st : St) (hp : st.pend = 0) : takes k x.txt st = some (st.add x) := by
  match x with
  | .chg g d =>
    simp only [Stm.wf, Bool.and_eq_true] at h
    have hg := h.1
    simp [isSgn] at hg
    rcases hg with (rfl | rfl) | rfl <;>
    · have hd := h.2
      cases st; simp at hp; subst hp
      simp [Stm.txt, takes, St.take, St.begin, isSgn, St.add, hd]
  | .prt => cases st; simp at hp; subst hp; simp [Stm.txt, takes, St.take, St.begin, isSgn, St.add]
  | .pro => simp [Stm.fk] at hk; cases st; simp at hp; subst hp; simp [Stm.txt, takes, St.take, St.begin, isSgn, St.add, hk]
  | .call c =>
    simp only [Stm.wf] at h
    cases st; simp at hp; subst hp
    simp [Stm.txt, takes, St.take, St.begin, isSgn, St.add, h]
  | .cho a b =>
    simp only [Stm.wf, Bool.and_eq_true] at h
    simp only [Stm.fk, Bool.and_eq_true] at hk
    cases st with
    | mk top rest pend =>
      simp at hp; subst hp
      have ha := fun st hp => take_stms k a h.1 hk.1 st hp
      have hb := fun st hp => take_stms k b h.2 hk.2 st hp
      have e1 : takes k [63, 91] ⟨top, rest, 0⟩ = some ⟨⟨[], [], false⟩, top :: rest, 0⟩ := by
        simp [takes, St.take, St.begin, isSgn, St.openB]
      have e2 : takes k [93, 91] (St.adds ⟨⟨[], [], false⟩, top :: rest, 0⟩ a) = some ⟨⟨[], a, true⟩, top :: rest, 0⟩ := by
        simp [takes, St.take, St.begin, isSgn, St.openB, St.adds, St.close]
      have e3 : takes k [93] (St.adds ⟨⟨[], a, true⟩, top :: rest, 0⟩ b) = some (St.add ⟨top, rest, 0⟩ (.cho a b)) := by
        simp [takes, St.take, St.begin, isSgn, St.adds, St.close]
      have et : (Stm.cho a b).txt = [63, 91] ++ (txts a ++ ([93, 91] ++ (txts b ++ [93]))) := by simp [Stm.txt]
      rw [et, takes_append, e1]
      simp only [Option.bind_some]
      rw [takes_append, ha _ rfl]
      simp only [Option.bind_some]
      rw [takes_append, e2]
      simp only [Option.bind_some]
      rw [takes_append, hb _ rfl]
      simp only [Option.bind_some]
      exact e3
theorem take_stms (k : Bool) (xs : List Stm) (h : wfs xs = true) (hk : fks k xs = true) (st : St) (hp : st.pend = 0) : takes k (txts xs) st = some (st.adds xs) := by
  match xs with
  | [] => simp [txts, takes, St.adds_nil]
  | x :: xs =>
    simp only [wfs, Bool.and_eq_true] at h
    simp only [fks, Bool.and_eq_true] at hk
    have e1 := take_stm k x h.1 hk.1 st hp
    have e2 := take_stms k xs h.2 hk.2 (st.add x) (by simp [St.add, hp])
    rw [txts, takes_append, e1]
    simp only [Option.bind_some, e2, St.adds_cons]
end

theorem reads_complete (k : Bool) (xs : List Stm) (h : wfs xs = true) (hk : fks k xs = true) : reads k (txts xs) = some xs := by
  rw [reads, take_stms k xs h hk _ rfl]
  simp [St.adds, St.start, St.finish]

/-! what it reads is the text of what it holds -/
def Unf.text (u : Unf) : List UInt8 := if u.second then 63 :: 91 :: (txts u.first ++ 93 :: 91 :: txts u.list) else 63 :: 91 :: txts u.list
def Unf.ok (k : Bool) (u : Unf) : Prop := wfs u.list = true ∧ fks k u.list = true ∧ (u.second = true → wfs u.first = true ∧ fks k u.first = true)

def textOf (u : Unf) : List Unf → List UInt8
  | [] => txts u.list
  | v :: vs => textOf v vs ++ u.text

def St.text (st : St) : List UInt8 := textOf st.top st.rest ++ (if st.pend = 0 then [] else [st.pend])

structure St.ok (k : Bool) (st : St) : Prop where
  top : st.top.ok k
  rest : ∀ u ∈ st.rest, u.ok k
  pend : st.pend = 93 → st.rest ≠ [] ∧ st.top.second = false
  sign : st.pend = 0 ∨ isSgn st.pend = true ∨ st.pend = 67 ∨ st.pend = 63 ∨ st.pend = 93

theorem textOf_add (u : Unf) (us : List Unf) (x : Stm) : textOf { u with list := u.list ++ [x] } us = textOf u us ++ x.txt := by
  cases us with
  | nil => simp [textOf, txts_snoc]
  | cons v vs => by_cases h : u.second <;> simp [textOf, Unf.text, h, txts_snoc]

theorem Unf.okAdd {k : Bool} {u : Unf} (h : u.ok k) {x : Stm} (hw : x.wf = true) (hk : x.fk k = true) : Unf.ok k { u with list := u.list ++ [x] } :=
  ⟨by simp [wfs_snoc, h.1, hw], by simp [fks_snoc, h.2.1, hk], h.2.2⟩

theorem St.okAdd {k : Bool} {st : St} (h : st.ok k) (hp : st.pend = 0) {x : Stm} (hw : x.wf = true) (hk : x.fk k = true) : (st.add x).ok k ∧ (st.add x).text = st.text ++ x.txt := by
  refine ⟨⟨Unf.okAdd h.top hw hk, h.rest, ?_, .inl hp⟩, ?_⟩
  · intro h'; simp [St.add, hp] at h'
  · simp [St.text, St.add, hp, textOf_add]

theorem take_ok (k : Bool) (st st' : St) (c : UInt8) (h : st.ok k) (ht : st.take k c = some st') : st'.ok k ∧ st'.text = st.text ++ [c] := by
  unfold St.take at ht
  by_cases h1 : isSgn st.pend = true
  · rw [if_pos h1] at ht
    by_cases h2 : isDig c = true
    · rw [if_pos h2] at ht
      simp only [Option.some.injEq] at ht
      subst ht
      have hn : st.pend ≠ 0 := by intro e; rw [e] at h1; simp [isSgn] at h1
      have hk5 : st.pend ≠ 75 := by intro e; rw [e] at h1; simp [isSgn] at h1
      have h0 : St.ok k { st with pend := 0 } := ⟨h.top, h.rest, by simp, .inl rfl⟩
      obtain ⟨a, b⟩ := St.okAdd h0 rfl (x := .chg st.pend c) (by simp [Stm.wf, h1, h2]) (by simp [Stm.fk])
      refine ⟨a, ?_⟩
      rw [b]
      simp [St.text, hn, Stm.txt]
    · rw [if_neg h2] at ht; simp at ht
  · rw [if_neg h1] at ht
    by_cases h2 : st.pend = 67
    · rw [if_pos h2] at ht
      by_cases h3 : isLet c = true
      · rw [if_pos h3] at ht
        simp only [Option.some.injEq] at ht
        subst ht
        have h0 : St.ok k { st with pend := 0 } := ⟨h.top, h.rest, by simp, .inl rfl⟩
        obtain ⟨a, b⟩ := St.okAdd h0 rfl (x := .call c) (by simp [Stm.wf, h3]) (by simp [Stm.fk])
        refine ⟨a, ?_⟩
        rw [b]
        simp [St.text, h2, Stm.txt]
      · rw [if_neg h3] at ht; simp at ht
    · rw [if_neg h2] at ht
      by_cases h3 : st.pend = 63 ∨ st.pend = 93
      · rw [if_pos h3] at ht
        by_cases h4 : c = 91
        · rw [if_pos h4] at ht
          simp only [Option.some.injEq] at ht
          subst ht h4
          rcases h3 with h3 | h3
          · refine ⟨⟨?_, ?_, by simp [St.openB, h3], ?_⟩, ?_⟩
            · simp [St.openB, h3, Unf.ok, wfs, fks]
            · intro u hu
              simp [St.openB, h3] at hu
              rcases hu with rfl | hu
              · exact h.top
              · exact h.rest u hu
            · left; simp [St.openB, h3]
            · simp [St.openB, h3, St.text, textOf, Unf.text, txts]
          · obtain ⟨p1, p2⟩ := h.pend h3
            refine ⟨⟨?_, ?_, by simp [St.openB, h3], ?_⟩, ?_⟩
            · simp [St.openB, h3, Unf.ok, wfs, fks, h.top.1, h.top.2.1]
            · intro u hu
              simp [St.openB, h3] at hu
              exact h.rest u hu
            · left; simp [St.openB, h3]
            · cases hr : st.rest with
              | nil => exact absurd hr p1
              | cons v vs => simp [St.openB, h3, St.text, textOf, Unf.text, txts, hr, p2]
        · rw [if_neg h4] at ht; simp at ht
      · rw [if_neg h3] at ht
        have hp : st.pend = 0 := by
          rcases h.sign with e | e | e | e | e
          · exact e
          · exact absurd e h1
          · exact absurd e h2
          · exact absurd (.inl e) h3
          · exact absurd (.inr e) h3
        have est : ({ st with pend := 0 } : St) = st := by cases st; simp at hp; simp [hp]
        rw [est] at ht
        unfold St.begin at ht
        by_cases h4 : c = 43 ∨ c = 45 ∨ c = 42 ∨ c = 67 ∨ c = 63
        · rw [if_pos h4] at ht
          simp only [Option.some.injEq] at ht
          subst ht
          refine ⟨⟨h.top, h.rest, ?_, ?_⟩, ?_⟩
          · intro e; simp at e; rw [e] at h4; simp at h4
          · right
            rcases h4 with rfl | rfl | rfl | rfl | rfl <;> simp [isSgn]
          · have : c ≠ 0 := by rintro rfl; simp at h4
            simp [St.text, hp, this]
        · rw [if_neg h4] at ht
          by_cases h5 : c = 80
          · rw [if_pos h5] at ht
            simp only [Option.some.injEq] at ht
            subst ht
            obtain ⟨a, b⟩ := St.okAdd h hp (x := .prt) rfl rfl
            exact ⟨a, by rw [b, h5]; rfl⟩
          · rw [if_neg h5] at ht
            by_cases h6 : c = 93
            · rw [if_pos h6] at ht
              subst h6
              unfold St.close at ht
              cases hr : st.rest with
              | nil => simp [hr] at ht
              | cons v vs =>
                simp only [hr] at ht
                have hv := h.rest v (by simp [hr])
                by_cases h7 : st.top.second = true
                · rw [if_pos h7] at ht
                  simp only [Option.some.injEq] at ht
                  subst ht
                  have h8 := h.top.2.2 h7
                  refine ⟨⟨?_, ?_, ?_, .inl rfl⟩, ?_⟩
                  · exact Unf.okAdd hv (by simp [Stm.wf, h8.1, h.top.1]) (by simp [Stm.fk, h8.2, h.top.2.1])
                  · intro u hu; exact h.rest u (by simp [St.add] at hu; simp [hr, hu])
                  · intro e; simp [St.add] at e
                  · simp [St.text, St.add, textOf_add, hr, textOf, Unf.text, h7, hp, Stm.txt]
                · rw [if_neg h7] at ht
                  simp only [Option.some.injEq] at ht
                  subst ht
                  refine ⟨⟨h.top, hr ▸ h.rest, fun _ => ⟨by simp, by simpa using h7⟩, by simp⟩, ?_⟩
                  simp [St.text, hp, hr]
            · rw [if_neg h6] at ht
              by_cases h9 : c = 75 ∧ k = true
              · rw [if_pos h9] at ht
                simp only [Option.some.injEq] at ht
                subst ht
                obtain ⟨a, b⟩ := St.okAdd h hp (x := .pro) rfl h9.2
                exact ⟨a, by rw [b, h9.1]; rfl⟩
              · rw [if_neg h9] at ht; simp at ht

theorem takes_ok (k : Bool) (l : List UInt8) : ∀ (st st' : St), st.ok k → takes k l st = some st' → st'.ok k ∧ st'.text = st.text ++ l := by
  induction l with
  | nil => intro st st' h e; simp [takes] at e; subst e; simp [h]
  | cons c r ih =>
    intro st st' h e
    simp only [takes] at e
    cases h1 : st.take k c with
    | none => simp [h1] at e
    | some s1 =>
      simp only [h1] at e
      obtain ⟨a, b⟩ := take_ok k _ _ _ h h1
      obtain ⟨a', b'⟩ := ih _ _ a e
      exact ⟨a', by rw [b', b]; simp⟩

theorem start_ok (k : Bool) : St.start.ok k := ⟨by simp [St.start, Unf.ok, wfs, fks], by simp [St.start], by simp [St.start], .inl rfl⟩

theorem reads_sound (k : Bool) (l : List UInt8) (xs : List Stm) (h : reads k l = some xs) : l = txts xs ∧ wfs xs = true ∧ fks k xs = true := by
  unfold reads at h
  cases h1 : takes k l St.start with
  | none => simp [h1] at h
  | some st =>
    simp only [h1, Option.bind_some, St.finish] at h
    split at h
    · rename_i h2
      simp at h
      subst h
      obtain ⟨a, b⟩ := takes_ok k _ _ _ (start_ok k) h1
      refine ⟨?_, a.top.1, a.top.2.1⟩
      simp [St.text, h2.1, h2.2, textOf, St.start, txts] at b
      exact b.symm
    · simp at h

/-- the two readings are one -/
theorem reads_iff (l : List UInt8) (xs : List Stm) : reads false l = some xs ↔ pA l = some xs ∧ l.contains 75 = false := by
  constructor
  · intro h
    obtain ⟨h1, h2, h3⟩ := reads_sound false l xs h
    rw [fks_false] at h3
    exact ⟨(pA_iff l xs).2 ⟨h1, h2⟩, by rw [h1]; exact (k_iffs xs h2).2 h3⟩
  · rintro ⟨h1, h2⟩
    obtain ⟨h3, h4⟩ := (pA_iff l xs).1 h1
    rw [h3] at h2 ⊢
    exact reads_complete false xs h4 (by rw [fks_false]; exact (k_iffs xs h4).1 h2)

theorem reads_eq (l : List UInt8) : reads false l = if l.contains 75 then none else pA l := by
  cases h : reads false l with
  | some xs => obtain ⟨a, b⟩ := (reads_iff l xs).1 h; rw [b, a]; rfl
  | none =>
    by_cases hc : l.contains 75 = true
    · rw [hc]; rfl
    · simp only [Bool.not_eq_true] at hc
      rw [hc]
      cases h2 : pA l with
      | none => simp
      | some xs => have := (reads_iff l xs).2 ⟨h2, hc⟩; rw [h] at this; simp at this

theorem reads_all (l : List UInt8) : reads true l = pA l := by
  refine opt_ext (fun xs h => ?_) (fun xs h => ?_)
  · obtain ⟨h1, h2, _⟩ := reads_sound true l xs h
    exact (pA_iff l xs).2 ⟨h1, h2⟩
  · obtain ⟨h1, h2⟩ := (pA_iff l xs).1 h
    rw [h1]
    exact reads_complete true xs h2 (fks_true xs)

end Go.Proofs.YtkdnbdgpcgookaaGreatDoor.Gram
