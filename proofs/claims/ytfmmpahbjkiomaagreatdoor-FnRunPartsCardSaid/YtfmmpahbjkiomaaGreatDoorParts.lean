/- Plain mathematics, no program: the parts of a text between its ';', a procedure's name and body, and the procedures of a text. No condition. -/
import Derived.Test.YtfmmpahbjkiomaaGreatDoorEx
import Derived.Lib.Split
namespace Go.Proofs.YtfmmpahbjkiomaaGreatDoor
open Go.RowKit Gram

/-- the parts of a text, the first one begun with p -/
def cutsP (p : List UInt8) : List UInt8 → List (List UInt8)
  | [] => [p]
  | c :: t => if c = 59 then p :: cutsP [] t else cutsP (p ++ [c]) t
def cuts (l : List UInt8) : List (List UInt8) := cutsP [] l

theorem cutsP_none (l : List UInt8) : ∀ p, 59 ∉ l → cutsP p l = [p ++ l] := by
  induction l with
  | nil => intro p _; simp [cutsP]
  | cons c t ih =>
    intro p h
    simp only [List.mem_cons, not_or] at h
    rw [cutsP, if_neg (Ne.symm h.1), ih _ h.2]
    simp
theorem cutsP_hit (a b : List UInt8) : ∀ p, 59 ∉ a → cutsP p (a ++ 59 :: b) = (p ++ a) :: cuts b := by
  induction a with
  | nil => intro p _; simp [cutsP, cuts]
  | cons c t ih =>
    intro p h
    simp only [List.mem_cons, not_or] at h
    rw [List.cons_append, cutsP, if_neg (Ne.symm h.1), ih _ h.2]
    simp

theorem index_cases (x : UInt8) (l : List UInt8) : (Lib.index l [x] = -1 ∧ x ∉ l) ∨ ∃ a b, l = a ++ x :: b ∧ x ∉ a ∧ Lib.index l [x] = (a.length : Int) := by
  induction l with
  | nil => exact .inl ⟨rfl, by simp⟩
  | cons c t ih =>
    unfold Lib.index
    by_cases hc : x = c
    · subst hc
      refine .inr ⟨[], t, rfl, by simp, ?_⟩
      simp [List.isPrefixOf]
    · have hp : [x].isPrefixOf (c :: t) = false := by simp [List.isPrefixOf, hc]
      rw [hp]
      rcases ih with ⟨h1, h2⟩ | ⟨a, b, h1, h2, h3⟩
      · left
        rw [h1]
        exact ⟨rfl, by simp [hc, h2]⟩
      · right
        refine ⟨c :: a, b, by rw [h1]; rfl, by simp [hc, h2], ?_⟩
        rw [h3]
        have : ((a.length : Int) == -1) = false := by rw [beq_eq_false_iff_ne]; omega
        simp [this]

theorem split_cuts (fuel : Nat) : ∀ l : List UInt8, l.length < fuel → Lib.splitK [59] 0 (Lib.countFrom [59] fuel l) l = cuts l := by
  induction fuel with
  | zero => intro l h; omega
  | succ fuel ih =>
    intro l h
    rcases index_cases 59 l with ⟨h1, h2⟩ | ⟨a, b, h1, h2, h3⟩
    · rw [Lib.countFrom, h1]
      show [l] = _
      rw [cuts, cutsP_none l [] h2]; rfl
    · have hne : (Lib.index l [59] == -1) = false := by rw [beq_eq_false_iff_ne, h3]; omega
      rw [Lib.countFrom, hne]
      have hn : (Lib.index l [59]).toNat = a.length := by rw [h3]; rfl
      have hd : l.drop (a.length + 1) = b := by rw [h1]; simp
      simp only [Bool.false_eq_true, if_false]
      rw [hn, show a.length + ([59] : List UInt8).length = a.length + 1 from rfl, hd, Nat.add_comm 1, Lib.splitK, hne]
      simp only [Bool.false_eq_true, if_false]
      rw [hn, show a.length + ([59] : List UInt8).length = a.length + 1 from rfl, hd, ih b (by rw [h1] at h; simp at h; omega)]
      have hc : cuts (a ++ 59 :: b) = a :: cuts b := by
        show cutsP [] (a ++ 59 :: b) = _
        rw [cutsP_hit a b [] h2]; rfl
      rw [h1, hc]
      simp

theorem splitB_cuts (s : ByteArray) : Lib.splitB ⟨#[59]⟩ 0 (Lib.countB s ⟨#[59]⟩) s = (cuts s.data.toList).map fun l => (⟨l.toArray⟩ : ByteArray) := by
  have h := Lib.splitB_data ⟨#[59]⟩ 0 (Lib.countB s ⟨#[59]⟩) s
  have h2 : Lib.splitK [59] 0 (Lib.count s.data.toList [59]) s.data.toList = cuts s.data.toList := split_cuts _ _ (by omega)
  rw [show (⟨#[59]⟩ : ByteArray).data.toList = [59] from rfl] at h
  rw [show Lib.countB s ⟨#[59]⟩ = Lib.count s.data.toList [59] from rfl] at h ⊢
  rw [h2] at h
  rw [← h, List.map_map]
  exact (List.map_id _).symm.trans (List.map_congr_left fun x _ => rfl)
theorem splitB_len (s : ByteArray) : (cuts s.data.toList).length = Lib.countB s ⟨#[59]⟩ + 1 := by
  have key : ∀ fuel (l : List UInt8), l.length < fuel → (cuts l).length = Lib.countFrom [59] fuel l + 1 := by
    intro fuel
    induction fuel with
    | zero => intro l h; omega
    | succ fuel ih =>
      intro l h
      rcases index_cases 59 l with ⟨h1, h2⟩ | ⟨a, b, h1, h2, h3⟩
      · rw [Lib.countFrom, h1, cuts, cutsP_none l [] h2]; rfl
      · have hne : (Lib.index l [59] == -1) = false := by rw [beq_eq_false_iff_ne, h3]; omega
        have hn : (Lib.index l [59]).toNat = a.length := by rw [h3]; rfl
        have hd : l.drop (a.length + 1) = b := by rw [h1]; simp
        rw [Lib.countFrom, hne]
        simp only [Bool.false_eq_true, if_false]
        rw [hn, show a.length + ([59] : List UInt8).length = a.length + 1 from rfl, hd]
        have := ih b (by rw [h1] at h; simp at h; omega)
        have hc : cuts (a ++ 59 :: b) = a :: cuts b := by
          show cutsP [] (a ++ 59 :: b) = _
          rw [cutsP_hit a b [] h2]; rfl
        rw [h1, hc, List.length_cons, this]; omega
  exact key _ _ (by omega)

/-- the procedures of parts: the name and the body's statements -/
abbrev Pr := UInt8 × List Stm
def procOf (p : List UInt8) : Option Pr :=
  match p with
  | n :: c :: r => if isLet n = true ∧ c = 58 then (bodyOf ⟨r.toArray⟩).map fun b => (n, b) else none
  | _ => none
def lastBelow (acc : List Pr) (n : UInt8) : Bool := match acc.getLast? with | none => true | some p => decide (p.1 < n)
def procsOf (acc : List Pr) : List (List UInt8) → Option (List Pr)
  | [] => some acc
  | p :: ps => match procOf p with
    | none => none
    | some x => if lastBelow acc x.1 = true then procsOf (acc ++ [x]) ps else none

mutual
/-- the names that are called, each as often as it is -/
def _root_.Go.Proofs.YtfmmpahbjkiomaaGreatDoor.Gram.Stm.calls : Stm → List UInt8
  | .call c => [c]
  | .cho a b => callsIn a ++ callsIn b
  | _ => []
def callsIn : List Stm → List UInt8
  | [] => []
  | x :: xs => x.calls ++ callsIn xs
end
def namesOf (ps : List Pr) : List UInt8 := ps.map (·.1)
def ownCalls (ps : List Pr) : Bool := ps.all fun p => (callsIn p.2).all fun c => (namesOf ps).contains c
/-- the procedures of a text, if it is a program -/
def progOf (s : ByteArray) : Option (List Pr) :=
  if s.size ≤ 400 then (procsOf [] (cuts s.data.toList)).bind fun ps => if ownCalls ps then some ps else none else none

/-- what strings.Cut at ':' makes of a part -/
theorem cut_colon (p : List UInt8) : procOf p = (let c := Lib.cut p [58]; match c.1 with | [n] => if isLet n = true ∧ c.2.2 = true then (bodyOf ⟨c.2.1.toArray⟩).map fun b => (n, b) else none | _ => none) := by
  rcases index_cases 58 p with ⟨h1, h2⟩ | ⟨a, b, h1, h2, h3⟩
  · have hc : Lib.cut p [58] = (p, [], false) := by unfold Lib.cut; rw [h1]; rfl
    rw [hc]
    dsimp only
    match p, h2 with
    | [], _ => rfl
    | [n], _ => simp [procOf]
    | n :: c :: r, h2 =>
      simp only [List.mem_cons, not_or] at h2
      have : ¬ (isLet n = true ∧ c = 58) := fun h => h2.2.1 h.2.symm
      simp only [procOf, if_neg this]
  · have hc : Lib.cut p [58] = (a, b, true) := by
      unfold Lib.cut
      rw [h3, if_pos (by omega)]
      show (p.take a.length, p.drop (a.length + 1), true) = _
      rw [h1]; simp
    rw [hc]
    dsimp only
    subst h1
    match a, h2 with
    | [], _ =>
      cases b with
      | nil => rfl
      | cons c r => simp [procOf, isLet]
    | [n], _ => simp [procOf]
    | n :: c :: r, h2 =>
      simp only [List.mem_cons, not_or] at h2
      have : ¬ (isLet n = true ∧ c = 58) := fun h => h2.2.1 h.2.symm
      simp only [procOf, List.cons_append, if_neg this]
end Go.Proofs.YtfmmpahbjkiomaaGreatDoor
