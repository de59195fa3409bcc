/- The tree of a run's calls, plainly: the calls of a run are the trees of what is active, and the model's text of them is that of their trees. No condition; no walk. -/
import Derived.Test.YtomodlllmbkndaaGreatDoorRun
namespace Go.Proofs.YtomodlllmbkndaaGreatDoor
open Gram

def parT (t : List UInt8) : List UInt8 := if t = [] then [] else 40 :: (t ++ [41])
/-- calls at which stk is active, each with those that it does behind it; the text of their trees -/
inductive FoT : List UInt8 → List Jpt → List UInt8 → Prop
  | nil (stk : List UInt8) : FoT stk [] []
  | cons {stk : List UInt8} {c : UInt8} {sub rest : List Jpt} {t1 t2 : List UInt8} : FoT (stk ++ [c]) sub t1 → FoT stk rest t2 → FoT stk (⟨some c, stk⟩ :: (sub ++ rest)) (c :: (parT t1 ++ t2))
theorem FoT.append {stk : List UInt8} {F G : List Jpt} {t u : List UInt8} (h : FoT stk F t) (h' : FoT stk G u) : FoT stk (F ++ G) (t ++ u) := by
  induction h with
  | nil => exact h'
  | cons h1 h2 _ ih =>
    have := FoT.cons h1 (ih h')
    simpa using this
theorem FoT.empty {stk : List UInt8} {F : List Jpt} {t : List UInt8} (h : FoT stk F t) : F = [] ↔ t = [] := by
  cases h <;> simp

/-- the model's way: how deep the text is open -/
def treeStep (o : List UInt8 × Nat) (c : UInt8) (n : Nat) : List UInt8 × Nat :=
  if n = o.2 then (o.1 ++ [40, c], o.2 + 1) else (o.1 ++ List.replicate (o.2 - (n + 1)) 41 ++ [c], min o.2 (n + 1))
def treeFold (o : List UInt8 × Nat) : List Jpt → List UInt8 × Nat
  | [] => o
  | j :: js => treeFold (match j.nm with | some c => treeStep o c j.stk.length | none => o) js
theorem treeFold_append (F G : List Jpt) : ∀ o, treeFold o (F ++ G) = treeFold (treeFold o F) G := by
  induction F with
  | nil => intro o; rfl
  | cons j F ih => intro o; exact ih _
def opens (n d : Nat) : List UInt8 := if d = n then [40] else List.replicate (d - (n + 1)) 41
theorem tree_fold {stk : List UInt8} {F : List Jpt} {t : List UInt8} (h : FoT stk F t) : ∀ (out : List UInt8) (d : Nat), stk.length ≤ d →
    (F = [] ∨ ∃ X d', treeFold (out, d) F = (out ++ X, d') ∧ stk.length + 1 ≤ d' ∧ X ++ List.replicate (d' - stk.length) 41 = opens stk.length d ++ t ++ [41]) := by
  induction h with
  | nil => intro out d _; exact .inl rfl
  | @cons stk c sub rest t1 t2 h1 h2 ih1 ih2 =>
    intro out d hd
    right
    have e0 : treeStep (out, d) c stk.length = (out ++ (opens stk.length d ++ [c]), stk.length + 1) := by
      unfold treeStep opens
      by_cases hdn : stk.length = d
      · rw [if_pos hdn, if_pos hdn.symm, hdn]; rfl
      · rw [if_neg hdn, if_neg (Ne.symm hdn), List.append_assoc, Nat.min_eq_right (by show stk.length + 1 ≤ d; omega)]
    -- behind the call's own calls
    obtain ⟨X1, d1, f1, g1, k1⟩ : ∃ X1 d1, treeFold (out ++ (opens stk.length d ++ [c]), stk.length + 1) sub = (out ++ (opens stk.length d ++ [c]) ++ X1, d1) ∧ stk.length + 1 ≤ d1 ∧ X1 ++ List.replicate (d1 - (stk.length + 1)) 41 = parT t1 := by
      rcases ih1 (out ++ (opens stk.length d ++ [c])) (stk.length + 1) (by simp) with hs | ⟨X, d', p1, p2, p3⟩
      · have ht : t1 = [] := h1.empty.1 hs
        subst hs
        exact ⟨[], stk.length + 1, by simp [treeFold], Nat.le_refl _, by simp [parT, ht]⟩
      · have ht : t1 ≠ [] := by
          intro e
          rw [h1.empty.2 e] at p1
          injection p1 with q1 q2
          rw [List.length_append, List.length_singleton] at p2
          omega
        rw [List.length_append, List.length_singleton] at p2 p3
        refine ⟨X, d', p1, by omega, ?_⟩
        rw [p3, opens, if_pos rfl, parT, if_neg ht]; simp
    rcases ih2 (out ++ (opens stk.length d ++ [c]) ++ X1) d1 (by omega) with hr | ⟨X2, d2, p1, p2, p3⟩
    · have ht : t2 = [] := h2.empty.1 hr
      subst hr
      refine ⟨opens stk.length d ++ [c] ++ X1, d1, ?_, g1, ?_⟩
      · rw [List.append_nil]
        show treeFold (treeStep (out, d) c stk.length) sub = _
        rw [e0, f1]; simp
      · obtain ⟨k, rfl⟩ : ∃ k, d1 = stk.length + 1 + k := ⟨d1 - (stk.length + 1), by omega⟩
        have e1 : stk.length + 1 + k - stk.length = k + 1 := by omega
        have e2 : stk.length + 1 + k - (stk.length + 1) = k := by omega
        rw [e2] at k1
        rw [e1, List.replicate_succ', ← List.append_assoc, List.append_assoc _ X1, k1, ht]
        simp
    · refine ⟨opens stk.length d ++ [c] ++ X1 ++ X2, d2, ?_, p2, ?_⟩
      · show treeFold (treeStep (out, d) c stk.length) (sub ++ rest) = _
        rw [e0, treeFold_append, f1, p1]; simp
      · have ho : opens stk.length d1 = List.replicate (d1 - (stk.length + 1)) 41 := by
          unfold opens
          rw [if_neg (by omega)]
        rw [ho] at p3
        rw [List.append_assoc _ X2, p3, ← List.append_assoc, ← List.append_assoc, List.append_assoc _ X1, k1]
        simp
/-- the model's text of a run that begins with c -/
theorem tree_text {c : UInt8} {F : List Jpt} {t : List UInt8} (h : FoT [c] F t) : (treeFold ([c], 1) F).1 ++ List.replicate ((treeFold ([c], 1) F).2 - 1) 41 = c :: parT t ∧ 1 ≤ (treeFold ([c], 1) F).2 := by
  rcases tree_fold h [c] 1 (Nat.le_refl _) with hF | ⟨X, d', h1, h2, h3⟩
  · have ht := h.empty.1 hF
    subst hF
    subst ht
    exact ⟨rfl, Nat.le_refl _⟩
  · have ht : t ≠ [] := by
      intro e
      rw [h.empty.2 e] at h1
      injection h1 with q1 q2
      simp at h2
      omega
    rw [h1]
    simp only [List.length_singleton] at h2 h3
    refine ⟨?_, by show 1 ≤ d'; omega⟩
    show [c] ++ X ++ List.replicate (d' - 1) 41 = _
    rw [List.append_assoc, h3, opens, if_pos rfl, parT, if_neg ht]; simp

/-- how long the model's text grows -/
theorem treeFold_small : ∀ (F : List Jpt) (o : List UInt8 × Nat), (treeFold o F).1.length + (treeFold o F).2 ≤ o.1.length + o.2 + 3 * F.length
  | [], o => by simp [treeFold]
  | j :: F, o => by
    rw [treeFold]
    refine Nat.le_trans (treeFold_small F _) ?_
    cases j.nm with
    | none => simp; omega
    | some c =>
      show (treeStep o c j.stk.length).1.length + (treeStep o c j.stk.length).2 + 3 * F.length ≤ _
      unfold treeStep
      split
      · simp; omega
      · simp only [List.length_append, List.length_replicate, List.length_cons, List.length_nil]; omega
theorem treeFold_take (l : List Jpt) (k : Nat) (h : k < l.length) (o : List UInt8 × Nat) : treeFold o (l.take (k + 1)) = match l[k].nm with | some c => treeStep (treeFold o (l.take k)) c l[k].stk.length | none => treeFold o (l.take k) := by
  rw [List.take_succ_eq_append_getElem h, treeFold_append]
  simp only [treeFold]

def callPts (l : List Jpt) : List Jpt := l.filter fun j => j.nm.isSome
theorem tfold_calls : ∀ (l : List Jpt) (o : List UInt8 × Nat), treeFold o l = treeFold o (callPts l)
  | [], _ => rfl
  | j :: l, o => by
    unfold callPts
    rw [treeFold, tfold_calls l]
    cases hn : j.nm with
    | none => rw [List.filter_cons_of_neg (by simp [hn])]; rfl
    | some c => rw [List.filter_cons_of_pos (by simp [hn]), treeFold, hn]; rfl

/-- what a run of statements adds to the join points: trees of calls of what is active -/
def Adds (m r : Mst) : Prop := ∃ d t, r.pts = m.pts ++ d ∧ FoT m.stk (callPts d) t
theorem Adds.refl (m : Mst) : Adds m m := ⟨[], [], by simp, .nil _⟩
theorem exec_adds {B : UInt8 → List Stm} : ∀ (n : Nat) (m : Mst) (xs : List Stm), Adds m (exec B n m xs).1 ∧ ((exec B n m xs).2 = none → (exec B n m xs).1.stk = m.stk) := by
  intro n
  induction n with
  | zero =>
    intro m xs
    cases xs with
    | nil => rw [exec]; exact ⟨Adds.refl m, fun _ => rfl⟩
    | cons x xs => rw [exec]; exact ⟨Adds.refl m, (fun h => by cases h)⟩
  | succ n ih =>
    intro m xs
    cases xs with
    | nil => rw [exec]; exact ⟨Adds.refl m, fun _ => rfl⟩
    | cons x xs =>
      have hstep : Adds m (stepBy (exec B n) B (m.come x) x).1 ∧ ((stepBy (exec B n) B (m.come x) x).2 = none → (stepBy (exec B n) B (m.come x) x).1.stk = m.stk) := by
        have hcome : Adds m (m.come x) := by
          cases x with
          | prt => exact ⟨[⟨none, m.stk⟩], [], rfl, .nil _⟩
          | call c => exact ⟨[⟨some c, m.stk⟩], _, rfl, .cons (.nil _) (.nil _)⟩
          | chg g d => exact Adds.refl m
          | pro => exact Adds.refl m
          | cho a b => exact Adds.refl m
        have hck : (m.come x).stk = m.stk := by cases x <;> rfl
        unfold stepBy
        by_cases hs : (m.come x).steps = 500
        · rw [if_pos hs]; exact ⟨hcome, (fun h => by cases h)⟩
        · rw [if_neg hs]
          cases x with
          | chg g d => exact ⟨hcome, fun _ => rfl⟩
          | prt => exact ⟨hcome, fun _ => rfl⟩
          | pro => exact ⟨hcome, fun _ => rfl⟩
          | call c =>
            dsimp only
            by_cases hk : (m.come (.call c)).stk.length = 20
            · rw [if_pos hk]; exact ⟨hcome, (fun h => by cases h)⟩
            · rw [if_neg hk]
              obtain ⟨⟨d, t, e1, e2⟩, _⟩ := ih ((m.come (.call c)).tick.enter c) (B c)
              have key : ∀ r : Mst, r.pts = ((m.come (.call c)).tick.enter c).pts ++ d → Adds m r := by
                intro r hr
                have h3 := FoT.cons (stk := m.stk) (c := c) e2 (.nil _)
                rw [List.append_nil] at h3
                refine ⟨⟨some c, m.stk⟩ :: d, _, ?_, h3⟩
                rw [hr]
                show m.pts ++ [⟨some c, m.stk⟩] ++ d = _
                simp
              have key2 : ∀ r : Mst, r.pts = ((m.come (.call c)).tick.enter c).pts ++ d → Adds m r := by
                intro r hr
                obtain ⟨d2, t2, f1, f2⟩ := key r hr
                exact ⟨d2, t2, f1, f2⟩
              unfold callBy
              cases hr : exec B n ((m.come (.call c)).tick.enter c) (B c) with
              | mk m' e =>
                rw [hr] at e1
                cases e with
                | none => exact ⟨key2 _ e1, fun _ => rfl⟩
                | some e => exact ⟨key2 _ e1, (fun h => by cases h)⟩
          | cho a b =>
            obtain ⟨h1, h2⟩ := ih (m.come (.cho a b)).tick (if 0 < (m.come (.cho a b)).val then a else b)
            exact ⟨h1, h2⟩
      rw [exec_cons]
      cases hr : stepBy (exec B n) B (m.come x) x with
      | mk m' e =>
        rw [hr] at hstep
        obtain ⟨⟨d, t, e1, e2⟩, h2⟩ := hstep
        cases e with
        | some e => exact ⟨⟨d, t, e1, e2⟩, (fun h => by cases h)⟩
        | none =>
          obtain ⟨⟨d', t', f1, f2⟩, k2⟩ := ih m' xs
          have hsk := h2 rfl
          have hsk' : m'.stk = m.stk := hsk
          have e1' : m'.pts = m.pts ++ d := e1
          rw [hsk'] at f2
          show Adds m (exec B n m' xs).1 ∧ _
          refine ⟨⟨d ++ d', t ++ t', by rw [f1, e1', List.append_assoc], ?_⟩, fun h => (k2 h).trans hsk'⟩
          unfold callPts at *
          rw [List.filter_append]
          exact e2.append f2
end Go.Proofs.YtomodlllmbkndaaGreatDoor
