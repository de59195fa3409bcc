/- impl.place, walked by the law of ranges over a function. Conditions: at most 1000 aspects, bodies of at most 60 bytes, a statement of at most 400 bytes. -/
import Derived.RangeFuncFrom
import Derived.RangeFuncNested
import Derived.RangeFuncBound
import Derived.RangeFuncCalls
import Derived.Test.YtkdnbdgpcgookaaGreatDoorIx
import Derived.Test.YtkdnbdgpcgookaaGreatDoorBx
namespace Go.Proofs.YtkdnbdgpcgookaaGreatDoor
open Go.RowKit Go.Shelf Gram

attribute [local go_sem] Oper.semAt_some

/-- one body more -/
def stepS (o b : List Stm) : Option (List Stm) := if 400 < (txts (plugs o b)).length then none else some (plugs o b)
/-- what stands when these have come -/
def plG (bs : List (List Stm)) (s : List Stm) (pre : List Nat) : Option (List Stm) := pre.foldl (fun acc j => acc.bind fun o => stepS o (bs.getD (j % bs.length) [])) (some s)
theorem plG_snoc (bs : List (List Stm)) (s : List Stm) (pre : List Nat) (j : Nat) : plG bs s (pre ++ [j]) = (plG bs s pre).bind fun o => stepS o (bs.getD (j % bs.length) []) := by
  simp [plG]
theorem plG_bwd (bs : List (List Stm)) (s : List Stm) : ∀ k, k ≤ bs.length → plG bs s (bwdTo bs.length k) = plS (bs.drop (bs.length - k)) s := by
  intro k
  induction k with
  | zero => intro _; rw [Nat.sub_zero, List.drop_eq_nil_of_le (Nat.le_refl _)]; rfl
  | succ k ih =>
    intro hk
    rw [bwdTo_succ, plG_snoc, ih (by omega), plS_drop bs s (bs.length - (k + 1)) (by omega)]
    rw [show bs.length - (k + 1) + 1 = bs.length - k by omega, show bs.length - 1 - k = bs.length - (k + 1) by omega, Nat.mod_eq_of_lt (by omega)]
    have hg : bs.getD (bs.length - (k + 1)) [] = bs[bs.length - (k + 1)]'(by omega) := by
      rw [List.getD_eq_getElem?_getD, List.getElem?_eq_getElem (by omega)]; rfl
    rw [hg]
    cases plS (bs.drop (bs.length - k)) s with
    | none => rfl
    | some o => rfl
theorem keeps_of_below {B n₀ : Nat} {W W' : World} (h : Below n₀ W W') (hn : W.heap.size ≤ n₀) : KeepsFrom B W W' :=
  ⟨h.size, fun k o _ hk _ => by
    have hlt : k < W.heap.size := (Array.getElem?_eq_some_iff.1 hk).1
    rw [h.block k (by omega)]; exact hk⟩

/-- between two rounds -/
def PlI (w : World) (bs : List (List Stm)) (s : List Stm) (b0 b1 b3 : Nat) (pre : List Nat) (W : World) : Prop :=
  (∃ o gP cP S, plG bs s pre = some o ∧ ((txts o).length ≤ 400 ∧ wfs o = true) ∧ Boxed W b3 55 (.slice (some ⟨gP, 0, none⟩) o.length cP) ∧ IsBody W S o (.slice (some ⟨gP, 0, none⟩) o.length cP) ∧ ∀ k, S k → StB W k) ∧
    (Boxed W b0 55 (.slice none 0 0) ∧ Boxed W b1 4 (.bool false)) ∧ Below w.heap.size w W ∧ w.heap.size + 5 ≤ W.heap.size
/-- a round has left -/
def PlX (w : World) (bs : List (List Stm)) (s : List Stm) (b0 b1 : Nat) (c : Code) (pre : List Nat) (W : World) : Prop :=
  c = .ret ∧ plG bs s pre = none ∧ (Boxed W b0 55 (.slice none 0 0) ∧ Boxed W b1 4 (.bool false)) ∧ Below w.heap.size w W
theorem not_cells_same {X Y : World} {row : Option Nat} {B : Nat} (hg : X.grownBy Y row) (hr : ∀ r, row = some r → B ≤ r ∧ ∃ o : Obj, X.heap[r]? = some o ∧ o.isCells = false) {k : Nat} {cur : Array Value} {T : TypeId} {fz : Nat × Nat} (hk : X.heap[k]? = some (.cells cur T fz)) : Y.heap[k]? = X.heap[k]? := by
  refine hg.block k (heap_lt hk) fun he => ?_
  obtain ⟨_, o, ho, hc⟩ := hr k he.symm
  rw [hk] at ho; injection ho with ho; subst ho; cases hc
theorem plI_own (w : World) (bs : List (List Stm)) (s : List Stm) (b0 b1 b3 B : Nat) (hB : w.heap.size ≤ B) : OwnFrom B (PlI w bs s b0 b1 b3) := by
  rintro pre X Y row ⟨⟨o, gP, cP, S, h1, hol, h2, h3, h4⟩, ⟨h5, h6⟩, h7, h8⟩ hg hr
  have hS : ∀ k, S k → Y.heap[k]? = X.heap[k]? := fun k hk => by obtain ⟨cur, fz, hc⟩ := h4 k hk; exact not_cells_same hg hr hc
  refine ⟨⟨o, gP, cP, S, h1, hol, (not_cells_same hg hr h2).trans h2, h3.kept hS (fun _ h => h), fun k hk => ?_⟩, ⟨(not_cells_same hg hr h5).trans h5, (not_cells_same hg hr h6).trans h6⟩, ?_, Nat.le_trans h8 hg.size⟩
  · obtain ⟨cur, fz, hc⟩ := h4 k hk; exact ⟨cur, fz, by rw [hS k hk]; exact hc⟩
  · exact h7.grown hg h7.size (fun k e => Nat.le_trans hB (hr k e).1)
theorem plX_own (w : World) (bs : List (List Stm)) (s : List Stm) (b0 b1 B : Nat) (hB : w.heap.size ≤ B) (c : Code) : OwnFrom B (PlX w bs s b0 b1 c) := by
  rintro pre X Y row ⟨hc, h1, ⟨h5, h6⟩, h7⟩ hg hr
  exact ⟨hc, h1, ⟨(not_cells_same hg hr h5).trans h5, (not_cells_same hg hr h6).trans h6⟩, h7.grown hg h7.size (fun k e => Nat.le_trans hB (hr k e).1)⟩
end Go.Proofs.YtkdnbdgpcgookaaGreatDoor
