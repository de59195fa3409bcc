/- A run of a renamed program, plainly: as the run of the program, its names renamed. No condition; no walk. A run is its statements' runs, one behind another, plainly. No condition; no walk. -/
import Derived.Test.YtfmmpahbjkiomaaGreatDoorPx
import Derived.Test.YtfmmpahbjkiomaaGreatDoorRun
namespace Go.Proofs.YtfmmpahbjkiomaaGreatDoor
open Go.RowKit Gram

def renJ (a b : UInt8) (j : Jpt) : Jpt := ⟨j.nm.map (renN a b), j.stk.map (renN a b)⟩
def renM (a b : UInt8) (m : Mst) : Mst := { m with stk := m.stk.map (renN a b), pts := m.pts.map (renJ a b) }
theorem renM_come (a b : UInt8) (m : Mst) (x : Stm) : (renM a b m).come (x.ren a b) = renM a b (m.come x) := by
  cases x <;> simp [Mst.come, renM, renJ, Stm.ren]
theorem renM_tick (a b : UInt8) (m : Mst) : (renM a b m).tick = renM a b m.tick := rfl
theorem renM_enter (a b : UInt8) (m : Mst) (c : UInt8) : (renM a b m).enter (renN a b c) = renM a b (m.enter c) := by
  simp [Mst.enter, renM]
theorem renM_leave (a b : UInt8) (m : Mst) (s : List UInt8) : (renM a b m).leave (s.map (renN a b)) = renM a b (m.leave s) := rfl

theorem exec_ren {a b : UInt8} {L : List UInt8} {B B' : UInt8 → List Stm} (hB : ∀ c ∈ L, B' (renN a b c) = rens a b (B c)) (hL : ∀ c ∈ L, ∀ d ∈ callsIn (B c), d ∈ L) :
    ∀ (n : Nat) (m : Mst) (xs : List Stm), (∀ c ∈ callsIn xs, c ∈ L) → exec B' n (renM a b m) (rens a b xs) = (renM a b (exec B n m xs).1, (exec B n m xs).2) := by
  intro n
  induction n with
  | zero =>
    intro m xs _
    cases xs with
    | nil => rw [rens, exec, exec]
    | cons x xs => rw [rens, exec, exec]
  | succ n ih =>
    intro m xs hx
    cases xs with
    | nil => rw [rens, exec, exec]
    | cons x xs =>
      have hx1 : ∀ c ∈ x.calls, c ∈ L := fun c hc => hx c (by simp [callsIn, hc])
      have hx2 : ∀ c ∈ callsIn xs, c ∈ L := fun c hc => hx c (by simp [callsIn, hc])
      have hstep : ∀ m : Mst, stepBy (exec B' n) B' (renM a b m) (x.ren a b) = (renM a b (stepBy (exec B n) B m x).1, (stepBy (exec B n) B m x).2) := by
        intro m
        unfold stepBy
        by_cases hs : m.steps = 500
        · rw [if_pos (show (renM a b m).steps = 500 from hs), if_pos hs]
        · rw [if_neg (show ¬(renM a b m).steps = 500 from hs), if_neg hs]
          cases x with
          | chg g d => rfl
          | prt => rfl
          | pro => rfl
          | call c =>
            have hc : c ∈ L := hx1 c (by simp [Stm.calls])
            simp only [Stm.ren]
            by_cases hk : m.stk.length = 20
            · rw [if_pos (show (renM a b m).stk.length = 20 by show (m.stk.map _).length = 20; rw [List.length_map]; exact hk), if_pos hk]; rfl
            · rw [if_neg (show ¬(renM a b m).stk.length = 20 by show ¬(m.stk.map _).length = 20; rw [List.length_map]; exact hk), if_neg hk]
              unfold callBy
              rw [renM_tick, renM_enter, hB c hc, ih _ _ (hL c hc)]
              cases hr : exec B n (m.tick.enter c) (B c) with
              | mk m' e =>
                cases e with
                | none => rfl
                | some e => rfl
          | cho y z =>
            simp only [Stm.calls, List.mem_append] at hx1
            simp only [Stm.ren]
            rw [renM_tick]
            have hv : (if 0 < (renM a b m).val then rens a b y else rens a b z) = rens a b (if 0 < m.val then y else z) := by
              show (if 0 < m.val then _ else _) = _
              split <;> rfl
            rw [hv]
            refine ih _ _ ?_
            split
            · exact fun c hc => hx1 c (.inl hc)
            · exact fun c hc => hx1 c (.inr hc)
      rw [rens, exec_cons, exec_cons, renM_come, hstep]
      cases hr : stepBy (exec B n) B (m.come x) x with
      | mk m' e =>
        cases e with
        | none => exact ih m' xs hx2
        | some e => rfl

/-- two runs that came to the same but for what they had before; A, A': what was printed and done -/
structure Alike (A A' : List Int) (s s' : Nat) (m m' : Mst) : Prop where
  val : m'.val = m.val
  out : ∃ d, m.out = A ++ d ∧ m'.out = A' ++ d
  steps : ∃ k, m.steps = s + k ∧ m'.steps = s' + k
  stk : m'.stk.length ≤ m.stk.length
theorem Alike.tick {A A' : List Int} {s s' : Nat} {m m' : Mst} (h : Alike A A' s s' m m') : Alike A A' s s' m.tick m'.tick := by
  obtain ⟨h1, h2, ⟨k, h3, h4⟩, h5⟩ := h
  exact ⟨h1, h2, ⟨k + 1, by show m.steps + 1 = _; omega, by show m'.steps + 1 = _; omega⟩, h5⟩
theorem Alike.come {A A' : List Int} {s s' : Nat} {m m' : Mst} (h : Alike A A' s s' m m') (x : Stm) : Alike A A' s s' (m.come x) (m'.come x) := by
  cases x <;> exact ⟨h.val, h.out, h.steps, h.stk⟩
/-- what is done to its end from later on is done to its end from earlier on, in the same way; a body that is not called may be another one -/
theorem exec_alike {L : List UInt8} {B B' : UInt8 → List Stm} (hB : ∀ c ∈ L, B' c = B c) (hL : ∀ c ∈ L, ∀ d ∈ callsIn (B c), d ∈ L) {A A' : List Int} {s s' : Nat} (hs : s' ≤ s) :
    ∀ (n : Nat) (m m' r : Mst) (xs : List Stm), (∀ c ∈ callsIn xs, c ∈ L) → Alike A A' s s' m m' → m.steps ≤ 500 → m.stk.length ≤ 20 → exec B n m xs = (r, none) → ∃ r', exec B' n m' xs = (r', none) ∧ Alike A A' s s' r r' ∧ r.steps ≤ 500 ∧ r.stk = m.stk ∧ r'.stk = m'.stk := by
  intro n
  induction n with
  | zero =>
    intro m m' r xs _ ha h5 hk h
    cases xs with
    | nil => rw [exec] at h; cases h; exact ⟨m', by rw [exec], ha, h5, rfl, rfl⟩
    | cons x xs => rw [exec] at h; cases h
  | succ n ih =>
    intro m m' r xs hx ha h5 hk h
    cases xs with
    | nil => rw [exec] at h; cases h; exact ⟨m', by rw [exec], ha, h5, rfl, rfl⟩
    | cons x xs =>
      have hx1 : ∀ c ∈ x.calls, c ∈ L := fun c hc => hx c (by simp [callsIn, hc])
      have hx2 : ∀ c ∈ callsIn xs, c ∈ L := fun c hc => hx c (by simp [callsIn, hc])
      have hcs : (m.come x).steps = m.steps := by cases x <;> rfl
      have hck : (m.come x).stk = m.stk := by cases x <;> rfl
      have hck' : (m'.come x).stk = m'.stk := by cases x <;> rfl
      have hstep : ∀ (m m' r : Mst), Alike A A' s s' m m' → m.steps ≤ 500 → m.stk.length ≤ 20 → stepBy (exec B n) B m x = (r, none) → ∃ r', stepBy (exec B' n) B' m' x = (r', none) ∧ Alike A A' s s' r r' ∧ r.steps ≤ 500 ∧ r.stk = m.stk ∧ r'.stk = m'.stk := by
        intro m m' r ha h5 hk h
        unfold stepBy at h
        by_cases hs5 : m.steps = 500
        · rw [if_pos hs5] at h; cases h
        · rw [if_neg hs5] at h
          have hs5' : ¬m'.steps = 500 := by
            obtain ⟨k, k1, k2⟩ := ha.steps
            omega
          have ht5 : m.tick.steps ≤ 500 := by show m.steps + 1 ≤ 500; omega
          unfold stepBy
          rw [if_neg hs5']
          cases x with
          | chg g d =>
            cases h
            obtain ⟨h1, h2, h3, h4⟩ := ha.tick
            exact ⟨_, rfl, ⟨by show chgV m'.val g d = chgV m.val g d; rw [ha.val], h2, h3, h4⟩, ht5, rfl, rfl⟩
          | prt =>
            cases h
            obtain ⟨h1, ⟨d, h2, h2'⟩, h3, h4⟩ := ha.tick
            refine ⟨_, rfl, ⟨h1, ⟨d ++ [m.val], ?_, ?_⟩, h3, h4⟩, ht5, rfl, rfl⟩
            · show m.tick.out ++ [m.val] = _
              rw [h2, List.append_assoc]
            · show m'.tick.out ++ [m'.val] = _
              rw [h2', List.append_assoc, ha.val]
          | pro => cases h; exact ⟨_, rfl, ha.tick, ht5, rfl, rfl⟩
          | call c =>
            have hc : c ∈ L := hx1 c (by simp [Stm.calls])
            dsimp only at h ⊢
            by_cases hk20 : m.stk.length = 20
            · rw [if_pos hk20] at h; cases h
            · rw [if_neg hk20] at h
              have := ha.stk
              rw [if_neg (show ¬m'.stk.length = 20 by omega)]
              unfold callBy at h ⊢
              cases hr : exec B n (m.tick.enter c) (B c) with
              | mk r1 e =>
                rw [hr] at h
                cases e with
                | some e => cases h
                | none =>
                  cases h
                  have hen : Alike A A' s s' (m.tick.enter c) (m'.tick.enter c) := by
                    obtain ⟨h1, h2, h3, h4⟩ := ha.tick
                    refine ⟨h1, h2, h3, ?_⟩
                    simp only [Mst.enter, List.length_append, List.length_singleton]
                    omega
                  obtain ⟨r1', q1, q2, q3, q4, q5⟩ := ih _ _ _ _ (hL c hc) hen ht5 (by simp only [Mst.enter, List.length_append, List.length_singleton]; show m.stk.length + 1 ≤ 20; omega) hr
                  rw [hB c hc, q1]
                  exact ⟨_, rfl, ⟨q2.val, q2.out, q2.steps, ha.stk⟩, q3, rfl, rfl⟩
          | cho y z =>
            simp only [Stm.calls, List.mem_append] at hx1
            dsimp only at h ⊢
            rw [ha.val]
            obtain ⟨r', q1, q2, q3, q4, q5⟩ := ih _ _ _ _ (by
              split
              · exact fun c hc => hx1 c (.inl hc)
              · exact fun c hc => hx1 c (.inr hc)) ha.tick ht5 hk h
            exact ⟨r', q1, q2, q3, q4, q5⟩
      rw [exec_cons] at h
      cases hr : stepBy (exec B n) B (m.come x) x with
      | mk r1 e =>
        rw [hr] at h
        cases e with
        | some e => cases h
        | none =>
          obtain ⟨r1', q1, q2, q3, q4, q5⟩ := hstep _ _ _ (ha.come x) (by rw [hcs]; exact h5) (by rw [hck]; exact hk) hr
          rw [hck] at q4
          rw [hck'] at q5
          obtain ⟨r2, p1, p2, p3, p4, p5⟩ := ih r1 r1' r xs hx2 q2 q3 (by rw [q4]; exact hk) h
          refine ⟨r2, ?_, p2, p3, by rw [p4, q4], by rw [p5, q5]⟩
          rw [exec_cons, q1]
          exact p1
end Go.Proofs.YtfmmpahbjkiomaaGreatDoor
namespace Go.Proofs.YtfmmpahbjkiomaaGreatDoor
open Go.RowKit Gram

theorem stepBy_more {B : UInt8 → List Stm} {n n' : Nat} (ih : ∀ m xs r, exec B n m xs = (r, none) → exec B n' m xs = (r, none)) {m : Mst} {x : Stm} {r : Mst} (h : stepBy (exec B n) B m x = (r, none)) : stepBy (exec B n') B m x = (r, none) := by
  unfold stepBy at h ⊢
  by_cases hs : m.steps = 500
  · rw [if_pos hs] at h; cases h
  · rw [if_neg hs] at h ⊢
    cases x with
    | chg g d => exact h
    | prt => exact h
    | pro => exact h
    | call c =>
      dsimp only at h ⊢
      by_cases hk : m.stk.length = 20
      · rw [if_pos hk] at h; cases h
      · rw [if_neg hk] at h ⊢
        unfold callBy at h ⊢
        cases hr : exec B n (m.tick.enter c) (B c) with
        | mk m' e =>
          rw [hr] at h
          cases e with
          | some e => cases h
          | none => rw [ih _ _ _ hr]; exact h
    | cho a b => exact ih _ _ _ h
theorem exec_more {B : UInt8 → List Stm} : ∀ (n n' : Nat), n ≤ n' → ∀ (m : Mst) (xs : List Stm) (r : Mst), exec B n m xs = (r, none) → exec B n' m xs = (r, none) := by
  intro n
  induction n with
  | zero =>
    intro n' _ m xs r h
    cases xs with
    | nil => rw [exec] at h; rw [exec]; exact h
    | cons x xs => rw [exec] at h; cases h
  | succ n ih =>
    intro n' hn m xs r h
    cases xs with
    | nil => rw [exec] at h; rw [exec]; exact h
    | cons x xs =>
      obtain ⟨k, rfl⟩ : ∃ k, n' = k + 1 := ⟨n' - 1, by omega⟩
      have hk : n ≤ k := by omega
      rw [exec_cons] at h ⊢
      cases hr : stepBy (exec B n) B (m.come x) x with
      | mk m' e =>
        rw [hr] at h
        cases e with
        | some e => cases h
        | none =>
          rw [stepBy_more (fun m xs r h => ih k hk m xs r h) hr]
          exact ih k hk _ _ _ h
theorem exec_split {B : UInt8 → List Stm} : ∀ (n : Nat) (m : Mst) (xs ys : List Stm) (r : Mst), exec B n m (xs ++ ys) = (r, none) → ∃ m1, exec B n m xs = (m1, none) ∧ exec B n m1 ys = (r, none) := by
  intro n
  induction n with
  | zero =>
    intro m xs ys r h
    cases xs with
    | nil => exact ⟨m, by rw [exec], h⟩
    | cons x xs => rw [List.cons_append, exec] at h; cases h
  | succ n ih =>
    intro m xs ys r h
    cases xs with
    | nil => exact ⟨m, by rw [exec], h⟩
    | cons x xs =>
      rw [List.cons_append, exec_cons] at h
      cases hr : stepBy (exec B n) B (m.come x) x with
      | mk m' e =>
        rw [hr] at h
        cases e with
        | some e => cases h
        | none =>
          obtain ⟨m1, h1, h2⟩ := ih m' xs ys r h
          exact ⟨m1, by rw [exec_cons, hr]; exact h1, exec_more n (n + 1) (by omega) _ _ _ h2⟩

/-- the k-th statement on its own: it goes on from the value so far, and does and prints what it does within the run -/
theorem part_at {c : UInt8} {L : List UInt8} {B : UInt8 → List Stm} (hL : ∀ d ∈ L, ∀ e ∈ callsIn (B d), e ∈ L) {m0 r : Mst} {xs : List Stm} (hx : ∀ d ∈ callsIn xs, d ∈ L) (h0 : m0.steps = 0) (ho : m0.out = []) (hk : m0.stk = [c]) (h : exec B 501 m0 xs = (r, none)) (k : Nat) (hlt : k < xs.length) :
    ∃ m1 m2, exec B 501 m0 (xs.take k) = (m1, none) ∧ exec B 501 m0 (xs.take (k + 1)) = (m2, none) ∧
      ∀ (B' : UInt8 → List Stm), (∀ d ∈ L, B' d = B d) → ∀ (m' : Mst), m'.val = m1.val → m'.out = [] → m'.steps = 0 → m'.stk = [c] →
        ∃ r', exec B' 501 m' [xs[k]] = (r', none) ∧ r'.val = m2.val ∧ m2.out = m1.out ++ r'.out ∧ m2.steps = m1.steps + r'.steps := by
  have hsub : ∀ (l : List Stm), (∀ x ∈ l, x ∈ xs) → ∀ d ∈ callsIn l, d ∈ L := by
    have key : ∀ (l : List Stm) (d : UInt8), d ∈ callsIn l ↔ ∃ x ∈ l, d ∈ x.calls := by
      intro l d
      induction l with
      | nil => simp [callsIn]
      | cons x l ih => simp [callsIn, ih]
    intro l hl d hd
    obtain ⟨x, hxm, hdx⟩ := (key l d).1 hd
    exact hx d ((key xs d).2 ⟨x, hl x hxm, hdx⟩)
  have h1 := h
  rw [← List.take_append_drop (k + 1) xs] at h1
  obtain ⟨m2, e2, _⟩ := exec_split 501 m0 _ _ r h1
  have h2 := e2
  rw [List.take_succ_eq_append_getElem hlt] at h2
  obtain ⟨m1, e1, e3⟩ := exec_split 501 m0 _ _ m2 h2
  have hself : Alike m0.out m0.out m0.steps m0.steps m0 m0 := ⟨rfl, ⟨[], by simp, by simp⟩, ⟨0, rfl, rfl⟩, Nat.le_refl _⟩
  obtain ⟨_, _, _, q3, q4, _⟩ := exec_alike (B' := B) (fun _ _ => rfl) hL (Nat.le_refl _) 501 m0 m0 m1 (xs.take k) (hsub _ fun x hx => List.mem_of_mem_take hx) hself (by omega) (by rw [hk]; simp) e1
  refine ⟨m1, m2, e1, e2, ?_⟩
  intro B' hB' m' v1 v2 v3 v4
  have ha : Alike m1.out [] m1.steps 0 m1 m' := ⟨v1, ⟨[], by simp, by rw [v2]; rfl⟩, ⟨0, rfl, by rw [v3]⟩, by rw [v4, q4, hk]; exact Nat.le_refl _⟩
  obtain ⟨r', p1, ⟨s1, ⟨d, s2, s3⟩, ⟨j, s4, s5⟩, _⟩, _⟩ := exec_alike hB' hL (Nat.zero_le _) 501 m1 m' m2 [xs[k]] (hsub _ fun x hx => by rw [List.mem_singleton.1 hx]; exact List.getElem_mem hlt) ha q3 (by rw [q4, hk]; simp) e3
  exact ⟨r', p1, s1, by rw [s2, s3]; rfl, by omega⟩
end Go.Proofs.YtfmmpahbjkiomaaGreatDoor
