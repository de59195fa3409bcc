/- Plain mathematics, no program: the join points of a run follow its calls: the first procedure is the first one in all of them, each call is one of the last active procedure's, what is active came by a call before, and the depth is the most or one more. No condition. The program's DepthOf: how many procedures were active at most. Conditions: as of runOf. How much a run holds; rows that stay. Plain lemmas. JoinPointsOf of the program and of the model. Conditions: texts of at most 2^30 bytes, and the library's own number can be read. What the law FnJoinPoints asks of the join points of a run. Plain lemmas. The model's DrawJoinPointsOf; the laws' wvIn: whether a byte is in a text. Condition: texts of at most 2^40 bytes. The model's DepthOf; the law FnExactDepthOf answers true at every two texts and number. Condition: the library's own number can be read. The law FnJoinPoints answers true whatever bytes it is given. Condition: the library's own number can be read. -/
import Derived.Test.YtichibmnbmbeeaaGreatDoorRun
import Derived.Test.YtichibmnbmbeeaaGreatDoorParts
import Derived.Test.YtichibmnbmbeeaaGreatDoorRx
import Derived.Test.YtichibmnbmbeeaaGreatDoorMx
import Derived.Test.YtichibmnbmbeeaaGreatDoorTx
import Derived.Test.YtichibmnbmbeeaaGreatDoorJx
namespace Go.Proofs.YtichibmnbmbeeaaGreatDoor.Gram

/-- the procedure that is done -/
def topOf (s : List UInt8) : UInt8 := s.getLastD 0

/-- what is active has come by a call -/
def CameBy (l : List Jpt) (s : List UInt8) : Prop := s.length ≤ 1 ∨ ∃ k ∈ l, ∃ c, k.nm = some c ∧ s = k.stk ++ [c]
theorem CameBy.snoc {l : List Jpt} {s : List UInt8} (h : CameBy l s) (j : Jpt) : CameBy (l ++ [j]) s := by
  rcases h with h | ⟨k, hk, c, h1, h2⟩
  · exact .inl h
  · exact .inr ⟨k, List.mem_append_left _ hk, c, h1, h2⟩

/-- each of some join points came by a call that is before it -/
def AllCame : List Jpt → Prop := fun l => ∀ (i : Nat) (h : i < l.length), CameBy (l.take i) l[i].stk
theorem AllCame.snoc {l : List Jpt} (h : AllCame l) {j : Jpt} (hj : CameBy l j.stk) : AllCame (l ++ [j]) := by
  intro i hi
  rw [List.length_append, List.length_singleton] at hi
  by_cases hl : i < l.length
  · rw [List.getElem_append_left hl, List.take_append_of_le_length (Nat.le_of_lt hl)]
    exact h i hl
  · have he : i = l.length := by omega
    subst he
    rw [List.take_append_of_le_length (Nat.le_refl _), List.take_length]
    simpa using hj

/-- what is known of a run's join points so far; c0: the first procedure; B: the bodies -/
structure Led (B : UInt8 → List Stm) (c0 : UInt8) (m : Mst) : Prop where
  head : m.stk.head? = some c0
  heads : ∀ j ∈ m.pts, j.stk.head? = some c0
  calls : ∀ j ∈ m.pts, ∀ c, j.nm = some c → c ∈ callsIn (B (topOf j.stk))
  came : AllCame m.pts
  now : CameBy m.pts m.stk
  deepAt : m.stk.length ≤ m.deep
  deeps : ∀ j ∈ m.pts, j.stk.length ≤ m.deep
  most : m.deep ≤ 1 ∨ ∃ j ∈ m.pts, m.deep = j.stk.length + 1

theorem Led.tick {B : UInt8 → List Stm} {c0 : UInt8} {m : Mst} (h : Led B c0 m) : Led B c0 m.tick := ⟨h.head, h.heads, h.calls, h.came, h.now, h.deepAt, h.deeps, h.most⟩
theorem Led.more {B : UInt8 → List Stm} {c0 : UInt8} {m : Mst} (h : Led B c0 m) (n : Option UInt8) (hc : ∀ c, n = some c → c ∈ callsIn (B (topOf m.stk))) : Led B c0 { m with pts := m.pts ++ [⟨n, m.stk⟩] } := by
  refine ⟨h.head, ?_, ?_, h.came.snoc h.now, h.now.snoc _, h.deepAt, ?_, ?_⟩
  · intro j hj
    rcases List.mem_append.1 hj with hj | hj
    · exact h.heads j hj
    · rw [List.mem_singleton.1 hj]; exact h.head
  · intro j hj c hjc
    rcases List.mem_append.1 hj with hj | hj
    · exact h.calls j hj c hjc
    · rw [List.mem_singleton.1 hj] at hjc ⊢; exact hc c hjc
  · intro j hj
    rcases List.mem_append.1 hj with hj | hj
    · exact h.deeps j hj
    · rw [List.mem_singleton.1 hj]; exact h.deepAt
  · rcases h.most with hm | ⟨j, hj, hm⟩
    · exact .inl hm
    · exact .inr ⟨j, List.mem_append_left _ hj, hm⟩
theorem Led.come {B : UInt8 → List Stm} {c0 : UInt8} {m : Mst} (h : Led B c0 m) (x : Stm) (hx : ∀ c ∈ callsIn [x], c ∈ callsIn (B (topOf m.stk))) : Led B c0 (m.come x) := by
  cases x with
  | prt => exact h.more none (fun c hc => by cases hc)
  | call c => exact h.more (some c) (fun d hd => by injection hd with hd; subst hd; exact hx _ (by simp [callsIn, Stm.calls]))
  | _ => exact h

/-- what is known of doing statements -/
def Leads (B : UInt8 → List Stm) (c0 : UInt8) (ex : Mst → List Stm → Mst × Option Fin) : Prop :=
  ∀ (m : Mst) (xs : List Stm), Led B c0 m → (∀ c ∈ callsIn xs, c ∈ callsIn (B (topOf m.stk))) →
    Led B c0 (ex m xs).1 ∧ (∃ l, (ex m xs).1.pts = m.pts ++ l) ∧ m.deep ≤ (ex m xs).1.deep ∧ ((ex m xs).2 = none → (ex m xs).1.stk = m.stk)

theorem CameBy.pre {l : List Jpt} {s : List UInt8} (h : CameBy l s) (l' : List Jpt) : CameBy (l ++ l') s := by
  rcases h with h | ⟨k, hk, c, h1, h2⟩
  · exact .inl h
  · exact .inr ⟨k, List.mem_append_left _ hk, c, h1, h2⟩
theorem Led.enter {B : UInt8 → List Stm} {c0 c : UInt8} {m : Mst} (h : Led B c0 m) (hp : (⟨some c, m.stk⟩ : Jpt) ∈ m.pts) : Led B c0 (m.enter c) := by
  refine ⟨?_, h.heads, h.calls, h.came, .inr ⟨_, hp, c, rfl, rfl⟩, ?_, ?_, ?_⟩
  · show (m.stk ++ [c]).head? = some c0
    have := h.head
    cases hs : m.stk with
    | nil => rw [hs] at this; cases this
    | cons x t => rw [hs] at this; exact this
  · show (m.stk ++ [c]).length ≤ max m.deep (m.stk.length + 1)
    rw [List.length_append, List.length_singleton]; omega
  · intro j hj
    have := h.deeps j hj
    show j.stk.length ≤ max m.deep (m.stk.length + 1)
    omega
  · by_cases hd : m.stk.length + 1 ≤ m.deep
    · have he : max m.deep (m.stk.length + 1) = m.deep := by omega
      rcases h.most with hm | ⟨j, hj, hm⟩
      · exact .inl (by show max m.deep (m.stk.length + 1) ≤ 1; omega)
      · exact .inr ⟨j, hj, by show max m.deep (m.stk.length + 1) = _; omega⟩
    · exact .inr ⟨_, hp, by show max m.deep (m.stk.length + 1) = m.stk.length + 1; omega⟩
theorem top_enter (s : List UInt8) (c : UInt8) : topOf (s ++ [c]) = c := by rw [topOf, List.getLastD_eq_getLast?, List.getLast?_append]; rfl

theorem callBy_leads {B : UInt8 → List Stm} {c0 : UInt8} {ex : Mst → List Stm → Mst × Option Fin} (hex : Leads B c0 ex) {m : Mst} (h : Led B c0 m) {c : UInt8} (hp : (⟨some c, m.stk⟩ : Jpt) ∈ m.pts) :
    Led B c0 (callBy ex B m c).1 ∧ (∃ l, (callBy ex B m c).1.pts = m.pts ++ l) ∧ m.deep ≤ (callBy ex B m c).1.deep ∧ ((callBy ex B m c).2 = none → (callBy ex B m c).1.stk = m.stk) := by
  obtain ⟨k1, ⟨l, k2⟩, k3, k4⟩ := hex (m.enter c) (B c) (h.enter hp) (fun d hd => by
    show d ∈ callsIn (B (topOf (m.stk ++ [c])))
    rw [top_enter]; exact hd)
  have k3' : m.deep ≤ (ex (m.enter c) (B c)).1.deep := Nat.le_trans (Nat.le_max_left _ _) k3
  have k2' : (ex (m.enter c) (B c)).1.pts = m.pts ++ l := k2
  unfold callBy
  cases hr : ex (m.enter c) (B c) with
  | mk m' o =>
    rw [hr] at k1 k2' k3' k4
    cases o with
    | none =>
      have hd := h.deepAt
      dsimp only at k2' k3'
      exact ⟨⟨h.head, k1.heads, k1.calls, k1.came, by show CameBy m'.pts m.stk; rw [k2']; exact h.now.pre l, by show m.stk.length ≤ m'.deep; omega, k1.deeps, k1.most⟩, ⟨l, k2'⟩, k3', fun _ => rfl⟩
    | some e => exact ⟨k1, ⟨l, k2'⟩, k3', fun h => by cases h⟩

theorem stepBy_leads {B : UInt8 → List Stm} {c0 : UInt8} {ex : Mst → List Stm → Mst × Option Fin} (hex : Leads B c0 ex) {m : Mst} (h : Led B c0 m) (x : Stm) (hx : ∀ c ∈ x.calls, c ∈ callsIn (B (topOf m.stk))) :
    Led B c0 (stepBy ex B (m.come x) x).1 ∧ (∃ l, (stepBy ex B (m.come x) x).1.pts = m.pts ++ l) ∧ m.deep ≤ (stepBy ex B (m.come x) x).1.deep ∧ ((stepBy ex B (m.come x) x).2 = none → (stepBy ex B (m.come x) x).1.stk = m.stk) := by
  have hc := h.come x (fun c hc => hx c (by simpa [callsIn] using hc))
  have hcs : (m.come x).stk = m.stk := by cases x <;> rfl
  have hcd : (m.come x).deep = m.deep := by cases x <;> rfl
  have hcp : ∃ l, (m.come x).pts = m.pts ++ l := by
    cases x with
    | prt => exact ⟨_, rfl⟩
    | call c => exact ⟨_, rfl⟩
    | _ => exact ⟨[], (List.append_nil _).symm⟩
  unfold stepBy
  by_cases hs : (m.come x).steps = 500
  · rw [if_pos hs]
    exact ⟨hc, hcp, by rw [hcd]; exact Nat.le_refl _, fun h => by cases h⟩
  · rw [if_neg hs]
    have ht := hc.tick
    cases x with
    | chg g d => exact ⟨⟨ht.head, ht.heads, ht.calls, ht.came, ht.now, ht.deepAt, ht.deeps, ht.most⟩, hcp, Nat.le_refl _, fun _ => rfl⟩
    | prt => exact ⟨⟨ht.head, ht.heads, ht.calls, ht.came, ht.now, ht.deepAt, ht.deeps, ht.most⟩, hcp, Nat.le_refl _, fun _ => rfl⟩
    | pro => exact ⟨ht, hcp, Nat.le_refl _, fun _ => rfl⟩
    | call c =>
      dsimp only
      by_cases hd : (m.come (.call c)).stk.length = 20
      · rw [if_pos hd]
        exact ⟨ht, hcp, Nat.le_refl _, fun h => by cases h⟩
      · rw [if_neg hd]
        obtain ⟨k1, ⟨l, k2⟩, k3, k4⟩ := callBy_leads hex ht (c := c) (List.mem_append_right _ (List.mem_singleton.2 rfl))
        refine ⟨k1, ⟨[⟨some c, m.stk⟩] ++ l, ?_⟩, k3, k4⟩
        rw [k2]
        show (m.pts ++ [_]) ++ l = _
        rw [List.append_assoc]
    | cho a b =>
      dsimp only
      have hab : ∀ c ∈ callsIn (if 0 < (m.come (.cho a b)).val then a else b), c ∈ callsIn (B (topOf m.stk)) := fun c hc => hx c (by
        simp only [Stm.calls, List.mem_append]
        split at hc
        · exact .inl hc
        · exact .inr hc)
      exact hex (m.come (.cho a b)).tick _ ht hab

theorem exec_leads (B : UInt8 → List Stm) (c0 : UInt8) (n : Nat) : Leads B c0 (exec B n) := by
  induction n with
  | zero =>
    intro m xs h hx
    cases xs with
    | nil => exact ⟨h, ⟨[], (List.append_nil _).symm⟩, Nat.le_refl _, fun _ => rfl⟩
    | cons x xs => exact ⟨h, ⟨[], (List.append_nil _).symm⟩, Nat.le_refl _, fun h => by cases h⟩
  | succ n ih =>
    intro m xs h hx
    cases xs with
    | nil => exact ⟨h, ⟨[], (List.append_nil _).symm⟩, Nat.le_refl _, fun _ => rfl⟩
    | cons x xs =>
      obtain ⟨s1, ⟨l, s2⟩, s3, s4⟩ := stepBy_leads ih h x (fun c hc => hx c (by simp [callsIn, hc]))
      rw [exec]
      cases hr : stepBy (exec B n) B (m.come x) x with
      | mk m' o =>
        rw [hr] at s1 s2 s3 s4
        cases o with
        | none =>
          have s4' : m'.stk = m.stk := s4 rfl
          obtain ⟨t1, ⟨l2, t2⟩, t3, t4⟩ := ih m' xs s1 (fun c hc => by rw [s4']; exact hx c (by simp [callsIn, hc]))
          exact ⟨t1, ⟨l ++ l2, by dsimp only at s2 ⊢; rw [t2, s2, List.append_assoc]⟩, Nat.le_trans s3 t3, fun h => by rw [t4 h, s4']⟩
        | some e => exact ⟨s1, ⟨l, s2⟩, s3, fun h => by cases h⟩

/-- of a whole run -/
theorem run_leads (B : UInt8 → List Stm) (c : UInt8) (v : Int) :
    (∀ j ∈ (runOf B c v).1.pts, j.stk.head? = some c) ∧ (∀ j ∈ (runOf B c v).1.pts, ∀ d, j.nm = some d → d ∈ callsIn (B (topOf j.stk))) ∧ AllCame (runOf B c v).1.pts ∧
    1 ≤ (runOf B c v).1.deep ∧ (∀ j ∈ (runOf B c v).1.pts, j.stk.length ≤ (runOf B c v).1.deep) ∧ ((runOf B c v).1.deep ≤ 1 ∨ ∃ j ∈ (runOf B c v).1.pts, (runOf B c v).1.deep = j.stk.length + 1) := by
  have h0 : Led B c ((Mst.start v).enter c) := ⟨rfl, (fun j hj => nomatch hj), (fun j hj => nomatch hj), (fun i hi => absurd hi (Nat.not_lt_zero i)), .inl (Nat.le_refl _), Nat.le_refl _, (fun j hj => nomatch hj), .inl (Nat.le_refl _)⟩
  obtain ⟨k1, _, k3, _⟩ := exec_leads B c 501 ((Mst.start v).enter c) (B c) h0 (fun d hd => hd)
  unfold runOf callBy
  cases hr : exec B 501 ((Mst.start v).enter c) (B c) with
  | mk m' o =>
    rw [hr] at k1 k3
    cases o with
    | none => exact ⟨k1.heads, k1.calls, k1.came, k3, k1.deeps, k1.most⟩
    | some e => exact ⟨k1.heads, k1.calls, k1.came, k3, k1.deeps, k1.most⟩
end Go.Proofs.YtichibmnbmbeeaaGreatDoor.Gram
namespace Go.Proofs.YtichibmnbmbeeaaGreatDoor
open Go.RowKit Gram

/-- the greatest depth of a run, -1 if there is none -/
def depP (s nm : ByteArray) (v : Int) : Int := match runP s nm v with | some r => (r.1.deep : Int) | none => -1

set_option maxHeartbeats 2000000 in
set_option maxRecDepth 100000 in
theorem impl_dep (s nm : ByteArray) (v : Int) (w : World) (hs : s.size ≤ 1073741824) (hm : MaxCell w) :
    Calls Tryz.prog 15 #[.string s, .string nm, .int .i64 v] w fun e w' => e = .returned (.int .i64 (depP s nm v)) ∧ Below w.heap.size w w' := by
  have HF := Lib.hid (run_of s nm v w hs hm)
  clear hm hs
  cases hr : runP s nm v with
  | none =>
    have HR := Lib.hid (show depP s nm v = -1 by rw [depP, hr])
    go_enter Tryz.func15, Tryz.ntmps15
    go_wp2_with fail
    refine HF.out.mono ?_
    rintro e w1 ⟨hx, hb⟩
    rw [hr] at hx
    subst hx
    have HB := Lib.hid hb
    clear hb hr
    go_wp2_with fail
    go_ret
    exact ⟨ret_int HR.out.symm, HB.out⟩
  | some r =>
    have HR := Lib.hid (show depP s nm v = (r.1.deep : Int) by rw [depP, hr])
    go_enter Tryz.func15, Tryz.ntmps15
    go_wp2_with fail
    refine HF.out.mono ?_
    rintro e w1 ⟨hx, hb⟩
    rw [hr] at hx
    obtain ⟨B, rb, S, qs, pv, oa, ja, oc, jc, rfl, hB, hD, hPw, hpr⟩ := hx
    have c7 : w1.cell? ⟨rb, 7, none⟩ = some (.int .i64 r.1.deep) := hD.cell 7
    have HB := Lib.hid hb
    clear hb hr hB hD hPw hpr
    go_wp2_with fail
    go_ret
    exact ⟨ret_int HR.out.symm, HB.out⟩
end Go.Proofs.YtichibmnbmbeeaaGreatDoor
namespace Go.Proofs.YtichibmnbmbeeaaGreatDoor
open Go.RowKit Gram

/-- a row that lies lower than a block that has grown -/
theorem row_under {w w' : World} {B : Nat} {row : Option Nat} {e : TypeId} {sz n : Nat} {v : Value} {xs : List Value} (h : w.ownsRow B e sz v n xs) (hg : w.grownBy w' row) (hne : ∀ j, v.ownBlock = some j → row ≠ some j) : w'.ownsRow B e sz v n xs :=
  ownsRow_of h (fun j hj => hg.block j (h.lt j hj).2 (fun he => hne j hj he.symm))
theorem row_up {w w' : World} {B : Nat} {e : TypeId} {sz n : Nat} {v : Value} {xs : List Value} (h : w.ownsRow B e sz v n xs) (hb : Below w.heap.size w w') : w'.ownsRow B e sz v n xs :=
  ownsRow_of h (fun j hj => hb.block j (h.lt j hj).2)

/-- how much a run holds -/
theorem runP_small {s nm : ByteArray} {v : Int} {r : Mst × Option Fin} (h : runP s nm v = some r) : r.1.out.length ≤ 500 ∧ r.1.pts.length ≤ 501 := by
  unfold runP at h
  cases hp : progOf s with
  | none => rw [hp] at h; cases h
  | some ps =>
    cases hl : lookP s nm with
    | none => rw [hp, hl] at h; cases h
    | some p =>
      rw [hp, hl] at h
      dsimp only at h
      split at h
      · rename_i hv
        injection h with h
        have hlet : isLet p.1 = true := ((prog_facts hp).2.1 p (look_mem hp hl).1).2.2.2
        have hB : ∀ c, wfs (bodyP ps c) = true := fun c => by
          unfold bodyP
          split
          · rename_i q hq
            exact (fits_ps hp q (List.mem_of_find?_eq_some hq)).1
          · rfl
        have hk := exec_keeps hB 501 ((Mst.start v).enter p.1) (bodyP ps p.1) (start_ok hv.1 hv.2 hlet) (hB p.1)
        unfold runOf callBy at h
        cases hr : exec (bodyP ps) 501 ((Mst.start v).enter p.1) (bodyP ps p.1) with
        | mk m' o =>
          rw [hr] at h hk
          have h1 := hk.1.out
          have h2 := hk.1.steps
          have h3 := hk.1.pts
          cases o with
          | none => subst h; exact ⟨by show m'.out.length ≤ 500; dsimp only at h1 h2; omega, by show m'.pts.length ≤ 501; dsimp only at h3 h2; omega⟩
          | some f => subst h; exact ⟨by show m'.out.length ≤ 500; dsimp only at h1 h2; omega, by show m'.pts.length ≤ 501; dsimp only at h3 h2; omega⟩
      · cases h
end Go.Proofs.YtichibmnbmbeeaaGreatDoor
namespace Go.Proofs.YtichibmnbmbeeaaGreatDoor
open Go.RowKit Gram

/-- the join points of a run, if there is one -/
def ptsP (o : Option (Mst × Option Fin)) : List Jpt := match o with
  | some r => r.1.pts
  | none => []
/-- what JoinPointsOf hands back -/
def PtsTo (o : Option (Mst × Option Fin)) (w : World) (e : Ending) (w' : World) : Prop :=
  (∃ a c, e = .returned (.tuple #[.slice a (ptsP o).length c, .bool o.isSome]) ∧ w'.ownsRow w.heap.size 29 3 (.slice a (ptsP o).length c) (ptsP o).length (jpC (ptsP o))) ∧ Below w.heap.size w w'

set_option maxHeartbeats 1000000 in
set_option maxRecDepth 100000 in
theorem impl_pts (s nm : ByteArray) (v : Int) (w : World) (hs : s.size ≤ 1073741824) (hm : MaxCell w) :
    Calls Tryz.prog 11 #[.string s, .string nm, .int .i64 v] w (PtsTo (runP s nm v) w) := by
  have HF := Lib.hid (run_of s nm v w hs hm)
  clear hm hs
  cases hr : runP s nm v with
  | none =>
    go_enter Tryz.func11, Tryz.ntmps11
    go_wp2_with fail
    refine HF.out.mono ?_
    rintro e w1 ⟨hx, hb⟩
    rw [hr] at hx
    subst hx
    have HB := Lib.hid hb
    clear hb hr
    go_wp2_with fail
    go_ret2
    exact ⟨⟨none, 0, rfl, World.ownsRow_nil _ _ _ _⟩, HB.out⟩
  | some r =>
    go_enter Tryz.func11, Tryz.ntmps11
    go_wp2_with fail
    refine HF.out.mono ?_
    rintro e w1 ⟨hx, hb⟩
    rw [hr] at hx
    obtain ⟨B, rb, S, qs, pv, oa, ja, oc, jc, rfl, hB, hD, hPw, hpr⟩ := hx
    have c5 : w1.cell? ⟨rb, 5, none⟩ = some (.slice ja r.1.pts.length jc) := hD.cell 5
    have HB := Lib.hid (⟨hb, hD, hB⟩ : _ ∧ _ ∧ _)
    clear hb hr hB hD hPw hpr
    go_wp2_with fail
    go_ret2
    exact ⟨⟨ja, jc, rfl, ownsRow_base HB.out.2.1.pts fun g hg => Nat.le_trans HB.out.2.2 (row_block HB.out.2.1.pts hg).1⟩, HB.out.1⟩

/-- join points put behind an empty row -/
theorem app_row (W : World) (B g0 : Nat) (h0 : W.heap[g0]? = some (Obj.cells #[] 29 (0, 0))) (hB : B ≤ g0) (B' n c : Nat) (a : Option Addr) (js : List Jpt) (hs : W.ownsRow B' 29 3 (.slice a n c) n (jpC js)) (hn : n ≤ 1000) :
    ∃ g c' w', (Builtin.append_ #[25, 25] 25 #[.slice (some ⟨g0, 0, none⟩) 0 0, .slice a n c]).run Tryz.prog W = .ok (.slice (some ⟨g, 0, none⟩) n c') w' ∧
      w'.ownsRow B 29 3 (.slice (some ⟨g, 0, none⟩) n c') n (jpC js) ∧ W.grownBy w' (some g0) := by
  obtain ⟨i0, hi, hz0, hz1, hz2⟩ := info_parts info_jp
  have hl : js.length = n := by have := hs.1; rw [jpC_len] at this; omega
  have hrow : W.ownsRow B 29 3 (.slice (some ⟨g0, 0, none⟩) 0 0) 0 [] := ⟨rfl, .inr ⟨g0, 0, #[], rfl, hB, h0, Nat.le_refl _, Nat.zero_le _, by simp, by simp⟩⟩
  by_cases hn0 : n = 0
  · subst hn0
    have hjs : js = [] := List.length_eq_zero_iff.1 hl
    subst hjs
    have hsrc : Src Tryz.prog i0.size 25 (.slice a 0 c) 0 [] W := by
      cases a with
      | none => exact Src.ofNil W Tryz.underlying25 c
      | some a => exact Src.ofSlice W Tryz.underlying25 a 0 c [] (by simp) (fun j u h => by simp at h) (fun _ h => by cases h)
    exact ⟨g0, 0, W, run_append_nothing W _ _ _ 29 i0 Tryz.underlying25 hi (some ⟨g0, 0, none⟩) 0 0 (Nat.le_refl _) _ hsrc, hrow, ⟨rfl, rfl, rfl, Nat.le_refl _, fun _ _ _ => rfl⟩⟩
  · rcases hs.2 with ⟨h1, h2⟩ | ⟨gs, cap, cur, h1, _, hc, _⟩
    · omega
    · injection h1 with h1 _ h3
      subst h1; subst h3
      obtain ⟨g', c', w', hrun, h2, h3, _, _⟩ := run_append_lies (P := Tryz.prog) W 25 25 B 29 i0 (.agg #[.string ⟨#[]⟩, .string ⟨#[]⟩, .string ⟨#[]⟩]) 3 48 Tryz.underlying25 hi hz0 hz1 hz2 rfl (by decide) (.slice (some ⟨g0, 0, none⟩) 0 0) 0 [] hrow ⟨gs, 0, none⟩ n c (jpC js) (by rw [jpC_len, hl])
        (fun j u hu => by
          rw [Go.WideShapes.add_plain, Nat.zero_add]
          exact row_cell hs j u hu) (by
          intro u hu
          simp only [jpC, List.mem_flatMap] at hu
          obtain ⟨j, _, hj⟩ := hu
          simp at hj
          rcases hj with rfl | rfl | rfl <;> rfl) (by omega) (by unfold maxLen; omega) (by omega) (by have := heap_lt h0; omega) W.heap.size rfl
      rw [Nat.zero_add] at hrun h2
      exact ⟨g', c', w', hrun, h2, h3⟩

set_option maxHeartbeats 1000000 in
set_option maxRecDepth 100000 in
theorem spec_pts (s nm : ByteArray) (v : Int) (w : World) (hs : s.size ≤ 1073741824) :
    Calls Tryz.prog 12 #[.string s, .string nm, .int .i64 v] w (PtsTo (runP s nm v) w) := by
  have hba : Below w.heap.size w (w.alloc (Obj.cells #[] 171)) := (Below.refl _ _).alloc (Nat.le_refl _) _
  have HF := Lib.hid (start_any s nm v (some ⟨w.heap.size, 0, none⟩) 0 (w.alloc (Obj.cells #[] 171)) hs)
  have HA := Lib.hid hba
  have HZ := Lib.hid (alloc_size' w (Obj.cells #[] 171))
  clear hs hba
  cases hr : runP s nm v with
  | none =>
    go_enter Tryz.func12, Tryz.ntmps12
    go_wp2_with fail
    refine HF.out.mono ?_
    rintro e w1 ⟨hx, hb⟩
    rw [hr] at hx
    obtain ⟨rb, rfl⟩ := hx
    have HB := Lib.hid (HA.out.trans (hb.mono HA.out.size))
    clear hb hr
    go_wp2_with fail
    go_ret2
    exact ⟨⟨some ⟨w1.heap.size, 0, none⟩, 0, rfl, ⟨rfl, .inr ⟨w1.heap.size, 0, #[], rfl, HB.out.size, heap_alloc_new w1 _, Nat.le_refl _, Nat.zero_le _, by simp [ptsP], by simp [ptsP, jpC]⟩⟩⟩, HB.out.alloc HB.out.size _⟩
  | some r =>
    have hsm := (runP_small hr).2
    go_enter Tryz.func12, Tryz.ntmps12
    go_wp2_with fail
    refine HF.out.mono ?_
    rintro e w1 ⟨hx, hb⟩
    rw [hr] at hx
    obtain ⟨B, rb, pv, av, cv, oa, ja, oc, jc, rfl, hB, hD⟩ := hx
    have c7 : w1.cell? ⟨rb, 7, none⟩ = some (.slice ja r.1.pts.length jc) := hD.cell 7
    have HB := Lib.hid (HA.out.trans (hb.mono HA.out.size))
    have hx : Below w1.heap.size w1 (w1.alloc (Obj.cells #[] 29)) := (Below.refl _ _).alloc (Nat.le_refl _) _
    have d7 : (w1.alloc (Obj.cells #[] 29)).cell? ⟨rb, 7, none⟩ = some (.slice ja r.1.pts.length jc) := (later_m hD hx).cell 7
    obtain ⟨g', c', w2, hrun, hrow, hg⟩ := app_row (w1.alloc (Obj.cells #[] 29)) w.heap.size w1.heap.size (heap_alloc_new w1 _) HB.out.size B r.1.pts.length jc ja r.1.pts ((later_m hD hx).pts) (by omega)
    have RUN := Lib.hid hrun
    have HR := Lib.hid (⟨hrow, (HB.out.alloc HB.out.size _).grown hg (by rw [alloc_size']; exact Nat.le_succ_of_le HB.out.size) (fun j hj => by injection hj with hj; have := HB.out.size; omega)⟩ : _ ∧ Below w.heap.size w w2)
    clear hb hr hB hD hx hrun hrow hg c7
    go_wp2_with (at_builtin; go_loud (refine Lib.wpList_append_run _ rfl (.tmp 21) (.tmp 25) _ _ rfl _ _ rfl rfl _ _ RUN.out ?_))
    go_wp2_with fail
    go_ret2
    exact ⟨⟨_, _, rfl, HR.out.1⟩, HR.out.2⟩
end Go.Proofs.YtichibmnbmbeeaaGreatDoor
namespace Go.Proofs.YtichibmnbmbeeaaGreatDoor
open Go.RowKit Gram

/-- the greatest number of what is active at the first k join points, at least 1 -/
def mostTo (js : List Jpt) (k : Nat) : Nat := ((js.take k).map fun j => j.stk.length).foldl max 1
theorem mostTo_step (js : List Jpt) (k : Nat) (h : k < js.length) : mostTo js (k + 1) = max (mostTo js k) js[k].stk.length := by
  rw [mostTo, List.take_succ_eq_append_getElem h, List.map_append, List.foldl_append]; rfl
theorem foldl_max_le (l : List Nat) : ∀ (a d : Nat), a ≤ d → (∀ x ∈ l, x ≤ d) → l.foldl max a ≤ d := by
  induction l with
  | nil => intro a d h _; exact h
  | cons x l ih => intro a d h hx; exact ih _ _ (Nat.max_le.2 ⟨h, hx x (by simp)⟩) (fun y hy => hx y (by simp [hy]))
theorem le_foldl_max (l : List Nat) : ∀ a, a ≤ l.foldl max a ∧ ∀ x ∈ l, x ≤ l.foldl max a := by
  induction l with
  | nil => intro a; exact ⟨Nat.le_refl _, fun x h => by cases h⟩
  | cons y l ih =>
    intro a
    obtain ⟨h1, h2⟩ := ih (max a y)
    refine ⟨Nat.le_trans (Nat.le_max_left _ _) h1, fun x hx => ?_⟩
    rcases List.mem_cons.1 hx with rfl | hx
    · exact Nat.le_trans (Nat.le_max_right _ _) h1
    · exact h2 x hx
theorem mostTo_pos (js : List Jpt) (k : Nat) : 1 ≤ mostTo js k := (le_foldl_max _ 1).1

/-- the texts of a join point -/
def kT (j : Jpt) : ByteArray := txtOf (if j.nm.isSome then [99, 97, 108, 108] else [112, 114, 105, 110, 116])
def nT (j : Jpt) : ByteArray := txtOf j.nm.toList
def sT (j : Jpt) : ByteArray := txtOf j.stk

structure JFacts (s nm : ByteArray) (js : List Jpt) (d : Int) : Prop where
  len : js.length ≤ 501
  one : ∃ c, nm = txtOf [c] ∧ isLet c = true ∧ ∀ k (h : k < js.length), js[k].stk.head? = some c
  stk : ∀ k (h : k < js.length), 1 ≤ js[k].stk.length ∧ js[k].stk.length ≤ 20
  calls : ∀ k (h : k < js.length) c, js[k].nm = some c → (callsT (lookP s (txtOf [topOf js[k].stk]))).data.toList.contains c = true
  came : ∀ k (h : k < js.length), 2 ≤ js[k].stk.length → ∃ i, ∃ (hi : i < k) (c : UInt8), js[i].nm = some c ∧ js[k].stk = js[i].stk ++ [c]
  first : ∀ (h : 0 < js.length), txtOf js[0].stk = nm
  dep : ∃ n : Nat, d = (n : Int) ∧ n ≤ 20 ∧ (n = mostTo js js.length ∨ n = mostTo js js.length + 1)

theorem up_has {l : List UInt8} {c : UInt8} (hc : c ∈ l) (h : isLet c = true) : (setText l).contains c = true := by
  obtain ⟨h1, h2⟩ := let_rng h
  rw [List.contains_iff_mem, setText, upTo, List.mem_filter]
  refine ⟨List.mem_map.2 ⟨c.toNat, ?_, by simp⟩, by rw [List.contains_iff_mem]; exact hc⟩
  rw [List.mem_range']
  exact ⟨c.toNat - 97, by omega, by omega⟩

theorem run_ok {s nm : ByteArray} {v : Int} {r : Mst × Option Fin} (h : runP s nm v = some r) :
    ∃ ps p, progOf s = some ps ∧ lookP s nm = some p ∧ r = runOf (bodyP ps) p.1 v ∧ r.1.deep ≤ 20 ∧ r.1.pts.length ≤ 501 := by
  unfold runP at h
  cases hp : progOf s with
  | none => rw [hp] at h; cases h
  | some ps =>
    cases hl : lookP s nm with
    | none => rw [hp, hl] at h; cases h
    | some p =>
      rw [hp, hl] at h
      dsimp only at h
      split at h
      · rename_i hv
        injection h with h
        have hlet : isLet p.1 = true := ((prog_facts hp).2.1 p (look_mem hp hl).1).2.2.2
        have hB : ∀ c, wfs (bodyP ps c) = true := fun c => by
          unfold bodyP
          split
          · rename_i q hq
            exact (fits_ps hp q (List.mem_of_find?_eq_some hq)).1
          · rfl
        have hk := exec_keeps hB 501 ((Mst.start v).enter p.1) (bodyP ps p.1) (start_ok hv.1 hv.2 hlet) (hB p.1)
        refine ⟨ps, p, rfl, rfl, h.symm, ?_⟩
        unfold runOf callBy at h
        cases hr : exec (bodyP ps) 501 ((Mst.start v).enter p.1) (bodyP ps p.1) with
        | mk m' o =>
          rw [hr] at h hk
          have h1 := hk.1.deep
          have h2 := hk.1.steps
          have h3 := hk.1.pts
          cases o with
          | none => subst h; exact ⟨h1, by show m'.pts.length ≤ 501; dsimp only at h3 h2; omega⟩
          | some f => subst h; exact ⟨h1, by show m'.pts.length ≤ 501; dsimp only at h3 h2; omega⟩
      · cases h

theorem look_top {s : ByteArray} {ps : List Pr} (hp : progOf s = some ps) {d : UInt8} (hc : ∃ c, c ∈ callsIn (bodyP ps d)) : ∃ p, lookP s (txtOf [d]) = some p ∧ bodyP ps d = p.2 := by
  cases hf : ps.find? (fun p => p.1 == d) with
  | none =>
    obtain ⟨c, hc⟩ := hc
    rw [bodyP, hf] at hc
    cases hc
  | some p =>
    have hd : p.1 = d := by simpa using List.find?_some hf
    have hl : isLet d = true := by rw [← hd]; exact ((prog_facts hp).2.1 p (List.mem_of_find?_eq_some hf)).2.2.2
    refine ⟨p, ?_, by rw [bodyP, hf]⟩
    have hn : nameOf (txtOf [d]).data.toList = some d := by
      rw [txtOf_data]
      show (if isLet d = true then some d else none) = some d
      rw [if_pos hl]
    unfold lookP
    rw [hp, hn]
    exact hf

theorem j_facts {s nm : ByteArray} {v : Int} {r : Mst × Option Fin} (h : runP s nm v = some r) : JFacts s nm r.1.pts (depP s nm v) := by
  obtain ⟨ps, p, hp, hl, hr, hd, hn⟩ := run_ok h
  obtain ⟨k1, k2, k3, k4, k5, k6⟩ := run_leads (bodyP ps) p.1 v
  have hdep : depP s nm v = (r.1.deep : Int) := by rw [depP, h]
  rw [hdep]
  rw [← hr] at k1 k2 k3 k4 k5 k6
  have hpos : ∀ k (h : k < r.1.pts.length), 1 ≤ r.1.pts[k].stk.length := fun k h => by
    have := k1 _ (List.getElem_mem h)
    cases hs : r.1.pts[k].stk with
    | nil => rw [hs] at this; cases this
    | cons _ _ => simp
  have hlet : isLet p.1 = true := ((prog_facts hp).2.1 p (look_mem hp hl).1).2.2.2
  refine ⟨hn, ⟨p.1, look_name hl, hlet, fun k h => k1 _ (List.getElem_mem h)⟩, fun k h => ⟨hpos k h, Nat.le_trans (k5 _ (List.getElem_mem h)) hd⟩, ?_, ?_, ?_, ?_⟩
  · intro k hk c hc
    have hm := k2 _ (List.getElem_mem hk) c hc
    obtain ⟨q, hq, hb⟩ := look_top hp ⟨c, hm⟩
    rw [hq]
    have hg := look_good q hq
    rw [hb] at hm
    exact up_has hm (callsIn_lets q.2 hg.1 c hm)
  · intro k hk h2
    rcases k3 k hk with h3 | ⟨j, hj, c, hc, hs⟩
    · omega
    · obtain ⟨i, hi, hij⟩ := List.mem_iff_getElem.1 hj
      have hik : i < k := by rw [List.length_take] at hi; omega
      have hji : r.1.pts[i] = j := by rw [← hij, List.getElem_take]
      exact ⟨i, hik, c, by rw [hji]; exact hc, by rw [hji]; exact hs⟩
  · intro h0
    have hh := k1 _ (List.getElem_mem h0)
    rcases k3 0 h0 with h3 | ⟨j, hj, _⟩
    · rw [look_name hl]
      cases hs : r.1.pts[0].stk with
      | nil => rw [hs] at hh; cases hh
      | cons a t =>
        rw [hs] at hh h3
        injection hh with hh
        cases t with
        | nil => rw [hh]
        | cons _ _ => simp at h3
    · cases hj
  · refine ⟨r.1.deep, rfl, hd, ?_⟩
    have htk : r.1.pts.take r.1.pts.length = r.1.pts := List.take_length
    have hle : mostTo r.1.pts r.1.pts.length ≤ r.1.deep := by
      rw [mostTo, htk]
      exact foldl_max_le _ _ _ k4 (fun x hx => by
        obtain ⟨j, hj, rfl⟩ := List.mem_map.1 hx
        exact k5 j hj)
    have h1 := mostTo_pos r.1.pts r.1.pts.length
    rcases k6 with h6 | ⟨j, hj, h6⟩
    · exact .inl (by omega)
    · have := (le_foldl_max (((r.1.pts.take r.1.pts.length)).map fun j => j.stk.length) 1).2 j.stk.length (by rw [htk]; exact List.mem_map.2 ⟨j, hj, rfl⟩)
      have h7 : j.stk.length ≤ mostTo r.1.pts r.1.pts.length := this
      omega
end Go.Proofs.YtichibmnbmbeeaaGreatDoor
namespace Go.Proofs.YtichibmnbmbeeaaGreatDoor
open Go.RowKit Gram

set_option maxHeartbeats 1000000 in
theorem drawJps_any (w : World) (a : Option Addr) (n c : Nat) (h : BytesAt w a n) (hn : n ≤ c) (hc : c ≤ 9223372036854775807) (hnil : a = none → n = 0) :
    Calls Tryz.prog 10 #[.slice a n c] w fun e w' => (∃ (s t : ByteArray) (v : Int), e = .returned (.tuple #[.string s, .string t, .int .i64 v]) ∧ s.size ≤ 2000 ∧ t.size ≤ 2 ∧ -9223372036854775808 ≤ v ∧ v ≤ 9223372036854775807) ∧ Below w.heap.size w w' := by
  have H := Lib.hid (open_any w a n c h hn hc hnil)
  clear h hnil
  go_enter Tryz.func10, Tryz.ntmps10
  go_wp2_with fail
  refine H.out.mono ?_
  rintro e w1 ⟨m, rfl, hr, hb⟩
  have HR := Lib.hid hr
  have HB := Lib.hid hb
  clear hr hb
  go_wp2_with fail
  refine (some_any _ w.heap.size a m c 0 HR.out (by omega)).mono ?_
  rintro e w2 ⟨s, t, v, q, rfl, hs, ht, hv1, hv2, hq, hr2, hg2⟩
  have HG2 := Lib.hid hg2
  clear hr2 hg2
  go_wp2_with fail
  go_ret3
  exact ⟨⟨s, t, v, rfl, hs, ht, hv1, hv2⟩, grown_new HB.out HG2.out⟩

set_option maxHeartbeats 400000 in
theorem wvIn_any (s : ByteArray) (c : UInt8) (hs : s.size ≤ 1099511627776) (w : World) :
    Calls Tryz.prog 13 #[.string s, .int .u8 c.toNat] w fun e w' => e = .returned (.bool (s.data.toList.contains c)) ∧ w = w' := by
  have H := Lib.hid (findI_has s.data.toList c)
  go_enter Tryz.func13, Tryz.ntmps13
  go_wp2_with fail
  go_loopw [8] (fun i wr => ∃ k : Nat, k ≤ s.size ∧ i = .int .i64 k ∧ Hid (∀ j (hj : j < s.data.toList.length), j < k → s.data.toList[j] ≠ c) ∧ w = wr) (fun i _ => s.size - (intOf i).toNat)
  case atStart => exact ⟨0, Nat.zero_le _, by go_num, fun j _ h => absurd h (Nat.not_lt_zero _), rfl⟩
  case round =>
    obtain ⟨k, hk, rfl, hno, rfl⟩ := hrel
    by_cases hlt : k < s.size
    · have hbq := Lib.hid (toNat_beq s[k] c)
      cases hb : ((s[k].toNat : Int) == (c.toNat : Int)) with
      | true =>
        have HY := Lib.hid (show s.data.toList.contains c = true by
          rw [hbq.out] at hb
          have e1 : s.data[k]'hlt = c := beq_iff_eq.1 hb
          rw [List.contains_iff_mem, ← e1]; simp)
        go_wp2_with fail
        go_ret
        exact ⟨by rw [HY.out]; rfl, rfl⟩
      | false =>
        have HY := Lib.hid (show s.data[k]'hlt ≠ c by
          rw [hbq.out] at hb
          exact beq_eq_false_iff_ne.1 hb)
        go_wp2_with fail
        go_roundw
        case rel =>
          refine ⟨k + 1, by omega, by go_num, fun j hj hlj => ?_, by first | rfl | trivial⟩
          by_cases h9 : j = k
          · subst h9; simpa using HY.out
          · exact hno.out j hj (by omega)
        case measure => simp [intOf]; omega
    · have HY := Lib.hid (show s.data.toList.contains c = false by
        rw [← H.out, decide_eq_false_iff_not, findI_none _ _ (fun j hj => hno.out j hj (by simp at hj; omega))]; decide)
      go_wp2_with fail
      go_ret
      exact ⟨by rw [HY.out]; rfl, rfl⟩
end Go.Proofs.YtichibmnbmbeeaaGreatDoor
namespace Go.Proofs.YtichibmnbmbeeaaGreatDoor
open Go.RowKit Gram

set_option maxHeartbeats 1000000 in
set_option maxRecDepth 100000 in
theorem spec_dep (s nm : ByteArray) (v : Int) (w : World) (hs : s.size ≤ 1073741824) :
    Calls Tryz.prog 16 #[.string s, .string nm, .int .i64 v] w fun e w' => e = .returned (.int .i64 (depP s nm v)) ∧ Below w.heap.size w w' := by
  have hba : Below w.heap.size w (w.alloc (Obj.cells #[] 171)) := (Below.refl _ _).alloc (Nat.le_refl _) _
  have HF := Lib.hid (start_any s nm v (some ⟨w.heap.size, 0, none⟩) 0 (w.alloc (Obj.cells #[] 171)) hs)
  have HA := Lib.hid hba
  clear hs hba
  cases hr : runP s nm v with
  | none =>
    have HR := Lib.hid (show depP s nm v = -1 by rw [depP, hr])
    go_enter Tryz.func16, Tryz.ntmps16
    go_wp2_with fail
    refine HF.out.mono ?_
    rintro e w1 ⟨hx, hb⟩
    rw [hr] at hx
    obtain ⟨rb, rfl⟩ := hx
    have HB := Lib.hid (HA.out.trans (hb.mono HA.out.size))
    clear hb hr
    go_wp2_with fail
    go_ret
    exact ⟨ret_int HR.out.symm, HB.out⟩
  | some r =>
    have HR := Lib.hid (show depP s nm v = (r.1.deep : Int) by rw [depP, hr])
    go_enter Tryz.func16, Tryz.ntmps16
    go_wp2_with fail
    refine HF.out.mono ?_
    rintro e w1 ⟨hx, hb⟩
    rw [hr] at hx
    obtain ⟨B, rb, pv, av, cv, oa, ja, oc, jc, rfl, hB, hD⟩ := hx
    have c9 : w1.cell? ⟨rb, 9, none⟩ = some (.int .i64 r.1.deep) := hD.cell 9
    have HB := Lib.hid (HA.out.trans (hb.mono HA.out.size))
    clear hb hr hB hD
    go_wp2_with fail
    go_ret
    exact ⟨ret_int HR.out.symm, HB.out⟩

end Go.Proofs.YtichibmnbmbeeaaGreatDoor
namespace Go.Proofs.YtichibmnbmbeeaaGreatDoor
open Go.RowKit Gram

theorem jpts_facts (s nm : ByteArray) (v : Int) (h : (runP s nm v).isSome = true) : JFacts s nm (ptsP (runP s nm v)) (depP s nm v) := by
  cases hr : runP s nm v with
  | none => rw [hr] at h; cases h
  | some r => exact j_facts hr
theorem jpC_texts : ∀ (l : List Jpt) (k : Nat) (h : k < l.length), (jpC l)[k * 3]? = some (.string (kT l[k])) ∧ (jpC l)[k * 3 + 1]? = some (.string (nT l[k])) ∧ (jpC l)[k * 3 + 2]? = some (.string (sT l[k]))
  | j :: l, 0, _ => ⟨rfl, rfl, rfl⟩
  | j :: l, k + 1, h => by
    have ih := jpC_texts l k (by simpa using h)
    have e : jpC (j :: l) = [.string (kT j), .string (nT j), .string (sT j)] ++ jpC l := rfl
    rw [e]
    refine ⟨?_, ?_, ?_⟩
    · rw [List.getElem?_append_right (by simp; omega)]; simpa [Nat.succ_mul] using ih.1
    · rw [List.getElem?_append_right (by simp; omega)]; have := ih.2.1; simp [Nat.succ_mul]; exact this
    · rw [List.getElem?_append_right (by simp; omega)]; have := ih.2.2; simp [Nat.succ_mul]; exact this
/-- the cells of a join point in a row of them -/
theorem jpt_cell {w : World} {B c : Nat} {a : Option Addr} {js : List Jpt} (h : w.ownsRow B 29 3 (.slice a js.length c) js.length (jpC js)) (k : Nat) (hk : k < js.length) :
    ∃ g, a = some ⟨g, 0, none⟩ ∧ w.cell? ⟨g, k * 3, none⟩ = some (.string (kT js[k])) ∧ w.cell? ⟨g, k * 3 + 1, none⟩ = some (.string (nT js[k])) ∧ w.cell? ⟨g, k * 3 + 2, none⟩ = some (.string (sT js[k])) := by
  rcases h.2 with ⟨h1, h2⟩ | ⟨g, cap, cur, h1, hb, hc, hm⟩
  · omega
  · injection h1 with h1 h2 h3
    obtain ⟨e0, e1, e2⟩ := jpC_texts js k hk
    subst h1; subst h3
    exact ⟨g, rfl, row_cell h _ _ e0, row_cell h _ _ e1, row_cell h _ _ e2⟩

set_option maxHeartbeats 400000 in
set_option maxRecDepth 100000 in
theorem jlw_long (w : World) (a : Option Addr) (n c : Nat) (hl : 1048576 < n) (hnc : n ≤ c) (hc : c ≤ 9223372036854775807) :
    Calls Tryz.prog 3 #[.slice a n c] w fun e w' => e = .returned (.bool true) ∧ Below w.heap.size w w' := by
  go_enter Tryz.func3, Tryz.ntmps3
  go_wp2_with fail
  go_ret
  exact ⟨rfl, Below.refl _ _⟩

theorem six_on {w w' : World} {g g' o : Nat} {x y z : Value} (h : w.cell? ⟨g, o, none⟩ = some x ∧ w.cell? ⟨g, o + 1, none⟩ = some y ∧ w.cell? ⟨g, o + 2, none⟩ = some z ∧ w.cell? ⟨g', o, none⟩ = some x ∧ w.cell? ⟨g', o + 1, none⟩ = some y ∧ w.cell? ⟨g', o + 2, none⟩ = some z) (hb : Below w.heap.size w w') :
    w'.cell? ⟨g, o, none⟩ = some x ∧ w'.cell? ⟨g, o + 1, none⟩ = some y ∧ w'.cell? ⟨g, o + 2, none⟩ = some z ∧ w'.cell? ⟨g', o, none⟩ = some x ∧ w'.cell? ⟨g', o + 1, none⟩ = some y ∧ w'.cell? ⟨g', o + 2, none⟩ = some z := by
  obtain ⟨h0, h1, h2, h3, h4, h5⟩ := h
  refine ⟨?_, ?_, ?_, ?_, ?_, ?_⟩
  · rw [hb.cell (p := ⟨g, o, none⟩) (World.block_lt_of_cell? w _ h0)]; exact h0
  · rw [hb.cell (p := ⟨g, o + 1, none⟩) (World.block_lt_of_cell? w _ h1)]; exact h1
  · rw [hb.cell (p := ⟨g, o + 2, none⟩) (World.block_lt_of_cell? w _ h2)]; exact h2
  · rw [hb.cell (p := ⟨g', o, none⟩) (World.block_lt_of_cell? w _ h3)]; exact h3
  · rw [hb.cell (p := ⟨g', o + 1, none⟩) (World.block_lt_of_cell? w _ h4)]; exact h4
  · rw [hb.cell (p := ⟨g', o + 2, none⟩) (World.block_lt_of_cell? w _ h5)]; exact h5
/-- a text's first sign and its last one -/
theorem sl_facts {s nm : ByteArray} {js : List Jpt} {d : Int} (h : JFacts s nm js d) (k : Nat) (hk : k < js.length) :
    (sT js[k]).extract 0 1 = nm ∧ (sT js[k]).extract ((sT js[k]).size - 1) (sT js[k]).size = txtOf [topOf js[k].stk] ∧ 1 ≤ (sT js[k]).size ∧ (sT js[k]).size ≤ 20 := by
  obtain ⟨c, h1, _, h3⟩ := h.one
  have h4 := h3 k hk
  have h5 := h.stk k hk
  have h6 : (sT js[k]).size = js[k].stk.length := txtOf_size _
  refine ⟨?_, ?_, by omega, by omega⟩
  · rw [h1]
    apply ByteArray.ext
    apply Array.ext'
    cases hs : js[k].stk with
    | nil => rw [hs] at h4; cases h4
    | cons a t =>
      rw [hs] at h4
      injection h4 with h4
      simp [sT, hs, txtOf, h4]
  · apply ByteArray.ext
    apply Array.ext'
    rw [h6]
    obtain ⟨t, x, hs⟩ : ∃ t x, js[k].stk = t ++ [x] := by
      rcases List.eq_nil_or_concat js[k].stk with hn | ⟨t, x, hx⟩
      · rw [hn] at h5; simp at h5
      · exact ⟨t, x, by rw [hx]; simp⟩
    rw [hs, top_enter]
    simp [sT, hs, txtOf]

/-- whether one of the first calls makes a text active -/
def hasT (js : List Jpt) (z : ByteArray) (l : Nat) : Bool := (js.take l).any fun b => b.nm.isSome && (z.toList == (sT b ++ nT b).toList)
theorem hasT_step (js : List Jpt) (z : ByteArray) (l : Nat) (h : l < js.length) : hasT js z (l + 1) = (hasT js z l || (js[l].nm.isSome && (z.toList == (sT js[l] ++ nT js[l]).toList))) := by
  rw [hasT, List.take_succ_eq_append_getElem h, List.any_append]; simp [hasT]
theorem has_all {s nm : ByteArray} {js : List Jpt} {d : Int} (h : JFacts s nm js d) (k : Nat) (hk : k < js.length) (h2 : 2 ≤ (sT js[k]).size) : hasT js (sT js[k]) k = true := by
  have h6 : (sT js[k]).size = js[k].stk.length := txtOf_size _
  obtain ⟨i, hi, c, h7, h8⟩ := h.came k hk (by omega)
  rw [hasT, List.any_eq_true]
  refine ⟨js[i], List.mem_take_iff_getElem.2 ⟨i, by omega, rfl⟩, ?_⟩
  rw [h7]
  have h9 : sT js[k] = sT js[i] ++ nT js[i] := by
    apply ByteArray.ext
    apply Array.ext'
    simp [sT, nT, h7, h8, txtOf]
  rw [h9]; simp
theorem bef_facts {s nm : ByteArray} {js : List Jpt} {d : Int} (h : JFacts s nm js d) (k : Nat) (hk : k < js.length) : 1 ≤ (sT js[k]).size ∧ (sT js[k]).size ≤ 20 ∧ (nT js[k]).size ≤ 1 := by
  have h5 := h.stk k hk
  have h6 : (sT js[k]).size = js[k].stk.length := txtOf_size _
  have h7 : (nT js[k]).size = js[k].nm.toList.length := txtOf_size _
  refine ⟨by omega, by omega, ?_⟩
  rw [h7]
  cases js[k].nm <;> simp
theorem row_cap {w : World} {B n c : Nat} {a : Option Addr} {e : TypeId} {sz : Nat} {xs : List Value} (h : w.ownsRow B e sz (.slice a n c) n xs) (hn : 0 < n) : n ≤ c := by
  rcases h.2 with ⟨h1, h2⟩ | ⟨g, cap, cur, h1, _, _, h4, _⟩
  · omega
  · injection h1 with _ _ h3; subst h3; exact h4
theorem three_later {w w' : World} {g : Nat} {x y z : Value} (h : w.cell? ⟨g, 0, none⟩ = some x ∧ w.cell? ⟨g, 1, none⟩ = some y ∧ w.cell? ⟨g, 2, none⟩ = some z) (hb : Below w.heap.size w w') :
    w'.cell? ⟨g, 0, none⟩ = some x ∧ w'.cell? ⟨g, 1, none⟩ = some y ∧ w'.cell? ⟨g, 2, none⟩ = some z := by
  obtain ⟨h0, h1, h2⟩ := h
  refine ⟨?_, ?_, ?_⟩
  · rw [hb.cell (p := ⟨g, 0, none⟩) (World.block_lt_of_cell? w _ h0)]; exact h0
  · rw [hb.cell (p := ⟨g, 1, none⟩) (World.block_lt_of_cell? w _ h1)]; exact h1
  · rw [hb.cell (p := ⟨g, 2, none⟩) (World.block_lt_of_cell? w _ h2)]; exact h2
theorem calls_size (o : Option Pr) : (callsT o).size ≤ 123 := by
  cases o with
  | none => exact Nat.zero_le _
  | some p => rw [callsT, txtOf_size]; exact upTo_len _ _
theorem idx_one {y : ByteArray} {c : UInt8} (h : y = txtOf [c]) : ∀ (h0 : 0 < y.size), (y[0]'h0) = c := by subst h; intro _; rfl
theorem three_new (w : World) (x y z : ByteArray) : (w.alloc (Obj.cells #[.string x, .string y, .string z] 29)).cell? ⟨w.heap.size, 0, none⟩ = some (.string x) ∧ (w.alloc (Obj.cells #[.string x, .string y, .string z] 29)).cell? ⟨w.heap.size, 1, none⟩ = some (.string y) ∧ (w.alloc (Obj.cells #[.string x, .string y, .string z] 29)).cell? ⟨w.heap.size, 2, none⟩ = some (.string z) := by
  refine ⟨?_, ?_, ?_⟩ <;> (rw [Lib.cell_of_heap (heap_alloc_new w _)]; rfl)
theorem kn_facts (j : Jpt) : ((kT j).toList == [112, 114, 105, 110, 116]) = j.nm.isNone ∧ ((kT j).toList == [99, 97, 108, 108]) = j.nm.isSome ∧ (nT j).toList.isEmpty = j.nm.isNone := by
  rw [ByteArray.toList_eq, ByteArray.toList_eq]
  unfold kT nT
  cases j.nm with
  | none => exact ⟨by rfl, by rfl, by rfl⟩
  | some c => exact ⟨by rfl, by rfl, by rfl⟩

set_option maxHeartbeats 4000000 in
set_option maxRecDepth 100000 in
theorem jlw_short (w : World) (a : Option Addr) (n0 c : Nat) (h : BytesAt w a n0) (hn : n0 ≤ 1048576) (hnc : n0 ≤ c) (hc : c ≤ 9223372036854775807) (hnil : a = none → n0 = 0) (hm : MaxCell w) :
    Calls Tryz.prog 3 #[.slice a n0 c] w fun e w' => e = .returned (.bool true) ∧ Below w.heap.size w w' := by
  have HD := Lib.hid (drawJps_any w a n0 c h hnc hc hnil)
  have HM := Lib.hid hm
  clear h hnil hm
  go_enter Tryz.func3, Tryz.ntmps3
  go_wp2_with fail
  refine HD.out.mono ?_
  rintro e w0 ⟨⟨s, nm, v, rfl, hs, hnm, hv1, hv2⟩, b0⟩
  have B0 := Lib.hid b0
  have HJ := Lib.hid (fun w => impl_pts s nm v w (by omega))
  have HS := Lib.hid (fun w => spec_pts s nm v w (by omega))
  have HDi := Lib.hid (fun w => impl_dep s nm v w (by omega))
  have HDs := Lib.hid (fun w => spec_dep s nm v w (by omega))
  have HC := Lib.hid (fun t w => impl_calls s t w (by omega))
  have HF := Lib.hid (jpts_facts s nm v)
  unfold PtsTo at HJ HS
  clear b0 HD
  generalize ptsP (runP s nm v) = js at *
  generalize (runP s nm v).isSome = ok at *
  generalize depP s nm v = dp at *
  generalize hnn : js.length = n at *
  have HNn := Lib.hid hnn
  clear hnn
  go_wp2_with fail
  refine (HJ.out _ (HM.out.later B0.out)).mono ?_
  rintro e w1 ⟨⟨a1, c1, rfl, q1⟩, b1⟩
  have Q1 := Lib.hid q1
  have B1 := Lib.hid (B0.out.trans (b1.mono B0.out.size))
  clear q1 b1
  go_wp2_with fail
  refine (HS.out _).mono ?_
  rintro e w2 ⟨⟨a2, c2, rfl, q2⟩, b2⟩
  have Q2 := Lib.hid q2
  have P2 := Lib.hid (row_up Q1.out b2)
  have B2 := Lib.hid (B1.out.trans (b2.mono B1.out.size))
  clear q2 b2 Q1
  cases ok with
  | false =>
    go_wp2_with fail
    go_ret
    exact ⟨rfl, B2.out⟩
  | true =>
    have HFt := Lib.hid (HF.out rfl)
    clear HF
    go_wp2_with fail
    go_loopw [10, 67] (fun mo i wr => ∃ k : Nat, k ≤ n ∧ i = .int .i64 k ∧ mo = .int .i64 (mostTo js k) ∧ Hid (Below w2.heap.size w2 wr)) (fun _ i _ => n - (intOf i).toNat)
    case atStart => exact ⟨0, Nat.zero_le _, by go_num, rfl, Below.refl _ _⟩
    case round =>
      obtain ⟨k, hk, rfl, rfl, hW⟩ := hrel
      by_cases hlt : k < n
      · have hkl : k < js.length := by rw [HNn.out]; exact hlt
        obtain ⟨g, rfl, p0, p1, p2⟩ := jpt_cell (show w2.ownsRow w0.heap.size 29 3 (.slice a1 js.length c1) js.length (jpC js) by rw [HNn.out]; exact P2.out) k hkl
        obtain ⟨g', rfl, r0, r1, r2⟩ := jpt_cell (show w2.ownsRow w1.heap.size 29 3 (.slice a2 js.length c2) js.length (jpC js) by rw [HNn.out]; exact Q2.out) k hkl
        have C2 := Lib.hid (And.intro p0 (And.intro p1 (And.intro p2 (And.intro r0 (And.intro r1 r2)))))
        clear p0 p1 p2 r0 r1 r2
        have CW := Lib.hid (six_on C2.out hW.out)
        have HS := Lib.hid (sl_facts HFt.out k hkl)
        obtain ⟨z1, z2, z3, z4⟩ := HS.out
        have HK := Lib.hid (kn_facts js[k])
        generalize hzE : sT js[k] = z at *
        generalize hyy : nT js[k] = y at *
        generalize kT js[k] = kd at *
        have zf : ((z.size : Int) == 0) = false := by rw [beq_eq_false_iff_ne]; omega
        obtain ⟨d0, d1, d2, f0, f1, f2⟩ := CW.out
        have Bwx := Lib.hid (hW.out.alloc hW.out.size (Obj.cells #[.string kd, .string y, .string z] 29))
        have Cwx := Lib.hid (six_on C2.out Bwx.out)
        have Jwx := Lib.hid (three_new wr kd y z)
        obtain ⟨e1, e2, e3⟩ := HK.out
        have HN := Lib.hid (show js[k].nm.isSome = !js[k].nm.isNone by cases js[k].nm <;> rfl)
        rw [HN.out] at e2
        have HX := Lib.hid (show js[k].nm.isNone = true ∨ ∃ c, js[k].nm = some c by cases js[k].nm <;> simp)
        clear HK HN
        generalize hbp : js[k].nm.isNone = bp at *
        have HBP := Lib.hid hbp
        have z3' : (1 : Int) ≤ (z.size : Int) := by omega
        have HYY := Lib.hid hyy
        clear hyy hbp
        go_wp2_with fail
        generalize hwx : wr.alloc (Obj.cells #[.string kd, .string y, .string z] 29) = wx at *
        generalize wr.heap.size = jb at *
        clear hwx d0 d1 d2 f0 f1 f2
        obtain ⟨d0, d1, d2, f0, f1, f2⟩ := Cwx.out
        obtain ⟨j0, j1, j2⟩ := Jwx.out
        go_quiet (fail)
        obtain ⟨wy, hwy⟩ : ∃ x, x = wx.drewN nq := ⟨_, rfl⟩
        rw [← hwy]
        have Bwy := Lib.hid (show Below w2.heap.size w2 wy by rw [hwy]; exact Bwx.out.trans ⟨rfl, rfl, rfl, Nat.le_refl _, fun _ _ => rfl⟩)
        have Cwy := Lib.hid (six_on C2.out Bwy.out)
        have Jwy := Lib.hid (show wy.cell? ⟨jb, 0, none⟩ = some (.string kd) ∧ wy.cell? ⟨jb, 1, none⟩ = some (.string y) ∧ wy.cell? ⟨jb, 2, none⟩ = some (.string z) by rw [hwy]; exact Jwx.out)
        clear hwy Bwx Cwx Jwx d0 d1 d2 f0 f1 f2 j0 j1 j2
        obtain ⟨d0, d1, d2, f0, f1, f2⟩ := Cwy.out
        obtain ⟨j0, j1, j2⟩ := Jwy.out
        go_wp2_with fail
        rename_i K15 hK15
        generalize hA0 : ({ tmps := _, defers := [] } : Act) = A0
        have hTail : ∀ (wt : World) (v107 v108 v109 v110 v111 v112 v113 v114 v115 v116 v117 v118 : Value), Below w2.heap.size w2 wt → (wt.cell? ⟨jb, 0, none⟩ = some (.string kd) ∧ wt.cell? ⟨jb, 1, none⟩ = some (.string y) ∧ wt.cell? ⟨jb, 2, none⟩ = some (.string z)) → K15 (((((((((((((A0.put (some 107) v107).put (some 108) v108).put (some 109) v109).put (some 110) v110).put (some 111) v111).put (some 112) v112).put (some 113) v113).put (some 114) v114).put (some 115) v115).put (some 116) v116).put (some 117) v117).put (some 118) v118).put (some 119) (.bool false)) wt := by
          intro wt v107 v108 v109 v110 v111 v112 v113 v114 v115 v116 v117 v118 hbt hjt
          subst hA0
          simp only [Act.put, List.setIfInBounds_toArray, List.set_cons_zero, List.set_cons_succ]
          refine hK15 _ _ ?_
          have Bwt := Lib.hid hbt
          have Cwt := Lib.hid (six_on C2.out hbt)
          have Jwt := Lib.hid hjt
          clear hbt hjt d0 d1 d2 f0 f1 f2 j0 j1 j2 Bwy Cwy Jwy hK15
          obtain ⟨d0, d1, d2, f0, f1, f2⟩ := Cwt.out
          obtain ⟨j0, j1, j2⟩ := Jwt.out
          have HZl := Lib.hid (show z.size = js[k].stk.length by rw [← hzE]; exact txtOf_size _)
          have HMx := Lib.hid (show (mostTo js (k + 1) : Int) = max (mostTo js k : Int) (z.size : Int) by rw [mostTo_step js k hkl, HZl.out]; omega)
          by_cases hk0 : k = 0
          · subst hk0
            have z5 : z = nm := by rw [← hzE]; exact HFt.out.first _
            clear hzE
            subst z5
            generalize mostTo js 0 = mo at *
            go_wp2_with fail
            go_quiet (fail)
            go_wp2_with fail
            go_roundw
            case rel => exact ⟨0 + 1, by omega, by go_num, by rw [HMx.out], Bwt.out.trans ⟨rfl, rfl, rfl, Nat.le_refl _, fun _ _ => rfl⟩⟩
            case measure => simp [intOf]; omega
          · obtain ⟨m, hkm⟩ : ∃ m, k = m + 1 := ⟨k - 1, by omega⟩
            have hml : m < js.length := by omega
            obtain ⟨gp, hgp, p0, p1, p2⟩ := jpt_cell (show w2.ownsRow w0.heap.size 29 3 (.slice (some ⟨g, 0, none⟩) js.length c1) js.length (jpC js) by rw [HNn.out]; exact P2.out) m hml
            injection hgp with hgp; injection hgp with hgp _ _; subst hgp
            have BP := Lib.hid Bwt.out
            have q0 : wt.cell? ⟨g, m * 3, none⟩ = some (.string (kT js[m])) := by rw [Bwt.out.cell (p := ⟨g, m * 3, none⟩) (World.block_lt_of_cell? w2 _ p0)]; exact p0
            have q1 : wt.cell? ⟨g, m * 3 + 1, none⟩ = some (.string (nT js[m])) := by rw [Bwt.out.cell (p := ⟨g, m * 3 + 1, none⟩) (World.block_lt_of_cell? w2 _ p1)]; exact p1
            have q2 : wt.cell? ⟨g, m * 3 + 2, none⟩ = some (.string (sT js[m])) := by rw [Bwt.out.cell (p := ⟨g, m * 3 + 2, none⟩) (World.block_lt_of_cell? w2 _ p2)]; exact p2
            clear p0 p1 p2
            have HZe := Lib.hid hzE
            clear hzE
            have HKp := Lib.hid (kn_facts js[m])
            have zsp := bef_facts HFt.out m hml
            have hcap : (k : Int) ≤ (c1 : Int) := by have := row_cap P2.out (by omega); omega
            generalize mostTo js k = mo at *
            have e9 := str_sum (sT js[m]) (nT js[m]) (by omega)
            generalize sT js[m] = zp at *
            generalize nT js[m] = yp at *
            generalize kT js[m] = kp at *
            have i1 : (k : Int) - 1 = (m : Int) := by omega
            have i2 : (m : Int) < (n : Int) := by omega
            have i3 : (0 : Int) ≤ (m : Int) := by omega
            have i4 : (0 : Int) < (k : Int) := by omega
            have i5 : ((k : Int) == 0) = false := by rw [beq_eq_false_iff_ne]; omega
            have i7 : 0 < k := by omega
            have hkb : (k : Int) ≤ 501 := by have := HFt.out.len; omega
            have i8 : m < n := by omega
            have i9 : IntKind.i64.wrap (m : Int) = (m : Int) := by rw [IntKind.wrap_i64]; omega
            have HKM := Lib.hid hkm
            clear hkm hk0
            by_cases hB1 : zp.size < z.size
            · have hB1' : ((zp.size : Int) < (z.size : Int)) := by omega
              cases hnp : js[m].nm with
              | none =>
                rw [hnp] at HKp
                obtain ⟨_, k2, _⟩ := HKp.out
                replace k2 : (kp.toList == [99, 97, 108, 108]) = false := k2
                go_wp2_with fail
                go_quiet (fail)
                go_wp2_with fail
                obtain ⟨wu, hwu⟩ : ∃ x, x = wt.drewN nq := ⟨_, rfl⟩
                rw [← hwu]
                have Bwu := Lib.hid (show Below w2.heap.size w2 wu by rw [hwu]; exact Bwt.out.trans ⟨rfl, rfl, rfl, Nat.le_refl _, fun _ _ => rfl⟩)
                have Jwu := Lib.hid (show wu.cell? ⟨jb, 0, none⟩ = some (.string kd) ∧ wu.cell? ⟨jb, 1, none⟩ = some (.string y) ∧ wu.cell? ⟨jb, 2, none⟩ = some (.string z) by rw [hwu]; exact Jwt.out)
                clear hwu Bwt Jwt Cwt d0 d1 d2 f0 f1 f2 j0 j1 j2 q0 q1 q2 BP
                obtain ⟨wq, hwq⟩ : ∃ x, x = wr := ⟨_, rfl⟩
                subst hwq
                have HH := Lib.hid (has_all HFt.out k hkl (by rw [HZe.out]; omega))
                rw [HZe.out] at HH
                go_wp2_with fail
                go_loopw [14, 179] (fun fb i wr => ∃ l : Nat, l ≤ k ∧ i = .int .i64 l ∧ fb = .bool (hasT js z l) ∧ Hid (Below wu.heap.size wu wr)) (fun _ i _ => k - (intOf i).toNat)
                case atStart => exact ⟨0, Nat.zero_le _, by go_num, rfl, Below.refl _ _⟩
                case round =>
                  obtain ⟨l, hlk, rfl, rfl, hV⟩ := hrel
                  by_cases hll : l < k
                  · have hlj : l < js.length := by omega
                    obtain ⟨gb, hgb, p0, p1, p2⟩ := jpt_cell (show w2.ownsRow w0.heap.size 29 3 (.slice (some ⟨g, 0, none⟩) js.length c1) js.length (jpC js) by rw [HNn.out]; exact P2.out) l hlj
                    injection hgb with hgb; injection hgb with hgb _ _; subst hgb
                    have BV := Lib.hid (Bwu.out.trans (hV.out.mono Bwu.out.size))
                    have q0 : wr.cell? ⟨g, l * 3, none⟩ = some (.string (kT js[l])) := by rw [BV.out.cell (p := ⟨g, l * 3, none⟩) (World.block_lt_of_cell? w2 _ p0)]; exact p0
                    have q1 : wr.cell? ⟨g, l * 3 + 1, none⟩ = some (.string (nT js[l])) := by rw [BV.out.cell (p := ⟨g, l * 3 + 1, none⟩) (World.block_lt_of_cell? w2 _ p1)]; exact p1
                    have q2 : wr.cell? ⟨g, l * 3 + 2, none⟩ = some (.string (sT js[l])) := by rw [BV.out.cell (p := ⟨g, l * 3 + 2, none⟩) (World.block_lt_of_cell? w2 _ p2)]; exact p2
                    clear p0 p1 p2
                    have HKl := Lib.hid (kn_facts js[l])
                    have zl := bef_facts HFt.out l hlj
                    have HT := Lib.hid (hasT_step js z l hlj)
                    have el := str_sum (sT js[l]) (nT js[l]) (by omega)
                    generalize sT js[l] = zb at *
                    generalize nT js[l] = yb at *
                    generalize zb ++ yb = zy at *
                    generalize kT js[l] = kb at *
                    have JV := Lib.hid (three_later Jwu.out (hV.out.alloc hV.out.size (Obj.cells #[.string kb, .string yb, .string zb] 29)))
                    have KV := Lib.hid (three_new wr kb yb zb)
                    have BX := Lib.hid (hV.out.alloc hV.out.size (Obj.cells #[.string kb, .string yb, .string zb] 29))
                    have i7 : 0 < k := by omega
                    have i8 : (l : Int) < (n : Int) := by omega
                    cases hfb : hasT js z l with
                    | true =>
                      rw [hfb] at HT
                      have HT2 := Lib.hid (show hasT js z (l + 1) = true by rw [HT.out]; rfl)
                      clear hfb HT
                      go_wp2_with fail
                      go_roundw
                      case rel => exact ⟨l + 1, by omega, by go_num, by rw [HT2.out], BX.out⟩
                      case measure => simp [intOf]; omega
                    | false =>
                      rw [hfb] at HT
                      cases hnl : js[l].nm with
                      | none =>
                        rw [hnl] at HKl HT
                        obtain ⟨_, l2, _⟩ := HKl.out
                        replace l2 : (kb.toList == [99, 97, 108, 108]) = false := l2
                        have HT2 := Lib.hid (show hasT js z (l + 1) = false by rw [HT.out]; rfl)
                        clear hfb HT
                        go_wp2_with fail
                        go_roundw
                        case rel => exact ⟨l + 1, by omega, by go_num, by rw [HT2.out], BX.out⟩
                        case measure => simp [intOf]; omega
                      | some cl =>
                        rw [hnl] at HKl HT
                        obtain ⟨_, l2, _⟩ := HKl.out
                        replace l2 : (kb.toList == [99, 97, 108, 108]) = true := l2
                        have HT2 := Lib.hid (show hasT js z (l + 1) = (z.toList == zy.toList) by rw [HT.out]; rfl)
                        clear hfb HT
                        cases hbz : (z.toList == zy.toList)
                        all_goals
                          rw [hbz] at HT2
                          obtain ⟨j0, j1, j2⟩ := JV.out
                          go_wp2_with fail
                          go_roundw
                          case rel => exact ⟨l + 1, by omega, by go_num, by rw [HT2.out], BX.out⟩
                          case measure => simp [intOf]; omega
                  · have hlk2 : l = k := by omega
                    subst hlk2
                    have hh := HH.out
                    go_wp2_with fail
                    go_roundw
                    case rel => exact ⟨l + 1, by omega, by go_num, by rw [HMx.out], Bwu.out.trans (hV.out.mono Bwu.out.size)⟩
                    case measure => simp [intOf]; omega
              | some cp =>
                rw [hnp] at HKp
                obtain ⟨_, k2, _⟩ := HKp.out
                replace k2 : (kp.toList == [99, 97, 108, 108]) = true := k2
                cases hzz : (z.toList == (zp ++ yp).toList) with
                | true =>
                  go_wp2_with fail
                  go_quiet (fail)
                  go_wp2_with fail
                  go_roundw
                  case rel => exact ⟨k + 1, by omega, by go_num, by rw [HMx.out], Bwt.out.trans ⟨rfl, rfl, rfl, Nat.le_refl _, fun _ _ => rfl⟩⟩
                  case measure => simp [intOf]; omega
                | false =>
                  go_wp2_with fail
                  go_quiet (fail)
                  go_wp2_with fail
                  obtain ⟨wu, hwu⟩ : ∃ x, x = wt.drewN nq := ⟨_, rfl⟩
                  rw [← hwu]
                  have Bwu := Lib.hid (show Below w2.heap.size w2 wu by rw [hwu]; exact Bwt.out.trans ⟨rfl, rfl, rfl, Nat.le_refl _, fun _ _ => rfl⟩)
                  have Jwu := Lib.hid (show wu.cell? ⟨jb, 0, none⟩ = some (.string kd) ∧ wu.cell? ⟨jb, 1, none⟩ = some (.string y) ∧ wu.cell? ⟨jb, 2, none⟩ = some (.string z) by rw [hwu]; exact Jwt.out)
                  clear hwu Bwt Jwt Cwt d0 d1 d2 f0 f1 f2 j0 j1 j2 q0 q1 q2 BP
                  obtain ⟨wq, hwq⟩ : ∃ x, x = wr := ⟨_, rfl⟩
                  subst hwq
                  have HH := Lib.hid (has_all HFt.out k hkl (by rw [HZe.out]; omega))
                  rw [HZe.out] at HH
                  go_wp2_with fail
                  go_loopw [14, 179] (fun fb i wr => ∃ l : Nat, l ≤ k ∧ i = .int .i64 l ∧ fb = .bool (hasT js z l) ∧ Hid (Below wu.heap.size wu wr)) (fun _ i _ => k - (intOf i).toNat)
                  case atStart => exact ⟨0, Nat.zero_le _, by go_num, rfl, Below.refl _ _⟩
                  case round =>
                    obtain ⟨l, hlk, rfl, rfl, hV⟩ := hrel
                    by_cases hll : l < k
                    · have hlj : l < js.length := by omega
                      obtain ⟨gb, hgb, p0, p1, p2⟩ := jpt_cell (show w2.ownsRow w0.heap.size 29 3 (.slice (some ⟨g, 0, none⟩) js.length c1) js.length (jpC js) by rw [HNn.out]; exact P2.out) l hlj
                      injection hgb with hgb; injection hgb with hgb _ _; subst hgb
                      have BV := Lib.hid (Bwu.out.trans (hV.out.mono Bwu.out.size))
                      have q0 : wr.cell? ⟨g, l * 3, none⟩ = some (.string (kT js[l])) := by rw [BV.out.cell (p := ⟨g, l * 3, none⟩) (World.block_lt_of_cell? w2 _ p0)]; exact p0
                      have q1 : wr.cell? ⟨g, l * 3 + 1, none⟩ = some (.string (nT js[l])) := by rw [BV.out.cell (p := ⟨g, l * 3 + 1, none⟩) (World.block_lt_of_cell? w2 _ p1)]; exact p1
                      have q2 : wr.cell? ⟨g, l * 3 + 2, none⟩ = some (.string (sT js[l])) := by rw [BV.out.cell (p := ⟨g, l * 3 + 2, none⟩) (World.block_lt_of_cell? w2 _ p2)]; exact p2
                      clear p0 p1 p2
                      have HKl := Lib.hid (kn_facts js[l])
                      have zl := bef_facts HFt.out l hlj
                      have HT := Lib.hid (hasT_step js z l hlj)
                      have el := str_sum (sT js[l]) (nT js[l]) (by omega)
                      generalize sT js[l] = zb at *
                      generalize nT js[l] = yb at *
                      generalize zb ++ yb = zy at *
                      generalize kT js[l] = kb at *
                      have JV := Lib.hid (three_later Jwu.out (hV.out.alloc hV.out.size (Obj.cells #[.string kb, .string yb, .string zb] 29)))
                      have KV := Lib.hid (three_new wr kb yb zb)
                      have BX := Lib.hid (hV.out.alloc hV.out.size (Obj.cells #[.string kb, .string yb, .string zb] 29))
                      have i7 : 0 < k := by omega
                      have i8 : (l : Int) < (n : Int) := by omega
                      cases hfb : hasT js z l with
                      | true =>
                        rw [hfb] at HT
                        have HT2 := Lib.hid (show hasT js z (l + 1) = true by rw [HT.out]; rfl)
                        clear hfb HT
                        go_wp2_with fail
                        go_roundw
                        case rel => exact ⟨l + 1, by omega, by go_num, by rw [HT2.out], BX.out⟩
                        case measure => simp [intOf]; omega
                      | false =>
                        rw [hfb] at HT
                        cases hnl : js[l].nm with
                        | none =>
                          rw [hnl] at HKl HT
                          obtain ⟨_, l2, _⟩ := HKl.out
                          replace l2 : (kb.toList == [99, 97, 108, 108]) = false := l2
                          have HT2 := Lib.hid (show hasT js z (l + 1) = false by rw [HT.out]; rfl)
                          clear hfb HT
                          go_wp2_with fail
                          go_roundw
                          case rel => exact ⟨l + 1, by omega, by go_num, by rw [HT2.out], BX.out⟩
                          case measure => simp [intOf]; omega
                        | some cl =>
                          rw [hnl] at HKl HT
                          obtain ⟨_, l2, _⟩ := HKl.out
                          replace l2 : (kb.toList == [99, 97, 108, 108]) = true := l2
                          have HT2 := Lib.hid (show hasT js z (l + 1) = (z.toList == zy.toList) by rw [HT.out]; rfl)
                          clear hfb HT
                          cases hbz : (z.toList == zy.toList)
                          all_goals
                            rw [hbz] at HT2
                            obtain ⟨j0, j1, j2⟩ := JV.out
                            go_wp2_with fail
                            go_roundw
                            case rel => exact ⟨l + 1, by omega, by go_num, by rw [HT2.out], BX.out⟩
                            case measure => simp [intOf]; omega
                    · have hlk2 : l = k := by omega
                      subst hlk2
                      have hh := HH.out
                      go_wp2_with fail
                      go_roundw
                      case rel => exact ⟨l + 1, by omega, by go_num, by rw [HMx.out], Bwu.out.trans (hV.out.mono Bwu.out.size)⟩
                      case measure => simp [intOf]; omega
            · have hB1' : ¬ ((zp.size : Int) < (z.size : Int)) := by omega
              go_wp2_with fail
              go_quiet (fail)
              go_wp2_with fail
              go_roundw
              case rel => exact ⟨k + 1, by omega, by go_num, by rw [HMx.out], Bwt.out.trans ⟨rfl, rfl, rfl, Nat.le_refl _, fun _ _ => rfl⟩⟩
              case measure => simp [intOf]; omega
        subst hA0
        simp only [Act.put, List.setIfInBounds_toArray, List.set_cons_zero, List.set_cons_succ] at hTail
        have HT := Lib.hid hTail
        clear hTail
        rcases HX.out with hb1 | ⟨c, hnm⟩
        · subst hb1
          replace e2 : (kd.toList == [99, 97, 108, 108]) = false := e2
          go_quiet (fail)
          exact HT.out _ _ _ _ _ _ _ _ _ _ _ _ _ (Bwy.out.trans ⟨rfl, rfl, rfl, Nat.le_refl _, fun _ _ => rfl⟩) Jwy.out
        · have hb1 : bp = false := by rw [← HBP.out, hnm]; rfl
          subst hb1
          replace e2 : (kd.toList == [99, 97, 108, 108]) = true := e2
          have HCl := Lib.hid (HFt.out.calls k hkl c hnm)
          have HYE := Lib.hid (show y = txtOf [c] by rw [← HYY.out]; unfold nT; rw [hnm]; rfl)
          have hy1 : (0 : Int) < (y.size : Int) := by rw [HYE.out]; show (0 : Int) < ((1 : Nat) : Int); decide
          have hyv := idx_one HYE.out
          have hcs : (callsT (lookP s (txtOf [topOf js[k].stk]))).size ≤ 123 := calls_size _
          have HCw := Lib.hid (HC.out (txtOf [topOf js[k].stk]) wy.drew (HM.out.later (B2.out.trans (Bwy.out.drew.mono B2.out.size))))
          generalize callsT (lookP s (txtOf [topOf js[k].stk])) = ct at *
          have HWv := Lib.hid (fun w => wvIn_any ct c (by omega) w)
          rw [HCl.out] at HWv
          clear d0 d1 d2 f0 f1 f2 hcs
          go_region_held3 (fun w' => w'.cell? ⟨jb, 0, none⟩ = some (.string kd) ∧ w'.cell? ⟨jb, 1, none⟩ = some (.string y) ∧ w'.cell? ⟨jb, 2, none⟩ = some (.string z))
            ((first | assumption | exact ⟨j0, j1, j2⟩ | (apply three_later; assumption; assumption)))
            ((first
              | (go_at_call 14; refine HCw.out.mono ?_
                 rintro e wt ⟨rfl, hb5⟩)
              | (go_at_call 13; refine (HWv.out _).mono ?_
                 rintro e w6 ⟨rfl, rfl⟩)))
          all_goals exact HT.out _ _ _ _ _ _ _ _ _ _ _ _ _ (Bwy.out.drew.trans (hb5.mono Bwy.out.drew.size)) (three_later (show wy.drew.cell? ⟨jb, 0, none⟩ = some (.string kd) ∧ wy.drew.cell? ⟨jb, 1, none⟩ = some (.string y) ∧ wy.drew.cell? ⟨jb, 2, none⟩ = some (.string z) from Jwy.out) hb5)
      · have hkn : k = n := by omega
        have hkl : k = js.length := by rw [HNn.out]; exact hkn
        subst hkn
        obtain ⟨dn, hdn, hd20, hdm⟩ := HFt.out.dep
        rw [← hkl] at hdm
        have BE := Lib.hid (B2.out.trans (hW.out.mono B2.out.size))
        have HD1 := Lib.hid (HDi.out wr (HM.out.later BE.out))
        generalize mostTo js k = mo at *
        clear hkl
        go_wp2_with fail
        refine HD1.out.mono ?_
        rintro e w5 ⟨rfl, b5⟩
        have B5 := Lib.hid (BE.out.trans (b5.mono BE.out.size))
        clear b5
        go_wp2_with fail
        refine (HDs.out _).mono ?_
        rintro e w6 ⟨rfl, b6⟩
        have B6 := Lib.hid (B5.out.trans (b6.mono B5.out.size))
        clear b6
        subst hdn
        have h20 : ((dn : Int) ≤ 20) := by omega
        rcases hdm with rfl | rfl
        · go_wp2_with fail
          all_goals go_ret
          all_goals exact ⟨rfl, B6.out⟩
        · have hne : (((mo + 1 : Nat) : Int) == (mo : Int)) = false := by rw [beq_eq_false_iff_ne]; omega
          go_wp2_with fail
          all_goals go_ret
          all_goals first | exact ⟨rfl, B6.out⟩ | exact ⟨ret_bool (by rw [decide_eq_true_eq]; omega), B6.out⟩
theorem jlw_any (w : World) (a : Option Addr) (n c : Nat) (h : BytesAt w a n) (hnc : n ≤ c) (hc : c ≤ 9223372036854775807) (hnil : a = none → n = 0) (hm : MaxCell w) :
    Calls Tryz.prog 3 #[.slice a n c] w fun e w' => e = .returned (.bool true) ∧ Below w.heap.size w w' := by
  by_cases hn : n ≤ 1048576
  · exact jlw_short w a n c h hn hnc hc hnil hm
  · exact jlw_long w a n c (by omega) hnc hc
end Go.Proofs.YtichibmnbmbeeaaGreatDoor
