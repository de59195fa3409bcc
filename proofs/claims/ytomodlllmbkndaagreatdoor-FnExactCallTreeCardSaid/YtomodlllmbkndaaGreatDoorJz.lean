/- How much a run holds; rows that stay. Plain lemmas. Plain mathematics, no program: the join points of a run follow its calls: the first procedure is the first one in all of them, each call is one of the last active procedure's, what is active came by a call before, and the depth is the most or one more. No condition. The program's DepthOf: how many procedures were active at most. Conditions: as of runOf. JoinPointsOf of the program and of the model. Conditions: texts of at most 2^30 bytes, and the library's own number can be read. What the law FnJoinPoints asks of the join points of a run. Plain lemmas. -/
import Derived.Test.YtomodlllmbkndaaGreatDoorRx
import Derived.Test.YtomodlllmbkndaaGreatDoorMx
import Derived.Test.YtomodlllmbkndaaGreatDoorRun
import Derived.Test.YtomodlllmbkndaaGreatDoorA1
import Derived.Test.YtomodlllmbkndaaGreatDoorUx
namespace Go.Proofs.YtomodlllmbkndaaGreatDoor
open Go.RowKit Gram

/-- how much a run holds -/
theorem runP_small {s nm : ByteArray} {v : Int} {r : Mst × Option Fin} (h : runP s nm v = some r) : r.1.out.length ≤ 500 ∧ r.1.pts.length ≤ 501 := by
  unfold runP at h
  cases hp : progOf s with
  | none => rw [hp] at h; cases h
  | some ps =>
    cases hl : lookP s nm with
    | none => rw [hp, hl] at h; cases h
    | some p =>
      rw [hp, hl] at h
      dsimp only at h
      split at h
      · rename_i hv
        injection h with h
        have hlet : isLet p.1 = true := ((prog_facts hp).2.1 p (look_mem hp hl).1).2.2.2
        have hB : ∀ c, wfs (bodyP ps c) = true := fun c => by
          unfold bodyP
          split
          · rename_i q hq
            exact (fits_ps hp q (List.mem_of_find?_eq_some hq)).1
          · rfl
        have hk := exec_keeps hB 501 ((Mst.start v).enter p.1) (bodyP ps p.1) (start_ok hv.1 hv.2 hlet) (hB p.1)
        unfold runOf callBy at h
        cases hr : exec (bodyP ps) 501 ((Mst.start v).enter p.1) (bodyP ps p.1) with
        | mk m' o =>
          rw [hr] at h hk
          have h1 := hk.1.out
          have h2 := hk.1.steps
          have h3 := hk.1.pts
          cases o with
          | none => subst h; exact ⟨by show m'.out.length ≤ 500; dsimp only at h1 h2; omega, by show m'.pts.length ≤ 501; dsimp only at h3 h2; omega⟩
          | some f => subst h; exact ⟨by show m'.out.length ≤ 500; dsimp only at h1 h2; omega, by show m'.pts.length ≤ 501; dsimp only at h3 h2; omega⟩
      · cases h
end Go.Proofs.YtomodlllmbkndaaGreatDoor
namespace Go.Proofs.YtomodlllmbkndaaGreatDoor.Gram

/-- the procedure that is done -/
def topOf (s : List UInt8) : UInt8 := s.getLastD 0

/-- what is active has come by a call -/
def CameBy (l : List Jpt) (s : List UInt8) : Prop := s.length ≤ 1 ∨ ∃ k ∈ l, ∃ c, k.nm = some c ∧ s = k.stk ++ [c]
theorem CameBy.snoc {l : List Jpt} {s : List UInt8} (h : CameBy l s) (j : Jpt) : CameBy (l ++ [j]) s := by
  rcases h with h | ⟨k, hk, c, h1, h2⟩
  · exact .inl h
  · exact .inr ⟨k, List.mem_append_left _ hk, c, h1, h2⟩

/-- each of some join points came by a call that is before it -/
def AllCame : List Jpt → Prop := fun l => ∀ (i : Nat) (h : i < l.length), CameBy (l.take i) l[i].stk
theorem AllCame.snoc {l : List Jpt} (h : AllCame l) {j : Jpt} (hj : CameBy l j.stk) : AllCame (l ++ [j]) := by
  intro i hi
  rw [List.length_append, List.length_singleton] at hi
  by_cases hl : i < l.length
  · rw [List.getElem_append_left hl, List.take_append_of_le_length (Nat.le_of_lt hl)]
    exact h i hl
  · have he : i = l.length := by omega
    subst he
    rw [List.take_append_of_le_length (Nat.le_refl _), List.take_length]
    simpa using hj

/-- what is known of a run's join points so far; c0: the first procedure; B: the bodies -/
structure Led (B : UInt8 → List Stm) (c0 : UInt8) (m : Mst) : Prop where
  head : m.stk.head? = some c0
  heads : ∀ j ∈ m.pts, j.stk.head? = some c0
  calls : ∀ j ∈ m.pts, ∀ c, j.nm = some c → c ∈ callsIn (B (topOf j.stk))
  came : AllCame m.pts
  now : CameBy m.pts m.stk
  deepAt : m.stk.length ≤ m.deep
  deeps : ∀ j ∈ m.pts, j.stk.length ≤ m.deep
  most : m.deep ≤ 1 ∨ ∃ j ∈ m.pts, m.deep = j.stk.length + 1

theorem Led.tick {B : UInt8 → List Stm} {c0 : UInt8} {m : Mst} (h : Led B c0 m) : Led B c0 m.tick := ⟨h.head, h.heads, h.calls, h.came, h.now, h.deepAt, h.deeps, h.most⟩
theorem Led.more {B : UInt8 → List Stm} {c0 : UInt8} {m : Mst} (h : Led B c0 m) (n : Option UInt8) (hc : ∀ c, n = some c → c ∈ callsIn (B (topOf m.stk))) : Led B c0 { m with pts := m.pts ++ [⟨n, m.stk⟩] } := by
  refine ⟨h.head, ?_, ?_, h.came.snoc h.now, h.now.snoc _, h.deepAt, ?_, ?_⟩
  · intro j hj
    rcases List.mem_append.1 hj with hj | hj
    · exact h.heads j hj
    · rw [List.mem_singleton.1 hj]; exact h.head
  · intro j hj c hjc
    rcases List.mem_append.1 hj with hj | hj
    · exact h.calls j hj c hjc
    · rw [List.mem_singleton.1 hj] at hjc ⊢; exact hc c hjc
  · intro j hj
    rcases List.mem_append.1 hj with hj | hj
    · exact h.deeps j hj
    · rw [List.mem_singleton.1 hj]; exact h.deepAt
  · rcases h.most with hm | ⟨j, hj, hm⟩
    · exact .inl hm
    · exact .inr ⟨j, List.mem_append_left _ hj, hm⟩
theorem Led.come {B : UInt8 → List Stm} {c0 : UInt8} {m : Mst} (h : Led B c0 m) (x : Stm) (hx : ∀ c ∈ callsIn [x], c ∈ callsIn (B (topOf m.stk))) : Led B c0 (m.come x) := by
  cases x with
  | prt => exact h.more none (fun c hc => by cases hc)
  | call c => exact h.more (some c) (fun d hd => by injection hd with hd; subst hd; exact hx _ (by simp [callsIn, Stm.calls]))
  | _ => exact h

/-- what is known of doing statements -/
def Leads (B : UInt8 → List Stm) (c0 : UInt8) (ex : Mst → List Stm → Mst × Option Fin) : Prop :=
  ∀ (m : Mst) (xs : List Stm), Led B c0 m → (∀ c ∈ callsIn xs, c ∈ callsIn (B (topOf m.stk))) →
    Led B c0 (ex m xs).1 ∧ (∃ l, (ex m xs).1.pts = m.pts ++ l) ∧ m.deep ≤ (ex m xs).1.deep ∧ ((ex m xs).2 = none → (ex m xs).1.stk = m.stk)

theorem CameBy.pre {l : List Jpt} {s : List UInt8} (h : CameBy l s) (l' : List Jpt) : CameBy (l ++ l') s := by
  rcases h with h | ⟨k, hk, c, h1, h2⟩
  · exact .inl h
  · exact .inr ⟨k, List.mem_append_left _ hk, c, h1, h2⟩
theorem Led.enter {B : UInt8 → List Stm} {c0 c : UInt8} {m : Mst} (h : Led B c0 m) (hp : (⟨some c, m.stk⟩ : Jpt) ∈ m.pts) : Led B c0 (m.enter c) := by
  refine ⟨?_, h.heads, h.calls, h.came, .inr ⟨_, hp, c, rfl, rfl⟩, ?_, ?_, ?_⟩
  · show (m.stk ++ [c]).head? = some c0
    have := h.head
    cases hs : m.stk with
    | nil => rw [hs] at this; cases this
    | cons x t => rw [hs] at this; exact this
  · show (m.stk ++ [c]).length ≤ max m.deep (m.stk.length + 1)
    rw [List.length_append, List.length_singleton]; omega
  · intro j hj
    have := h.deeps j hj
    show j.stk.length ≤ max m.deep (m.stk.length + 1)
    omega
  · by_cases hd : m.stk.length + 1 ≤ m.deep
    · have he : max m.deep (m.stk.length + 1) = m.deep := by omega
      rcases h.most with hm | ⟨j, hj, hm⟩
      · exact .inl (by show max m.deep (m.stk.length + 1) ≤ 1; omega)
      · exact .inr ⟨j, hj, by show max m.deep (m.stk.length + 1) = _; omega⟩
    · exact .inr ⟨_, hp, by show max m.deep (m.stk.length + 1) = m.stk.length + 1; omega⟩
theorem top_enter (s : List UInt8) (c : UInt8) : topOf (s ++ [c]) = c := by rw [topOf, List.getLastD_eq_getLast?, List.getLast?_append]; rfl

theorem callBy_leads {B : UInt8 → List Stm} {c0 : UInt8} {ex : Mst → List Stm → Mst × Option Fin} (hex : Leads B c0 ex) {m : Mst} (h : Led B c0 m) {c : UInt8} (hp : (⟨some c, m.stk⟩ : Jpt) ∈ m.pts) :
    Led B c0 (callBy ex B m c).1 ∧ (∃ l, (callBy ex B m c).1.pts = m.pts ++ l) ∧ m.deep ≤ (callBy ex B m c).1.deep ∧ ((callBy ex B m c).2 = none → (callBy ex B m c).1.stk = m.stk) := by
  obtain ⟨k1, ⟨l, k2⟩, k3, k4⟩ := hex (m.enter c) (B c) (h.enter hp) (fun d hd => by
    show d ∈ callsIn (B (topOf (m.stk ++ [c])))
    rw [top_enter]; exact hd)
  have k3' : m.deep ≤ (ex (m.enter c) (B c)).1.deep := Nat.le_trans (Nat.le_max_left _ _) k3
  have k2' : (ex (m.enter c) (B c)).1.pts = m.pts ++ l := k2
  unfold callBy
  cases hr : ex (m.enter c) (B c) with
  | mk m' o =>
    rw [hr] at k1 k2' k3' k4
    cases o with
    | none =>
      have hd := h.deepAt
      dsimp only at k2' k3'
      exact ⟨⟨h.head, k1.heads, k1.calls, k1.came, by show CameBy m'.pts m.stk; rw [k2']; exact h.now.pre l, by show m.stk.length ≤ m'.deep; omega, k1.deeps, k1.most⟩, ⟨l, k2'⟩, k3', fun _ => rfl⟩
    | some e => exact ⟨k1, ⟨l, k2'⟩, k3', fun h => by cases h⟩

theorem stepBy_leads {B : UInt8 → List Stm} {c0 : UInt8} {ex : Mst → List Stm → Mst × Option Fin} (hex : Leads B c0 ex) {m : Mst} (h : Led B c0 m) (x : Stm) (hx : ∀ c ∈ x.calls, c ∈ callsIn (B (topOf m.stk))) :
    Led B c0 (stepBy ex B (m.come x) x).1 ∧ (∃ l, (stepBy ex B (m.come x) x).1.pts = m.pts ++ l) ∧ m.deep ≤ (stepBy ex B (m.come x) x).1.deep ∧ ((stepBy ex B (m.come x) x).2 = none → (stepBy ex B (m.come x) x).1.stk = m.stk) := by
  have hc := h.come x (fun c hc => hx c (by simpa [callsIn] using hc))
  have hcs : (m.come x).stk = m.stk := by cases x <;> rfl
  have hcd : (m.come x).deep = m.deep := by cases x <;> rfl
  have hcp : ∃ l, (m.come x).pts = m.pts ++ l := by
    cases x with
    | prt => exact ⟨_, rfl⟩
    | call c => exact ⟨_, rfl⟩
    | _ => exact ⟨[], (List.append_nil _).symm⟩
  unfold stepBy
  by_cases hs : (m.come x).steps = 500
  · rw [if_pos hs]
    exact ⟨hc, hcp, by rw [hcd]; exact Nat.le_refl _, fun h => by cases h⟩
  · rw [if_neg hs]
    have ht := hc.tick
    cases x with
    | chg g d => exact ⟨⟨ht.head, ht.heads, ht.calls, ht.came, ht.now, ht.deepAt, ht.deeps, ht.most⟩, hcp, Nat.le_refl _, fun _ => rfl⟩
    | prt => exact ⟨⟨ht.head, ht.heads, ht.calls, ht.came, ht.now, ht.deepAt, ht.deeps, ht.most⟩, hcp, Nat.le_refl _, fun _ => rfl⟩
    | pro => exact ⟨ht, hcp, Nat.le_refl _, fun _ => rfl⟩
    | call c =>
      dsimp only
      by_cases hd : (m.come (.call c)).stk.length = 20
      · rw [if_pos hd]
        exact ⟨ht, hcp, Nat.le_refl _, fun h => by cases h⟩
      · rw [if_neg hd]
        obtain ⟨k1, ⟨l, k2⟩, k3, k4⟩ := callBy_leads hex ht (c := c) (List.mem_append_right _ (List.mem_singleton.2 rfl))
        refine ⟨k1, ⟨[⟨some c, m.stk⟩] ++ l, ?_⟩, k3, k4⟩
        rw [k2]
        show (m.pts ++ [_]) ++ l = _
        rw [List.append_assoc]
    | cho a b =>
      dsimp only
      have hab : ∀ c ∈ callsIn (if 0 < (m.come (.cho a b)).val then a else b), c ∈ callsIn (B (topOf m.stk)) := fun c hc => hx c (by
        simp only [Stm.calls, List.mem_append]
        split at hc
        · exact .inl hc
        · exact .inr hc)
      exact hex (m.come (.cho a b)).tick _ ht hab

theorem exec_leads (B : UInt8 → List Stm) (c0 : UInt8) (n : Nat) : Leads B c0 (exec B n) := by
  induction n with
  | zero =>
    intro m xs h hx
    cases xs with
    | nil => exact ⟨h, ⟨[], (List.append_nil _).symm⟩, Nat.le_refl _, fun _ => rfl⟩
    | cons x xs => exact ⟨h, ⟨[], (List.append_nil _).symm⟩, Nat.le_refl _, fun h => by cases h⟩
  | succ n ih =>
    intro m xs h hx
    cases xs with
    | nil => exact ⟨h, ⟨[], (List.append_nil _).symm⟩, Nat.le_refl _, fun _ => rfl⟩
    | cons x xs =>
      obtain ⟨s1, ⟨l, s2⟩, s3, s4⟩ := stepBy_leads ih h x (fun c hc => hx c (by simp [callsIn, hc]))
      rw [exec]
      cases hr : stepBy (exec B n) B (m.come x) x with
      | mk m' o =>
        rw [hr] at s1 s2 s3 s4
        cases o with
        | none =>
          have s4' : m'.stk = m.stk := s4 rfl
          obtain ⟨t1, ⟨l2, t2⟩, t3, t4⟩ := ih m' xs s1 (fun c hc => by rw [s4']; exact hx c (by simp [callsIn, hc]))
          exact ⟨t1, ⟨l ++ l2, by dsimp only at s2 ⊢; rw [t2, s2, List.append_assoc]⟩, Nat.le_trans s3 t3, fun h => by rw [t4 h, s4']⟩
        | some e => exact ⟨s1, ⟨l, s2⟩, s3, fun h => by cases h⟩

/-- of a whole run -/
theorem run_leads (B : UInt8 → List Stm) (c : UInt8) (v : Int) :
    (∀ j ∈ (runOf B c v).1.pts, j.stk.head? = some c) ∧ (∀ j ∈ (runOf B c v).1.pts, ∀ d, j.nm = some d → d ∈ callsIn (B (topOf j.stk))) ∧ AllCame (runOf B c v).1.pts ∧
    1 ≤ (runOf B c v).1.deep ∧ (∀ j ∈ (runOf B c v).1.pts, j.stk.length ≤ (runOf B c v).1.deep) ∧ ((runOf B c v).1.deep ≤ 1 ∨ ∃ j ∈ (runOf B c v).1.pts, (runOf B c v).1.deep = j.stk.length + 1) := by
  have h0 : Led B c ((Mst.start v).enter c) := ⟨rfl, (fun j hj => nomatch hj), (fun j hj => nomatch hj), (fun i hi => absurd hi (Nat.not_lt_zero i)), .inl (Nat.le_refl _), Nat.le_refl _, (fun j hj => nomatch hj), .inl (Nat.le_refl _)⟩
  obtain ⟨k1, _, k3, _⟩ := exec_leads B c 501 ((Mst.start v).enter c) (B c) h0 (fun d hd => hd)
  unfold runOf callBy
  cases hr : exec B 501 ((Mst.start v).enter c) (B c) with
  | mk m' o =>
    rw [hr] at k1 k3
    cases o with
    | none => exact ⟨k1.heads, k1.calls, k1.came, k3, k1.deeps, k1.most⟩
    | some e => exact ⟨k1.heads, k1.calls, k1.came, k3, k1.deeps, k1.most⟩
end Go.Proofs.YtomodlllmbkndaaGreatDoor.Gram
namespace Go.Proofs.YtomodlllmbkndaaGreatDoor
open Go.RowKit Gram

/-- the greatest depth of a run, -1 if there is none -/
def depP (s nm : ByteArray) (v : Int) : Int := match runP s nm v with | some r => (r.1.deep : Int) | none => -1

set_option maxHeartbeats 2000000 in
set_option maxRecDepth 100000 in
theorem impl_dep (s nm : ByteArray) (v : Int) (w : World) (hs : s.size ≤ 1073741824) (hm : MaxCell w) :
    Calls Tryz.prog 14 #[.string s, .string nm, .int .i64 v] w fun e w' => e = .returned (.int .i64 (depP s nm v)) ∧ Below w.heap.size w w' := by
  have HF := Lib.hid (run_of s nm v w hs hm)
  clear hm hs
  cases hr : runP s nm v with
  | none =>
    have HR := Lib.hid (show depP s nm v = -1 by rw [depP, hr])
    go_enter Tryz.func14, Tryz.ntmps14
    go_wp2_with fail
    refine HF.out.mono ?_
    rintro e w1 ⟨hx, hb⟩
    rw [hr] at hx
    subst hx
    have HB := Lib.hid hb
    clear hb hr
    go_wp2_with fail
    go_ret
    exact ⟨ret_int HR.out.symm, HB.out⟩
  | some r =>
    have HR := Lib.hid (show depP s nm v = (r.1.deep : Int) by rw [depP, hr])
    go_enter Tryz.func14, Tryz.ntmps14
    go_wp2_with fail
    refine HF.out.mono ?_
    rintro e w1 ⟨hx, hb⟩
    rw [hr] at hx
    obtain ⟨B, rb, S, qs, pv, oa, ja, oc, jc, rfl, hB, hD, hPw, hpr⟩ := hx
    have c7 : w1.cell? ⟨rb, 7, none⟩ = some (.int .i64 r.1.deep) := hD.cell 7
    have HB := Lib.hid hb
    clear hb hr hB hD hPw hpr
    go_wp2_with fail
    go_ret
    exact ⟨ret_int HR.out.symm, HB.out⟩
end Go.Proofs.YtomodlllmbkndaaGreatDoor
namespace Go.Proofs.YtomodlllmbkndaaGreatDoor
open Go.RowKit Gram

/-- the join points of a run, if there is one -/
def ptsP (o : Option (Mst × Option Fin)) : List Jpt := match o with
  | some r => r.1.pts
  | none => []
/-- what JoinPointsOf hands back -/
def PtsTo (o : Option (Mst × Option Fin)) (w : World) (e : Ending) (w' : World) : Prop :=
  (∃ a c, e = .returned (.tuple #[.slice a (ptsP o).length c, .bool o.isSome]) ∧ w'.ownsRow w.heap.size 49 3 (.slice a (ptsP o).length c) (ptsP o).length (jpC (ptsP o))) ∧ Below w.heap.size w w'

/-- join points put behind an empty row -/
theorem app_row (W : World) (B g0 : Nat) (h0 : W.heap[g0]? = some (Obj.cells #[] 49 (0, 0))) (hB : B ≤ g0) (B' n c : Nat) (a : Option Addr) (js : List Jpt) (hs : W.ownsRow B' 49 3 (.slice a n c) n (jpC js)) (hn : n ≤ 1000) :
    ∃ g c' w', (Builtin.append_ #[44, 44] 44 #[.slice (some ⟨g0, 0, none⟩) 0 0, .slice a n c]).run Tryz.prog W = .ok (.slice (some ⟨g, 0, none⟩) n c') w' ∧
      w'.ownsRow B 49 3 (.slice (some ⟨g, 0, none⟩) n c') n (jpC js) ∧ W.grownBy w' (some g0) := by
  obtain ⟨i0, hi, hz0, hz1, hz2⟩ := info_parts info_jp
  have hl : js.length = n := by have := hs.1; rw [jpC_len] at this; omega
  have hrow : W.ownsRow B 49 3 (.slice (some ⟨g0, 0, none⟩) 0 0) 0 [] := ⟨rfl, .inr ⟨g0, 0, #[], rfl, hB, h0, Nat.le_refl _, Nat.zero_le _, by simp, by simp⟩⟩
  by_cases hn0 : n = 0
  · subst hn0
    have hjs : js = [] := List.length_eq_zero_iff.1 hl
    subst hjs
    have hsrc : Src Tryz.prog i0.size 44 (.slice a 0 c) 0 [] W := by
      cases a with
      | none => exact Src.ofNil W Tryz.underlying44 c
      | some a => exact Src.ofSlice W Tryz.underlying44 a 0 c [] (by simp) (fun j u h => by simp at h) (fun _ h => by cases h)
    exact ⟨g0, 0, W, run_append_nothing W _ _ _ 49 i0 Tryz.underlying44 hi (some ⟨g0, 0, none⟩) 0 0 (Nat.le_refl _) _ hsrc, hrow, ⟨rfl, rfl, rfl, Nat.le_refl _, fun _ _ _ => rfl⟩⟩
  · rcases hs.2 with ⟨h1, h2⟩ | ⟨gs, cap, cur, h1, _, hc, _⟩
    · omega
    · injection h1 with h1 _ h3
      subst h1; subst h3
      obtain ⟨g', c', w', hrun, h2, h3, _, _⟩ := run_append_lies (P := Tryz.prog) W 44 44 B 49 i0 (.agg #[.string ⟨#[]⟩, .string ⟨#[]⟩, .string ⟨#[]⟩]) 3 48 Tryz.underlying44 hi hz0 hz1 hz2 rfl (by decide) (.slice (some ⟨g0, 0, none⟩) 0 0) 0 [] hrow ⟨gs, 0, none⟩ n c (jpC js) (by rw [jpC_len, hl])
        (fun j u hu => by
          rw [Go.WideShapes.add_plain, Nat.zero_add]
          exact row_cell hs j u hu) (by
          intro u hu
          simp only [jpC, List.mem_flatMap] at hu
          obtain ⟨j, _, hj⟩ := hu
          simp at hj
          rcases hj with rfl | rfl | rfl <;> rfl) (by omega) (by unfold maxLen; omega) (by omega) (by have := heap_lt h0; omega) W.heap.size rfl
      rw [Nat.zero_add] at hrun h2
      exact ⟨g', c', w', hrun, h2, h3⟩

set_option maxHeartbeats 1000000 in
set_option maxRecDepth 100000 in
theorem spec_pts (s nm : ByteArray) (v : Int) (w : World) (hs : s.size ≤ 1073741824) :
    Calls Tryz.prog 29 #[.string s, .string nm, .int .i64 v] w (PtsTo (runP s nm v) w) := by
  have hba : Below w.heap.size w (w.alloc (Obj.cells #[] 183)) := (Below.refl _ _).alloc (Nat.le_refl _) _
  have HF := Lib.hid (start_any s nm v (some ⟨w.heap.size, 0, none⟩) 0 (w.alloc (Obj.cells #[] 183)) hs)
  have HA := Lib.hid hba
  have HZ := Lib.hid (alloc_size' w (Obj.cells #[] 183))
  clear hs hba
  cases hr : runP s nm v with
  | none =>
    go_enter Tryz.func29, Tryz.ntmps29
    go_wp2_with fail
    refine HF.out.mono ?_
    rintro e w1 ⟨hx, hb⟩
    rw [hr] at hx
    obtain ⟨rb, rfl⟩ := hx
    have HB := Lib.hid (HA.out.trans (hb.mono HA.out.size))
    clear hb hr
    go_wp2_with fail
    go_ret2
    exact ⟨⟨some ⟨w1.heap.size, 0, none⟩, 0, rfl, ⟨rfl, .inr ⟨w1.heap.size, 0, #[], rfl, HB.out.size, heap_alloc_new w1 _, Nat.le_refl _, Nat.zero_le _, by simp, by simp [ptsP, jpC]⟩⟩⟩, HB.out.alloc HB.out.size _⟩
  | some r =>
    have hsm := (runP_small hr).2
    go_enter Tryz.func29, Tryz.ntmps29
    go_wp2_with fail
    refine HF.out.mono ?_
    rintro e w1 ⟨hx, hb⟩
    rw [hr] at hx
    obtain ⟨B, rb, pv, av, cv, oa, ja, oc, jc, rfl, hB, hD⟩ := hx
    have c7 : w1.cell? ⟨rb, 7, none⟩ = some (.slice ja r.1.pts.length jc) := hD.cell 7
    have HB := Lib.hid (HA.out.trans (hb.mono HA.out.size))
    have hx : Below w1.heap.size w1 (w1.alloc (Obj.cells #[] 49)) := (Below.refl _ _).alloc (Nat.le_refl _) _
    have d7 : (w1.alloc (Obj.cells #[] 49)).cell? ⟨rb, 7, none⟩ = some (.slice ja r.1.pts.length jc) := (later_m hD hx).cell 7
    obtain ⟨g', c', w2, hrun, hrow, hg⟩ := app_row (w1.alloc (Obj.cells #[] 49)) w.heap.size w1.heap.size (heap_alloc_new w1 _) HB.out.size B r.1.pts.length jc ja r.1.pts ((later_m hD hx).pts) (by omega)
    have RUN := Lib.hid hrun
    have HR := Lib.hid (⟨hrow, (HB.out.alloc HB.out.size _).grown hg (by rw [alloc_size']; exact Nat.le_succ_of_le HB.out.size) (fun j hj => by injection hj with hj; have := HB.out.size; omega)⟩ : _ ∧ Below w.heap.size w w2)
    clear hb hr hB hD hx hrun hrow hg c7
    go_wp2_with (at_builtin; go_loud (refine Lib.wpList_append_run _ rfl (.tmp 21) (.tmp 25) _ _ rfl _ _ rfl rfl _ _ RUN.out ?_))
    go_wp2_with fail
    go_ret2
    exact ⟨⟨_, _, rfl, HR.out.1⟩, HR.out.2⟩
end Go.Proofs.YtomodlllmbkndaaGreatDoor
namespace Go.Proofs.YtomodlllmbkndaaGreatDoor
open Go.RowKit Gram

/-- the greatest number of what is active at the first k join points, at least 1 -/
def mostTo (js : List Jpt) (k : Nat) : Nat := ((js.take k).map fun j => j.stk.length).foldl max 1
theorem mostTo_step (js : List Jpt) (k : Nat) (h : k < js.length) : mostTo js (k + 1) = max (mostTo js k) js[k].stk.length := by
  rw [mostTo, List.take_succ_eq_append_getElem h, List.map_append, List.foldl_append]; rfl
theorem foldl_max_le (l : List Nat) : ∀ (a d : Nat), a ≤ d → (∀ x ∈ l, x ≤ d) → l.foldl max a ≤ d := by
  induction l with
  | nil => intro a d h _; exact h
  | cons x l ih => intro a d h hx; exact ih _ _ (Nat.max_le.2 ⟨h, hx x (by simp)⟩) (fun y hy => hx y (by simp [hy]))
theorem le_foldl_max (l : List Nat) : ∀ a, a ≤ l.foldl max a ∧ ∀ x ∈ l, x ≤ l.foldl max a := by
  induction l with
  | nil => intro a; exact ⟨Nat.le_refl _, fun x h => by cases h⟩
  | cons y l ih =>
    intro a
    obtain ⟨h1, h2⟩ := ih (max a y)
    refine ⟨Nat.le_trans (Nat.le_max_left _ _) h1, fun x hx => ?_⟩
    rcases List.mem_cons.1 hx with rfl | hx
    · exact Nat.le_trans (Nat.le_max_right _ _) h1
    · exact h2 x hx
theorem mostTo_pos (js : List Jpt) (k : Nat) : 1 ≤ mostTo js k := (le_foldl_max _ 1).1

structure JFacts (s nm : ByteArray) (js : List Jpt) (d : Int) : Prop where
  len : js.length ≤ 501
  one : ∃ c, nm = txtOf [c] ∧ isLet c = true ∧ ∀ k (h : k < js.length), js[k].stk.head? = some c
  stk : ∀ k (h : k < js.length), 1 ≤ js[k].stk.length ∧ js[k].stk.length ≤ 20
  calls : ∀ k (h : k < js.length) c, js[k].nm = some c → (callsT (lookP s (txtOf [topOf js[k].stk]))).data.toList.contains c = true
  came : ∀ k (h : k < js.length), 2 ≤ js[k].stk.length → ∃ i, ∃ (hi : i < k) (c : UInt8), js[i].nm = some c ∧ js[k].stk = js[i].stk ++ [c]
  first : ∀ (h : 0 < js.length), txtOf js[0].stk = nm
  dep : ∃ n : Nat, d = (n : Int) ∧ n ≤ 20 ∧ (n = mostTo js js.length ∨ n = mostTo js js.length + 1)

theorem up_has {l : List UInt8} {c : UInt8} (hc : c ∈ l) (h : isLet c = true) : (setText l).contains c = true := by
  obtain ⟨h1, h2⟩ := let_rng h
  rw [List.contains_iff_mem, setText, upTo, List.mem_filter]
  refine ⟨List.mem_map.2 ⟨c.toNat, ?_, by simp⟩, by rw [List.contains_iff_mem]; exact hc⟩
  rw [List.mem_range']
  exact ⟨c.toNat - 97, by omega, by omega⟩

theorem run_ok {s nm : ByteArray} {v : Int} {r : Mst × Option Fin} (h : runP s nm v = some r) :
    ∃ ps p, progOf s = some ps ∧ lookP s nm = some p ∧ r = runOf (bodyP ps) p.1 v ∧ r.1.deep ≤ 20 ∧ r.1.pts.length ≤ 501 := by
  unfold runP at h
  cases hp : progOf s with
  | none => rw [hp] at h; cases h
  | some ps =>
    cases hl : lookP s nm with
    | none => rw [hp, hl] at h; cases h
    | some p =>
      rw [hp, hl] at h
      dsimp only at h
      split at h
      · rename_i hv
        injection h with h
        have hlet : isLet p.1 = true := ((prog_facts hp).2.1 p (look_mem hp hl).1).2.2.2
        have hB : ∀ c, wfs (bodyP ps c) = true := fun c => by
          unfold bodyP
          split
          · rename_i q hq
            exact (fits_ps hp q (List.mem_of_find?_eq_some hq)).1
          · rfl
        have hk := exec_keeps hB 501 ((Mst.start v).enter p.1) (bodyP ps p.1) (start_ok hv.1 hv.2 hlet) (hB p.1)
        refine ⟨ps, p, rfl, rfl, h.symm, ?_⟩
        unfold runOf callBy at h
        cases hr : exec (bodyP ps) 501 ((Mst.start v).enter p.1) (bodyP ps p.1) with
        | mk m' o =>
          rw [hr] at h hk
          have h1 := hk.1.deep
          have h2 := hk.1.steps
          have h3 := hk.1.pts
          cases o with
          | none => subst h; exact ⟨h1, by show m'.pts.length ≤ 501; dsimp only at h3 h2; omega⟩
          | some f => subst h; exact ⟨h1, by show m'.pts.length ≤ 501; dsimp only at h3 h2; omega⟩
      · cases h

theorem look_top {s : ByteArray} {ps : List Pr} (hp : progOf s = some ps) {d : UInt8} (hc : ∃ c, c ∈ callsIn (bodyP ps d)) : ∃ p, lookP s (txtOf [d]) = some p ∧ bodyP ps d = p.2 := by
  cases hf : ps.find? (fun p => p.1 == d) with
  | none =>
    obtain ⟨c, hc⟩ := hc
    rw [bodyP, hf] at hc
    cases hc
  | some p =>
    have hd : p.1 = d := by simpa using List.find?_some hf
    have hl : isLet d = true := by rw [← hd]; exact ((prog_facts hp).2.1 p (List.mem_of_find?_eq_some hf)).2.2.2
    refine ⟨p, ?_, by rw [bodyP, hf]⟩
    have hn : nameOf (txtOf [d]).data.toList = some d := by
      rw [txtOf_data]
      show (if isLet d = true then some d else none) = some d
      rw [if_pos hl]
    unfold lookP
    rw [hp, hn]
    exact hf

theorem j_facts {s nm : ByteArray} {v : Int} {r : Mst × Option Fin} (h : runP s nm v = some r) : JFacts s nm r.1.pts (depP s nm v) := by
  obtain ⟨ps, p, hp, hl, hr, hd, hn⟩ := run_ok h
  obtain ⟨k1, k2, k3, k4, k5, k6⟩ := run_leads (bodyP ps) p.1 v
  have hdep : depP s nm v = (r.1.deep : Int) := by rw [depP, h]
  rw [hdep]
  rw [← hr] at k1 k2 k3 k4 k5 k6
  have hpos : ∀ k (h : k < r.1.pts.length), 1 ≤ r.1.pts[k].stk.length := fun k h => by
    have := k1 _ (List.getElem_mem h)
    cases hs : r.1.pts[k].stk with
    | nil => rw [hs] at this; cases this
    | cons _ _ => simp
  have hlet : isLet p.1 = true := ((prog_facts hp).2.1 p (look_mem hp hl).1).2.2.2
  refine ⟨hn, ⟨p.1, look_name hl, hlet, fun k h => k1 _ (List.getElem_mem h)⟩, fun k h => ⟨hpos k h, Nat.le_trans (k5 _ (List.getElem_mem h)) hd⟩, ?_, ?_, ?_, ?_⟩
  · intro k hk c hc
    have hm := k2 _ (List.getElem_mem hk) c hc
    obtain ⟨q, hq, hb⟩ := look_top hp ⟨c, hm⟩
    rw [hq]
    have hg := look_good q hq
    rw [hb] at hm
    exact up_has hm (callsIn_lets q.2 hg.1 c hm)
  · intro k hk h2
    rcases k3 k hk with h3 | ⟨j, hj, c, hc, hs⟩
    · omega
    · obtain ⟨i, hi, hij⟩ := List.mem_iff_getElem.1 hj
      have hik : i < k := by rw [List.length_take] at hi; omega
      have hji : r.1.pts[i] = j := by rw [← hij, List.getElem_take]
      exact ⟨i, hik, c, by rw [hji]; exact hc, by rw [hji]; exact hs⟩
  · intro h0
    have hh := k1 _ (List.getElem_mem h0)
    rcases k3 0 h0 with h3 | ⟨j, hj, _⟩
    · rw [look_name hl]
      cases hs : r.1.pts[0].stk with
      | nil => rw [hs] at hh; cases hh
      | cons a t =>
        rw [hs] at hh h3
        injection hh with hh
        cases t with
        | nil => rw [hh]
        | cons _ _ => simp at h3
    · cases hj
  · refine ⟨r.1.deep, rfl, hd, ?_⟩
    have htk : r.1.pts.take r.1.pts.length = r.1.pts := List.take_length
    have hle : mostTo r.1.pts r.1.pts.length ≤ r.1.deep := by
      rw [mostTo, htk]
      exact foldl_max_le _ _ _ k4 (fun x hx => by
        obtain ⟨j, hj, rfl⟩ := List.mem_map.1 hx
        exact k5 j hj)
    have h1 := mostTo_pos r.1.pts r.1.pts.length
    rcases k6 with h6 | ⟨j, hj, h6⟩
    · exact .inl (by omega)
    · have := (le_foldl_max (((r.1.pts.take r.1.pts.length)).map fun j => j.stk.length) 1).2 j.stk.length (by rw [htk]; exact List.mem_map.2 ⟨j, hj, rfl⟩)
      have h7 : j.stk.length ≤ mostTo r.1.pts r.1.pts.length := this
      omega
end Go.Proofs.YtomodlllmbkndaaGreatDoor
