/- Plain mathematics, no program: the join points of a run follow its calls: the first procedure is the first one in all of them, each call is one of the last active procedure's, what is active came by a call before, and the depth is the most or one more. No condition. How much a run holds; rows that stay. Plain lemmas. JoinPointsOf of the program and of the model. Conditions: texts of at most 2^30 bytes, and the library's own number can be read. -/
import Derived.Test.YtihjkkoaccmefaaGreatDoorRun
import Derived.Test.YtihjkkoaccmefaaGreatDoorParts
import Derived.Test.YtihjkkoaccmefaaGreatDoorRx
namespace Go.Proofs.YtihjkkoaccmefaaGreatDoor.Gram

/-- the procedure that is done -/
def topOf (s : List UInt8) : UInt8 := s.getLastD 0

/-- what is active has come by a call -/
def CameBy (l : List Jpt) (s : List UInt8) : Prop := s.length ≤ 1 ∨ ∃ k ∈ l, ∃ c, k.nm = some c ∧ s = k.stk ++ [c]
theorem CameBy.snoc {l : List Jpt} {s : List UInt8} (h : CameBy l s) (j : Jpt) : CameBy (l ++ [j]) s := by
  rcases h with h | ⟨k, hk, c, h1, h2⟩
  · exact .inl h
  · exact .inr ⟨k, List.mem_append_left _ hk, c, h1, h2⟩

/-- each of some join points came by a call that is before it -/
def AllCame : List Jpt → Prop := fun l => ∀ (i : Nat) (h : i < l.length), CameBy (l.take i) l[i].stk
theorem AllCame.snoc {l : List Jpt} (h : AllCame l) {j : Jpt} (hj : CameBy l j.stk) : AllCame (l ++ [j]) := by
  intro i hi
  rw [List.length_append, List.length_singleton] at hi
  by_cases hl : i < l.length
  · rw [List.getElem_append_left hl, List.take_append_of_le_length (Nat.le_of_lt hl)]
    exact h i hl
  · have he : i = l.length := by omega
    subst he
    rw [List.take_append_of_le_length (Nat.le_refl _), List.take_length]
    simpa using hj

/-- what is known of a run's join points so far; c0: the first procedure; B: the bodies -/
structure Led (B : UInt8 → List Stm) (c0 : UInt8) (m : Mst) : Prop where
  head : m.stk.head? = some c0
  heads : ∀ j ∈ m.pts, j.stk.head? = some c0
  calls : ∀ j ∈ m.pts, ∀ c, j.nm = some c → c ∈ callsIn (B (topOf j.stk))
  came : AllCame m.pts
  now : CameBy m.pts m.stk
  deepAt : m.stk.length ≤ m.deep
  deeps : ∀ j ∈ m.pts, j.stk.length ≤ m.deep
  most : m.deep ≤ 1 ∨ ∃ j ∈ m.pts, m.deep = j.stk.length + 1

theorem Led.tick {B : UInt8 → List Stm} {c0 : UInt8} {m : Mst} (h : Led B c0 m) : Led B c0 m.tick := ⟨h.head, h.heads, h.calls, h.came, h.now, h.deepAt, h.deeps, h.most⟩
theorem Led.more {B : UInt8 → List Stm} {c0 : UInt8} {m : Mst} (h : Led B c0 m) (n : Option UInt8) (hc : ∀ c, n = some c → c ∈ callsIn (B (topOf m.stk))) : Led B c0 { m with pts := m.pts ++ [⟨n, m.stk⟩] } := by
  refine ⟨h.head, ?_, ?_, h.came.snoc h.now, h.now.snoc _, h.deepAt, ?_, ?_⟩
  · intro j hj
    rcases List.mem_append.1 hj with hj | hj
    · exact h.heads j hj
    · rw [List.mem_singleton.1 hj]; exact h.head
  · intro j hj c hjc
    rcases List.mem_append.1 hj with hj | hj
    · exact h.calls j hj c hjc
    · rw [List.mem_singleton.1 hj] at hjc ⊢; exact hc c hjc
  · intro j hj
    rcases List.mem_append.1 hj with hj | hj
    · exact h.deeps j hj
    · rw [List.mem_singleton.1 hj]; exact h.deepAt
  · rcases h.most with hm | ⟨j, hj, hm⟩
    · exact .inl hm
    · exact .inr ⟨j, List.mem_append_left _ hj, hm⟩
theorem Led.come {B : UInt8 → List Stm} {c0 : UInt8} {m : Mst} (h : Led B c0 m) (x : Stm) (hx : ∀ c ∈ callsIn [x], c ∈ callsIn (B (topOf m.stk))) : Led B c0 (m.come x) := by
  cases x with
  | prt => exact h.more none (fun c hc => by cases hc)
  | call c => exact h.more (some c) (fun d hd => by injection hd with hd; subst hd; exact hx _ (by simp [callsIn, Stm.calls]))
  | _ => exact h

/-- what is known of doing statements -/
def Leads (B : UInt8 → List Stm) (c0 : UInt8) (ex : Mst → List Stm → Mst × Option Fin) : Prop :=
  ∀ (m : Mst) (xs : List Stm), Led B c0 m → (∀ c ∈ callsIn xs, c ∈ callsIn (B (topOf m.stk))) →
    Led B c0 (ex m xs).1 ∧ (∃ l, (ex m xs).1.pts = m.pts ++ l) ∧ m.deep ≤ (ex m xs).1.deep ∧ ((ex m xs).2 = none → (ex m xs).1.stk = m.stk)

theorem CameBy.pre {l : List Jpt} {s : List UInt8} (h : CameBy l s) (l' : List Jpt) : CameBy (l ++ l') s := by
  rcases h with h | ⟨k, hk, c, h1, h2⟩
  · exact .inl h
  · exact .inr ⟨k, List.mem_append_left _ hk, c, h1, h2⟩
theorem Led.enter {B : UInt8 → List Stm} {c0 c : UInt8} {m : Mst} (h : Led B c0 m) (hp : (⟨some c, m.stk⟩ : Jpt) ∈ m.pts) : Led B c0 (m.enter c) := by
  refine ⟨?_, h.heads, h.calls, h.came, .inr ⟨_, hp, c, rfl, rfl⟩, ?_, ?_, ?_⟩
  · show (m.stk ++ [c]).head? = some c0
    have := h.head
    cases hs : m.stk with
    | nil => rw [hs] at this; cases this
    | cons x t => rw [hs] at this; exact this
  · show (m.stk ++ [c]).length ≤ max m.deep (m.stk.length + 1)
    rw [List.length_append, List.length_singleton]; omega
  · intro j hj
    have := h.deeps j hj
    show j.stk.length ≤ max m.deep (m.stk.length + 1)
    omega
  · by_cases hd : m.stk.length + 1 ≤ m.deep
    · have he : max m.deep (m.stk.length + 1) = m.deep := by omega
      rcases h.most with hm | ⟨j, hj, hm⟩
      · exact .inl (by show max m.deep (m.stk.length + 1) ≤ 1; omega)
      · exact .inr ⟨j, hj, by show max m.deep (m.stk.length + 1) = _; omega⟩
    · exact .inr ⟨_, hp, by show max m.deep (m.stk.length + 1) = m.stk.length + 1; omega⟩
theorem top_enter (s : List UInt8) (c : UInt8) : topOf (s ++ [c]) = c := by rw [topOf, List.getLastD_eq_getLast?, List.getLast?_append]; rfl

theorem callBy_leads {B : UInt8 → List Stm} {c0 : UInt8} {ex : Mst → List Stm → Mst × Option Fin} (hex : Leads B c0 ex) {m : Mst} (h : Led B c0 m) {c : UInt8} (hp : (⟨some c, m.stk⟩ : Jpt) ∈ m.pts) :
    Led B c0 (callBy ex B m c).1 ∧ (∃ l, (callBy ex B m c).1.pts = m.pts ++ l) ∧ m.deep ≤ (callBy ex B m c).1.deep ∧ ((callBy ex B m c).2 = none → (callBy ex B m c).1.stk = m.stk) := by
  obtain ⟨k1, ⟨l, k2⟩, k3, k4⟩ := hex (m.enter c) (B c) (h.enter hp) (fun d hd => by
    show d ∈ callsIn (B (topOf (m.stk ++ [c])))
    rw [top_enter]; exact hd)
  have k3' : m.deep ≤ (ex (m.enter c) (B c)).1.deep := Nat.le_trans (Nat.le_max_left _ _) k3
  have k2' : (ex (m.enter c) (B c)).1.pts = m.pts ++ l := k2
  unfold callBy
  cases hr : ex (m.enter c) (B c) with
  | mk m' o =>
    rw [hr] at k1 k2' k3' k4
    cases o with
    | none =>
      have hd := h.deepAt
      dsimp only at k2' k3'
      exact ⟨⟨h.head, k1.heads, k1.calls, k1.came, by show CameBy m'.pts m.stk; rw [k2']; exact h.now.pre l, by show m.stk.length ≤ m'.deep; omega, k1.deeps, k1.most⟩, ⟨l, k2'⟩, k3', fun _ => rfl⟩
    | some e => exact ⟨k1, ⟨l, k2'⟩, k3', fun h => by cases h⟩

theorem stepBy_leads {B : UInt8 → List Stm} {c0 : UInt8} {ex : Mst → List Stm → Mst × Option Fin} (hex : Leads B c0 ex) {m : Mst} (h : Led B c0 m) (x : Stm) (hx : ∀ c ∈ x.calls, c ∈ callsIn (B (topOf m.stk))) :
    Led B c0 (stepBy ex B (m.come x) x).1 ∧ (∃ l, (stepBy ex B (m.come x) x).1.pts = m.pts ++ l) ∧ m.deep ≤ (stepBy ex B (m.come x) x).1.deep ∧ ((stepBy ex B (m.come x) x).2 = none → (stepBy ex B (m.come x) x).1.stk = m.stk) := by
  have hc := h.come x (fun c hc => hx c (by simpa [callsIn] using hc))
  have hcs : (m.come x).stk = m.stk := by cases x <;> rfl
  have hcd : (m.come x).deep = m.deep := by cases x <;> rfl
  have hcp : ∃ l, (m.come x).pts = m.pts ++ l := by
    cases x with
    | prt => exact ⟨_, rfl⟩
    | call c => exact ⟨_, rfl⟩
    | _ => exact ⟨[], (List.append_nil _).symm⟩
  unfold stepBy
  by_cases hs : (m.come x).steps = 500
  · rw [if_pos hs]
    exact ⟨hc, hcp, by rw [hcd]; exact Nat.le_refl _, fun h => by cases h⟩
  · rw [if_neg hs]
    have ht := hc.tick
    cases x with
    | chg g d => exact ⟨⟨ht.head, ht.heads, ht.calls, ht.came, ht.now, ht.deepAt, ht.deeps, ht.most⟩, hcp, Nat.le_refl _, fun _ => rfl⟩
    | prt => exact ⟨⟨ht.head, ht.heads, ht.calls, ht.came, ht.now, ht.deepAt, ht.deeps, ht.most⟩, hcp, Nat.le_refl _, fun _ => rfl⟩
    | pro => exact ⟨ht, hcp, Nat.le_refl _, fun _ => rfl⟩
    | call c =>
      dsimp only
      by_cases hd : (m.come (.call c)).stk.length = 20
      · rw [if_pos hd]
        exact ⟨ht, hcp, Nat.le_refl _, fun h => by cases h⟩
      · rw [if_neg hd]
        obtain ⟨k1, ⟨l, k2⟩, k3, k4⟩ := callBy_leads hex ht (c := c) (List.mem_append_right _ (List.mem_singleton.2 rfl))
        refine ⟨k1, ⟨[⟨some c, m.stk⟩] ++ l, ?_⟩, k3, k4⟩
        rw [k2]
        show (m.pts ++ [_]) ++ l = _
        rw [List.append_assoc]
    | cho a b =>
      dsimp only
      have hab : ∀ c ∈ callsIn (if 0 < (m.come (.cho a b)).val then a else b), c ∈ callsIn (B (topOf m.stk)) := fun c hc => hx c (by
        simp only [Stm.calls, List.mem_append]
        split at hc
        · exact .inl hc
        · exact .inr hc)
      exact hex (m.come (.cho a b)).tick _ ht hab

theorem exec_leads (B : UInt8 → List Stm) (c0 : UInt8) (n : Nat) : Leads B c0 (exec B n) := by
  induction n with
  | zero =>
    intro m xs h hx
    cases xs with
    | nil => exact ⟨h, ⟨[], (List.append_nil _).symm⟩, Nat.le_refl _, fun _ => rfl⟩
    | cons x xs => exact ⟨h, ⟨[], (List.append_nil _).symm⟩, Nat.le_refl _, fun h => by cases h⟩
  | succ n ih =>
    intro m xs h hx
    cases xs with
    | nil => exact ⟨h, ⟨[], (List.append_nil _).symm⟩, Nat.le_refl _, fun _ => rfl⟩
    | cons x xs =>
      obtain ⟨s1, ⟨l, s2⟩, s3, s4⟩ := stepBy_leads ih h x (fun c hc => hx c (by simp [callsIn, hc]))
      rw [exec]
      cases hr : stepBy (exec B n) B (m.come x) x with
      | mk m' o =>
        rw [hr] at s1 s2 s3 s4
        cases o with
        | none =>
          have s4' : m'.stk = m.stk := s4 rfl
          obtain ⟨t1, ⟨l2, t2⟩, t3, t4⟩ := ih m' xs s1 (fun c hc => by rw [s4']; exact hx c (by simp [callsIn, hc]))
          exact ⟨t1, ⟨l ++ l2, by dsimp only at s2 ⊢; rw [t2, s2, List.append_assoc]⟩, Nat.le_trans s3 t3, fun h => by rw [t4 h, s4']⟩
        | some e => exact ⟨s1, ⟨l, s2⟩, s3, fun h => by cases h⟩

/-- of a whole run -/
theorem run_leads (B : UInt8 → List Stm) (c : UInt8) (v : Int) :
    (∀ j ∈ (runOf B c v).1.pts, j.stk.head? = some c) ∧ (∀ j ∈ (runOf B c v).1.pts, ∀ d, j.nm = some d → d ∈ callsIn (B (topOf j.stk))) ∧ AllCame (runOf B c v).1.pts ∧
    1 ≤ (runOf B c v).1.deep ∧ (∀ j ∈ (runOf B c v).1.pts, j.stk.length ≤ (runOf B c v).1.deep) ∧ ((runOf B c v).1.deep ≤ 1 ∨ ∃ j ∈ (runOf B c v).1.pts, (runOf B c v).1.deep = j.stk.length + 1) := by
  have h0 : Led B c ((Mst.start v).enter c) := ⟨rfl, (fun j hj => nomatch hj), (fun j hj => nomatch hj), (fun i hi => absurd hi (Nat.not_lt_zero i)), .inl (Nat.le_refl _), Nat.le_refl _, (fun j hj => nomatch hj), .inl (Nat.le_refl _)⟩
  obtain ⟨k1, _, k3, _⟩ := exec_leads B c 501 ((Mst.start v).enter c) (B c) h0 (fun d hd => hd)
  unfold runOf callBy
  cases hr : exec B 501 ((Mst.start v).enter c) (B c) with
  | mk m' o =>
    rw [hr] at k1 k3
    cases o with
    | none => exact ⟨k1.heads, k1.calls, k1.came, k3, k1.deeps, k1.most⟩
    | some e => exact ⟨k1.heads, k1.calls, k1.came, k3, k1.deeps, k1.most⟩
end Go.Proofs.YtihjkkoaccmefaaGreatDoor.Gram
namespace Go.Proofs.YtihjkkoaccmefaaGreatDoor
open Go.RowKit Gram

/-- how much a run holds -/
theorem runP_small {s nm : ByteArray} {v : Int} {r : Mst × Option Fin} (h : runP s nm v = some r) : r.1.out.length ≤ 500 ∧ r.1.pts.length ≤ 501 := by
  unfold runP at h
  cases hp : progOf s with
  | none => rw [hp] at h; cases h
  | some ps =>
    cases hl : lookP s nm with
    | none => rw [hp, hl] at h; cases h
    | some p =>
      rw [hp, hl] at h
      dsimp only at h
      split at h
      · rename_i hv
        injection h with h
        have hlet : isLet p.1 = true := ((prog_facts hp).2.1 p (look_mem hp hl).1).2.2.2
        have hB : ∀ c, wfs (bodyP ps c) = true := fun c => by
          unfold bodyP
          split
          · rename_i q hq
            exact (fits_ps hp q (List.mem_of_find?_eq_some hq)).1
          · rfl
        have hk := exec_keeps hB 501 ((Mst.start v).enter p.1) (bodyP ps p.1) (start_ok hv.1 hv.2 hlet) (hB p.1)
        unfold runOf callBy at h
        cases hr : exec (bodyP ps) 501 ((Mst.start v).enter p.1) (bodyP ps p.1) with
        | mk m' o =>
          rw [hr] at h hk
          have h1 := hk.1.out
          have h2 := hk.1.steps
          have h3 := hk.1.pts
          cases o with
          | none => subst h; exact ⟨by show m'.out.length ≤ 500; dsimp only at h1 h2; omega, by show m'.pts.length ≤ 501; dsimp only at h3 h2; omega⟩
          | some f => subst h; exact ⟨by show m'.out.length ≤ 500; dsimp only at h1 h2; omega, by show m'.pts.length ≤ 501; dsimp only at h3 h2; omega⟩
      · cases h
end Go.Proofs.YtihjkkoaccmefaaGreatDoor
namespace Go.Proofs.YtihjkkoaccmefaaGreatDoor
open Go.RowKit Gram

/-- the join points of a run, if there is one -/
def ptsP (o : Option (Mst × Option Fin)) : List Jpt := match o with
  | some r => r.1.pts
  | none => []
/-- what JoinPointsOf hands back -/
def PtsTo (o : Option (Mst × Option Fin)) (w : World) (e : Ending) (w' : World) : Prop :=
  (∃ a c, e = .returned (.tuple #[.slice a (ptsP o).length c, .bool o.isSome]) ∧ w'.ownsRow w.heap.size 33 3 (.slice a (ptsP o).length c) (ptsP o).length (jpC (ptsP o))) ∧ Below w.heap.size w w'

set_option maxHeartbeats 1000000 in
set_option maxRecDepth 100000 in
theorem impl_pts (s nm : ByteArray) (v : Int) (w : World) (hs : s.size ≤ 1073741824) (hm : MaxCell w) :
    Calls Tryz.prog 8 #[.string s, .string nm, .int .i64 v] w (PtsTo (runP s nm v) w) := by
  have HF := Lib.hid (run_of s nm v w hs hm)
  clear hm hs
  cases hr : runP s nm v with
  | none =>
    go_enter Tryz.func8, Tryz.ntmps8
    go_wp2_with fail
    refine HF.out.mono ?_
    rintro e w1 ⟨hx, hb⟩
    rw [hr] at hx
    subst hx
    have HB := Lib.hid hb
    clear hb hr
    go_wp2_with fail
    go_ret2
    exact ⟨⟨none, 0, rfl, World.ownsRow_nil _ _ _ _⟩, HB.out⟩
  | some r =>
    go_enter Tryz.func8, Tryz.ntmps8
    go_wp2_with fail
    refine HF.out.mono ?_
    rintro e w1 ⟨hx, hb⟩
    rw [hr] at hx
    obtain ⟨B, rb, S, qs, pv, oa, ja, oc, jc, rfl, hB, hD, hPw, hpr⟩ := hx
    have c5 : w1.cell? ⟨rb, 5, none⟩ = some (.slice ja r.1.pts.length jc) := hD.cell 5
    have HB := Lib.hid (⟨hb, hD, hB⟩ : _ ∧ _ ∧ _)
    clear hb hr hB hD hPw hpr
    go_wp2_with fail
    go_ret2
    exact ⟨⟨ja, jc, rfl, ownsRow_base HB.out.2.1.pts fun g hg => Nat.le_trans HB.out.2.2 (row_block HB.out.2.1.pts hg).1⟩, HB.out.1⟩

/-- join points put behind an empty row -/
theorem app_row (W : World) (B g0 : Nat) (h0 : W.heap[g0]? = some (Obj.cells #[] 33 (0, 0))) (hB : B ≤ g0) (B' n c : Nat) (a : Option Addr) (js : List Jpt) (hs : W.ownsRow B' 33 3 (.slice a n c) n (jpC js)) (hn : n ≤ 1000) :
    ∃ g c' w', (Builtin.append_ #[27, 27] 27 #[.slice (some ⟨g0, 0, none⟩) 0 0, .slice a n c]).run Tryz.prog W = .ok (.slice (some ⟨g, 0, none⟩) n c') w' ∧
      w'.ownsRow B 33 3 (.slice (some ⟨g, 0, none⟩) n c') n (jpC js) ∧ W.grownBy w' (some g0) := by
  obtain ⟨i0, hi, hz0, hz1, hz2⟩ := info_parts info_jp
  have hl : js.length = n := by have := hs.1; rw [jpC_len] at this; omega
  have hrow : W.ownsRow B 33 3 (.slice (some ⟨g0, 0, none⟩) 0 0) 0 [] := ⟨rfl, .inr ⟨g0, 0, #[], rfl, hB, h0, Nat.le_refl _, Nat.zero_le _, by simp, by simp⟩⟩
  by_cases hn0 : n = 0
  · subst hn0
    have hjs : js = [] := List.length_eq_zero_iff.1 hl
    subst hjs
    have hsrc : Src Tryz.prog i0.size 27 (.slice a 0 c) 0 [] W := by
      cases a with
      | none => exact Src.ofNil W Tryz.underlying27 c
      | some a => exact Src.ofSlice W Tryz.underlying27 a 0 c [] (by simp) (fun j u h => by simp at h) (fun _ h => by cases h)
    exact ⟨g0, 0, W, run_append_nothing W _ _ _ 33 i0 Tryz.underlying27 hi (some ⟨g0, 0, none⟩) 0 0 (Nat.le_refl _) _ hsrc, hrow, ⟨rfl, rfl, rfl, Nat.le_refl _, fun _ _ _ => rfl⟩⟩
  · rcases hs.2 with ⟨h1, h2⟩ | ⟨gs, cap, cur, h1, _, hc, _⟩
    · omega
    · injection h1 with h1 _ h3
      subst h1; subst h3
      obtain ⟨g', c', w', hrun, h2, h3, _, _⟩ := run_append_lies (P := Tryz.prog) W 27 27 B 33 i0 (.agg #[.string ⟨#[]⟩, .string ⟨#[]⟩, .string ⟨#[]⟩]) 3 48 Tryz.underlying27 hi hz0 hz1 hz2 rfl (by decide) (.slice (some ⟨g0, 0, none⟩) 0 0) 0 [] hrow ⟨gs, 0, none⟩ n c (jpC js) (by rw [jpC_len, hl])
        (fun j u hu => by
          rw [Go.WideShapes.add_plain, Nat.zero_add]
          exact row_cell hs j u hu) (by
          intro u hu
          simp only [jpC, List.mem_flatMap] at hu
          obtain ⟨j, _, hj⟩ := hu
          simp at hj
          rcases hj with rfl | rfl | rfl <;> rfl) (by omega) (by unfold maxLen; omega) (by omega) (by have := heap_lt h0; omega) W.heap.size rfl
      rw [Nat.zero_add] at hrun h2
      exact ⟨g', c', w', hrun, h2, h3⟩

end Go.Proofs.YtihjkkoaccmefaaGreatDoor
