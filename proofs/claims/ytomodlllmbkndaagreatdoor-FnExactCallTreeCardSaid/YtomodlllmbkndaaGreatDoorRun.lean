/- Plain mathematics, no program: a run of statements with what it has so far, and what stays within limits in it. No condition. -/
import Derived.Test.YtomodlllmbkndaaGreatDoorA1
namespace Go.Proofs.YtomodlllmbkndaaGreatDoor.Gram

/-- a join point: what is called, none for a print; what is active -/
structure Jpt where
  nm : Option UInt8
  stk : List UInt8

/-- what a run has so far -/
structure Mst where
  val : Int
  out : List Int
  steps : Nat
  stk : List UInt8
  pts : List Jpt
  deep : Nat

inductive Fin where
  | long
  | deep

def Mst.come (m : Mst) : Stm → Mst
  | .prt => { m with pts := m.pts ++ [⟨none, m.stk⟩] }
  | .call c => { m with pts := m.pts ++ [⟨some c, m.stk⟩] }
  | _ => m
def Mst.tick (m : Mst) : Mst := { m with steps := m.steps + 1 }
def chgV (v : Int) (g d : UInt8) : Int :=
  (if g = 42 then v * ((d.toNat : Int) - 48) else if g = 45 then v + -((d.toNat : Int) - 48) else v + ((d.toNat : Int) - 48)).tmod 10000
def Mst.chg (m : Mst) (g d : UInt8) : Mst := { m with val := chgV m.val g d }
def Mst.prt (m : Mst) : Mst := { m with out := m.out ++ [m.val] }
def Mst.enter (m : Mst) (c : UInt8) : Mst := { m with stk := m.stk ++ [c], deep := max m.deep (m.stk.length + 1) }
def Mst.leave (m : Mst) (s : List UInt8) : Mst := { m with stk := s }

/-- a procedure's body, done by ex -/
def callBy (ex : Mst → List Stm → Mst × Option Fin) (B : UInt8 → List Stm) (m : Mst) (c : UInt8) : Mst × Option Fin :=
  match ex (m.enter c) (B c) with
  | (m', none) => (m'.leave m.stk, none)
  | (m', some e) => (m', some e)

/-- a statement behind its join point; what is within it is done by ex -/
def stepBy (ex : Mst → List Stm → Mst × Option Fin) (B : UInt8 → List Stm) (m : Mst) (x : Stm) : Mst × Option Fin :=
  if m.steps = 500 then (m, some .long) else
  match x with
  | .chg g d => (m.tick.chg g d, none)
  | .prt => (m.tick.prt, none)
  | .pro => (m.tick, none)
  | .call c => if m.stk.length = 20 then (m.tick, some .deep) else callBy ex B m.tick c
  | .cho a b => ex m.tick (if 0 < m.val then a else b)

def exec (B : UInt8 → List Stm) : Nat → Mst → List Stm → Mst × Option Fin
  | _, m, [] => (m, none)
  | 0, m, _ :: _ => (m, some .long)
  | n + 1, m, x :: xs =>
    match stepBy (exec B n) B (m.come x) x with
    | (m', none) => exec B n m' xs
    | (m', some e) => (m', some e)

/-- what goes on behind what came to no end -/
def andBy (r : Mst × Option Fin) (k : Mst → Mst × Option Fin) : Mst × Option Fin := match r with
  | (m, none) => k m
  | (m, some e) => (m, some e)
theorem exec_cons (B : UInt8 → List Stm) (n : Nat) (m : Mst) (x : Stm) (xs : List Stm) : exec B (n + 1) m (x :: xs) = andBy (stepBy (exec B n) B (m.come x) x) (fun m' => exec B n m' xs) := by
  rw [exec]
  cases stepBy (exec B n) B (m.come x) x with
  | mk a b => cases b <;> rfl

/-- a run within its limits; k: how many join points may lie ahead of the steps -/
structure Mst.ok (m : Mst) (k : Nat) : Prop where
  lo : -9999 ≤ m.val
  hi : m.val ≤ 9999
  steps : m.steps ≤ 500
  out : m.out.length ≤ m.steps
  pts : m.pts.length ≤ m.steps + k
  stk : m.stk.length ≤ 20
  pos : 1 ≤ m.stk.length
  let_ : ∀ c ∈ m.stk, isLet c = true
  deep : m.deep ≤ 20
  each : ∀ v ∈ m.out, -9999 ≤ v ∧ v ≤ 9999

theorem chgV_in (v : Int) (g d : UInt8) : -9999 ≤ chgV v g d ∧ chgV v g d ≤ 9999 := by
  unfold chgV
  generalize (if g = 42 then _ else _ : Int) = x
  have h1 := Int.tmod_lt_of_pos x (show (0 : Int) < 10000 by decide)
  have h2 : -10000 < x.tmod 10000 := by
    have h3 := Int.tmod_lt_of_pos (-x) (show (0 : Int) < 10000 by decide)
    rw [Int.neg_tmod] at h3
    omega
  omega

theorem Mst.ok.mono {m : Mst} {k : Nat} (h : m.ok k) : m.ok 1 ∨ k > 1 := by
  by_cases hk : k ≤ 1
  · exact .inl ⟨h.lo, h.hi, h.steps, h.out, by have := h.pts; omega, h.stk, h.pos, h.let_, h.deep, h.each⟩
  · exact .inr (by omega)
theorem Mst.ok.one {m : Mst} (h : m.ok 0) : m.ok 1 := ⟨h.lo, h.hi, h.steps, h.out, by have := h.pts; omega, h.stk, h.pos, h.let_, h.deep, h.each⟩
theorem Mst.ok.come {m : Mst} (h : m.ok 0) (x : Stm) : (m.come x).ok 1 ∧ (m.come x).stk = m.stk ∧ (m.come x).steps = m.steps ∧ (m.come x).val = m.val := by
  have := h.pts
  cases x with
  | prt => exact ⟨⟨h.lo, h.hi, h.steps, h.out, by simp [Mst.come]; omega, h.stk, h.pos, h.let_, h.deep, h.each⟩, rfl, rfl, rfl⟩
  | call c => exact ⟨⟨h.lo, h.hi, h.steps, h.out, by simp [Mst.come]; omega, h.stk, h.pos, h.let_, h.deep, h.each⟩, rfl, rfl, rfl⟩
  | _ => exact ⟨h.one, rfl, rfl, rfl⟩
theorem Mst.ok.tick {m : Mst} (h : m.ok 1) (hs : m.steps ≠ 500) : m.tick.ok 0 := by
  have h1 := h.steps
  have h2 := h.out
  have h3 := h.pts
  exact ⟨h.lo, h.hi, by show m.steps + 1 ≤ 500; omega, by show _ ≤ m.steps + 1; exact Nat.le_succ_of_le h2, by show m.pts.length ≤ m.steps + 1 + 0; omega, h.stk, h.pos, h.let_, h.deep, h.each⟩

/-- what is known of doing statements: within limits, more steps, what was active is so again -/
def Keeps (o : Mst → List Stm → Mst × Option Fin) : Prop :=
  ∀ (m : Mst) (xs : List Stm), m.ok 0 → wfs xs = true → (o m xs).1.ok 1 ∧ m.steps ≤ (o m xs).1.steps ∧ ((o m xs).2 = none → (o m xs).1.ok 0 ∧ (o m xs).1.stk = m.stk)

theorem wf_call {c : UInt8} (h : (Stm.call c).wf = true) : isLet c = true := by simpa [Stm.wf] using h
theorem wf_cho {a b : List Stm} (h : (Stm.cho a b).wf = true) : wfs a = true ∧ wfs b = true := by simpa [Stm.wf] using h

theorem callBy_keeps {ex : Mst → List Stm → Mst × Option Fin} {B : UInt8 → List Stm} (hB : ∀ c, wfs (B c) = true) (hex : Keeps ex) {m : Mst} (h : m.ok 0) {c : UInt8} (hc : isLet c = true) (hs : m.stk.length ≤ 19) :
    (callBy ex B m c).1.ok 1 ∧ m.steps ≤ (callBy ex B m c).1.steps ∧ ((callBy ex B m c).2 = none → (callBy ex B m c).1.ok 0 ∧ (callBy ex B m c).1.stk = m.stk) := by
  have he : (m.enter c).ok 0 := ⟨h.lo, h.hi, h.steps, h.out, h.pts, by simp [Mst.enter]; omega, by simp [Mst.enter], by
    intro d hd
    simp only [Mst.enter, List.mem_append, List.mem_singleton] at hd
    rcases hd with hd | rfl
    · exact h.let_ d hd
    · exact hc, by
    have := h.deep
    show max m.deep (m.stk.length + 1) ≤ 20
    omega, h.each⟩
  obtain ⟨k1, k2, k3⟩ := hex (m.enter c) (B c) he (hB c)
  have k2' : m.steps ≤ (ex (m.enter c) (B c)).1.steps := k2
  unfold callBy
  cases hr : ex (m.enter c) (B c) with
  | mk m' o =>
    rw [hr] at k1 k2' k3
    cases o with
    | none =>
      obtain ⟨k4, _⟩ := k3 rfl
      have k5 : (m'.leave m.stk).ok 0 := ⟨k4.lo, k4.hi, k4.steps, k4.out, k4.pts, h.stk, h.pos, h.let_, k4.deep, k4.each⟩
      exact ⟨k5.one, k2', fun _ => ⟨k5, rfl⟩⟩
    | some e => exact ⟨k1, k2', fun h => by cases h⟩

theorem stepBy_keeps {ex : Mst → List Stm → Mst × Option Fin} {B : UInt8 → List Stm} (hB : ∀ c, wfs (B c) = true) (hex : Keeps ex) {m : Mst} (h : m.ok 1) {x : Stm} (hx : x.wf = true) :
    (stepBy ex B m x).1.ok 1 ∧ ((stepBy ex B m x).2 = none → (stepBy ex B m x).1.ok 0 ∧ (stepBy ex B m x).1.stk = m.stk ∧ m.steps + 1 ≤ (stepBy ex B m x).1.steps) ∧ m.steps ≤ (stepBy ex B m x).1.steps := by
  unfold stepBy
  by_cases hs : m.steps = 500
  · rw [if_pos hs]
    exact ⟨h, (fun h => nomatch h), Nat.le_refl _⟩
  · rw [if_neg hs]
    have ht := h.tick hs
    have hts : m.tick.steps = m.steps + 1 := rfl
    cases x with
    | chg g d =>
      have := chgV_in m.val g d
      have h1 : (m.tick.chg g d).ok 0 := ⟨this.1, this.2, ht.steps, ht.out, ht.pts, ht.stk, ht.pos, ht.let_, ht.deep, ht.each⟩
      exact ⟨h1.one, fun _ => ⟨h1, rfl, Nat.le_refl _⟩, Nat.le_succ _⟩
    | prt =>
      have h1 : m.tick.prt.ok 0 := ⟨ht.lo, ht.hi, ht.steps, by
        have := h.out
        show (m.out ++ [m.val]).length ≤ m.steps + 1
        simp; omega, ht.pts, ht.stk, ht.pos, ht.let_, ht.deep, by
        intro v hv
        have hv' : v ∈ m.out ++ [m.val] := hv
        rw [List.mem_append, List.mem_singleton] at hv'
        rcases hv' with hv' | rfl
        · exact h.each v hv'
        · exact ⟨h.lo, h.hi⟩⟩
      exact ⟨h1.one, fun _ => ⟨h1, rfl, Nat.le_refl _⟩, Nat.le_succ _⟩
    | pro => exact ⟨ht.one, fun _ => ⟨ht, rfl, Nat.le_refl _⟩, Nat.le_succ _⟩
    | call c =>
      dsimp only
      by_cases hd : m.stk.length = 20
      · rw [if_pos hd]
        exact ⟨ht.one, (fun h => nomatch h), Nat.le_succ _⟩
      · rw [if_neg hd]
        have := h.stk
        obtain ⟨k1, k2, k3⟩ := callBy_keeps hB hex ht (wf_call hx) (show m.stk.length ≤ 19 by omega)
        exact ⟨k1, fun h => ⟨(k3 h).1, (k3 h).2, k2⟩, by omega⟩
    | cho a b =>
      dsimp only
      obtain ⟨k1, k2, k3⟩ := hex m.tick (if 0 < m.val then a else b) ht (by
        split
        · exact (wf_cho hx).1
        · exact (wf_cho hx).2)
      exact ⟨k1, fun h => ⟨(k3 h).1, (k3 h).2, k2⟩, by omega⟩

theorem exec_keeps {B : UInt8 → List Stm} (hB : ∀ c, wfs (B c) = true) (n : Nat) : Keeps (exec B n) := by
  induction n with
  | zero =>
    intro m xs h hw
    cases xs with
    | nil => exact ⟨h.one, Nat.le_refl _, fun _ => ⟨h, rfl⟩⟩
    | cons x xs => exact ⟨h.one, Nat.le_refl _, fun h => by cases h⟩
  | succ n ih =>
    intro m xs h hw
    cases xs with
    | nil => exact ⟨h.one, Nat.le_refl _, fun _ => ⟨h, rfl⟩⟩
    | cons x xs =>
      simp only [wfs, Bool.and_eq_true] at hw
      obtain ⟨c1, c2, c3, c4⟩ := h.come x
      obtain ⟨s1, s2, s3⟩ := stepBy_keeps hB ih c1 hw.1
      rw [exec]
      cases hr : stepBy (exec B n) B (m.come x) x with
      | mk m' o =>
        rw [hr] at s1 s2 s3
        cases o with
        | none =>
          obtain ⟨t1, t2, t3⟩ := s2 rfl
          obtain ⟨u1, u2, u3⟩ := ih m' xs t1 hw.2
          have t2' : m'.stk = m.stk := by rw [t2, c2]
          have t3' : m.steps + 1 ≤ m'.steps := by rw [← c3]; exact t3
          exact ⟨u1, by dsimp only; omega, fun h => ⟨(u3 h).1, by rw [(u3 h).2, t2']⟩⟩
        | some e => exact ⟨s1, by rw [← c3]; exact s3, fun h => by cases h⟩

/-- the first procedure -/
def Mst.start (v : Int) : Mst := ⟨v, [], 0, [], [], 0⟩
/-- a whole run: it begins with a procedure -/
def runOf (B : UInt8 → List Stm) (c : UInt8) (v : Int) : Mst × Option Fin := callBy (exec B 501) B (Mst.start v) c

def Fin.word : Option Fin → List UInt8
  | none => [100, 111, 110, 101]
  | some .long => [108, 111, 110, 103]
  | some .deep => [100, 101, 101, 112]

theorem sgn3 {g : UInt8} (h : isSgn g = true) : g = 43 ∨ g = 45 ∨ g = 42 := by
  simp [isSgn] at h; rcases h with (h | h) | h <;> simp [h]
theorem txts_drop (xs : List Stm) (k : Nat) : (txts (xs.drop k)).length ≤ (txts xs).length := by
  induction k generalizing xs with
  | zero => simp
  | succ k ih =>
    cases xs with
    | nil => simp
    | cons x xs => have := ih xs; simp [txts] at this ⊢; omega
end Go.Proofs.YtomodlllmbkndaaGreatDoor.Gram
