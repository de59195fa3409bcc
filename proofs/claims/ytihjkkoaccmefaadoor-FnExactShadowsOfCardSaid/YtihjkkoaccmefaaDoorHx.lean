/- Plain mathematics, no program: a run of statements with what it has so far, and what stays within limits in it. No condition. What kind a statement of a body is: the type switches' facts. No condition. joinPointAt, and the cells of join points. No condition. eachStatement: what a visitor with two caught variables does, told by what holds behind each statement. Condition: at most 2^20 statements. The program's shadows: shadowAt, shadows of a procedure and of a program, ShadowsOf. No condition but the text's size and that the library's own number can be read. The program's shadows, walked: the visitor, shadows of a procedure and of a program, ShadowsOf. Condition: the library's own number can be read. Ways of calls from a procedure to another one, past some or not, plainly. No condition; no walk. The model's shadows: l6Places, ShadowsOf. No condition but the text's size. The laws' markShadowS, heldShadowS over a row of shadows, its texts laid flat, and eqShadowS. Conditions: at most 2^20 shadows. The law FnExactShadowsOf answers true at every text. Condition: the library's own number can be read. -/
import Derived.Test.YtihjkkoaccmefaaDoorGram
import Derived.Test.YtihjkkoaccmefaaDoorEach
import Derived.Test.YtihjkkoaccmefaaDoorTxt
import Derived.Test.YtihjkkoaccmefaaDoorPRow
import Derived.Test.YtihjkkoaccmefaaDoorFacts
import Derived.Deep.AppendLies
import Derived.Lib.AppendZeros
import Derived.Test.YtihjkkoaccmefaaDoorCalls
import Derived.Deep.Upon
import Derived.Test.YtihjkkoaccmefaaDoorZx
import Derived.Test.YtihjkkoaccmefaaDoorVx
import Derived.Test.YtihjkkoaccmefaaDoorSbod
import Derived.Test.YtihjkkoaccmefaaDoorMkt
import Derived.Deep.RegionHeld3
namespace Go.Proofs.YtihjkkoaccmefaaDoor.Gram

/-- a join point: what is called, none for a print; what is active -/
structure Jpt where
  nm : Option UInt8
  stk : List UInt8

/-- what a run has so far -/
structure Mst where
  val : Int
  out : List Int
  steps : Nat
  stk : List UInt8
  pts : List Jpt
  deep : Nat

inductive Fin where
  | long
  | deep

def Mst.come (m : Mst) : Stm → Mst
  | .prt => { m with pts := m.pts ++ [⟨none, m.stk⟩] }
  | .call c => { m with pts := m.pts ++ [⟨some c, m.stk⟩] }
  | _ => m
def Mst.tick (m : Mst) : Mst := { m with steps := m.steps + 1 }
def chgV (v : Int) (g d : UInt8) : Int :=
  (if g = 42 then v * ((d.toNat : Int) - 48) else if g = 45 then v + -((d.toNat : Int) - 48) else v + ((d.toNat : Int) - 48)).tmod 10000
def Mst.chg (m : Mst) (g d : UInt8) : Mst := { m with val := chgV m.val g d }
def Mst.prt (m : Mst) : Mst := { m with out := m.out ++ [m.val] }
def Mst.enter (m : Mst) (c : UInt8) : Mst := { m with stk := m.stk ++ [c], deep := max m.deep (m.stk.length + 1) }
def Mst.leave (m : Mst) (s : List UInt8) : Mst := { m with stk := s }

/-- a procedure's body, done by ex -/
def callBy (ex : Mst → List Stm → Mst × Option Fin) (B : UInt8 → List Stm) (m : Mst) (c : UInt8) : Mst × Option Fin :=
  match ex (m.enter c) (B c) with
  | (m', none) => (m'.leave m.stk, none)
  | (m', some e) => (m', some e)

/-- a statement behind its join point; what is within it is done by ex -/
def stepBy (ex : Mst → List Stm → Mst × Option Fin) (B : UInt8 → List Stm) (m : Mst) (x : Stm) : Mst × Option Fin :=
  if m.steps = 500 then (m, some .long) else
  match x with
  | .chg g d => (m.tick.chg g d, none)
  | .prt => (m.tick.prt, none)
  | .pro => (m.tick, none)
  | .call c => if m.stk.length = 20 then (m.tick, some .deep) else callBy ex B m.tick c
  | .cho a b => ex m.tick (if 0 < m.val then a else b)

def exec (B : UInt8 → List Stm) : Nat → Mst → List Stm → Mst × Option Fin
  | _, m, [] => (m, none)
  | 0, m, _ :: _ => (m, some .long)
  | n + 1, m, x :: xs =>
    match stepBy (exec B n) B (m.come x) x with
    | (m', none) => exec B n m' xs
    | (m', some e) => (m', some e)

/-- what goes on behind what came to no end -/
def andBy (r : Mst × Option Fin) (k : Mst → Mst × Option Fin) : Mst × Option Fin := match r with
  | (m, none) => k m
  | (m, some e) => (m, some e)
theorem exec_cons (B : UInt8 → List Stm) (n : Nat) (m : Mst) (x : Stm) (xs : List Stm) : exec B (n + 1) m (x :: xs) = andBy (stepBy (exec B n) B (m.come x) x) (fun m' => exec B n m' xs) := by
  rw [exec]
  cases stepBy (exec B n) B (m.come x) x with
  | mk a b => cases b <;> rfl

/-- a run within its limits; k: how many join points may lie ahead of the steps -/
structure Mst.ok (m : Mst) (k : Nat) : Prop where
  lo : -9999 ≤ m.val
  hi : m.val ≤ 9999
  steps : m.steps ≤ 500
  out : m.out.length ≤ m.steps
  pts : m.pts.length ≤ m.steps + k
  stk : m.stk.length ≤ 20
  pos : 1 ≤ m.stk.length
  let_ : ∀ c ∈ m.stk, isLet c = true
  deep : m.deep ≤ 20
  each : ∀ v ∈ m.out, -9999 ≤ v ∧ v ≤ 9999

theorem chgV_in (v : Int) (g d : UInt8) : -9999 ≤ chgV v g d ∧ chgV v g d ≤ 9999 := by
  unfold chgV
  generalize (if g = 42 then _ else _ : Int) = x
  have h1 := Int.tmod_lt_of_pos x (show (0 : Int) < 10000 by decide)
  have h2 : -10000 < x.tmod 10000 := by
    have h3 := Int.tmod_lt_of_pos (-x) (show (0 : Int) < 10000 by decide)
    rw [Int.neg_tmod] at h3
    omega
  omega

theorem Mst.ok.mono {m : Mst} {k : Nat} (h : m.ok k) : m.ok 1 ∨ k > 1 := by
  by_cases hk : k ≤ 1
  · exact .inl ⟨h.lo, h.hi, h.steps, h.out, by have := h.pts; omega, h.stk, h.pos, h.let_, h.deep, h.each⟩
  · exact .inr (by omega)
theorem Mst.ok.one {m : Mst} (h : m.ok 0) : m.ok 1 := ⟨h.lo, h.hi, h.steps, h.out, by have := h.pts; omega, h.stk, h.pos, h.let_, h.deep, h.each⟩
theorem Mst.ok.come {m : Mst} (h : m.ok 0) (x : Stm) : (m.come x).ok 1 ∧ (m.come x).stk = m.stk ∧ (m.come x).steps = m.steps ∧ (m.come x).val = m.val := by
  have := h.pts
  cases x with
  | prt => exact ⟨⟨h.lo, h.hi, h.steps, h.out, by simp [Mst.come]; omega, h.stk, h.pos, h.let_, h.deep, h.each⟩, rfl, rfl, rfl⟩
  | call c => exact ⟨⟨h.lo, h.hi, h.steps, h.out, by simp [Mst.come]; omega, h.stk, h.pos, h.let_, h.deep, h.each⟩, rfl, rfl, rfl⟩
  | _ => exact ⟨h.one, rfl, rfl, rfl⟩
theorem Mst.ok.tick {m : Mst} (h : m.ok 1) (hs : m.steps ≠ 500) : m.tick.ok 0 := by
  have h1 := h.steps
  have h2 := h.out
  have h3 := h.pts
  exact ⟨h.lo, h.hi, by show m.steps + 1 ≤ 500; omega, by show _ ≤ m.steps + 1; exact Nat.le_succ_of_le h2, by show m.pts.length ≤ m.steps + 1 + 0; omega, h.stk, h.pos, h.let_, h.deep, h.each⟩

/-- what is known of doing statements: within limits, more steps, what was active is so again -/
def Keeps (o : Mst → List Stm → Mst × Option Fin) : Prop :=
  ∀ (m : Mst) (xs : List Stm), m.ok 0 → wfs xs = true → (o m xs).1.ok 1 ∧ m.steps ≤ (o m xs).1.steps ∧ ((o m xs).2 = none → (o m xs).1.ok 0 ∧ (o m xs).1.stk = m.stk)

theorem wf_call {c : UInt8} (h : (Stm.call c).wf = true) : isLet c = true := by simpa [Stm.wf] using h
theorem wf_cho {a b : List Stm} (h : (Stm.cho a b).wf = true) : wfs a = true ∧ wfs b = true := by simpa [Stm.wf] using h

theorem callBy_keeps {ex : Mst → List Stm → Mst × Option Fin} {B : UInt8 → List Stm} (hB : ∀ c, wfs (B c) = true) (hex : Keeps ex) {m : Mst} (h : m.ok 0) {c : UInt8} (hc : isLet c = true) (hs : m.stk.length ≤ 19) :
    (callBy ex B m c).1.ok 1 ∧ m.steps ≤ (callBy ex B m c).1.steps ∧ ((callBy ex B m c).2 = none → (callBy ex B m c).1.ok 0 ∧ (callBy ex B m c).1.stk = m.stk) := by
  have he : (m.enter c).ok 0 := ⟨h.lo, h.hi, h.steps, h.out, h.pts, by simp [Mst.enter]; omega, by simp [Mst.enter], by
    intro d hd
    simp only [Mst.enter, List.mem_append, List.mem_singleton] at hd
    rcases hd with hd | rfl
    · exact h.let_ d hd
    · exact hc, by
    have := h.deep
    show max m.deep (m.stk.length + 1) ≤ 20
    omega, h.each⟩
  obtain ⟨k1, k2, k3⟩ := hex (m.enter c) (B c) he (hB c)
  have k2' : m.steps ≤ (ex (m.enter c) (B c)).1.steps := k2
  unfold callBy
  cases hr : ex (m.enter c) (B c) with
  | mk m' o =>
    rw [hr] at k1 k2' k3
    cases o with
    | none =>
      obtain ⟨k4, _⟩ := k3 rfl
      have k5 : (m'.leave m.stk).ok 0 := ⟨k4.lo, k4.hi, k4.steps, k4.out, k4.pts, h.stk, h.pos, h.let_, k4.deep, k4.each⟩
      exact ⟨k5.one, k2', fun _ => ⟨k5, rfl⟩⟩
    | some e => exact ⟨k1, k2', fun h => by cases h⟩

theorem stepBy_keeps {ex : Mst → List Stm → Mst × Option Fin} {B : UInt8 → List Stm} (hB : ∀ c, wfs (B c) = true) (hex : Keeps ex) {m : Mst} (h : m.ok 1) {x : Stm} (hx : x.wf = true) :
    (stepBy ex B m x).1.ok 1 ∧ ((stepBy ex B m x).2 = none → (stepBy ex B m x).1.ok 0 ∧ (stepBy ex B m x).1.stk = m.stk ∧ m.steps + 1 ≤ (stepBy ex B m x).1.steps) ∧ m.steps ≤ (stepBy ex B m x).1.steps := by
  unfold stepBy
  by_cases hs : m.steps = 500
  · rw [if_pos hs]
    exact ⟨h, (fun h => nomatch h), Nat.le_refl _⟩
  · rw [if_neg hs]
    have ht := h.tick hs
    have hts : m.tick.steps = m.steps + 1 := rfl
    cases x with
    | chg g d =>
      have := chgV_in m.val g d
      have h1 : (m.tick.chg g d).ok 0 := ⟨this.1, this.2, ht.steps, ht.out, ht.pts, ht.stk, ht.pos, ht.let_, ht.deep, ht.each⟩
      exact ⟨h1.one, fun _ => ⟨h1, rfl, Nat.le_refl _⟩, Nat.le_succ _⟩
    | prt =>
      have h1 : m.tick.prt.ok 0 := ⟨ht.lo, ht.hi, ht.steps, by
        have := h.out
        show (m.out ++ [m.val]).length ≤ m.steps + 1
        simp; omega, ht.pts, ht.stk, ht.pos, ht.let_, ht.deep, by
        intro v hv
        have hv' : v ∈ m.out ++ [m.val] := hv
        rw [List.mem_append, List.mem_singleton] at hv'
        rcases hv' with hv' | rfl
        · exact h.each v hv'
        · exact ⟨h.lo, h.hi⟩⟩
      exact ⟨h1.one, fun _ => ⟨h1, rfl, Nat.le_refl _⟩, Nat.le_succ _⟩
    | pro => exact ⟨ht.one, fun _ => ⟨ht, rfl, Nat.le_refl _⟩, Nat.le_succ _⟩
    | call c =>
      dsimp only
      by_cases hd : m.stk.length = 20
      · rw [if_pos hd]
        exact ⟨ht.one, (fun h => nomatch h), Nat.le_succ _⟩
      · rw [if_neg hd]
        have := h.stk
        obtain ⟨k1, k2, k3⟩ := callBy_keeps hB hex ht (wf_call hx) (show m.stk.length ≤ 19 by omega)
        exact ⟨k1, fun h => ⟨(k3 h).1, (k3 h).2, k2⟩, by omega⟩
    | cho a b =>
      dsimp only
      obtain ⟨k1, k2, k3⟩ := hex m.tick (if 0 < m.val then a else b) ht (by
        split
        · exact (wf_cho hx).1
        · exact (wf_cho hx).2)
      exact ⟨k1, fun h => ⟨(k3 h).1, (k3 h).2, k2⟩, by omega⟩

theorem exec_keeps {B : UInt8 → List Stm} (hB : ∀ c, wfs (B c) = true) (n : Nat) : Keeps (exec B n) := by
  induction n with
  | zero =>
    intro m xs h hw
    cases xs with
    | nil => exact ⟨h.one, Nat.le_refl _, fun _ => ⟨h, rfl⟩⟩
    | cons x xs => exact ⟨h.one, Nat.le_refl _, fun h => by cases h⟩
  | succ n ih =>
    intro m xs h hw
    cases xs with
    | nil => exact ⟨h.one, Nat.le_refl _, fun _ => ⟨h, rfl⟩⟩
    | cons x xs =>
      simp only [wfs, Bool.and_eq_true] at hw
      obtain ⟨c1, c2, c3, c4⟩ := h.come x
      obtain ⟨s1, s2, s3⟩ := stepBy_keeps hB ih c1 hw.1
      rw [exec]
      cases hr : stepBy (exec B n) B (m.come x) x with
      | mk m' o =>
        rw [hr] at s1 s2 s3
        cases o with
        | none =>
          obtain ⟨t1, t2, t3⟩ := s2 rfl
          obtain ⟨u1, u2, u3⟩ := ih m' xs t1 hw.2
          have t2' : m'.stk = m.stk := by rw [t2, c2]
          have t3' : m.steps + 1 ≤ m'.steps := by rw [← c3]; exact t3
          exact ⟨u1, by dsimp only; omega, fun h => ⟨(u3 h).1, by rw [(u3 h).2, t2']⟩⟩
        | some e => exact ⟨s1, by rw [← c3]; exact s3, fun h => by cases h⟩

/-- the first procedure -/
def Mst.start (v : Int) : Mst := ⟨v, [], 0, [], [], 0⟩
/-- a whole run: it begins with a procedure -/
def runOf (B : UInt8 → List Stm) (c : UInt8) (v : Int) : Mst × Option Fin := callBy (exec B 501) B (Mst.start v) c

def Fin.word : Option Fin → List UInt8
  | none => [100, 111, 110, 101]
  | some .long => [108, 111, 110, 103]
  | some .deep => [100, 101, 101, 112]

theorem sgn3 {g : UInt8} (h : isSgn g = true) : g = 43 ∨ g = 45 ∨ g = 42 := by
  simp [isSgn] at h; rcases h with (h | h) | h <;> simp [h]
theorem txts_drop (xs : List Stm) (k : Nat) : (txts (xs.drop k)).length ≤ (txts xs).length := by
  induction k generalizing xs with
  | zero => simp
  | succ k ih =>
    cases xs with
    | nil => simp
    | cons x xs => have := ih xs; simp [txts] at this ⊢; omega
end Go.Proofs.YtihjkkoaccmefaaDoor.Gram
namespace Go.Proofs.YtihjkkoaccmefaaDoor
open Go.RowKit Gram

theorem sw_chg_chg (pv : Value) (w : World) : (Instr.typeAssert (.iface 136 pv) 90 136 true).run Tryd.prog w = .ok (.tuple #[pv, .bool true]) w := by kernel_rfl
theorem sw_prt_chg (pv : Value) (w : World) : (Instr.typeAssert (.iface 130 pv) 90 136 true).run Tryd.prog w = .ok (.tuple #[.agg #[.int .u8 0, .int .u8 0], .bool false]) w := by kernel_rfl
theorem sw_prt_prt (pv : Value) (w : World) : (Instr.typeAssert (.iface 130 pv) 90 130 true).run Tryd.prog w = .ok (.tuple #[pv, .bool true]) w := by kernel_rfl
theorem sw_call_chg (pv : Value) (w : World) : (Instr.typeAssert (.iface 105 pv) 90 136 true).run Tryd.prog w = .ok (.tuple #[.agg #[.int .u8 0, .int .u8 0], .bool false]) w := by kernel_rfl
theorem sw_call_prt (pv : Value) (w : World) : (Instr.typeAssert (.iface 105 pv) 90 130 true).run Tryd.prog w = .ok (.tuple #[.agg #[], .bool false]) w := by kernel_rfl
theorem sw_call_call (pv : Value) (w : World) : (Instr.typeAssert (.iface 105 pv) 90 105 true).run Tryd.prog w = .ok (.tuple #[pv, .bool true]) w := by kernel_rfl
theorem sw_cho_chg (pv : Value) (w : World) : (Instr.typeAssert (.iface 108 pv) 90 136 true).run Tryd.prog w = .ok (.tuple #[.agg #[.int .u8 0, .int .u8 0], .bool false]) w := by kernel_rfl
theorem sw_cho_prt (pv : Value) (w : World) : (Instr.typeAssert (.iface 108 pv) 90 130 true).run Tryd.prog w = .ok (.tuple #[.agg #[], .bool false]) w := by kernel_rfl
theorem sw_cho_call (pv : Value) (w : World) : (Instr.typeAssert (.iface 108 pv) 90 105 true).run Tryd.prog w = .ok (.tuple #[.agg #[.int .u8 0], .bool false]) w := by kernel_rfl
theorem sw_cho_cho (pv : Value) (w : World) : (Instr.typeAssert (.iface 108 pv) 90 108 true).run Tryd.prog w = .ok (.tuple #[pv, .bool true]) w := by kernel_rfl
theorem sw_chg_call (pv : Value) (w : World) : (Instr.typeAssert (.iface 136 pv) 90 105 true).run Tryd.prog w = .ok (.tuple #[.agg #[.int .u8 0], .bool false]) w := by kernel_rfl
theorem sw_prt_call (pv : Value) (w : World) : (Instr.typeAssert (.iface 130 pv) 90 105 true).run Tryd.prog w = .ok (.tuple #[.agg #[.int .u8 0], .bool false]) w := by kernel_rfl
theorem sw_chg_prt (pv : Value) (w : World) : (Instr.typeAssert (.iface 136 pv) 90 130 true).run Tryd.prog w = .ok (.tuple #[.agg #[], .bool false]) w := by kernel_rfl

/-- a letter as a string -/
theorem enc_let (c : UInt8) (h : isLet c = true) : Utf8.encode (c.toNat : Int) = txtOf [c] := by
  rw [isLet_int, Bool.and_eq_true, decide_eq_true_eq, decide_eq_true_eq] at h
  unfold Utf8.encode
  have hv : Utf8.valid (c.toNat : Int) = true := by unfold Utf8.valid; simp; omega
  simp only [hv, if_true]
  rw [if_pos (by omega)]
  simp [txtOf]
theorem enc_let32 (c : UInt8) (h : isLet c = true) : Utf8.encode (wrap32 (c.toNat : Int)) = txtOf [c] := by
  have h' := h
  rw [isLet_int, Bool.and_eq_true, decide_eq_true_eq, decide_eq_true_eq] at h'
  have : wrap32 (c.toNat : Int) = c.toNat := by unfold wrap32; omega
  rw [this, enc_let c h]
end Go.Proofs.YtihjkkoaccmefaaDoor
namespace Go.Proofs.YtihjkkoaccmefaaDoor
open Go.RowKit Gram

theorem one_extract (S : List UInt8) (k : Nat) (hk : k < S.length) : (txtOf S).extract k (k + 1) = txtOf [S[k]] := by
  apply ByteArray.ext
  apply Array.ext'
  simp [txtOf, List.extract_eq_take_drop]
  rw [List.take_one, List.head?_drop, List.getElem?_eq_getElem hk]; rfl

theorem row_block {w : World} {B : Nat} {e : TypeId} {sz n : Nat} {v : Value} {xs : List Value} (h : w.ownsRow B e sz v n xs) {g : Nat} (hg : v.ownBlock = some g) : B ≤ g ∧ ∃ cur, w.heap[g]? = some (.cells cur e (0, 0)) := by
  rcases h.2 with ⟨h1, h2⟩ | ⟨g', cap, cur, h1, hb, hc, _⟩
  · rw [h1] at hg; cases hg
  · rw [h1] at hg
    have : g' = g := by simpa [Value.ownBlock] using hg
    subst this
    exact ⟨hb, cur, hc⟩
theorem row_apart {w : World} {B B' : Nat} {e e' : TypeId} {sz n sz' n' : Nat} {v v' : Value} {xs xs' : List Value} (h : w.ownsRow B e sz v n xs) (h' : w.ownsRow B' e' sz' v' n' xs') (hne : e ≠ e') {g : Nat} (hg : v.ownBlock = some g) : v'.ownBlock ≠ some g := by
  intro hg'
  obtain ⟨_, cur, hc⟩ := row_block h hg
  obtain ⟨_, cur', hc'⟩ := row_block h' hg'
  rw [hc] at hc'
  injection hc' with hc'
  injection hc' with _ ht _
  exact hne ht

theorem row_up {w w' : World} {B : Nat} {e : TypeId} {sz n : Nat} {v : Value} {xs : List Value} (h : w.ownsRow B e sz v n xs) (hb : Below w.heap.size w w') : w'.ownsRow B e sz v n xs :=
  ownsRow_of h (fun j hj => hb.block j (h.lt j hj).2)
theorem row_under {w w' : World} {B : Nat} {row : Option Nat} {e : TypeId} {sz n : Nat} {v : Value} {xs : List Value} (h : w.ownsRow B e sz v n xs) (hg : w.grownBy w' row) (hne : ∀ j, v.ownBlock = some j → row ≠ some j) : w'.ownsRow B e sz v n xs :=
  ownsRow_of h (fun j hj => hg.block j (h.lt j hj).2 (fun he => hne j hj he.symm))
theorem info_jp : (Tryd.prog.info? 111).map (fun i => (i.zero, i.size, i.bytes)) = some (some (.agg #[.string ⟨#[]⟩, .string ⟨#[]⟩, .string ⟨#[]⟩]), 3, 48) := by kernel_rfl
/-- the cells of join points -/
def jpC (js : List Jpt) : List Value := js.flatMap fun j => [.string (txtOf (if j.nm.isSome then [99, 97, 108, 108] else [112, 114, 105, 110, 116])), .string (txtOf j.nm.toList), .string (txtOf j.stk)]
theorem jpC_len (js : List Jpt) : (jpC js).length = js.length * 3 := by
  induction js with
  | nil => rfl
  | cons p t ih => simp [jpC] at ih ⊢; omega
theorem jpC_snoc (js : List Jpt) (j : Jpt) : jpC (js ++ [j]) = jpC js ++ [.string (txtOf (if j.nm.isSome then [99, 97, 108, 108] else [112, 114, 105, 110, 116])), .string (txtOf j.nm.toList), .string (txtOf j.stk)] := by simp [jpC]

/-- the texts of join points, laid flat -/
def jpF (js : List Jpt) : List ByteArray := js.flatMap fun j => [txtOf (if j.nm.isSome then [99, 97, 108, 108] else [112, 114, 105, 110, 116]), txtOf j.nm.toList, txtOf j.stk]
theorem jpF_cells (js : List Jpt) : jpC js = (jpF js).map Value.string := by
  induction js with
  | nil => rfl
  | cons p t ih => simp only [jpC, jpF, List.flatMap_cons, List.map_append, List.map_cons, List.map_nil] at ih ⊢; rw [ih]
theorem jpF_len (js : List Jpt) : (jpF js).length = js.length * 3 := by
  have := congrArg List.length (jpF_cells js)
  rw [jpC_len, List.length_map] at this
  exact this.symm
/-- what a join point is as a value -/
def jpV (j : Jpt) : Value := .agg #[.string (txtOf (if j.nm.isSome then [99, 97, 108, 108] else [112, 114, 105, 110, 116])), .string (txtOf j.nm.toList), .string (txtOf j.stk)]
/-- the join point at which a statement is -/
def jpOf (x : Stm) (s : List UInt8) : Option Jpt := match x with
  | .prt => some ⟨none, s⟩
  | .call c => some ⟨some c, s⟩
  | _ => none
def jpO (o : Option Jpt) : Value := match o with
  | some j => jpV j
  | none => .agg #[.string (txtOf []), .string (txtOf []), .string (txtOf [])]

set_option maxHeartbeats 400000 in
theorem jpat_any (x : Stm) (hx : x.wf = true) (hk : x.nk = true) (S : Nat → Prop) (s : List UInt8) (v : Value) (w : World) (hv : IsStm w S x v) :
    Calls Tryd.prog 69 #[v, .string (txtOf s)] w fun e w' => e = .returned (.tuple #[jpO (jpOf x s), .bool (jpOf x s).isSome]) ∧ Below w.heap.size w w' := by
  cases x with
  | pro => simp [Stm.nk] at hk
  | chg g d =>
    simp only [IsStm] at hv
    subst hv
    have t1 := sw_chg_call
    have t2 := sw_chg_prt
    clear hx hk
    go_enter Tryd.func69, Tryd.ntmps69
    go_wp2_with fail
    refine bodyPost_ret (v := .tuple #[jpO (jpOf (.chg g d) s), .bool (jpOf (.chg g d) s).isSome]) ?_ rfl ⟨rfl, ?_⟩
    · simp [results, Tryd.results69, go_sem, jpO, jpOf, txtOf]
    · exact (Below.refl _ w).alloc (Nat.le_refl _) _
  | prt =>
    simp only [IsStm] at hv
    subst hv
    have t1 := sw_prt_call
    have t2 := sw_prt_prt
    clear hx hk
    go_enter Tryd.func69, Tryd.ntmps69
    go_wp2_with fail
    refine bodyPost_ret (v := .tuple #[jpO (jpOf .prt s), .bool (jpOf .prt s).isSome]) ?_ rfl ⟨rfl, ?_⟩
    · simp [results, Tryd.results69, go_sem, jpO, jpOf, jpV, txtOf]
    · exact ((Below.refl _ w).alloc (Nat.le_refl _) _).alloc (by simp) _
  | call c =>
    simp only [IsStm] at hv
    subst hv
    have t1 := sw_call_call
    have he := enc_let32 c (wf_call hx)
    clear hx hk
    go_enter Tryd.func69, Tryd.ntmps69
    go_wp2_with fail
    refine bodyPost_ret (v := .tuple #[jpO (jpOf (.call c) s), .bool (jpOf (.call c) s).isSome]) ?_ rfl ⟨rfl, ?_⟩
    · simp [results, Tryd.results69, go_sem, jpO, jpOf, jpV, txtOf]
    · exact ((Below.refl _ w).alloc (Nat.le_refl _) _).alloc (by simp) _
  | cho a b =>
    simp only [IsStm] at hv
    obtain ⟨va, vb, vas, vbs, rfl, r1, s1, r2, s2⟩ := hv
    obtain ⟨la, l1, lc, rfl⟩ := slice_form r1.1
    obtain ⟨fa, l2, fc, rfl⟩ := slice_form r2.1
    have t1 := sw_cho_call
    have t2 := sw_cho_prt
    clear hx hk r1 s1 r2 s2
    go_enter Tryd.func69, Tryd.ntmps69
    go_wp2_with fail
    refine bodyPost_ret (v := .tuple #[jpO (jpOf (.cho a b) s), .bool (jpOf (.cho a b) s).isSome]) ?_ rfl ⟨rfl, ?_⟩
    · simp [results, Tryd.results69, go_sem, jpO, jpOf, txtOf]
    · exact (Below.refl _ w).alloc (Nat.le_refl _) _

end Go.Proofs.YtihjkkoaccmefaaDoor
namespace Go.Proofs.YtihjkkoaccmefaaDoor
open Go.RowKit Gram

/-- all below B stays, and all whose elements are of other types than these -/
structure KpT (T : TypeId → Prop) (B : Nat) (w w' : World) : Prop where
  below : Below B w w'
  rest : ∀ (k : Nat) (cur : Array Value) (e : TypeId) (fz : Nat × Nat), w.heap[k]? = some (.cells cur e fz) → ¬ T e → w'.heap[k]? = some (.cells cur e fz)
theorem KpT.refl (T : TypeId → Prop) (B : Nat) (w : World) : KpT T B w w := ⟨Below.refl B w, fun _ _ _ _ h _ => h⟩
theorem KpT.trans {T : TypeId → Prop} {B : Nat} {a b c : World} (h : KpT T B a b) (k : KpT T B b c) : KpT T B a c := ⟨h.below.trans k.below, fun i cur e fz hi he => k.rest i cur e fz (h.rest i cur e fz hi he) he⟩
theorem KpT.of {T : TypeId → Prop} {B : Nat} {w w' : World} (h : Below w.heap.size w w') (hB : B ≤ w.heap.size) : KpT T B w w' := ⟨h.mono hB, fun k cur e fz hk _ => by rw [h.block k (heap_lt hk)]; exact hk⟩
theorem KpT.drew {T : TypeId → Prop} {B : Nat} {a w : World} (h : KpT T B a w) : KpT T B a w.drew := ⟨h.below.drew, h.rest⟩
theorem KpT.alloc {T : TypeId → Prop} {B : Nat} {a w : World} (h : KpT T B a w) (hB : B ≤ w.heap.size) (o : Obj) : KpT T B a (w.alloc o) := h.trans (.of ((Below.refl w.heap.size w).alloc (Nat.le_refl _) _) hB)

section
variable (f : FuncId) (T : TypeId → Prop) (B : Nat) (c1 c2 : Value) (S : Nat → Prop) (w0 : World) (N : Nat) (Inv : List Stm → World → Prop) (ok : Stm → Prop)
/-- what a visitor does -/
structure Vis : Prop where
  enters : ∀ (args : Array Value) (w : World), (callFunc f args).run Tryd.prog w = .ok (.enter f args) w
  keep : ∀ l w, Inv l w → ∀ k, S k → k < w.heap.size ∧ w.heap[k]? = w0.heap[k]?
  alloc : ∀ l w o, Inv l w → Inv l (w.alloc o)
  low : ∀ l w, Inv l w → B ≤ w.heap.size
  other : ¬ T 108
  visit : ∀ (l : List Stm) (x : Stm) (w : World) (ty : TypeId) (pv : Value), l.length < N → ok x → Inv l w → IsStm w S x (.iface ty pv) →
    Calls Tryd.prog f #[.iface ty pv, c1, c2] w fun e w' => e = .returned (.tuple #[]) ∧ Inv (l ++ [x]) w' ∧ KpT T B w w'

def SaidG (n : Nat) : Prop := ∀ (xs : List Stm) (w : World) (v : Value) (l : List Stm), (flats xs).length ≤ n → n ≤ 1048576 → (l ++ flats xs).length ≤ N → Inv l w → IsBody w0 S xs v → (∀ x ∈ flats xs, ok x) →
  Calls Tryd.prog 54 #[v, .func (.func f) #[] #[c1, c2]] w fun e w' => e = .returned (.tuple #[]) ∧ Inv (l ++ flats xs) w' ∧ KpT T B w w'

set_option maxHeartbeats 2000000 in
set_option maxRecDepth 100000 in
theorem eachg_loop (hv : Vis f T B c1 c2 S w0 N Inv ok) (n : Nat) (h : ∀ m, m < n → SaidG f T B c1 c2 S w0 N Inv ok m) (xs : List Stm) (w : World) (ad : Option Addr) (ln cp : Nat) (l : List Stm) (vs : List Value) (hx : (flats xs).length ≤ n) (hn : n ≤ 1048576)
    (hN : (l ++ flats xs).length ≤ N) (hI : Inv l w) (hr : Row w0 S (.slice ad ln cp) vs) (hs : IsStms w0 S xs vs) (hln : ln = xs.length) (ho : ∀ x ∈ flats xs, ok x) :
    Calls Tryd.prog 54 #[.slice ad ln cp, .func (.func f) #[] #[c1, c2]] w fun e w' => e = .returned (.tuple #[]) ∧ Inv (l ++ flats xs) w' ∧ KpT T B w w' := by
  have hle := flats_ge xs
  have hlb : ln ≤ 1048576 := by omega
  have hE := hv.enters
  have H := Lib.hid h
  have HV := Lib.hid hv
  have HR := Lib.hid hr
  have HS := Lib.hid hs
  have HL := Lib.hid hln
  have HO := Lib.hid ho
  have HX := Lib.hid hx
  have HN := Lib.hid hN
  have HI := Lib.hid hI
  clear h hv hr hs hln ho hx hle hN hI
  go_enter Tryd.func54, Tryd.ntmps54
  go_wp2_with fail
  go_loopw [10] (fun i wr => ∃ k : Nat, k ≤ ln ∧ i = .int .i64 k ∧ Hid (Inv (l ++ flats (xs.take k)) wr) ∧ Hid (KpT T B w wr)) (fun i _ => ln - (intOf i).toNat)
  case atStart =>
    refine ⟨0, Nat.zero_le _, by go_num, ?_, KpT.refl _ _ _⟩
    show Inv _ _
    simpa [flats] using HI.out
  case round =>
    obtain ⟨k, hk, rfl, hI, hb⟩ := hrel
    by_cases hlt : k < ln
    · obtain ⟨x, v, hxk, hvk, hst⟩ := stms_get xs vs HS.out k (by rw [← HL.out]; exact hlt)
      have hkeep := fun j hj => (HV.out.keep _ _ hI.out j hj).2
      obtain ⟨g, hga, hc1⟩ : ∃ g, ad = some ⟨g, 0, none⟩ ∧ wr.cell? ⟨g, k, none⟩ = some v := by
        rcases HR.out.1.2 with ⟨h1, h2⟩ | ⟨g, cap, cur, h1, _, _⟩
        · injection h1 with h3 h4; omega
        · injection h1 with h3 h4 h5
          subst h3; subst h4; subst h5
          have := row_cell HR.out.1 k v hvk
          exact ⟨g, rfl, by rw [← this]; exact World.cell?_of_block (a := ⟨g, k, none⟩) (hkeep g (HR.out.2 g rfl))⟩
      subst hga
      have hst2 := IsStm.kept hkeep (fun _ h => h) _ _ hst
      have hst0 := hst
      obtain ⟨ty, pv, rfl⟩ := hst2.iface
      obtain ⟨hf1, hf2⟩ := flats_cut xs k x hxk
      have hokx : ∀ y ∈ x.flat, ok y := fun y hy => HO.out y (by rw [hf1]; simp [hy])
      have hx2 := HX.out
      have hn2 := HN.out
      rw [hf1] at hx2 hn2
      simp only [List.length_append] at hx2 hn2
      have HF2 := Lib.hid hf2
      have HOK := Lib.hid hokx
      clear hf1 hf2 hokx hst hkeep hxk hvk
      generalize hacc : l ++ flats (xs.take k) = acc at *
      have hal : acc.length = l.length + (flats (xs.take k)).length := by rw [← hacc, List.length_append]
      have HA := Lib.hid hacc
      clear hacc
      have hfp := flat_pos x
      have hlN : acc.length < N := by omega
      cases x with
      | pro =>
        have HC2 := Lib.hid (HV.out.visit acc _ wr ty pv hlN (HOK.out _ (by simp [Stm.flat])) hI.out hst2)
        simp only [IsStm] at hst2
        injection hst2 with h1 h2; subst h1; subst h2
        go_wp2_with fail
        refine HC2.out.mono ?_
        rintro e w2 ⟨rfl, hi2, hb2⟩
        have HI2 := Lib.hid hi2
        have HB2 := Lib.hid (hb.out.trans hb2)
        clear hi2 hb2
        have hta := ta_pro
        go_wp2_with fail
        go_roundw
        case rel =>
          refine ⟨k + 1, by omega, by go_num, ?_, HB2.out.alloc (HV.out.low _ _ HI2.out) _⟩
          show Inv _ _
          rw [HF2.out, ← List.append_assoc, HA.out]
          exact HV.out.alloc _ _ _ HI2.out
        case measure => simp [intOf]; omega
      | chg g' d =>
        have HC2 := Lib.hid (HV.out.visit acc _ wr ty pv hlN (HOK.out _ (by simp [Stm.flat])) hI.out hst2)
        simp only [IsStm] at hst2
        injection hst2 with h1 h2; subst h1; subst h2
        go_wp2_with fail
        refine HC2.out.mono ?_
        rintro e w2 ⟨rfl, hi2, hb2⟩
        have HI2 := Lib.hid hi2
        have HB2 := Lib.hid (hb.out.trans hb2)
        clear hi2 hb2
        have hta := ta_chg
        go_wp2_with fail
        go_roundw
        case rel =>
          refine ⟨k + 1, by omega, by go_num, ?_, HB2.out.alloc (HV.out.low _ _ HI2.out) _⟩
          show Inv _ _
          rw [HF2.out, ← List.append_assoc, HA.out]
          exact HV.out.alloc _ _ _ HI2.out
        case measure => simp [intOf]; omega
      | prt =>
        have HC2 := Lib.hid (HV.out.visit acc _ wr ty pv hlN (HOK.out _ (by simp [Stm.flat])) hI.out hst2)
        simp only [IsStm] at hst2
        injection hst2 with h1 h2; subst h1; subst h2
        go_wp2_with fail
        refine HC2.out.mono ?_
        rintro e w2 ⟨rfl, hi2, hb2⟩
        have HI2 := Lib.hid hi2
        have HB2 := Lib.hid (hb.out.trans hb2)
        clear hi2 hb2
        have hta := ta_prt
        go_wp2_with fail
        go_roundw
        case rel =>
          refine ⟨k + 1, by omega, by go_num, ?_, HB2.out.alloc (HV.out.low _ _ HI2.out) _⟩
          show Inv _ _
          rw [HF2.out, ← List.append_assoc, HA.out]
          exact HV.out.alloc _ _ _ HI2.out
        case measure => simp [intOf]; omega
      | call d =>
        have HC2 := Lib.hid (HV.out.visit acc _ wr ty pv hlN (HOK.out _ (by simp [Stm.flat])) hI.out hst2)
        simp only [IsStm] at hst2
        injection hst2 with h1 h2; subst h1; subst h2
        go_wp2_with fail
        refine HC2.out.mono ?_
        rintro e w2 ⟨rfl, hi2, hb2⟩
        have HI2 := Lib.hid hi2
        have HB2 := Lib.hid (hb.out.trans hb2)
        clear hi2 hb2
        have hta := ta_call
        go_wp2_with fail
        go_roundw
        case rel =>
          refine ⟨k + 1, by omega, by go_num, ?_, HB2.out.alloc (HV.out.low _ _ HI2.out) _⟩
          show Inv _ _
          rw [HF2.out, ← List.append_assoc, HA.out]
          exact HV.out.alloc _ _ _ HI2.out
        case measure => simp [intOf]; omega
      | cho p q =>
        have HC2 := Lib.hid (HV.out.visit acc _ wr ty pv hlN (HOK.out _ (by simp [Stm.flat])) hI.out hst2)
        simp only [IsStm] at hst2 hst0
        obtain ⟨va, vb, vas, vbs, he, r1, s1, r2, s2⟩ := hst0
        injection he with h1 h2; subst h1; subst h2
        obtain ⟨la, l1, lc, rfl⟩ := slice_form r1.1
        obtain ⟨fa, l2, fc, rfl⟩ := slice_form r2.1
        simp only [Stm.flat, List.length_cons, List.length_append] at hx2 hn2
        have hmp : ∀ y ∈ flats p, ok y := fun y hy => HOK.out y (by simp [Stm.flat, hy])
        have hmq : ∀ y ∈ flats q, ok y := fun y hy => HOK.out y (by simp [Stm.flat, hy])
        have HP := Lib.hid (fun w' (hi' : Inv (acc ++ [.cho p q]) w') => H.out (flats p).length (by omega) p w' (.slice la l1 lc) _ (Nat.le_refl _) (by omega) (by simp only [List.length_append, List.length_cons, List.length_nil]; omega) hi' ⟨vas, r1, s1⟩ hmp)
        have HQ := Lib.hid (fun w' (hi' : Inv (acc ++ [.cho p q] ++ flats p) w') => H.out (flats q).length (by omega) q w' (.slice fa l2 fc) _ (Nat.le_refl _) (by omega) (by simp only [List.length_append, List.length_cons, List.length_nil]; omega) hi' ⟨vbs, r2, s2⟩ hmq)
        clear r1 s1 r2 s2 hst2 hx2 hn2 hmp hmq hal
        go_wp2_with fail
        refine HC2.out.mono ?_
        rintro e w2 ⟨rfl, hi2, hb2⟩
        have HB2 := Lib.hid ((hb.out.trans hb2).alloc (HV.out.low _ _ hi2) (.cells #[.slice la l1 lc, .slice fa l2 fc] 108))
        have HI2 := Lib.hid (HV.out.alloc _ _ (.cells #[.slice la l1 lc, .slice fa l2 fc] 108) hi2)
        clear hi2 hb2
        have hta := ta_cho
        go_wp2_with fail
        refine (HP.out _ HI2.out).mono ?_
        rintro e w3 ⟨rfl, hi3, hb3⟩
        have HI3 := Lib.hid hi3
        have hblk : w3.heap[w2.heap.size]? = some (.cells #[.slice la l1 lc, .slice fa l2 fc] 108 (0, 0)) := hb3.rest _ _ _ _ (heap_alloc_new _ _) HV.out.other
        have q1 : w3.cell? ⟨w2.heap.size, 1, none⟩ = some (.slice fa l2 fc) := by rw [Lib.cell_of_heap hblk]; rfl
        have HB3 := Lib.hid (HB2.out.trans hb3)
        clear hi3 hb3 hblk
        go_wp2_with fail
        refine (HQ.out _ HI3.out).mono ?_
        rintro e w4 ⟨rfl, hi4, hb4⟩
        have HI4 := Lib.hid hi4
        have HB4 := Lib.hid (HB3.out.trans hb4)
        clear hi4 hb4
        go_wp2_with fail
        go_roundw
        case rel =>
          refine ⟨k + 1, by omega, by go_num, ?_, HB4.out⟩
          show Inv _ _
          rw [HF2.out, ← List.append_assoc, HA.out, Stm.flat]
          have := HI4.out
          simpa only [List.append_assoc, List.singleton_append, List.cons_append, List.nil_append] using this
        case measure => simp [intOf]; omega
    · have hall : xs.take k = xs := List.take_of_length_le (by rw [← HL.out]; omega)
      rw [hall] at hI
      go_wp2_with fail
      go_end0
      exact ⟨rfl, hI.out, hb.out⟩

theorem eachg_all (hv : Vis f T B c1 c2 S w0 N Inv ok) (n : Nat) : SaidG f T B c1 c2 S w0 N Inv ok n := by
  induction n using Nat.strongRecOn with
  | _ n ih =>
    intro xs w v l hx hn hN hI hB ho
    obtain ⟨vs, hr, hs⟩ := hB
    obtain ⟨ad, ln, cp, rfl⟩ := slice_form hr.1
    have hl := IsStms.len _ _ hs
    refine eachg_loop f T B c1 c2 S w0 N Inv ok hv n ih xs w ad ln cp l vs hx hn hN hI hr hs ?_ ho
    rcases hr.1.2 with ⟨h1, h2⟩ | ⟨g, cap, cur, h1, _⟩
    · injection h1 with _ h3; omega
    · injection h1 with _ h3; omega
end
end Go.Proofs.YtihjkkoaccmefaaDoor
namespace Go.Proofs.YtihjkkoaccmefaaDoor
open Go.RowKit Gram

/-- the shadows of a list of statements, of a procedure, of procedures, of a text -/
def shOn (c : UInt8) (l : List Stm) : List Jpt := l.filterMap fun x => jpOf x [c]
def shOf (p : Pr) : List Jpt := shOn p.1 (flats p.2)
def shAll (ps : List Pr) : List Jpt := ps.flatMap shOf
def shP (s : ByteArray) : List Jpt := match progOf s with | some ps => shAll ps | none => []
theorem shOn_snoc (c : UInt8) (l : List Stm) (x : Stm) : shOn c (l ++ [x]) = shOn c l ++ (jpOf x [c]).toList := by
  rw [shOn, List.filterMap_append, shOn]
  cases h : jpOf x [c] <;> simp [h]
theorem shOn_len (c : UInt8) (l : List Stm) : (shOn c l).length ≤ l.length := List.length_filterMap_le ..

set_option maxHeartbeats 1000000 in
theorem shadow_at (nm : UInt8) (hn : isLet nm = true) (x : Stm) (hx : x.wf = true) (hk : x.nk = true) (S : Nat → Prop) (bv v : Value) (w : World) (hv : IsStm w S x v) (hS : ∀ k, S k → k < w.heap.size) (hb : ∃ a n c, bv = .slice a n c) :
    Calls Tryd.prog 56 #[.agg #[.int .u8 nm.toNat, bv], v] w fun e w' => e = .returned (.tuple #[jpO (jpOf x [nm]), .bool (jpOf x [nm]).isSome]) ∧ Below w.heap.size w w' := by
  obtain ⟨ba, bn, bc, rfl⟩ := hb
  have hJ : ∀ w2, (∀ k, S k → w2.heap[k]? = w.heap[k]?) → Calls Tryd.prog 69 #[v, .string (txtOf [nm])] w2 fun e w' => e = .returned (.tuple #[jpO (jpOf x [nm]), .bool (jpOf x [nm]).isSome]) ∧ Below w2.heap.size w2 w' :=
    fun w2 h2 => jpat_any x hx hk S [nm] v w2 (IsStm.kept h2 (fun _ h => h) _ _ hv)
  obtain ⟨ty, pv, rfl⟩ := hv.iface
  have he := enc_let32 nm hn
  have hform : ∃ X Y Z : ByteArray, jpO (jpOf x [nm]) = .agg #[.string X, .string Y, .string Z] := by
    cases h : jpOf x [nm] with
    | none => exact ⟨_, _, _, rfl⟩
    | some j => exact ⟨_, _, _, rfl⟩
  obtain ⟨X, Y, Z, hxyz⟩ := hform
  rw [hxyz] at hJ ⊢
  generalize (jpOf x [nm]).isSome = ok at *
  have HJ := Lib.hid hJ
  have HS := Lib.hid hS
  clear hJ hxyz hv hx hk hn hS
  go_enter Tryd.func56, Tryd.ntmps56
  go_wp2_with fail
  have hA := Lib.hid (((Below.refl w.heap.size w).alloc (Nat.le_refl _) (Obj.cells #[.int .u8 nm.toNat, .slice ba bn bc] 64)).alloc (by simp) (Obj.cells #[.string ⟨#[]⟩, .string ⟨#[]⟩, .string ⟨#[]⟩] 43))
  refine (HJ.out _ fun k hk => hA.out.block k (HS.out k hk)).mono ?_
  rintro e w3 ⟨rfl, hb3⟩
  have hb0 : w3.heap[w.heap.size + 1]? = some (Obj.cells #[.string ⟨#[]⟩, .string ⟨#[]⟩, .string ⟨#[]⟩] 43 (0, 0)) := by
    rw [hb3.block _ (by simp)]
    have := heap_alloc_new (w.alloc (Obj.cells #[.int .u8 nm.toNat, .slice ba bn bc] 64)) (Obj.cells #[.string ⟨#[]⟩, .string ⟨#[]⟩, .string ⟨#[]⟩] 43)
    rw [alloc_size'] at this
    exact this
  have hb4 : (w3.alloc (Obj.cells #[.string X, .string Y, .string Z] 111)).heap[w.heap.size + 1]? = some (Obj.cells #[.string ⟨#[]⟩, .string ⟨#[]⟩, .string ⟨#[]⟩] 43 (0, 0)) := by
    rw [Lib.alloc_old _ _ _ (heap_lt hb0)]; exact hb0
  have HB3 := Lib.hid ((hA.out.trans (hb3.mono hA.out.size)).alloc (Nat.le_trans hA.out.size hb3.size) (Obj.cells #[.string X, .string Y, .string Z] 111))
  have q0 : (w3.alloc (Obj.cells #[.string X, .string Y, .string Z] 111)).cell? ⟨w.heap.size + 1, 0, none⟩ = some (.string ⟨#[]⟩) := by rw [Lib.cell_of_heap hb4]; rfl
  have q1 : (w3.alloc (Obj.cells #[.string X, .string Y, .string Z] 111)).cell? ⟨w.heap.size + 1, 1, none⟩ = some (.string ⟨#[]⟩) := by rw [Lib.cell_of_heap hb4]; rfl
  have q2 : (w3.alloc (Obj.cells #[.string X, .string Y, .string Z] 111)).cell? ⟨w.heap.size + 1, 2, none⟩ = some (.string ⟨#[]⟩) := by rw [Lib.cell_of_heap hb4]; rfl
  have f0 : (w3.alloc (Obj.cells #[.string X, .string Y, .string Z] 111)).frozen? ⟨w.heap.size + 1, 0, none⟩ = false := Lib.frozen_of_heap hb4 0
  have f1 : (w3.alloc (Obj.cells #[.string X, .string Y, .string Z] 111)).frozen? ⟨w.heap.size + 1, 1, none⟩ = false := Lib.frozen_of_heap hb4 1
  have f2 : (w3.alloc (Obj.cells #[.string X, .string Y, .string Z] 111)).frozen? ⟨w.heap.size + 1, 2, none⟩ = false := Lib.frozen_of_heap hb4 2
  have H4 := Lib.hid hb4
  clear hb3 hb0 hb4
  go_wp2_with fail
  clear q0 q1 q2 f0 f1 f2
  have h2 := heap_set_same (k := 2) (heap_set_same (k := 1) (heap_set_same (k := 0) H4.out (.string X)) (.string Y)) (.string Z)
  have c0 := Lib.cell_of_heap h2 0
  have c1 := Lib.cell_of_heap h2 1
  have c2 := Lib.cell_of_heap h2 2
  refine bodyPost_ret (v := .tuple #[.agg #[.string X, .string Y, .string Z], .bool ok]) ?_ rfl ⟨rfl, ((HB3.out.setCell (by simp) _).setCell (by simp) _).setCell (by simp) _⟩
  simp [results, Tryd.results56, go_sem, c0, c1, c2]

/-- a row of shadows that a variable holds -/
structure ShI (w : World) (B pb cb : Nat) (nm : UInt8) (bv : Value) (v : Value) (js : List Jpt) : Prop where
  bp : w.heap[pb]? = some (.cells #[.int .u8 nm.toNat, bv] 64 (0, 0))
  bc : w.heap[cb]? = some (.cells #[v] 22 (0, 0))
  row : w.ownsRow B 43 3 v js.length (jpC js)
  low : B ≤ cb
theorem ShI.big {w : World} {B pb cb : Nat} {nm : UInt8} {bv v : Value} {js : List Jpt} (h : ShI w B pb cb nm bv v js) : B ≤ w.heap.size := by have := heap_lt h.bc; have := h.low; omega
theorem ShI.far {w : World} {B pb cb : Nat} {nm : UInt8} {bv v : Value} {js : List Jpt} (h : ShI w B pb cb nm bv v js) {g : Nat} (hg : v.ownBlock = some g) : g ≠ pb ∧ g ≠ cb ∧ g < w.heap.size ∧ B ≤ g := by
  obtain ⟨h1, cur, hc⟩ := row_block h.row hg
  refine ⟨?_, ?_, heap_lt hc, h1⟩
  · rintro rfl
    rw [h.bp] at hc
    injection hc with hc; injection hc with _ ht _
    exact absurd ht (by decide)
  · rintro rfl
    rw [h.bc] at hc
    injection hc with hc; injection hc with _ ht _
    exact absurd ht (by decide)
theorem ShI.later {w w' : World} {B pb cb : Nat} {nm : UInt8} {bv v : Value} {js : List Jpt} (h : ShI w B pb cb nm bv v js) (hb : Below w.heap.size w w') : ShI w' B pb cb nm bv v js :=
  ⟨by rw [hb.block _ (heap_lt h.bp)]; exact h.bp, by rw [hb.block _ (heap_lt h.bc)]; exact h.bc, ownsRow_of h.row fun g hg => hb.block g (h.far hg).2.2.1, h.low⟩
theorem info_sh : (Tryd.prog.info? 43).map (fun i => (i.zero, i.size, i.bytes)) = some (some (.agg #[.string ⟨#[]⟩, .string ⟨#[]⟩, .string ⟨#[]⟩]), 3, 48) := by kernel_rfl
/-- the types that a visitor writes -/
def ShT (e : TypeId) : Prop := e = 43 ∨ e = 22
/-- one shadow more -/
theorem ShI.more {w : World} {B pb cb : Nat} {nm : UInt8} {bv v : Value} {js : List Jpt} (h : ShI w B pb cb nm bv v js) (hl : js.length ≤ 10000) (j : Jpt) (X Y Z : ByteArray) (hj : jpC [j] = [.string X, .string Y, .string Z]) (W : World) (hW : Below w.heap.size w W) (ab : Nat) (hA : W.heap[ab]? = some (.cells #[.string X, .string Y, .string Z] 43 (0, 0))) :
    ∃ g c w', (Builtin.append_ #[22, 22] 22 #[v, .slice (some ⟨ab, 0, none⟩) 1 1]).run Tryd.prog W = .ok (.slice (some ⟨g, 0, none⟩) (js.length + 1) c) w' ∧
      w'.cell? ⟨cb, 0, none⟩ = some v ∧ w'.frozen? ⟨cb, 0, none⟩ = false ∧ ShI (w'.setCell ⟨cb, 0, none⟩ (.slice (some ⟨g, 0, none⟩) (js.length + 1) c)) B pb cb nm bv (.slice (some ⟨g, 0, none⟩) (js.length + 1) c) (js ++ [j]) ∧
      KpT ShT B w (w'.setCell ⟨cb, 0, none⟩ (.slice (some ⟨g, 0, none⟩) (js.length + 1) c)) := by
  obtain ⟨i0, hi, hz0, hz1, hz2⟩ := info_parts info_sh
  have hrow : W.ownsRow B 43 3 v js.length (jpC js) := ownsRow_of h.row fun g hg => hW.block g (h.far hg).2.2.1
  obtain ⟨g', c', w', hrun, h2, h3, hat, hlt⟩ := run_append_lies (P := Tryd.prog) W 22 22 B 43 i0 (.agg #[.string ⟨#[]⟩, .string ⟨#[]⟩, .string ⟨#[]⟩]) 3 48 Tryd.underlying22 hi hz0 hz1 hz2 rfl (by decide) v js.length (jpC js) hrow ⟨ab, 0, none⟩ 1 1 [.string X, .string Y, .string Z] rfl
    (World.news_of_block (cs := #[.string X, .string Y, .string Z]) hA) (by intro u hu; simp at hu; rcases hu with rfl | rfl | rfl <;> rfl) (by decide) (by unfold maxLen; omega) (by omega) (by have := h.big; have := hW.size; omega) W.heap.size rfl
  have hold : ∀ k, k < w.heap.size → v.ownBlock ≠ some k → w'.heap[k]? = w.heap[k]? := fun k hk hk' =>
    (h3.block k (by have := hW.size; omega) (fun e' => hk' e'.symm)).trans (hW.block k hk)
  have hp := hold pb (heap_lt h.bp) (fun e => (h.far e).1 rfl)
  have hc := hold cb (heap_lt h.bc) (fun e => (h.far e).2.1 rfl)
  rw [h.bp] at hp
  rw [h.bc] at hc
  have hgc : g' ≠ cb := by
    rintro rfl
    obtain ⟨_, cur, hcc⟩ := row_block h2 (g := g') rfl
    rw [hc] at hcc
    injection hcc with hcc; injection hcc with _ ht _
    exact absurd ht (by decide)
  have hpc : pb ≠ cb := by
    rintro rfl
    have h1 := h.bp
    rw [h.bc] at h1
    injection h1 with h1; injection h1 with _ ht _
    exact absurd ht (by decide)
  refine ⟨g', c', w', hrun, by rw [Lib.cell_of_heap hc]; rfl, Lib.frozen_of_heap hc 0, ⟨by rw [heap_set_other hpc]; exact hp, heap_set_same hc _, ?_, h.low⟩, ?_, ?_⟩
  · have := ownsRow_of (w' := w'.setCell ⟨cb, 0, none⟩ (.slice (some ⟨g', 0, none⟩) (js.length + 1) c')) h2 (fun g hg => heap_set_other (by
      have : g' = g := by simpa [Value.ownBlock] using hg
      omega) _)
    rw [List.length_append, jpC, List.flatMap_append]
    rw [jpC] at hj this
    rw [hj]; exact this
  · exact ((hW.mono h.big).grown h3 (by have := h.big; have := hW.size; omega) (fun k hk => (h.far hk).2.2.2)).setCell h.low _
  · intro k cur e fz hk he
    have hkc : k ≠ cb := by
      rintro rfl
      rw [h.bc] at hk
      injection hk with hk; injection hk with _ ht _
      exact he (.inr ht.symm)
    rw [heap_set_other hkc, hold k (heap_lt hk) (fun e' => by
      obtain ⟨_, cur', hc'⟩ := row_block h.row e'
      rw [hk] at hc'
      injection hc' with hc'; injection hc' with _ ht _
      exact he (.inl ht))]
    exact hk
end Go.Proofs.YtihjkkoaccmefaaDoor
namespace Go.Proofs.YtihjkkoaccmefaaDoor
open Go.RowKit Gram

mutual
theorem flat_ok (x : Stm) (h : x.wf = true) (hk : x.nk = true) : ∀ y ∈ x.flat, y.wf = true ∧ y.nk = true := by
  match x with
  | .chg g d => intro y hy; simp [Stm.flat] at hy; rw [hy]; exact ⟨h, hk⟩
  | .prt => intro y hy; simp [Stm.flat] at hy; rw [hy]; exact ⟨h, hk⟩
  | .pro => intro y hy; simp [Stm.flat] at hy; rw [hy]; exact ⟨h, hk⟩
  | .call d => intro y hy; simp [Stm.flat] at hy; rw [hy]; exact ⟨h, hk⟩
  | .cho a b =>
    have h0 := h
    have hk0 := hk
    simp only [Stm.wf, Bool.and_eq_true] at h
    simp only [Stm.nk, Bool.and_eq_true] at hk
    intro y hy
    simp only [Stm.flat, List.mem_cons, List.mem_append] at hy
    rcases hy with hy | hy | hy
    · rw [hy]; exact ⟨h0, hk0⟩
    · exact flats_ok a h.1 hk.1 y hy
    · exact flats_ok b h.2 hk.2 y hy
theorem flats_ok (xs : List Stm) (h : wfs xs = true) (hk : nks xs = true) : ∀ y ∈ flats xs, y.wf = true ∧ y.nk = true := by
  match xs with
  | [] => intro y hy; simp [flats] at hy
  | x :: xs =>
    simp only [wfs, Bool.and_eq_true] at h
    simp only [nks, Bool.and_eq_true] at hk
    intro y hy
    simp only [flats, List.mem_append] at hy
    rcases hy with hy | hy
    · exact flat_ok x h.1 hk.1 y hy
    · exact flats_ok xs h.2 hk.2 y hy
end
theorem enters_sh (args : Array Value) (w : World) : (callFunc 55 args).run Tryd.prog w = .ok (.enter 55 args) w :=
  enters_of Tryd.func55 (by kernel_rfl) rfl args w
theorem jp_strings (x : Stm) (c : UInt8) : ∃ X Y Z : ByteArray, jpO (jpOf x [c]) = .agg #[.string X, .string Y, .string Z] ∧ ∀ j, jpOf x [c] = some j → jpC [j] = [.string X, .string Y, .string Z] := by
  cases h : jpOf x [c] with
  | none => exact ⟨_, _, _, rfl, fun j h => by cases h⟩
  | some j => exact ⟨_, _, _, rfl, fun j' h => by injection h with h; subst h; rfl⟩

/-- what holds behind the visitor's rounds -/
structure ShV (w0 : World) (S : Nat → Prop) (B pb cb : Nat) (nm : UInt8) (bv : Value) (l : List Stm) (w : World) : Prop where
  at_ : ∃ v, ShI w B pb cb nm bv v (shOn nm l)
  stay : ∀ k, S k → k < w.heap.size ∧ w.heap[k]? = w0.heap[k]?

set_option maxHeartbeats 4000000 in
set_option maxRecDepth 100000 in
theorem sh_visits (w0 : World) (S : Nat → Prop) (B pb cb : Nat) (nm : UInt8) (hn : isLet nm = true) (ba : Option Addr) (bn bc : Nat) (hSt : ∀ k, S k → ∃ cur fz, w0.heap[k]? = some (.cells cur 90 fz)) :
    Vis 55 ShT B (.pointer (some ⟨pb, 0, none⟩)) (.pointer (some ⟨cb, 0, none⟩)) S w0 400 (ShV w0 S B pb cb nm (.slice ba bn bc)) (fun x => x.wf = true ∧ x.nk = true) := by
  refine ⟨enters_sh, fun l w h => h.stay, ?_, fun l w h => by obtain ⟨v, h⟩ := h.at_; exact h.big, by rintro (h | h) <;> exact absurd h (by decide), ?_⟩
  · intro l w o h
    obtain ⟨v, hv⟩ := h.at_
    exact ⟨⟨v, hv.later ((Below.refl _ _).alloc (Nat.le_refl _) o)⟩, fun k hk => ⟨by have := (h.stay k hk).1; rw [alloc_size']; omega, by rw [Lib.alloc_old _ _ _ (h.stay k hk).1]; exact (h.stay k hk).2⟩⟩
  · intro l x w ty pv hl hok hI hx
    obtain ⟨⟨v, hv⟩, hst⟩ := hI
    have hlen := shOn_len nm l
    have hsn := shOn_snoc nm l x
    have q0 : w.cell? ⟨pb, 0, none⟩ = some (.int .u8 nm.toNat) := by rw [Lib.cell_of_heap hv.bp]; rfl
    have q1 : w.cell? ⟨pb, 1, none⟩ = some (.slice ba bn bc) := by rw [Lib.cell_of_heap hv.bp]; rfl
    have HS := Lib.hid (shadow_at nm hn x hok.1 hok.2 S (.slice ba bn bc) (.iface ty pv) w hx (fun k hk => (hst k hk).1) ⟨_, _, _, rfl⟩)
    obtain ⟨X, Y, Z, hxyz, hj⟩ := jp_strings x nm
    rw [hxyz] at HS
    have HSn := Lib.hid hsn
    have HV := Lib.hid hv
    have HT := Lib.hid hst
    have HSt := Lib.hid hSt
    clear hxyz hv hst hsn hx hok hSt
    cases ho : jpOf x [nm] with
    | none =>
      rw [ho, Option.toList_none, List.append_nil] at HSn
      rw [ho, Option.isSome_none] at HS
      clear ho hj
      go_enter Tryd.func55, Tryd.ntmps55
      go_wp2_with fail
      refine HS.out.mono ?_
      rintro e w3 ⟨rfl, hb3⟩
      have hb4 := hb3.trans ((Below.refl w3.heap.size w3).alloc (Nat.le_refl _) (Obj.cells #[.string X, .string Y, .string Z] 43) |>.mono hb3.size)
      have HB4 := Lib.hid hb4
      clear hb3 hb4 q0 q1
      go_wp2_with fail
      go_end0
      refine ⟨rfl, ⟨⟨v, by rw [HSn.out]; exact HV.out.later HB4.out⟩, fun k hk => ⟨Nat.lt_of_lt_of_le (HT.out k hk).1 HB4.out.size, by rw [HB4.out.block k (HT.out k hk).1]; exact (HT.out k hk).2⟩⟩, KpT.of HB4.out HV.out.big⟩
    | some j =>
      rw [ho] at HSn
      rw [ho, Option.isSome_some] at HS
      have HJ := Lib.hid (hj j ho)
      clear ho hj
      go_enter Tryd.func55, Tryd.ntmps55
      go_wp2_with fail
      refine HS.out.mono ?_
      rintro e w3 ⟨rfl, hb3⟩
      have hb4 := hb3.trans ((Below.refl w3.heap.size w3).alloc (Nat.le_refl _) (Obj.cells #[.string X, .string Y, .string Z] 43) |>.mono hb3.size)
      have c4 : (w3.alloc (Obj.cells #[.string X, .string Y, .string Z] 43)).cell? ⟨cb, 0, none⟩ = some v := by rw [Lib.cell_of_heap (HV.out.later hb4).bc]; rfl
      have hb5 := hb4.trans ((Below.refl (w3.alloc (Obj.cells #[.string X, .string Y, .string Z] 43)).heap.size (w3.alloc (Obj.cells #[.string X, .string Y, .string Z] 43))).alloc (Nat.le_refl _) (Obj.cells #[.string X, .string Y, .string Z] 43) |>.mono hb4.size)
      have hnew := heap_alloc_new (w3.alloc (Obj.cells #[.string X, .string Y, .string Z] 43)) (Obj.cells #[.string X, .string Y, .string Z] 43)
      rw [alloc_size'] at hnew
      obtain ⟨g, c, w', hrun, cc, cf, hI', hK⟩ := HV.out.more (by omega) j X Y Z HJ.out _ hb5 (w3.heap.size + 1) hnew
      have HR := Lib.hid hrun
      have HI' := Lib.hid hI'
      have HK := Lib.hid hK
      clear hb3 hb4 hb5 hnew hrun hI' hK q0 q1
      go_wp2_with (at_builtin; refine Lib.wpList_append_run _ rfl _ _ 22 22 rfl _ _ rfl rfl _ _ HR.out ?_)
      go_end0
      refine ⟨rfl, ⟨⟨_, by rw [HSn.out]; exact HI'.out⟩, fun k hk => ?_⟩, HK.out⟩
      obtain ⟨cur, fz, hc⟩ := HSt.out k hk
      have h1 := (HT.out k hk).2
      rw [hc] at h1
      have h2 := HK.out.rest k cur _ fz h1 (by rintro (h | h) <;> exact absurd h (by decide))
      exact ⟨heap_lt h2, by rw [h2, hc]⟩

/-- a row behind a row -/
theorem sh_rows (w : World) (B B' : Nat) (js ks : List Jpt) (v u : Value) (hv : w.ownsRow B 43 3 v js.length (jpC js)) (hu : w.ownsRow B' 43 3 u ks.length (jpC ks)) (hmax : js.length + ks.length ≤ 100000) (hB : B ≤ w.heap.size) :
    ∃ v' w', (Builtin.append_ #[22, 22] 22 #[v, u]).run Tryd.prog w = .ok v' w' ∧ w'.ownsRow B 43 3 v' (js ++ ks).length (jpC (js ++ ks)) ∧ w.grownBy w' v.ownBlock := by
  obtain ⟨i0, hi, hz0, hz1, hz2⟩ := info_parts info_sh
  cases ks with
  | nil =>
    rw [List.append_nil]
    obtain ⟨a, n, c, rfl⟩ := slice_form hv
    obtain ⟨a', n', c', rfl⟩ := slice_form hu
    have hn : n = js.length ∧ n ≤ c := by
      rcases hv.2 with ⟨h1, h2⟩ | ⟨g, cap, cur, h1, _, _, h4, _⟩
      · injection h1 with _ e1 e2; omega
      · injection h1 with _ e1 e2; omega
    have hn' : n' = 0 := by
      rcases hu.2 with ⟨h1, h2⟩ | ⟨g, cap, cur, h1, _⟩
      · injection h1
      · injection h1
    subst hn'
    have hsrc : Src Tryd.prog i0.size 22 (.slice a' 0 c') 0 [] w := by
      cases a' with
      | none => exact Src.ofNil w Tryd.underlying22 c'
      | some a => exact Src.ofSlice w Tryd.underlying22 a 0 c' [] (by simp) (fun j u h => by simp at h) (fun _ h => by cases h)
    exact ⟨.slice a n c, w, run_append_nothing w _ _ _ 43 i0 Tryd.underlying22 hi a n c hn.2 _ hsrc, hv, World.grownBy.refl _ _⟩
  | cons k t =>
    obtain ⟨gs, cap, rfl, _, _⟩ := World.ownsRow.form hu (by simp)
    obtain ⟨g', c', w', hrun, h2, h3, _, _⟩ := run_append_lies (P := Tryd.prog) w 22 22 B 43 i0 (.agg #[.string ⟨#[]⟩, .string ⟨#[]⟩, .string ⟨#[]⟩]) 3 48 Tryd.underlying22 hi hz0 hz1 hz2 rfl (by decide) v js.length (jpC js) hv ⟨gs, 0, none⟩ (k :: t).length cap (jpC (k :: t)) (jpC_len _) (hu.cells (g := gs) rfl)
      (fun u hu => by
        rw [jpC, List.mem_flatMap] at hu
        obtain ⟨j, _, hu⟩ := hu
        simp only [List.mem_cons, List.not_mem_nil, or_false] at hu
        rcases hu with rfl | rfl | rfl <;> rfl) (by simp) (by unfold maxLen; omega) (by omega) hB w.heap.size rfl
    refine ⟨_, w', hrun, ?_, h3⟩
    rw [List.length_append, jpC, List.flatMap_append]
    exact h2

set_option maxHeartbeats 1000000 in
theorem proc_shadows {w : World} {S : Nat → Prop} {p : Pr} {v : Value} (hB : IsBody w S p.2 v) (hS : ∀ k, S k → ∃ cur fz, w.heap[k]? = some (.cells cur 90 fz)) (hg : Good p) :
    Calls Tryd.prog 36 #[.agg #[.int .u8 p.1.toNat, v]] w fun e w' => (∃ u, e = .returned u ∧ w'.ownsRow w.heap.size 43 3 u (shOf p).length (jpC (shOf p))) ∧ Below w.heap.size w w' := by
  obtain ⟨ba, bn, bc, rfl⟩ := hB.form
  have hfl := flats_le p.2
  have hlen := hg.2.2.1
  have hsz : ∀ k, S k → k < w.heap.size := fun k hk => by obtain ⟨cur, fz, hc⟩ := hS k hk; exact heap_lt hc
  have hA := ((Below.refl w.heap.size w).alloc (Nat.le_refl _) (Obj.cells #[.int .u8 p.1.toNat, .slice ba bn bc] 64)).alloc (by simp) (Obj.cells #[.slice none 0 0] 22)
  have hp : ((w.alloc (Obj.cells #[.int .u8 p.1.toNat, .slice ba bn bc] 64)).alloc (Obj.cells #[.slice none 0 0] 22)).heap[w.heap.size]? = some (.cells #[.int .u8 p.1.toNat, .slice ba bn bc] 64 (0, 0)) := by
    rw [Lib.alloc_old _ _ _ (by simp)]; exact heap_alloc_new _ _
  have hc : ((w.alloc (Obj.cells #[.int .u8 p.1.toNat, .slice ba bn bc] 64)).alloc (Obj.cells #[.slice none 0 0] 22)).heap[w.heap.size + 1]? = some (.cells #[.slice none 0 0] 22 (0, 0)) := by
    have := heap_alloc_new (w.alloc (Obj.cells #[.int .u8 p.1.toNat, .slice ba bn bc] 64)) (Obj.cells #[.slice none 0 0] 22)
    rw [alloc_size'] at this; exact this
  have hI : ShV w S w.heap.size w.heap.size (w.heap.size + 1) p.1 (.slice ba bn bc) [] ((w.alloc (Obj.cells #[.int .u8 p.1.toNat, .slice ba bn bc] 64)).alloc (Obj.cells #[.slice none 0 0] 22)) :=
    ⟨⟨.slice none 0 0, hp, hc, World.ownsRow_nil _ _ _ _, by omega⟩, fun k hk => ⟨by have := hsz k hk; simp; omega, hA.block k (hsz k hk)⟩⟩
  have HE := Lib.hid (eachg_all _ _ _ _ _ _ _ _ _ _ (sh_visits w S w.heap.size w.heap.size (w.heap.size + 1) p.1 hg.2.2.2 ba bn bc hS) (flats p.2).length p.2 _ (.slice ba bn bc) [] (Nat.le_refl _) (by omega) (by simp only [List.nil_append]; omega) hI hB (flats_ok _ hg.1 hg.2.1))
  have HA := Lib.hid hA
  clear hfl hlen hB hS hg hsz hA hp hc hI
  go_enter Tryd.func36, Tryd.ntmps36
  go_wp2_with fail
  refine HE.out.mono ?_
  rintro e w2 ⟨rfl, hV, hK⟩
  obtain ⟨⟨u, hu⟩, _⟩ := hV
  have q0 : w2.cell? ⟨w.heap.size + 1, 0, none⟩ = some u := by rw [Lib.cell_of_heap hu.bc]; rfl
  have HU := Lib.hid hu.row
  have HW := Lib.hid (HA.out.trans hK.below)
  clear hu hK
  go_wp2_with fail
  go_ret
  exact ⟨⟨u, rfl, HU.out⟩, HW.out⟩

theorem shAll_snoc (ps : List Pr) (p : Pr) : shAll (ps ++ [p]) = shAll ps ++ shOf p := by simp [shAll]
theorem shOf_len {p : Pr} (h : Good p) : (shOf p).length ≤ 400 := Nat.le_trans (shOn_len _ _) (Nat.le_trans (flats_le p.2) h.2.2.1)
theorem shAll_len : ∀ (ps : List Pr), (∀ p ∈ ps, Good p) → (shAll ps).length ≤ ps.length * 400
  | [], _ => by simp [shAll]
  | p :: t, h => by
    have h1 := shOf_len (h p (by simp))
    have h2 := shAll_len t fun q hq => h q (List.mem_cons.2 (.inr hq))
    simp only [shAll, List.flatMap_cons, List.length_append, List.length_cons] at h2 ⊢
    omega

set_option maxHeartbeats 2000000 in
set_option maxRecDepth 100000 in
theorem prog_shadows {w : World} {B : Nat} {S : Nat → Prop} {qs : List Qr} {a : Option Addr} {n c : Nat} (h : IsProg w B S qs (.slice a n c)) (hn : qs.length = n) (hl : n ≤ 26) (hg : ∀ q ∈ qs, Good q.1) :
    Calls Tryd.prog 18 #[.slice a n c] w fun e w' => (∃ u, e = .returned u ∧ w'.ownsRow w.heap.size 43 3 u (shAll (qs.map (·.1))).length (jpC (shAll (qs.map (·.1))))) ∧ Below w.heap.size w w' := by
  have H := Lib.hid h
  have HN := Lib.hid hn
  have HG := Lib.hid hg
  clear h hn hg
  go_enter Tryd.func18, Tryd.ntmps18
  go_wp2_with fail
  go_loopw [3, 8] (fun x i wr => ∃ k : Nat, i = .int .i64 k ∧ k ≤ n ∧ Hid (wr.ownsRow w.heap.size 43 3 x (shAll ((qs.take k).map (·.1))).length (jpC (shAll ((qs.take k).map (·.1))))) ∧ Hid (Below w.heap.size w wr)) (fun _ i _ => n - (intOf i).toNat)
  case atStart => exact ⟨0, by go_num, Nat.zero_le _, World.ownsRow_nil _ _ _ _, Below.refl _ _⟩
  case round =>
    obtain ⟨k, rfl, hk, hR, hb⟩ := hrel
    by_cases hlt : k < n
    · have hkq : k < qs.length := by rw [HN.out]; exact hlt
      obtain ⟨g, rfl, _, c0, c1⟩ := H.out.get k hkq
      have hgl : g < w.heap.size := World.block_lt_of_cell? w _ c0
      have hbody := prog_body H.out k hkq
      obtain ⟨ba, bn, bc, hbv⟩ := hbody.form
      rw [hbv] at c1 hbody
      have d0 : wr.cell? ⟨g, k * 2, none⟩ = some (.int .u8 qs[k].1.1.toNat) := by rw [hb.out.cell (p := ⟨g, k * 2, none⟩) hgl]; exact c0
      have d1 : wr.cell? ⟨g, k * 2 + 1, none⟩ = some (.slice ba bn bc) := by rw [hb.out.cell (p := ⟨g, k * 2 + 1, none⟩) hgl]; exact c1
      have hq := HG.out qs[k] (List.getElem_mem hkq)
      have hA := (Below.refl wr.heap.size wr).alloc (Nat.le_refl _) (Obj.cells #[.int .u8 qs[k].1.1.toNat, .slice ba bn bc] 64)
      have hwA := hb.out.trans (hA.mono hb.out.size)
      have HC := Lib.hid (proc_shadows (w := wr.alloc (Obj.cells #[.int .u8 qs[k].1.1.toNat, .slice ba bn bc] 64)) (S := S) (p := qs[k].1) (v := .slice ba bn bc) (hbody.kept (fun j hj => hwA.block j (H.out.lt j hj)) (fun _ h => h)) (fun j hj => by
        obtain ⟨_, cur, fz, hc⟩ := H.out.set j hj
        exact ⟨cur, fz, by rw [hwA.block j (heap_lt hc)]; exact hc⟩) hq)
      have HT := Lib.hid (by rw [List.take_succ_eq_append_getElem hkq, List.map_append, List.map_cons, List.map_nil, shAll_snoc] : shAll ((qs.take (k + 1)).map (·.1)) = shAll ((qs.take k).map (·.1)) ++ shOf qs[k].1)
      have hl1 := shOf_len hq
      have hl2 := shAll_len ((qs.take k).map (·.1)) fun p hp => by
        obtain ⟨q, hq, rfl⟩ := List.mem_map.1 hp
        exact HG.out q (List.mem_of_mem_take hq)
      rw [List.length_map, List.length_take] at hl2
      have hl3 : (shAll ((qs.take k).map (·.1))).length ≤ 10400 := by
        have : min k qs.length * 400 ≤ 26 * 400 := Nat.mul_le_mul_right _ (by omega)
        omega
      have HWA := Lib.hid hwA
      have HA := Lib.hid hA
      clear c0 c1 hgl hbv hbody hq hA hwA hl2
      go_wp2_with fail
      refine HC.out.mono ?_
      rintro e w3 ⟨⟨u, rfl, hu⟩, hb3⟩
      have hr3 : w3.ownsRow w.heap.size 43 3 u3 (shAll ((qs.take k).map (·.1))).length (jpC (shAll ((qs.take k).map (·.1)))) := ownsRow_of hR.out fun g hg => by
        obtain ⟨_, cur, hc⟩ := row_block hR.out hg
        rw [hb3.block g (by rw [alloc_size']; have := heap_lt hc; omega), HA.out.block g (heap_lt hc)]
      have hb03 := HWA.out.trans (hb3.mono HWA.out.size)
      obtain ⟨v', w4, hrun, hrow4, hg4⟩ := sh_rows w3 w.heap.size _ _ _ _ _ hr3 hu (by omega) hb03.size
      rw [← HT.out] at hrow4
      have HRun := Lib.hid hrun
      have HR4 := Lib.hid hrow4
      have HB4 := Lib.hid (hb03.grown hg4 hb03.size (fun k hk => (row_block hr3 hk).1))
      clear hrun hrow4 hg4 hr3 hu hb3 hb03
      go_wp2_with (at_builtin; refine Lib.wpList_append_run _ rfl _ _ 22 22 rfl _ _ rfl rfl _ _ HRun.out ?_)
      go_roundw
      case rel => exact ⟨k + 1, by go_num, by omega, HR4.out, HB4.out⟩
      case measure => simp [intOf]; omega
    · have hall : qs.take k = qs := List.take_of_length_le (by rw [HN.out]; omega)
      rw [hall] at hR
      go_wp2_with fail
      go_ret
      exact ⟨⟨_, rfl, hR.out⟩, hb.out⟩
end Go.Proofs.YtihjkkoaccmefaaDoor
namespace Go.Proofs.YtihjkkoaccmefaaDoor
open Go.RowKit Gram

/-- there is a way of calls -/
inductive Way (C : UInt8 → UInt8 → Prop) (c : UInt8) : UInt8 → Prop
  | here : Way C c c
  | next {x y : UInt8} : Way C c x → C x y → Way C c y
theorem Way.trans {C : UInt8 → UInt8 → Prop} {a b d : UInt8} (h : Way C a b) (h' : Way C b d) : Way C a d := by
  induction h' with
  | here => exact h
  | next _ hc ih => exact .next ih hc
theorem way_reached {C : UInt8 → UInt8 → Prop} {c : UInt8} {re : List UInt8} (h : Reached C c re) (y : UInt8) : y ∈ c :: re ↔ Way C c y := by
  constructor
  · intro hy
    rcases List.mem_cons.1 hy with rfl | hy
    · exact .here
    · exact h.least (Way C c) (fun y hy => .next .here hy) (fun x y hx hc => .next hx hc) y hy
  · intro hw
    induction hw with
    | here => exact List.mem_cons.2 (.inl rfl)
    | next _ hc ih =>
      rcases List.mem_cons.1 ih with rfl | ih
      · exact List.mem_cons.2 (.inr (h.first _ hc))
      · exact List.mem_cons.2 (.inr (h.closed _ ih _ hc))
/-- a call of one that isn't passed by -/
def Past (W : List UInt8) (C : UInt8 → UInt8 → Prop) (u v : UInt8) : Prop := u ∉ W ∧ C u v
/-- there is a way past those of a list -/
def Leads (C : UInt8 → UInt8 → Prop) (W : List UInt8) (c d : UInt8) : Prop := d ∉ W ∧ Way (Past W C) c d
theorem Way.free {C : UInt8 → UInt8 → Prop} {W : List UInt8} {c d : UInt8} (h : Way (Past W C) c d) : Way C c d := by
  induction h with
  | here => exact .here
  | next _ hc ih => exact .next ih hc.2
theorem leads_all {C : UInt8 → UInt8 → Prop} {c d : UInt8} : Leads C [] c d ↔ Way C c d := by
  constructor
  · exact fun h => h.2.free
  · intro h
    refine ⟨by simp, ?_⟩
    induction h with
    | here => exact .here
    | next _ hc ih => exact .next ih ⟨by simp, hc⟩
theorem way_parts {C : UInt8 → UInt8 → Prop} {c d : UInt8} (x : UInt8) (h : Way C c d) : Leads C [x] c d ∨ (Way C c x ∧ Way C x d) := by
  induction h with
  | here =>
    by_cases hx : c = x
    · subst hx; exact .inr ⟨.here, .here⟩
    · exact .inl ⟨by simpa using hx, .here⟩
  | @next u v h hc ih =>
    rcases ih with ih | ⟨h1, h2⟩
    · by_cases hx : v = x
      · subst hx; exact .inr ⟨.next ih.2.free hc, .here⟩
      · exact .inl ⟨by simpa using hx, .next ih.2 ⟨ih.1, hc⟩⟩
    · exact .inr ⟨h1, h2.next hc⟩

/-- a list of letters without repeats has no more than 26 -/
theorem length_card : ∀ (l : List UInt8), l.Nodup → lets l → l.length ≤ card l
  | [], _, _ => Nat.zero_le _
  | a :: t, hn, hl => by
    rw [List.nodup_cons] at hn
    have h1 := length_card t hn.2 fun c hc => hl c (List.mem_cons.2 (.inr hc))
    have h2 : card t < card (a :: t) := card_lt (fun y hy => List.mem_cons.2 (.inr hy)) a (List.mem_cons.2 (.inl rfl)) hn.1 (hl a (List.mem_cons.2 (.inl rfl)))
    simp only [List.length_cons]; omega
theorem nodup_26 {l : List UInt8} (hn : l.Nodup) (hl : lets l) : l.length ≤ 26 := Nat.le_trans (length_card l hn hl) (card_le l)
theorem nodup_snoc {l : List UInt8} (hn : l.Nodup) {y : UInt8} (hy : y ∉ l) : (l ++ [y]).Nodup := by
  rw [List.nodup_append]
  exact ⟨hn, by simp, by intro a ha b hb; rw [List.mem_singleton.1 hb]; intro e; exact hy (e ▸ ha)⟩

/-- the names of the procedures of a text -/
def namesT (s : ByteArray) : List UInt8 := match progOf s with | none => [] | some ps => namesOf ps
theorem procs_names (s : ByteArray) : procsP s = txtOf (namesT s) := by
  rw [procsP, namesT]; cases progOf s <;> rfl
theorem namesT_asc (s : ByteArray) : asc (namesT s) := by
  rw [namesT]
  cases h : progOf s with
  | none => simp [asc]
  | some ps => exact procs_asc _ _ _ (prog_facts h).2.2.2 (by simp [asc, namesOf])
theorem namesT_lets (s : ByteArray) : lets (namesT s) := by
  rw [namesT]
  cases h : progOf s with
  | none => intro c hc; simp at hc
  | some ps =>
    intro c hc
    obtain ⟨p, hp, rfl⟩ := List.mem_map.1 hc
    exact ((prog_facts h).2.1 p hp).2.2.2
theorem asc_nodup {l : List UInt8} (h : asc l) : l.Nodup := by
  rw [asc] at h
  exact h.imp fun {a b} hab e => by rw [e] at hab; omega
theorem namesT_len (s : ByteArray) : (namesT s).length ≤ 26 := nodup_26 (asc_nodup (namesT_asc s)) (namesT_lets s)

/-- what a name says of a program -/
theorem look_name {s nm : ByteArray} {p : Pr} (h : lookP s nm = some p) : nm = txtOf [p.1] ∧ isLet p.1 = true ∧ p.1 ∈ namesT s := by
  have h0 := h
  unfold lookP at h
  split at h
  · rename_i ps c hp hno
    have h1 := List.find?_some h
    have h2 : p.1 = c := by simpa using h1
    obtain ⟨h3, h4⟩ := nameOf_some hno
    refine ⟨?_, h2 ▸ h4, ?_⟩
    · apply ByteArray.ext
      apply Array.ext'
      rw [h3, h2]; rfl
    · rw [namesT, hp]
      exact List.mem_map.2 ⟨p, List.mem_of_find?_eq_some h, rfl⟩
  · cases h
theorem name_look {s : ByteArray} {x : UInt8} (h : x ∈ namesT s) : ∃ p, lookP s (txtOf [x]) = some p ∧ p.1 = x := by
  have hl := namesT_lets s x h
  rw [namesT] at h
  cases hp : progOf s with
  | none => rw [hp] at h; simp at h
  | some ps =>
    rw [hp] at h
    obtain ⟨p, hm, rfl⟩ := List.mem_map.1 h
    have hno : nameOf (txtOf [p.1]).data.toList = some p.1 := by rw [txtOf_data, nameOf, if_pos hl]
    rw [lookP, hp, hno]
    dsimp only
    cases hq : ps.find? (fun q => q.1 == p.1) with
    | none =>
      rw [List.find?_eq_none] at hq
      exact absurd (by simp) (hq p hm)
    | some q => exact ⟨q, rfl, by simpa using List.find?_some hq⟩
theorem own_of {s : ByteArray} {ps : List Pr} (h : progOf s = some ps) : ownCalls ps = true := by
  unfold progOf at h
  split at h
  · cases hp : procsOf [] (cuts s.data.toList) with
    | none => rw [hp] at h; cases h
    | some qs =>
      rw [hp, Option.bind_some] at h
      split at h
      · injection h with h; subst h; assumption
      · cases h
  · cases h
theorem step_name {s : ByteArray} {x y : UInt8} (h : stepOf s x y) : y ∈ namesT s := by
  obtain ⟨p, hl, hy⟩ := h
  have h0 := hl
  unfold lookP at hl
  split at hl
  · rename_i ps c hp hno
    have h1 := own_of hp
    rw [ownCalls, List.all_eq_true] at h1
    have h2 := h1 p (List.mem_of_find?_eq_some hl)
    rw [List.all_eq_true] at h2
    have h3 := h2 y hy
    rw [namesT, hp]
    exact List.contains_iff_mem.1 h3
  · cases hl
theorem way_name {s : ByteArray} {x y : UInt8} (hx : x ∈ namesT s) (h : Way (stepOf s) x y) : y ∈ namesT s := by
  cases h with
  | here => exact hx
  | next _ hc => exact step_name hc
theorem callsT_of (s : ByteArray) (x : UInt8) : callsT (lookP s (txtOf [x])) = txtOf (setText (startOf s (txtOf [x]))) := by
  unfold callsT startOf
  cases lookP s (txtOf [x]) <;> rfl
theorem startOf_lets (s nm : ByteArray) : lets (startOf s nm) := by
  rw [startOf]
  cases h : lookP s nm with
  | none => intro c hc; simp at hc
  | some p => exact callsIn_lets _ (look_good p h).1

/-- within may run when start was begun -/
def RunOf (s st wi : ByteArray) : Prop := ∃ p q, lookP s st = some p ∧ lookP s wi = some q ∧ Way (stepOf s) p.1 q.1
/-- y may be active then -/
def MayOf (s st wi : ByteArray) (y : UInt8) : Prop := y ∈ namesT s ∧ ∃ p q, lookP s st = some p ∧ lookP s wi = some q ∧ Way (stepOf s) p.1 y ∧ Way (stepOf s) y q.1
/-- y must be active then -/
def MustOf (s st wi : ByteArray) (y : UInt8) : Prop := y ∈ namesT s ∧ ∃ p q, lookP s st = some p ∧ lookP s wi = some q ∧ Way (stepOf s) p.1 q.1 ∧ ¬ Leads (stepOf s) [y] p.1 q.1
theorem MayOf.run {s st wi : ByteArray} {y : UInt8} (h : MayOf s st wi y) : RunOf s st wi := by
  obtain ⟨_, p, q, h1, h2, h3, h4⟩ := h
  exact ⟨p, q, h1, h2, h3.trans h4⟩
theorem MustOf.may {s st wi : ByteArray} {y : UInt8} (h : MustOf s st wi y) : MayOf s st wi y := by
  obtain ⟨hy, p, q, h1, h2, h3, h4⟩ := h
  rcases way_parts y h3 with h | h
  · exact absurd h h4
  · exact ⟨hy, p, q, h1, h2, h⟩
/-- the text of the letters of which something is true -/
def AT (P : UInt8 → Prop) (l : List UInt8) : Prop := ∃ re, lets re ∧ l = setText re ∧ ∀ y, y ∈ re ↔ P y
theorem AT.same {P : UInt8 → Prop} {l l' : List UInt8} (h : AT P l) (h' : AT P l') : l = l' := by
  obtain ⟨re, _, rfl, h2⟩ := h
  obtain ⟨re', _, rfl, h2'⟩ := h'
  exact upTo_same (fun y => (h2 y).trans (h2' y).symm) _
theorem at_asc {P : UInt8 → Prop} {s : ByteArray} {l : List UInt8} (h : l.Sublist (namesT s)) (hp : ∀ y, y ∈ l ↔ P y) : AT P l := by
  have h1 : asc l := by
    have := namesT_asc s
    rw [asc] at this ⊢
    exact this.sublist h
  have h2 : lets l := fun c hc => namesT_lets s c (h.subset hc)
  exact ⟨l, h2, (upTo_asc l h1 h2).symm, hp⟩
end Go.Proofs.YtihjkkoaccmefaaDoor
namespace Go.Proofs.YtihjkkoaccmefaaDoor
open Go.RowKit Gram

/-- the shadows that a scan of a body's text finds -/
def spt (c : UInt8) : List UInt8 → List Jpt
  | [] => []
  | b :: r => (if b = 80 then [⟨none, [c]⟩] else if b = 67 then [⟨r.head?, [c]⟩] else []) ++ spt c r
/-- behind each 'C' stands a sign -/
def foC : List UInt8 → Bool
  | [] => true
  | b :: r => (b != 67 || !r.isEmpty) && foC r
theorem spt_dull (c b : UInt8) (r : List UInt8) (h1 : b ≠ 80) (h2 : b ≠ 67) : spt c (b :: r) = spt c r ∧ foC (b :: r) = foC r := by
  simp [spt, foC, h1, h2]
theorem dull_sgn {g : UInt8} (h : isSgn g = true) : g ≠ 80 ∧ g ≠ 67 := by
  simp only [isSgn, Bool.or_eq_true, beq_iff_eq] at h
  rcases h with (h | h) | h <;> subst h <;> decide
theorem dull_dig {g : UInt8} (h : isDig g = true) : g ≠ 80 ∧ g ≠ 67 := by
  constructor <;> rintro rfl <;> exact absurd h (by decide)
theorem dull_let {g : UInt8} (h : isLet g = true) : g ≠ 80 ∧ g ≠ 67 := by
  constructor <;> rintro rfl <;> exact absurd h (by decide)
theorem shOn_append (c : UInt8) (a b : List Stm) : shOn c (a ++ b) = shOn c a ++ shOn c b := List.filterMap_append ..
mutual
theorem spt_stm (c : UInt8) (x : Stm) (h : x.wf = true) (hk : x.nk = true) (r : List UInt8) : spt c (x.txt ++ r) = shOn c x.flat ++ spt c r ∧ foC (x.txt ++ r) = foC r := by
  match x with
  | .chg g d =>
    simp only [Stm.wf, Bool.and_eq_true] at h
    obtain ⟨a1, a2⟩ := spt_dull c g (d :: r) (dull_sgn h.1).1 (dull_sgn h.1).2
    obtain ⟨b1, b2⟩ := spt_dull c d r (dull_dig h.2).1 (dull_dig h.2).2
    simp only [Stm.txt, List.cons_append, List.nil_append, a1, a2, b1, b2, Stm.flat]
    exact ⟨by simp [shOn, jpOf], trivial⟩
  | .prt =>
    simp only [Stm.txt, List.cons_append, List.nil_append, Stm.flat]
    exact ⟨by simp [spt, shOn, jpOf], by simp [foC]⟩
  | .pro => simp [Stm.nk] at hk
  | .call d =>
    simp only [Stm.wf] at h
    obtain ⟨b1, b2⟩ := spt_dull c d r (dull_let h).1 (dull_let h).2
    simp only [Stm.txt, List.cons_append, List.nil_append, Stm.flat]
    constructor
    · rw [spt, b1]; simp [shOn, jpOf]
    · rw [foC, b2]; simp
  | .cho a b =>
    simp only [Stm.wf, Bool.and_eq_true] at h
    simp only [Stm.nk, Bool.and_eq_true] at hk
    have e1 := fun r => spt_dull c 63 r (by decide) (by decide)
    have e2 := fun r => spt_dull c 91 r (by decide) (by decide)
    have e3 := fun r => spt_dull c 93 r (by decide) (by decide)
    have h1 := fun r => spt_stms c a h.1 hk.1 r
    have h2 := fun r => spt_stms c b h.2 hk.2 r
    simp only [Stm.txt, List.cons_append, List.append_assoc, List.nil_append, (e1 _).1, (e1 _).2, (e2 _).1, (e2 _).2, (h1 _).1, (h1 _).2, (e3 _).1, (e3 _).2, (h2 _).1, (h2 _).2, Stm.flat]
    constructor
    · have : shOn c (.cho a b :: (flats a ++ flats b)) = shOn c (flats a) ++ shOn c (flats b) := by
        rw [← shOn_append]; simp [shOn, jpOf]
      rw [this, List.append_assoc]
    · trivial
theorem spt_stms (c : UInt8) (xs : List Stm) (h : wfs xs = true) (hk : nks xs = true) (r : List UInt8) : spt c (txts xs ++ r) = shOn c (flats xs) ++ spt c r ∧ foC (txts xs ++ r) = foC r := by
  match xs with
  | [] => simp [txts, flats, shOn]
  | x :: xs =>
    simp only [wfs, Bool.and_eq_true] at h
    simp only [nks, Bool.and_eq_true] at hk
    have h1 := fun r => spt_stm c x h.1 hk.1 r
    have h2 := fun r => spt_stms c xs h.2 hk.2 r
    simp only [txts, flats, List.append_assoc, (h1 _).1, (h1 _).2, (h2 _).1, (h2 _).2, shOn_append]
    exact ⟨trivial, trivial⟩
end
theorem sh_row0 (w : World) : (w.alloc (Obj.cells #[] 43)).ownsRow w.heap.size 43 3 (.slice (some ⟨w.heap.size, 0, none⟩) 0 0) 0 (jpC []) :=
  ⟨by simp [jpC], .inr ⟨w.heap.size, 0, #[], rfl, Nat.le_refl _, heap_alloc_new w _, Nat.le_refl _, by simp [maxLen], by simp, by simp [jpC]⟩⟩
theorem sh_row1 (w : World) (j : Jpt) (X Y Z : ByteArray) (hj : jpC [j] = [.string X, .string Y, .string Z]) : (w.alloc (Obj.cells #[.string X, .string Y, .string Z] 43)).ownsRow w.heap.size 43 3 (.slice (some ⟨w.heap.size, 0, none⟩) 1 1) [j].length (jpC [j]) :=
  ⟨by rw [hj]; rfl, .inr ⟨w.heap.size, 1, #[.string X, .string Y, .string Z], rfl, Nat.le_refl _, heap_alloc_new w _, Nat.le_refl _, by simp [maxLen], by simp, by rw [hj]; rfl⟩⟩

set_option maxHeartbeats 4000000 in
set_option maxRecDepth 100000 in
theorem places_any (c : UInt8) (l : List UInt8) (hok : foC l = true) (hl : l.length ≤ 400) (w : World) :
    Calls Tryd.prog 16 #[.string (txtOf l), .string (txtOf [c])] w fun e w' => (∃ u, e = .returned u ∧ w'.ownsRow w.heap.size 43 3 u (spt c l).length (jpC (spt c l))) ∧ Below w.heap.size w w' := by
  have HOk := Lib.hid hok
  have hsz : (txtOf l).size = l.length := rfl
  have hat : ∀ k (hk : k < l.length), (txtOf l)[k]'(by rw [hsz]; exact hk) = l[k] := fun k hk => rfl
  have hex : ∀ k (hk : k < l.length), (txtOf l).extract k (k + 1) = txtOf [l[k]] := fun k hk => one_extract l k hk
  have HAt := Lib.hid hat
  have HEx := Lib.hid hex
  clear hat hex hok
  generalize txtOf l = s at *
  generalize htc : txtOf [c] = tc at *
  have HTc := Lib.hid htc
  clear htc
  go_enter Tryd.func16, Tryd.ntmps16
  go_wp2_with fail
  go_loopw [5, 10] (fun x i wr => ∃ (k : Nat) (js : List Jpt), i = .int .i64 k ∧ k ≤ l.length ∧ js.length ≤ k ∧ Hid (wr.ownsRow w.heap.size 43 3 x js.length (jpC js)) ∧ Hid (js ++ spt c (l.drop k) = spt c l) ∧ Hid (foC (l.drop k) = true) ∧ Hid (Below w.heap.size w wr)) (fun _ i _ => l.length - (intOf i).toNat)
  case atStart => exact ⟨0, [], by go_num, Nat.zero_le _, Nat.le_refl _, sh_row0 w, rfl, HOk.out, (Below.refl _ _).alloc (Nat.le_refl _) _⟩
  case round =>
    obtain ⟨k, js, rfl, hk, hjk, hR, hS, hO, hb⟩ := hrel
    by_cases hlt : k < l.length
    · have hidx := HAt.out k hlt
      have hdrop : l.drop k = l[k] :: l.drop (k + 1) := List.drop_eq_getElem_cons hlt
      have hlen1 : (l.drop (k + 1)).length = l.length - (k + 1) := List.length_drop
      have HHd := Lib.hid (fun (h : k + 1 < l.length) => (by rw [List.head?_drop, List.getElem?_eq_getElem h] : (l.drop (k + 1)).head? = some l[k + 1]))
      have hS' := hS.out
      have hO' := hO.out
      rw [hdrop] at hS' hO'
      generalize hbk : l[k] = b at *
      by_cases h80 : b = 80
      · have e1 : ((b.toNat : Int) == 80) = true := by rw [beq_iff_eq, h80]; rfl
        have hj : jpC [⟨none, [c]⟩] = [.string ⟨#[112, 114, 105, 110, 116]⟩, .string ⟨#[]⟩, .string tc] := by rw [← HTc.out]; rfl
        have hu := sh_row1 wr ⟨none, [c]⟩ _ _ _ hj
        have hA := (Below.refl wr.heap.size wr).alloc (Nat.le_refl _) (Obj.cells #[.string ⟨#[112, 114, 105, 110, 116]⟩, .string ⟨#[]⟩, .string tc] 43)
        obtain ⟨v', w4, hrun, hrow4, hg4⟩ := sh_rows _ w.heap.size _ js _ _ _ (hR.out.alloc _) hu (by simp only [List.length_singleton]; omega) (by rw [alloc_size']; have := hb.out.size; omega)
        have HRun := Lib.hid hrun
        have HR4 := Lib.hid hrow4
        have HB4 := Lib.hid ((hb.out.trans (hA.mono hb.out.size)).grown hg4 (by rw [alloc_size']; have := hb.out.size; omega) (fun k hk => (row_block hR.out hk).1))
        have HS4 := Lib.hid (by rw [h80] at hS'; simpa [spt] using hS' : (js ++ [⟨none, [c]⟩]) ++ spt c (l.drop (k + 1)) = spt c l)
        have HO4 := Lib.hid (by simp only [foC, Bool.and_eq_true] at hO'; exact hO'.2 : foC (l.drop (k + 1)) = true)
        clear hrun hrow4 hg4 hu hA hS' hO' hdrop hlen1 hbk h80 hj
        go_wp2_with (at_builtin; refine Lib.wpList_append_run _ rfl _ _ 22 22 rfl _ _ rfl rfl _ _ HRun.out ?_)
        go_roundw
        case rel => exact ⟨k + 1, js ++ [(⟨none, [c]⟩ : Jpt)], by go_num, by omega, by simp; omega, HR4.out, HS4.out, HO4.out, HB4.out⟩
        case measure => simp [intOf]; omega
      · have e1 : ((b.toNat : Int) == 80) = false := by rw [beq_eq_false_iff_ne]; intro e; exact h80 (UInt8.toNat.inj (by show b.toNat = 80; omega))
        by_cases h67 : b = 67
        · have e2 : ((b.toNat : Int) == 67) = true := by rw [beq_iff_eq, h67]; rfl
          have hne : k + 1 < l.length := by
            rw [h67] at hO'
            simp only [foC, Bool.and_eq_true] at hO'
            have h1 := hO'.1
            simp only [bne_self_eq_false, Bool.false_or, Bool.not_eq_true', List.isEmpty_eq_false_iff] at h1
            have := List.length_pos_iff.2 h1
            omega
          have hx := HEx.out (k + 1) hne
          have hhd := HHd.out hne
          have hj : jpC [⟨some l[k + 1], [c]⟩] = [.string ⟨#[99, 97, 108, 108]⟩, .string (txtOf [l[k + 1]]), .string tc] := by rw [← HTc.out]; rfl
          have hS4 : (js ++ [⟨some l[k + 1], [c]⟩]) ++ spt c (l.drop (k + 1)) = spt c l := by
            rw [h67, spt, hhd] at hS'
            simpa using hS'
          have hO4 : foC (l.drop (k + 1)) = true := by simp only [foC, Bool.and_eq_true] at hO'; exact hO'.2
          generalize htx : txtOf [l[k + 1]] = tx at *
          generalize l[k + 1] = y at *
          have hu := sh_row1 wr ⟨some y, [c]⟩ _ _ _ hj
          have hA := (Below.refl wr.heap.size wr).alloc (Nat.le_refl _) (Obj.cells #[.string ⟨#[99, 97, 108, 108]⟩, .string tx, .string tc] 43)
          obtain ⟨v', w4, hrun, hrow4, hg4⟩ := sh_rows _ w.heap.size _ js _ _ _ (hR.out.alloc _) hu (by simp only [List.length_singleton]; omega) (by rw [alloc_size']; have := hb.out.size; omega)
          have HRun := Lib.hid hrun
          have HR4 := Lib.hid hrow4
          have HB4 := Lib.hid ((hb.out.trans (hA.mono hb.out.size)).grown hg4 (by rw [alloc_size']; have := hb.out.size; omega) (fun k hk => (row_block hR.out hk).1))
          have HS4 := Lib.hid hS4
          have HO4 := Lib.hid hO4
          clear hrun hrow4 hg4 hu hA hS' hO' hdrop hlen1 hbk h80 h67 hj hS4 hO4 hhd htx
          go_wp2_with (at_builtin; refine Lib.wpList_append_run _ rfl _ _ 22 22 rfl _ _ rfl rfl _ _ HRun.out ?_)
          go_roundw
          case rel => exact ⟨k + 1, js ++ [(⟨some y, [c]⟩ : Jpt)], by go_num, by omega, by simp; omega, HR4.out, HS4.out, HO4.out, HB4.out⟩
          case measure => simp [intOf]; omega
        · have e2 : ((b.toNat : Int) == 67) = false := by rw [beq_eq_false_iff_ne]; intro e; exact h67 (UInt8.toNat.inj (by show b.toNat = 67; omega))
          have HS4 := Lib.hid (by rw [(spt_dull c b _ h80 h67).1] at hS'; exact hS' : js ++ spt c (l.drop (k + 1)) = spt c l)
          have HO4 := Lib.hid (by rw [(spt_dull c b _ h80 h67).2] at hO'; exact hO' : foC (l.drop (k + 1)) = true)
          clear hS' hO' hdrop hlen1 hbk h80 h67
          go_wp2_with fail
          go_roundw
          case rel => exact ⟨k + 1, js, by go_num, by omega, by omega, hR.out, HS4.out, HO4.out, hb.out⟩
          case measure => simp [intOf]; omega
    · have HE := Lib.hid (by
        have := hS.out
        rw [List.drop_of_length_le (by omega)] at this
        simpa [spt] using this : js = spt c l)
      rw [HE.out] at hR
      go_wp2_with fail
      go_ret
      exact ⟨⟨_, rfl, hR.out⟩, hb.out⟩

theorem KpT.grown {T : TypeId → Prop} {B B' sz n : Nat} {a w w' : World} {e : TypeId} {v : Value} {xs : List Value} (h : KpT T B a w) (hr : w.ownsRow B' e sz v n xs) (hT : T e) (hB' : B ≤ B') (hB : B ≤ w.heap.size) (hg : w.grownBy w' v.ownBlock) : KpT T B a w' :=
  ⟨h.below.grown hg hB (fun k hk => Nat.le_trans hB' (row_block hr hk).1), fun k cur e' fz hk he => by
    have h1 := h.rest k cur e' fz hk he
    rw [hg.block k (heap_lt h1) (fun e2 => by
      obtain ⟨_, cur', hc⟩ := row_block hr e2.symm
      rw [h1] at hc
      injection hc with hc; injection hc with _ ht _
      exact he (ht ▸ hT))]
    exact h1⟩
theorem KpT.row {T : TypeId → Prop} {B B' sz n : Nat} {a w : World} {e : TypeId} {v : Value} {xs : List Value} (h : KpT T B a w) (hr : a.ownsRow B' e sz v n xs) (hT : ¬ T e) : w.ownsRow B' e sz v n xs :=
  ownsRow_of hr fun g hg => by
    obtain ⟨_, cur, hc⟩ := row_block hr hg
    rw [h.rest g cur e _ hc hT, hc]
theorem places_of (p : Pr) (h : Good p) (w : World) :
    Calls Tryd.prog 16 #[.string (txtOf (txts p.2)), .string (txtOf [p.1])] w fun e w' => (∃ u, e = .returned u ∧ w'.ownsRow w.heap.size 43 3 u (shOf p).length (jpC (shOf p))) ∧ Below w.heap.size w w' := by
  obtain ⟨h1, h2⟩ := spt_stms p.1 p.2 h.1 h.2.1 []
  rw [List.append_nil] at h1 h2
  rw [spt, List.append_nil] at h1
  have := places_any p.1 (txts p.2) (by rw [h2]; rfl) h.2.2.1 w
  rw [h1] at this
  exact this

/-- what ShadowsOf hands back -/
def ShTo (s : ByteArray) (w : World) (e : Ending) (w' : World) : Prop := (∃ u, e = .returned u ∧ w'.ownsRow w.heap.size 43 3 u (shP s).length (jpC (shP s))) ∧ Below w.heap.size w w'
theorem shP_small (s : ByteArray) : (shP s).length ≤ 10400 := by
  unfold shP
  cases h : progOf s with
  | none => simp
  | some ps =>
    have h1 := shAll_len ps (prog_facts h).2.1
    have h2 : ps.length ≤ 26 := by
      have := namesT_len s
      unfold namesT at this
      rw [h] at this
      simpa [namesOf] using this
    have h3 : ps.length * 400 ≤ 26 * 400 := Nat.mul_le_mul_right _ h2
    show (shAll ps).length ≤ 10400
    omega
theorem prog_26 {s : ByteArray} {ps : List Pr} (h : progOf s = some ps) : ps.length ≤ 26 := by
  have := namesT_len s
  unfold namesT at this
  rw [h] at this
  simpa [namesOf] using this

set_option maxHeartbeats 2000000 in
set_option maxRecDepth 100000 in
theorem spec_shadows (s : ByteArray) (w : World) (hs : s.size ≤ 1048576) : Calls Tryd.prog 6 #[.string s] w (ShTo s w) := by
  have HR := Lib.hid (fun w => (open_prog s w (by omega)).mono fun _ _ h => h.cases)
  unfold ShTo
  have hA := (Below.refl w.heap.size w).alloc (Nat.le_refl _) (Obj.cells #[] 43)
  have HA := Lib.hid hA
  have HR0 := Lib.hid (sh_row0 w)
  cases hp : progOf s with
  | none =>
    have HZ := Lib.hid (by rw [shP, hp] : shP s = [])
    rw [HZ.out]
    rw [hp] at HR
    clear hp
    go_enter Tryd.func6, Tryd.ntmps6
    go_wp2_with fail
    refine (HR.out _).mono ?_
    rintro e w2 ⟨a, n, c, qs, rfl, hb, hnl, ho, _⟩
    have HB := Lib.hid (HA.out.trans (hb.mono HA.out.size))
    have HR2 := Lib.hid (ownsRow_of HR0.out fun g hg => hb.block g (heap_lt (row_block HR0.out hg).2.choose_spec) : w2.ownsRow w.heap.size 43 3 (.slice (some ⟨w.heap.size, 0, none⟩) 0 0) 0 (jpC []))
    rw [← hnl] at ho
    have HO := Lib.hid ho
    have HN := Lib.hid hnl
    clear hb ho hnl hA
    have hn63 := row_max HO.out
    rw [HN.out] at hn63
    go_wp2_with fail
    go_loopw [3, 16] (fun o i wr => ∃ k : Nat, i = .int .i64 k ∧ k ≤ n ∧ o = .slice (some ⟨w.heap.size, 0, none⟩) 0 0 ∧ Hid (Below w2.heap.size w2 wr)) (fun _ i _ => n - (intOf i).toNat)
    case atStart => exact ⟨0, by go_num, Nat.zero_le _, rfl, Below.refl _ _⟩
    case round =>
      obtain ⟨k, rfl, hk, rfl, hb⟩ := hrel
      by_cases hlt : k < n
      · have hkp : k < qs.length := by rw [HN.out]; exact hlt
        obtain ⟨g, rfl, c0, c1⟩ := pr_get HO.out k hkp
        have hgl : g < w2.heap.size := World.block_lt_of_cell? w2 _ c0
        have d0 : wr.cell? ⟨g, k * 2, none⟩ = some (.int .u8 qs[k].1.toNat) := by rw [hb.out.cell (p := ⟨g, k * 2, none⟩) hgl]; exact c0
        have d1 : wr.cell? ⟨g, k * 2 + 1, none⟩ = some (.string (txtOf (txts qs[k].2))) := by rw [hb.out.cell (p := ⟨g, k * 2 + 1, none⟩) hgl]; exact c1
        clear c0 c1 hgl
        generalize txtOf (txts qs[k].2) = tx at *
        go_wp2_with fail
        go_roundw
        case rel => exact ⟨k + 1, by go_num, by omega, rfl, hb.out.alloc hb.out.size _⟩
        case measure => simp [intOf]; omega
      · go_wp2_with fail
        go_ret
        exact ⟨⟨_, rfl, ownsRow_of HR2.out fun g hg => hb.out.block g (heap_lt (row_block HR2.out hg).2.choose_spec)⟩, HB.out.trans (hb.out.mono HB.out.size)⟩
  | some ps =>
    have hf := prog_facts hp
    have h26 := prog_26 hp
    have HZ := Lib.hid (by rw [shP, hp] : shP s = shAll ps)
    rw [HZ.out]
    rw [hp] at HR
    clear hp
    go_enter Tryd.func6, Tryd.ntmps6
    go_wp2_with fail
    refine (HR.out _).mono ?_
    rintro e w2 ⟨a, n, c, qs, rfl, hb, hnl, ho, hq⟩
    have hqp := hq ps rfl
    subst hqp
    have hln : n ≤ 26 := by rw [← hnl]; exact h26
    have HB := Lib.hid (HA.out.trans (hb.mono HA.out.size))
    have HR2 := Lib.hid (ownsRow_of HR0.out fun g hg => hb.block g (heap_lt (row_block HR0.out hg).2.choose_spec) : w2.ownsRow w.heap.size 43 3 (.slice (some ⟨w.heap.size, 0, none⟩) 0 0) 0 (jpC []))
    have HN := Lib.hid hnl
    rw [← hnl] at ho
    have HO := Lib.hid ho
    have HG := Lib.hid hf.2.1
    clear ho hb hf hq hnl h26 hA
    go_wp2_with fail
    go_loopw [3, 16] (fun o i wr => ∃ k : Nat, i = .int .i64 k ∧ k ≤ n ∧ Hid (wr.ownsRow w.heap.size 43 3 o (shAll (qs.take k)).length (jpC (shAll (qs.take k)))) ∧ Hid (KpT ShT w.heap.size w2 wr) ∧ Hid (Below w.heap.size w wr)) (fun _ i _ => n - (intOf i).toNat)
    case atStart => exact ⟨0, by go_num, Nat.zero_le _, HR2.out, KpT.refl _ _ _, HB.out⟩
    case round =>
      obtain ⟨k, rfl, hk, hR, hb, hbw⟩ := hrel
      by_cases hlt : k < n
      · have hkp : k < qs.length := by rw [HN.out]; exact hlt
        obtain ⟨g, rfl, d0, d1⟩ := pr_get (hb.out.row HO.out (by rintro (h | h) <;> exact absurd h (by decide))) k hkp
        have hq := HG.out qs[k] (List.getElem_mem hkp)
        have HPl := Lib.hid (fun w => places_of qs[k] hq w)
        rw [show txtOf [qs[k].1] = ⟨#[qs[k].1]⟩ from rfl] at HPl
        have HT := Lib.hid (by rw [List.take_succ_eq_append_getElem hkp, shAll_snoc] : shAll (qs.take (k + 1)) = shAll (qs.take k) ++ shOf qs[k])
        have hl1 := shOf_len hq
        have hl2 := shAll_len (qs.take k) fun p hp => HG.out p (List.mem_of_mem_take hp)
        rw [List.length_take] at hl2
        have hl3 : (shAll (qs.take k)).length ≤ 10400 := by
          have : min k qs.length * 400 ≤ 26 * 400 := Nat.mul_le_mul_right _ (by omega)
          omega
        have e2 := fun o : Obj => chr1 qs[k].1 (wr.alloc o) (wr.heap.size + 1) (by rw [alloc_size'])
        clear hq hl2
        generalize hso : shOf qs[k] = so at *
        generalize htx : txtOf (txts qs[k].2) = tx at *
        generalize hch : qs[k].1 = ch at *
        clear hso htx hch
        have hA1 := (Below.refl wr.heap.size wr).alloc (Nat.le_refl _) (Obj.cells #[.int .u8 ch.toNat, .string tx] 33)
        have hA2 := hA1.alloc hA1.size (Obj.cells #[.int .u8 ch.toNat] 5)
        have HA2 := Lib.hid hA2
        clear hA1 hA2
        go_wp2_with fail
        refine (HPl.out _).mono ?_
        rintro e w3 ⟨⟨u, rfl, hu⟩, hb3⟩
        have hr3 : w3.ownsRow w.heap.size 43 3 _ (shAll (qs.take k)).length (jpC (shAll (qs.take k))) := ownsRow_of hR.out fun g hg => by
          obtain ⟨_, cur, hc⟩ := row_block hR.out hg
          rw [hb3.block g (Nat.lt_of_lt_of_le (heap_lt hc) HA2.out.size), HA2.out.block g (heap_lt hc)]
        have hb23 := HA2.out.trans (hb3.mono HA2.out.size)
        have hbw3 := hbw.out.trans (hb23.mono hbw.out.size)
        have hb03 := hb.out.trans (.of hb23 hbw.out.size)
        obtain ⟨v', w4, hrun, hrow4, hg4⟩ := sh_rows w3 w.heap.size _ _ _ _ _ hr3 hu (by omega) hbw3.size
        rw [← HT.out] at hrow4
        have HRun := Lib.hid hrun
        have HR4 := Lib.hid hrow4
        have HB4 := Lib.hid (hbw3.grown hg4 hbw3.size (fun k hk => (row_block hr3 hk).1))
        have HK4 := Lib.hid (hb03.grown hr3 (.inl rfl) (Nat.le_refl _) hbw3.size hg4)
        clear hrun hrow4 hg4 hr3 hu hb3 hb23 hbw3 hb03
        go_wp2_with (at_builtin; refine Lib.wpList_append_run _ rfl _ _ 22 22 rfl _ _ rfl rfl _ _ HRun.out ?_)
        go_roundw
        case rel => exact ⟨k + 1, by go_num, by omega, HR4.out, HK4.out, HB4.out⟩
        case measure => simp [intOf]; omega
      · have hall : qs.take k = qs := List.take_of_length_le (by rw [HN.out]; omega)
        rw [hall] at hR
        go_wp2_with fail
        go_ret
        exact ⟨⟨_, rfl, hR.out⟩, hbw.out⟩

set_option maxHeartbeats 1000000 in
set_option maxRecDepth 100000 in
theorem impl_shadows (s : ByteArray) (w : World) (hs : s.size ≤ 1073741824) (hm : MaxCell w) : Calls Tryd.prog 7 #[.string s] w (ShTo s w) := by
  have HR := Lib.hid ((read_prog s w hs hm).mono fun _ _ h => h.cases)
  clear hm
  unfold ShTo
  cases hp : progOf s with
  | none =>
    have HZ := Lib.hid (by rw [shP, hp] : shP s = [])
    rw [HZ.out]
    rw [hp] at HR
    clear hp
    go_enter Tryd.func7, Tryd.ntmps7
    go_wp2_with fail
    refine HR.out.mono ?_
    rintro e w2 ⟨a, n, c, rfl, hb, _⟩
    have HB := Lib.hid hb
    clear hb
    go_wp2_with fail
    go_ret
    exact ⟨⟨_, rfl, World.ownsRow_nil _ _ _ _⟩, HB.out⟩
  | some ps =>
    have h26 := prog_26 hp
    have HZ := Lib.hid (by rw [shP, hp] : shP s = shAll ps)
    rw [HZ.out]
    rw [hp] at HR
    clear hp
    go_enter Tryd.func7, Tryd.ntmps7
    go_wp2_with fail
    refine HR.out.mono ?_
    rintro e w2 ⟨a, n, c, rfl, hb, hq⟩
    obtain ⟨S, qs, hqp, hIP, hG⟩ := hq ps rfl
    have hnq : qs.length = n := by
      obtain ⟨a', c', h⟩ := hIP.form
      injection h with _ h _
      exact h.symm
    have HS := Lib.hid (prog_shadows hIP hnq (by rw [← hnq, ← List.length_map (f := fun q : Qr => q.1), hqp]; exact h26) hG)
    rw [hqp] at HS
    have HB := Lib.hid hb
    clear hb hq hqp hIP hG h26
    go_wp2_with fail
    refine HS.out.mono ?_
    rintro e w3 ⟨⟨u, rfl, hu⟩, hb3⟩
    have HU := Lib.hid hu
    have HB3 := Lib.hid (HB.out.trans (hb3.mono HB.out.size))
    have hsz := HB.out.size
    clear hb3 hu
    go_wp2_with fail
    go_ret
    exact ⟨⟨u, rfl, ownsRow_base HU.out (fun g hg => Nat.le_trans hsz (row_block HU.out hg).1)⟩, HB3.out⟩
end Go.Proofs.YtihjkkoaccmefaaDoor
namespace Go.Proofs.YtihjkkoaccmefaaDoor
open Go.RowKit Gram

set_option maxHeartbeats 2000000 in
set_option maxRecDepth 100000 in
theorem marksH_any (a : Option Addr) (n c : Nat) (B k0 : Nat) (ss : List ByteArray) (w : World) (hn : n ≤ 1048576) (hk0 : 1 ≤ k0) (hkb : k0 ≤ 1000) (ha : w.ownsRow B 43 3 (.slice a n c) n (ss.map Value.string)) :
    Calls Tryd.prog 9 #[.slice a n c, .int .i64 k0] w fun e w' => e = .returned (.int .i64 (k0 + n * 3 : Nat)) ∧ w'.ownsRow B 43 3 (.slice a n c) n ((marksTo k0 (n * 3) ss).map Value.string) ∧ w.grownBy w' (Value.slice a n c).ownBlock := by
  have hl : ss.length = n * 3 := by have := ha.1; simp at this; omega
  have HL := Lib.hid hl
  have HA := Lib.hid ha
  clear ha hl
  go_enter Tryd.func9, Tryd.ntmps9
  go_wp2_with fail
  go_loopw [1, 5] (fun k i wr => ∃ j : Nat, j ≤ n ∧ i = .int .i64 j ∧ k = .int .i64 (k0 + j * 3 : Nat) ∧ Hid (wr.ownsRow B 43 3 (.slice a n c) n ((marksTo k0 (j * 3) ss).map Value.string) ∧ w.grownBy wr (Value.slice a n c).ownBlock)) (fun _ i _ => n - (intOf i).toNat)
  case atStart => exact ⟨0, Nat.zero_le _, by go_num, by go_num, by rw [Nat.zero_mul, marksTo_zero]; exact ⟨HA.out, World.grownBy.refl _ _⟩⟩
  case round =>
    obtain ⟨j, hj, rfl, rfl, hr⟩ := hrel
    by_cases hlt : j < n
    · have hlm : ∀ i, i ≤ n * 3 → (marksTo k0 i ss).length = n * 3 := fun i hi => by rw [marksTo_len k0 i ss (by rw [HL.out]; exact hi), HL.out]
      obtain ⟨g, s0, rfl, _, hc0, _⟩ := rowS_get hr.out.1 (j * 3) (by rw [hlm _ (by omega)]; omega)
      have HLM := Lib.hid hlm
      have M0 := Lib.hid (mark_int (k0 + j * 3) (by omega) (by omega))
      have M1 := Lib.hid (mark_int (k0 + (j * 3 + 1)) (by omega) (by omega))
      have M2 := Lib.hid (mark_int (k0 + (j * 3 + 2)) (by omega) (by omega))
      clear hc0 hlm
      go_wp2_with fail
      refine (M0.out _ (by omega) _).mono ?_
      rintro e w2 ⟨rfl, hb2⟩
      obtain ⟨o0, c0, f0⟩ := rowS_at hr.out.1 hb2 (j * 3) (by rw [HLM.out _ (by omega)]; omega)
      have R1 := Lib.hid (row_mark hr.out.1 hb2 (by rw [HL.out]; omega))
      have G1 := Lib.hid (grown_mark hr.out.2 hb2 (j * 3) (.string (markV (k0 + j * 3))))
      clear hb2
      generalize markV (k0 + j * 3) = m0 at *
      go_wp2_with fail
      clear c0 f0
      generalize w2.setCell ⟨g, j * 3, none⟩ (.string m0) = w3 at *
      refine (M1.out _ (by omega) _).mono ?_
      rintro e w4 ⟨rfl, hb4⟩
      obtain ⟨o1, c1, f1⟩ := rowS_at R1.out hb4 (j * 3 + 1) (by rw [HLM.out _ (by omega)]; omega)
      have R2 := Lib.hid (row_mark R1.out hb4 (by rw [HL.out]; omega))
      have G2 := Lib.hid (grown_mark G1.out hb4 (j * 3 + 1) (.string (markV (k0 + (j * 3 + 1)))))
      clear hb4 R1 G1
      generalize markV (k0 + (j * 3 + 1)) = m1 at *
      go_wp2_with fail
      clear c1 f1
      generalize w4.setCell ⟨g, j * 3 + 1, none⟩ (.string m1) = w5 at *
      refine (M2.out _ (by omega) _).mono ?_
      rintro e w6 ⟨rfl, hb6⟩
      obtain ⟨o2, c2, f2⟩ := rowS_at R2.out hb6 (j * 3 + 2) (by rw [HLM.out _ (by omega)]; omega)
      have R3 := Lib.hid (row_mark R2.out hb6 (by rw [HL.out]; omega))
      have G3 := Lib.hid (grown_mark G2.out hb6 (j * 3 + 2) (.string (markV (k0 + (j * 3 + 2)))))
      clear hb6 R2 G2
      generalize markV (k0 + (j * 3 + 2)) = m2 at *
      go_wp2_with fail
      exact ⟨⟨j + 1, by omega, by go_num, by congr 1; omega, by rw [show (j + 1) * 3 = j * 3 + 2 + 1 by omega]; exact ⟨R3.out, G3.out⟩⟩, by simp [intOf]; omega⟩
    · have hjn : j = n := by omega
      subst hjn
      go_wp2_with fail
      go_ret
      exact ⟨rfl, hr.out⟩
theorem three_laterH {w0 w w' : World} {g o : Nat} {x y z : Value} (h : w.cell? ⟨g, o, none⟩ = some x ∧ w.cell? ⟨g, o + 1, none⟩ = some y ∧ w.cell? ⟨g, o + 2, none⟩ = some z ∧ Below w0.heap.size w0 w) (hb : Below w.heap.size w w') :
    w'.cell? ⟨g, o, none⟩ = some x ∧ w'.cell? ⟨g, o + 1, none⟩ = some y ∧ w'.cell? ⟨g, o + 2, none⟩ = some z ∧ Below w0.heap.size w0 w' := by
  obtain ⟨h0, h1, h2, h3⟩ := h
  refine ⟨?_, ?_, ?_, h3.trans (hb.mono h3.size)⟩
  · rw [hb.cell (p := ⟨g, o, none⟩) (World.block_lt_of_cell? w _ h0)]; exact h0
  · rw [hb.cell (p := ⟨g, o + 1, none⟩) (World.block_lt_of_cell? w _ h1)]; exact h1
  · rw [hb.cell (p := ⟨g, o + 2, none⟩) (World.block_lt_of_cell? w _ h2)]; exact h2

set_option maxHeartbeats 4000000 in
set_option maxRecDepth 100000 in
theorem heldH_any (a : Option Addr) (n c : Nat) (B k0 : Nat) (ss : List ByteArray) (w : World) (hn : n ≤ 1048576) (hk0 : 1 ≤ k0) (hkb : k0 ≤ 1000) (hl : ss.length = n * 3) (ha : w.ownsRow B 43 3 (.slice a n c) n ((marksTo k0 (n * 3) ss).map Value.string)) :
    Calls Tryd.prog 10 #[.slice a n c, .int .i64 k0] w fun e w' => e = .returned (.int .i64 (k0 + n * 3 : Nat)) ∧ Below w.heap.size w w' := by
  have HL := Lib.hid (marksTo_len k0 (n * 3) ss (by omega))
  have HN := Lib.hid hl
  have HA := Lib.hid ha
  clear ha hl
  go_enter Tryd.func10, Tryd.ntmps10
  go_wp2_with fail
  go_loopw [1, 5] (fun k i wr => ∃ j : Nat, j ≤ n ∧ i = .int .i64 j ∧ k = .int .i64 (k0 + j * 3 : Nat) ∧ Hid (Below w.heap.size w wr)) (fun _ i _ => n - (intOf i).toNat)
  case atStart => exact ⟨0, Nat.zero_le _, by go_num, by go_num, Below.refl _ _⟩
  case round =>
    obtain ⟨j, hj, rfl, rfl, hb⟩ := hrel
    by_cases hlt : j < n
    · obtain ⟨g, s0, rfl, e0, c0, _⟩ := rowS_get HA.out (j * 3) (by rw [HL.out, HN.out]; omega)
      obtain ⟨g1, s1, h1, e1, c1, _⟩ := rowS_get HA.out (j * 3 + 1) (by rw [HL.out, HN.out]; omega)
      obtain ⟨g2, s2, h2, e2, c2, _⟩ := rowS_get HA.out (j * 3 + 2) (by rw [HL.out, HN.out]; omega)
      injection h1 with h1; injection h1 with h1; subst h1
      injection h2 with h2; injection h2 with h2; subst h2
      rw [marksTo_get _ _ _ _ (by omega)] at e0 e1 e2
      injection e0 with e0; injection e1 with e1; injection e2 with e2
      subst e0; subst e1; subst e2
      have M0 := Lib.hid (mark_int (k0 + j * 3) (by omega) (by omega))
      have M1 := Lib.hid (mark_int (k0 + (j * 3 + 1)) (by omega) (by omega))
      have M2 := Lib.hid (mark_int (k0 + (j * 3 + 2)) (by omega) (by omega))
      generalize markV (k0 + j * 3) = m0 at *
      generalize markV (k0 + (j * 3 + 1)) = m1 at *
      generalize markV (k0 + (j * 3 + 2)) = m2 at *
      have C1 := Lib.hid (three_laterH ⟨c0, c1, c2, Below.refl w.heap.size w⟩ hb.out)
      clear c0 c1 c2
      obtain ⟨c0, c1, c2, hbw⟩ := C1.out
      go_wp2_with fail
      go_region_held3 (fun w' => w'.cell? ⟨g, j * 3, none⟩ = some (.string m0) ∧ w'.cell? ⟨g, j * 3 + 1, none⟩ = some (.string m1) ∧ w'.cell? ⟨g, j * 3 + 2, none⟩ = some (.string m2) ∧ Below w.heap.size w w')
        ((first | assumption | exact ⟨c0, c1, c2, hbw.drew⟩ | (apply three_laterH; assumption; assumption)))
        ((first | (go_at_call 20; refine (M0.out _ (by omega) _).mono ?_; rintro e w5 ⟨rfl, hbw5⟩)))
      go_wp2_with fail
      clear c0 c1 c2 hbw C1 hbw5
      rename w5.cell? ⟨g, j * 3, none⟩ = some (.string m0) ∧ w5.cell? ⟨g, j * 3 + 1, none⟩ = some (.string m1) ∧ w5.cell? ⟨g, j * 3 + 2, none⟩ = some (.string m2) ∧ Below w.heap.size w w5 => hOld
      have C1 := Lib.hid hOld
      clear hOld
      obtain ⟨c0, c1, c2, hbw⟩ := C1.out
      go_region_held3 (fun w' => w'.cell? ⟨g, j * 3, none⟩ = some (.string m0) ∧ w'.cell? ⟨g, j * 3 + 1, none⟩ = some (.string m1) ∧ w'.cell? ⟨g, j * 3 + 2, none⟩ = some (.string m2) ∧ Below w.heap.size w w')
        ((first | assumption | exact ⟨c0, c1, c2, hbw.drew⟩ | (apply three_laterH; assumption; assumption)))
        ((first | (go_at_call 20; refine (M1.out _ (by omega) _).mono ?_; rintro e w6 ⟨rfl, hbw6⟩)))
      go_wp2_with fail
      clear c0 c1 c2 hbw C1 hbw6
      rename w6.cell? ⟨g, j * 3, none⟩ = some (.string m0) ∧ w6.cell? ⟨g, j * 3 + 1, none⟩ = some (.string m1) ∧ w6.cell? ⟨g, j * 3 + 2, none⟩ = some (.string m2) ∧ Below w.heap.size w w6 => hOld
      have C1 := Lib.hid hOld
      clear hOld
      obtain ⟨c0, c1, c2, hbw⟩ := C1.out
      go_region_held3 (fun w' => w'.cell? ⟨g, j * 3, none⟩ = some (.string m0) ∧ w'.cell? ⟨g, j * 3 + 1, none⟩ = some (.string m1) ∧ w'.cell? ⟨g, j * 3 + 2, none⟩ = some (.string m2) ∧ Below w.heap.size w w')
        ((first | assumption | exact ⟨c0, c1, c2, hbw.drew⟩ | (apply three_laterH; assumption; assumption)))
        ((first | (go_at_call 20; refine (M2.out _ (by omega) _).mono ?_; rintro e w7 ⟨rfl, hbw7⟩)))
      go_wp2_with fail
      clear c0 c1 c2 hbw C1 hbw7
      rename w7.cell? ⟨g, j * 3, none⟩ = some (.string m0) ∧ w7.cell? ⟨g, j * 3 + 1, none⟩ = some (.string m1) ∧ w7.cell? ⟨g, j * 3 + 2, none⟩ = some (.string m2) ∧ Below w.heap.size w w7 => hOld
      have C1 := Lib.hid hOld
      clear hOld
      obtain ⟨c0, c1, c2, hbw⟩ := C1.out
      exact ⟨⟨j + 1, by omega, by go_num, by congr 1; omega, hbw⟩, by simp [intOf]; omega⟩
    · have hjn : j = n := by omega
      subst hjn
      go_wp2_with fail
      go_ret
      exact ⟨rfl, hb.out⟩
theorem marksH_one (a : Option Addr) (n c : Nat) (B : Nat) (ss : List ByteArray) (w : World) (hn : n ≤ 1048576) (ha : w.ownsRow B 43 3 (.slice a n c) n (ss.map Value.string)) :
    Calls Tryd.prog 9 #[.slice a n c, .int .i64 1] w fun e w' => e = .returned (.int .i64 (1 + ((n * 3 : Nat) : Int))) ∧ w'.ownsRow B 43 3 (.slice a n c) n ((marksTo 1 (n * 3) ss).map Value.string) ∧ w.grownBy w' (Value.slice a n c).ownBlock := by
  refine (marksH_any a n c B 1 ss w hn (by omega) (by omega) ha).mono ?_
  rintro e w' ⟨h1, h2, h3⟩
  exact ⟨by rw [h1]; exact ret_int (by omega), h2, h3⟩
theorem heldH_one (a : Option Addr) (n c : Nat) (B : Nat) (ss : List ByteArray) (w : World) (hn : n ≤ 1048576) (hl : ss.length = n * 3) (ha : w.ownsRow B 43 3 (.slice a n c) n ((marksTo 1 (n * 3) ss).map Value.string)) :
    Calls Tryd.prog 10 #[.slice a n c, .int .i64 1] w fun e w' => e = .returned (.int .i64 (1 + ((n * 3 : Nat) : Int))) ∧ Below w.heap.size w w' := by
  refine (heldH_any a n c B 1 ss w hn (by omega) (by omega) hl ha).mono ?_
  rintro e w' ⟨h1, h2⟩
  exact ⟨by rw [h1]; exact ret_int (by omega), h2⟩

set_option maxHeartbeats 1000000 in
set_option maxRecDepth 100000 in
theorem eqsh_same (k c b : ByteArray) (w : World) :
    Calls Tryd.prog 19 #[.agg #[.string k, .string c, .string b], .agg #[.string k, .string c, .string b]] w fun e w' => e = .returned (.bool true) ∧ Below w.heap.size w w' := by
  go_enter Tryd.func19, Tryd.ntmps19
  go_wp2_with fail
  go_ret
  exact ⟨rfl, ((Below.refl _ w).alloc (Nat.le_refl _) _).alloc (by simp) _⟩

theorem six_laterH {w0 w w' : World} {g o g' o' : Nat} {x y z x' y' z' : Value} (h : w.cell? ⟨g, o, none⟩ = some x ∧ w.cell? ⟨g, o + 1, none⟩ = some y ∧ w.cell? ⟨g, o + 2, none⟩ = some z ∧
    w.cell? ⟨g', o', none⟩ = some x' ∧ w.cell? ⟨g', o' + 1, none⟩ = some y' ∧ w.cell? ⟨g', o' + 2, none⟩ = some z' ∧ Below w0.heap.size w0 w) (hb : Below w.heap.size w w') :
    w'.cell? ⟨g, o, none⟩ = some x ∧ w'.cell? ⟨g, o + 1, none⟩ = some y ∧ w'.cell? ⟨g, o + 2, none⟩ = some z ∧
    w'.cell? ⟨g', o', none⟩ = some x' ∧ w'.cell? ⟨g', o' + 1, none⟩ = some y' ∧ w'.cell? ⟨g', o' + 2, none⟩ = some z' ∧ Below w0.heap.size w0 w' := by
  obtain ⟨h0, h1, h2, h3, h4, h5, h6⟩ := h
  refine ⟨?_, ?_, ?_, ?_, ?_, ?_, h6.trans (hb.mono h6.size)⟩
  · rw [hb.cell (p := ⟨g, o, none⟩) (World.block_lt_of_cell? w _ h0)]; exact h0
  · rw [hb.cell (p := ⟨g, o + 1, none⟩) (World.block_lt_of_cell? w _ h1)]; exact h1
  · rw [hb.cell (p := ⟨g, o + 2, none⟩) (World.block_lt_of_cell? w _ h2)]; exact h2
  · rw [hb.cell (p := ⟨g', o', none⟩) (World.block_lt_of_cell? w _ h3)]; exact h3
  · rw [hb.cell (p := ⟨g', o' + 1, none⟩) (World.block_lt_of_cell? w _ h4)]; exact h4
  · rw [hb.cell (p := ⟨g', o' + 2, none⟩) (World.block_lt_of_cell? w _ h5)]; exact h5

set_option maxHeartbeats 2000000 in
set_option maxRecDepth 100000 in
theorem eqshs_same (a b : Option Addr) (n c d B B' : Nat) (ss : List ByteArray) (w : World) (hn : n ≤ 1048576) (ha : w.ownsRow B 43 3 (.slice a n c) n (ss.map Value.string)) (hb : w.ownsRow B' 43 3 (.slice b n d) n (ss.map Value.string)) :
    Calls Tryd.prog 8 #[.slice a n c, .slice b n d] w fun e w' => e = .returned (.bool true) ∧ Below w.heap.size w w' := by
  have HL := Lib.hid (show ss.length = n * 3 from by have := ha.1; simp at this; omega)
  have HA := Lib.hid ha
  have HB := Lib.hid hb
  have HE := Lib.hid (fun k c b w => eqsh_same k c b w)
  clear ha hb
  go_enter Tryd.func8, Tryd.ntmps8
  go_wp2_with fail
  go_loopw [5] (fun i wr => ∃ k : Nat, k ≤ n ∧ i = .int .i64 k ∧ Hid (Below w.heap.size w wr)) (fun i _ => n - (intOf i).toNat)
  case atStart => exact ⟨0, Nat.zero_le _, by go_num, Below.refl _ _⟩
  case round =>
    obtain ⟨k, hk, rfl, hW⟩ := hrel
    by_cases hlt : k < n
    · have hA2 := ownsRow_of (w' := wr) HA.out (fun j hj => hW.out.block j (HA.out.lt j hj).2)
      have hB2 := ownsRow_of (w' := wr) HB.out (fun j hj => hW.out.block j (HB.out.lt j hj).2)
      obtain ⟨g, x, rfl, e0, c0, _⟩ := rowS_get hA2 (k * 3) (by rw [HL.out]; omega)
      obtain ⟨g1, y, h1, e1, c1, _⟩ := rowS_get hA2 (k * 3 + 1) (by rw [HL.out]; omega)
      obtain ⟨g2, z, h2, e2, c2, _⟩ := rowS_get hA2 (k * 3 + 2) (by rw [HL.out]; omega)
      injection h1 with h1; injection h1 with h1; subst h1
      injection h2 with h2; injection h2 with h2; subst h2
      obtain ⟨g', x', rfl, e0', d0, _⟩ := rowS_get hB2 (k * 3) (by rw [HL.out]; omega)
      obtain ⟨g1', y', h1, e1', d1, _⟩ := rowS_get hB2 (k * 3 + 1) (by rw [HL.out]; omega)
      obtain ⟨g2', z', h2, e2', d2, _⟩ := rowS_get hB2 (k * 3 + 2) (by rw [HL.out]; omega)
      injection h1 with h1; injection h1 with h1; subst h1
      injection h2 with h2; injection h2 with h2; subst h2
      rw [e0] at e0'; rw [e1] at e1'; rw [e2] at e2'
      injection e0' with e0'; injection e1' with e1'; injection e2' with e2'
      subst e0'; subst e1'; subst e2'
      clear e0 e1 e2 hA2 hB2
      go_wp2_with fail
      go_region_held3 (fun w' => w'.cell? ⟨g, k * 3, none⟩ = some (.string x) ∧ w'.cell? ⟨g, k * 3 + 1, none⟩ = some (.string y) ∧ w'.cell? ⟨g, k * 3 + 2, none⟩ = some (.string z) ∧
          w'.cell? ⟨g', k * 3, none⟩ = some (.string x) ∧ w'.cell? ⟨g', k * 3 + 1, none⟩ = some (.string y) ∧ w'.cell? ⟨g', k * 3 + 2, none⟩ = some (.string z) ∧ Below w.heap.size w w')
        ((first | assumption | exact ⟨c0, c1, c2, d0, d1, d2, hW.out.drew⟩ | (apply six_laterH; assumption; assumption)))
        ((first | (go_at_call 19; refine (HE.out _ _ _ _).mono ?_; rintro e w5 ⟨rfl, hb5⟩)))
      all_goals
        have HB5 := Lib.hid (hW.out.drew.trans (hb5.mono hW.out.drew.size))
        go_wp2_with fail
        exact ⟨⟨k + 1, by omega, by go_num, HB5.out⟩, by simp [intOf]; omega⟩
    · go_wp2_with fail
      go_ret
      exact ⟨rfl, hW.out⟩
end Go.Proofs.YtihjkkoaccmefaaDoor
namespace Go.Proofs.YtihjkkoaccmefaaDoor
open Go.RowKit Gram

theorem sh_form {s : ByteArray} {w : World} {e : Ending} {w' : World} (h : ShTo s w e w') : (∃ (a : Option Addr) (c : Nat), e = .returned (.slice a (shP s).length c) ∧ w'.ownsRow w.heap.size 43 3 (.slice a (shP s).length c) (shP s).length (jpC (shP s))) ∧ Below w.heap.size w w' := by
  obtain ⟨⟨u, rfl, hu⟩, hb⟩ := h
  refine ⟨?_, hb⟩
  have hu2 := hu
  rcases hu.2 with ⟨h1, h2⟩ | ⟨g, cap, cur, h1, _⟩
  · subst h1
    rw [h2] at hu2 ⊢
    exact ⟨none, 0, rfl, hu2⟩
  · subst h1
    exact ⟨_, cap, rfl, hu2⟩
theorem impl_sh2 (s : ByteArray) (w : World) (hs : s.size ≤ 1073741824) (hm : MaxCell w) : Calls Tryd.prog 7 #[.string s] w fun e w' => (∃ (a : Option Addr) (c : Nat), e = .returned (.slice a (shP s).length c) ∧ w'.ownsRow w.heap.size 43 3 (.slice a (shP s).length c) (shP s).length (jpC (shP s))) ∧ Below w.heap.size w w' :=
  (impl_shadows s w hs hm).mono fun _ _ h => sh_form h
theorem spec_sh2 (s : ByteArray) (w : World) (hs : s.size ≤ 1048576) : Calls Tryd.prog 6 #[.string s] w fun e w' => (∃ (a : Option Addr) (c : Nat), e = .returned (.slice a (shP s).length c) ∧ w'.ownsRow w.heap.size 43 3 (.slice a (shP s).length c) (shP s).length (jpC (shP s))) ∧ Below w.heap.size w w' :=
  (spec_shadows s w hs).mono fun _ _ h => sh_form h

set_option maxHeartbeats 400000 in
theorem sdl_long1 (s : ByteArray) (w : World) (hl : 1048576 < s.size) (hx : s.size ≤ maxLen) :
    Calls Tryd.prog 3 #[.string s] w fun e w' => e = .returned (.bool true) ∧ Below w.heap.size w w' := by
  unfold maxLen at hx
  go_enter Tryd.func3, Tryd.ntmps3
  go_wp2_with fail
  go_ret
  exact ⟨rfl, Below.refl _ _⟩
set_option maxHeartbeats 4000000 in
set_option maxRecDepth 100000 in
theorem sdl_short (s : ByteArray) (w : World) (hl : s.size ≤ 1048576) (hm : MaxCell w) :
    Calls Tryd.prog 3 #[.string s] w fun e w' => e = .returned (.bool true) ∧ Below w.heap.size w w' := by
  have HI := Lib.hid (fun w => impl_sh2 s w (by omega))
  have HS := Lib.hid (fun w => spec_sh2 s w (by omega))
  have HM := Lib.hid hm
  have hsm := shP_small s
  have hfl := jpF_len (shP s)
  rw [jpF_cells] at HI HS
  generalize jpF (shP s) = ss at *
  generalize (shP s).length = n at *
  have HFL := Lib.hid hfl
  have HQ := Lib.hid (fun w a b c d B B' (h1 : w.ownsRow B 43 3 (.slice a n c) n (ss.map Value.string)) (h2 : w.ownsRow B' 43 3 (.slice b n d) n (ss.map Value.string)) => eqshs_same a b n c d B B' ss w (by omega) h1 h2)
  have HMk := Lib.hid (fun w a c B (h1 : w.ownsRow B 43 3 (.slice a n c) n (ss.map Value.string)) => marksH_one a n c B ss w (by omega) h1)
  have HHd := Lib.hid (fun w a c B (h1 : w.ownsRow B 43 3 (.slice a n c) n ((marksTo 1 (n * 3) ss).map Value.string)) => heldH_one a n c B ss w (by omega) hfl h1)
  clear hm hfl
  go_enter Tryd.func3, Tryd.ntmps3
  go_wp2_with fail
  refine (HS.out _).mono ?_
  rintro e w1 ⟨⟨a1, c1, rfl, q1⟩, b1⟩
  have Q1 := Lib.hid q1
  have B1 := Lib.hid b1
  clear q1 b1
  go_wp2_with fail
  refine (HI.out _ (HM.out.later B1.out)).mono ?_
  rintro e w2 ⟨⟨a2, c2, rfl, o2⟩, b2⟩
  have hne2 := Lib.hid (fun j (hj : (Value.slice a2 n c2).ownBlock = some j) => show w1.heap.size ≤ j from (row_block o2 hj).1)
  have hne1 := Lib.hid (fun j (hj : (Value.slice a1 n c1).ownBlock = some j) => show j < w1.heap.size from (Q1.out.lt j hj).2)
  have Q2 := Lib.hid (row_up Q1.out b2)
  have O2 := Lib.hid o2
  have B2 := Lib.hid (B1.out.trans (b2.mono B1.out.size))
  clear b2 o2 Q1
  go_wp2_with fail
  refine (HQ.out _ _ _ _ _ _ _ O2.out Q2.out).mono ?_
  rintro e w4 ⟨rfl, b4⟩
  have Q4 := Lib.hid (row_up Q2.out b4)
  have O4 := Lib.hid (row_up O2.out b4)
  have B4 := Lib.hid (B2.out.trans (b4.mono B2.out.size))
  clear b4 Q2 O2 B2
  go_wp2_with fail
  refine (HMk.out _ _ _ _ O4.out).mono ?_
  rintro e w5 ⟨rfl, o5, hg5⟩
  have Q5 := Lib.hid (row_under Q4.out hg5 (fun j hj h => by have := hne1.out _ hj; have := hne2.out _ h; omega))
  have O5 := Lib.hid o5
  have B5 := Lib.hid (B4.out.grown hg5 B4.out.size (fun j hj => by have := hne2.out _ hj; have := B1.out.size; omega))
  clear hg5 o5 Q4 O4 B4
  go_wp2_with fail
  refine (HHd.out _ _ _ _ O5.out).mono ?_
  rintro e w6 ⟨rfl, b6⟩
  have Q6 := Lib.hid (row_up Q5.out b6)
  have O6 := Lib.hid (row_up O5.out b6)
  have B6 := Lib.hid (B5.out.trans (b6.mono B5.out.size))
  clear b6 Q5 O5 B5
  go_wp2_with fail
  refine (HI.out _ (HM.out.later B6.out)).mono ?_
  rintro e w7 ⟨⟨a3, c3, rfl, o7⟩, b7⟩
  have Q8 := Lib.hid (row_up Q6.out b7)
  have O8 := Lib.hid (row_up O6.out b7)
  have R8 := Lib.hid o7
  have B8 := Lib.hid (B6.out.trans (b7.mono B6.out.size))
  clear b7 o7 Q6 O6 B6
  go_wp2_with fail
  refine (HQ.out _ _ _ _ _ _ _ R8.out Q8.out).mono ?_
  rintro e w9 ⟨rfl, b9⟩
  have O9 := Lib.hid (row_up O8.out b9)
  have B9 := Lib.hid (B8.out.trans (b9.mono B8.out.size))
  clear b9 Q8 O8 R8 B8
  go_wp2_with fail
  refine (HHd.out _ _ _ _ O9.out).mono ?_
  rintro e w10 ⟨rfl, b10⟩
  have B10 := Lib.hid (B9.out.trans (b10.mono B9.out.size))
  clear b10
  go_wp2_with fail
  go_ret
  exact ⟨rfl, B10.out⟩

theorem sdl_any (s : ByteArray) (w : World) (hx : s.size ≤ maxLen) (hm : MaxCell w) :
    Calls Tryd.prog 3 #[.string s] w fun e w' => e = .returned (.bool true) ∧ Below w.heap.size w w' := by
  by_cases h : s.size ≤ 1048576
  · exact sdl_short s w h hm
  · exact sdl_long1 s w (by omega) hx
end Go.Proofs.YtihjkkoaccmefaaDoor
