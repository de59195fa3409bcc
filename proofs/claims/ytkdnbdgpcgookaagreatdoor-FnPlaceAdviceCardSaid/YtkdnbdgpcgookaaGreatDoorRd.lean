/- How the reader of bodies lies in memory: its own two cells, the row of its open bodies, the rows of their statements. Plain lemmas; no walk. -/
import Derived.Test.YtkdnbdgpcgookaaGreatDoorEx
import Derived.Test.YtkdnbdgpcgookaaGreatDoorBut
namespace Go.Proofs.YtkdnbdgpcgookaaGreatDoor
open Go.RowKit Gram

/-- a row of statements' values whose block, if any, is in S -/
def Row (w : World) (S : Nat → Prop) (v : Value) (vs : List Value) : Prop :=
  w.ownsRow 0 72 1 v vs.length vs ∧ ∀ g, v.ownBlock = some g → S g

mutual
/-- v is the statement, all it leads to in blocks of S -/
def IsStm (w : World) (S : Nat → Prop) : Stm → Value → Prop
  | .chg g d, v => v = .iface 162 (.agg #[.int .u8 g.toNat, .int .u8 d.toNat])
  | .prt, v => v = .iface 151 (.agg #[])
  | .pro, v => v = .iface 134 (.agg #[])
  | .call c, v => v = .iface 150 (.agg #[.int .u8 c.toNat])
  | .cho a b, v => ∃ va vb vas vbs, v = .iface 164 (.agg #[va, vb]) ∧ Row w S va vas ∧ IsStms w S a vas ∧ Row w S vb vbs ∧ IsStms w S b vbs
def IsStms (w : World) (S : Nat → Prop) : List Stm → List Value → Prop
  | [], vs => vs = []
  | x :: xs, vs => ∃ v t, vs = v :: t ∧ IsStm w S x v ∧ IsStms w S xs t
end
def IsBody (w : World) (S : Nat → Prop) (xs : List Stm) (v : Value) : Prop := ∃ vs, Row w S v vs ∧ IsStms w S xs vs

theorem ownsRow_of {w w' : World} {base : Nat} {e : TypeId} {size n : Nat} {v : Value} {xs : List Value} (h : w.ownsRow base e size v n xs) (hk : ∀ g, v.ownBlock = some g → w'.heap[g]? = w.heap[g]?) : w'.ownsRow base e size v n xs := by
  refine ⟨h.1, ?_⟩
  rcases h.2 with hn | ⟨g, cap, cur, rfl, hb, hg, rest⟩
  · exact .inl hn
  · exact .inr ⟨g, cap, cur, rfl, hb, by rw [hk g rfl]; exact hg, rest⟩
theorem ownsRow_base {w : World} {base base' : Nat} {e : TypeId} {size n : Nat} {v : Value} {xs : List Value} (h : w.ownsRow base e size v n xs) (hk : ∀ g, v.ownBlock = some g → base' ≤ g) : w.ownsRow base' e size v n xs := by
  refine ⟨h.1, ?_⟩
  rcases h.2 with hn | ⟨g, cap, cur, rfl, hb, hg, rest⟩
  · exact .inl hn
  · exact .inr ⟨g, cap, cur, rfl, hk g rfl, hg, rest⟩

theorem Row.kept {w w' : World} {S S' : Nat → Prop} {v : Value} {vs : List Value} (h : Row w S v vs) (hk : ∀ g, S g → w'.heap[g]? = w.heap[g]?) (hS : ∀ g, S g → S' g) : Row w' S' v vs :=
  ⟨ownsRow_of h.1 fun g hg => hk g (h.2 g hg), fun g hg => hS g (h.2 g hg)⟩

mutual
theorem IsStm.kept {w w' : World} {S S' : Nat → Prop} (hk : ∀ g, S g → w'.heap[g]? = w.heap[g]?) (hS : ∀ g, S g → S' g) : ∀ (x : Stm) (v : Value), IsStm w S x v → IsStm w' S' x v
  | .chg _ _, _, h => h
  | .prt, _, h => h
  | .pro, _, h => h
  | .call _, _, h => h
  | .cho a b, v, h => by
    simp only [IsStm] at h ⊢
    obtain ⟨va, vb, vas, vbs, e, r1, s1, r2, s2⟩ := h
    exact ⟨va, vb, vas, vbs, e, r1.kept hk hS, IsStms.kept hk hS a vas s1, r2.kept hk hS, IsStms.kept hk hS b vbs s2⟩
theorem IsStms.kept {w w' : World} {S S' : Nat → Prop} (hk : ∀ g, S g → w'.heap[g]? = w.heap[g]?) (hS : ∀ g, S g → S' g) : ∀ (xs : List Stm) (vs : List Value), IsStms w S xs vs → IsStms w' S' xs vs
  | [], _, h => h
  | x :: xs, vs, h => by
    simp only [IsStms] at h ⊢
    obtain ⟨v, t, e, h1, h2⟩ := h
    exact ⟨v, t, e, IsStm.kept hk hS x v h1, IsStms.kept hk hS xs t h2⟩
end
theorem IsBody.kept {w w' : World} {S S' : Nat → Prop} (hk : ∀ g, S g → w'.heap[g]? = w.heap[g]?) (hS : ∀ g, S g → S' g) {xs : List Stm} {v : Value} (h : IsBody w S xs v) : IsBody w' S' xs v := by
  obtain ⟨vs, r, s⟩ := h
  exact ⟨vs, r.kept hk hS, IsStms.kept hk hS _ _ s⟩

theorem IsStms.len {w : World} {S : Nat → Prop} : ∀ (xs : List Stm) (vs : List Value), IsStms w S xs vs → vs.length = xs.length
  | [], vs, h => by simp only [IsStms] at h; simp [h]
  | x :: xs, vs, h => by
    simp only [IsStms] at h
    obtain ⟨v, t, rfl, _, h2⟩ := h
    simp [IsStms.len xs t h2]
theorem IsStms.snoc {w : World} {S : Nat → Prop} {x : Stm} {v : Value} (hx : IsStm w S x v) : ∀ (xs : List Stm) (vs : List Value), IsStms w S xs vs → IsStms w S (xs ++ [x]) (vs ++ [v])
  | [], vs, h => by simp only [IsStms] at h; subst h; exact ⟨v, [], rfl, hx, rfl⟩
  | y :: ys, vs, h => by
    simp only [IsStms] at h
    obtain ⟨u, t, rfl, h1, h2⟩ := h
    exact ⟨u, t ++ [v], rfl, h1, IsStms.snoc hx ys t h2⟩

/-- below block B all is as it was, and each string's iterator too -/
structure Kept (B : Nat) (w w' : World) : Prop where
  below : Below B w w'
  iter : ∀ (k : Nat) (s : ByteArray) (p : Nat), w.heap[k]? = some (Obj.stringIter s p) → w'.heap[k]? = some (Obj.stringIter s p)

theorem Kept.refl (B : Nat) (w : World) : Kept B w w := ⟨Below.refl B w, fun _ _ _ h => h⟩
theorem Kept.trans {B : Nat} {a b c : World} (h : Kept B a b) (k : Kept B b c) : Kept B a c := ⟨h.below.trans k.below, fun i s p hi => k.iter i s p (h.iter i s p hi)⟩
theorem Kept.mono {B B' : Nat} {w w' : World} (h : Kept B w w') (hB : B' ≤ B) : Kept B' w w' := ⟨h.below.mono hB, h.iter⟩
theorem Kept.alloc {B : Nat} {a w : World} (h : Kept B a w) (hB : B ≤ w.heap.size) (o : Obj) : Kept B a (w.alloc o) :=
  ⟨h.below.alloc hB o, fun k s p hk => by rw [Lib.alloc_old _ _ _ (Array.getElem?_eq_some_iff.1 (h.iter k s p hk)).1]; exact h.iter k s p hk⟩
theorem Kept.setCell {B : Nat} {a w : World} (h : Kept B a w) {q : Addr} (hq : B ≤ q.block) (u : Value) : Kept B a (w.setCell q u) :=
  ⟨h.below.setCell hq u, fun k s p hk => by
    have h1 := h.iter k s p hk
    simp only [World.setCell, Array.getElem?_modify]
    split
    · simp [h1]
    · exact h1⟩
theorem Kept.grown {B : Nat} {a w w' : World} {row : Option Nat} (h : Kept B a w) (hg : w.grownBy w' row) (hB : B ≤ w.heap.size) (hr : ∀ k, row = some k → B ≤ k) (hc : ∀ k, row = some k → ∃ c e f, w.heap[k]? = some (Obj.cells c e f)) : Kept B a w' :=
  ⟨h.below.grown hg hB hr, fun k s p hk => by
    have h1 := h.iter k s p hk
    rw [hg.block k (Array.getElem?_eq_some_iff.1 h1).1 (fun he => by
      obtain ⟨c, e, f, h2⟩ := hc k he.symm
      rw [h1] at h2; cases h2)]
    exact h1⟩

/-- the signs that may begin a statement: kk says whether 'K' may -/
def sigs (kk : Bool) : ByteArray := if kk then ⟨#[43, 45, 42, 80, 67, 63, 75]⟩ else ⟨#[43, 45, 42, 80, 67, 63]⟩

/-- one open body: what it holds; the values of its two rows -/
structure Ent where
  u : Unf
  lv : Value
  fv : Value

/-- the cells of the row of open bodies, the top last -/
def cellsOf : List Ent → List Value
  | [] => []
  | e :: t => cellsOf t ++ [e.lv, e.fv, .bool e.u.second]

theorem cellsOf_len (t : List Ent) : (cellsOf t).length = t.length * 3 := by
  induction t with
  | nil => rfl
  | cons e t ih => simp [cellsOf, ih]; omega

def IsEnt (w : World) (S : Nat → Prop) (B : Nat) (e : Ent) : Prop :=
  (∃ vs, w.ownsRow B 72 1 e.lv vs.length vs ∧ IsStms w S e.u.list vs) ∧ (e.u.second = true → IsBody w S e.u.first e.fv) ∧ (∀ g, e.lv.ownBlock = some g → ¬ S g) ∧ ∃ a n c, e.fv = .slice a n c

def apart (e f : Ent) : Prop := ∀ g, e.lv.ownBlock = some g → f.lv.ownBlock ≠ some g

/-- the reader at block rb; its open bodies in block g -/
structure Rd (w : World) (kk : Bool) (B rb : Nat) (p : Int) (g cap : Nat) (ents : List Ent) (S : Nat → Prop) : Prop where
  own : w.heap[rb]? = some (.cells #[.string (sigs kk), .slice (some ⟨g, 0, none⟩) ents.length cap, .int .i32 p] 142 (0, 0))
  low : B ≤ rb
  row : w.ownsRow B 139 3 (.slice (some ⟨g, 0, none⟩) ents.length cap) ents.length (cellsOf ents)
  each : ∀ e ∈ ents, IsEnt w S B e
  parted : List.Pairwise apart ents
  set : ∀ k, S k → B ≤ k ∧ ∃ cur fz, w.heap[k]? = some (.cells cur 72 fz)

/-- a row of another element type lies in another block -/
theorem ownBlock_type {w : World} {B : Nat} {e e' : TypeId} {sz n : Nat} {v : Value} {xs : List Value} {g : Nat} {cur : Array Value} {fz : Nat × Nat} (h : w.ownsRow B e sz v n xs) (hg : w.heap[g]? = some (.cells cur e' fz)) (hne : e' ≠ e) : v.ownBlock ≠ some g := by
  intro hv
  rcases h.2 with ⟨rfl, _⟩ | ⟨g', cap, cur', rfl, _, hg', _⟩
  · cases hv
  · simp [Value.ownBlock] at hv
    subst hv
    rw [hg'] at hg
    simp at hg
    exact hne hg.2.1.symm

theorem row_cur {w : World} {B : Nat} {e : TypeId} {sz n g cap : Nat} {xs : List Value} (h : w.ownsRow B e sz (.slice (some ⟨g, 0, none⟩) n cap) n xs) :
    ∃ cur, w.heap[g]? = some (.cells cur e (0, 0)) ∧ B ≤ g ∧ n ≤ cap ∧ cap ≤ maxLen ∧ cur.size = cap * sz ∧ cur.toList.take (n * sz) = xs := by
  rcases h.2 with ⟨hv, _⟩ | ⟨g', cap', cur, hv, hb, hg, h1, h2, h3, h4⟩
  · cases hv
  · injection hv with a b c
    injection a with a
    injection a with a
    subst a; subst c
    exact ⟨cur, hg, hb, h1, h2, h3, h4⟩

theorem row_cell {w : World} {B : Nat} {e : TypeId} {sz n g cap : Nat} {xs : List Value} (h : w.ownsRow B e sz (.slice (some ⟨g, 0, none⟩) n cap) n xs) (j : Nat) (v : Value) (hj : xs[j]? = some v) : w.cell? ⟨g, j, none⟩ = some v := by
  obtain ⟨cur, hg, _, _, _, _, ht⟩ := row_cur h
  rw [Lib.cell_of_heap hg, ← Array.getElem?_toList]
  rw [← ht, List.getElem?_take] at hj
  split at hj
  · exact hj
  · cases hj
theorem row_free {w : World} {B : Nat} {e : TypeId} {sz n g cap : Nat} {xs : List Value} (h : w.ownsRow B e sz (.slice (some ⟨g, 0, none⟩) n cap) n xs) (j : Nat) : w.frozen? ⟨g, j, none⟩ = false := by
  obtain ⟨cur, hg, _⟩ := row_cur h
  exact Lib.frozen_of_heap hg j

/-- a store into a row -/
theorem row_set {w : World} {B : Nat} {e : TypeId} {sz n g cap : Nat} {xs : List Value} (h : w.ownsRow B e sz (.slice (some ⟨g, 0, none⟩) n cap) n xs) (j : Nat) (u : Value) :
    (w.setCell ⟨g, j, none⟩ u).ownsRow B e sz (.slice (some ⟨g, 0, none⟩) n cap) n (xs.set j u) := by
  obtain ⟨cur, hg, hb, h1, h2, h3, ht⟩ := row_cur h
  refine ⟨by simp [h.1], .inr ⟨g, cap, cur.setIfInBounds j u, rfl, hb, heap_set_same hg u, h1, h2, by simp [h3], ?_⟩⟩
  rw [← ht, Array.toList_setIfInBounds, List.take_set]

theorem cellsOf_get (e : Ent) (t : List Ent) : (cellsOf (e :: t))[t.length * 3]? = some e.lv ∧ (cellsOf (e :: t))[t.length * 3 + 1]? = some e.fv ∧ (cellsOf (e :: t))[t.length * 3 + 2]? = some (.bool e.u.second) := by
  have h := cellsOf_len t
  simp only [cellsOf]
  refine ⟨?_, ?_, ?_⟩ <;> rw [List.getElem?_append_right (by omega)] <;> simp [h]
theorem cellsOf_set (e : Ent) (t : List Ent) (v : Value) : (cellsOf (e :: t)).set (t.length * 3) v = cellsOf ({ e with lv := v } :: t) := by
  have h := cellsOf_len t
  simp only [cellsOf]
  rw [List.set_append_right _ _ (by omega)]
  simp [h]

section
variable {w : World} {kk : Bool} {B rb g cap : Nat} {p : Int} {e : Ent} {t : List Ent} {S : Nat → Prop}

theorem Rd.ne_rb (h : Rd w kk B rb p g cap (e :: t) S) : rb ≠ g := by
  obtain ⟨cur, hg, _⟩ := row_cur h.row
  intro he
  subst he
  have := h.own.symm.trans hg
  simp at this

theorem Rd.S_ne (h : Rd w kk B rb p g cap (e :: t) S) {k : Nat} (hk : S k) : k ≠ rb ∧ k ≠ g ∧ k < w.heap.size := by
  obtain ⟨_, cur, fz, hc⟩ := h.set k hk
  obtain ⟨cur', hg, _⟩ := row_cur h.row
  refine ⟨?_, ?_, heap_lt hc⟩
  · rintro rfl; have := h.own.symm.trans hc; simp at this
  · rintro rfl; rw [hg] at hc; simp at hc

theorem slice_form {w : World} {B : Nat} {e : TypeId} {sz n : Nat} {v : Value} {xs : List Value} (h : w.ownsRow B e sz v n xs) : ∃ a n c, v = .slice a n c := by
  rcases h.2 with ⟨rfl, _⟩ | ⟨g, cap, cur, rfl, _⟩ <;> exact ⟨_, _, _, rfl⟩

theorem Rd.lv_ne (h : Rd w kk B rb p g cap (e :: t) S) {f : Ent} (hf : f ∈ e :: t) {k : Nat} (hk : f.lv.ownBlock = some k) : k ≠ rb ∧ k ≠ g ∧ k < w.heap.size ∧ B ≤ k := by
  obtain ⟨⟨vs, ho, _⟩, _⟩ := h.each f hf
  obtain ⟨cur', hg, _⟩ := row_cur h.row
  have := ho.lt k hk
  refine ⟨?_, ?_, this.2, this.1⟩
  · rintro rfl; exact ownBlock_type ho h.own (by decide) hk
  · rintro rfl; exact ownBlock_type ho hg (by decide) hk

/-- behind an append to the top's statements and the store of the new row's value -/
theorem Rd.add {w1 : World} {g' cap' : Nat} {vs : List Value} {x : Stm} {v : Value} {o : Obj} (h : Rd w kk B rb p g cap (e :: t) S) (hx : IsStm w S x v)
    (hvs : IsStms w S e.u.list vs) (hown' : w1.ownsRow B 72 1 (.slice (some ⟨g', 0, none⟩) (vs.length + 1) cap') (vs.length + 1) (vs ++ [v]))
    (hg : (w.alloc o).grownBy w1 e.lv.ownBlock) (hat : e.lv.ownBlock = some g' ∨ g' = w.heap.size + 1) (hB : B ≤ w.heap.size) :
    Rd (w1.setCell ⟨g, t.length * 3, none⟩ (.slice (some ⟨g', 0, none⟩) (vs.length + 1) cap')) kk B rb p g cap (⟨{ e.u with list := e.u.list ++ [x] }, .slice (some ⟨g', 0, none⟩) (vs.length + 1) cap', e.fv⟩ :: t) S ∧
      Kept B w (w1.setCell ⟨g, t.length * 3, none⟩ (.slice (some ⟨g', 0, none⟩) (vs.length + 1) cap')) := by
  have hsz : (w.alloc o).heap.size = w.heap.size + 1 := by simp
  have hgrown : ∀ k, k < w.heap.size → e.lv.ownBlock ≠ some k → w1.heap[k]? = w.heap[k]? := fun k hk hn => by
    rw [hg.block k (by omega) (fun he => hn he.symm)]; exact Lib.alloc_old w o k hk
  obtain ⟨cur, hcur, hBg, hrest⟩ := row_cur h.row
  have hgl := heap_lt hcur
  have hrl := heap_lt h.own
  have e0 := List.mem_cons_self (a := e) (l := t)
  have kg : w1.heap[g]? = w.heap[g]? := hgrown g hgl (fun hk => (h.lv_ne e0 hk).2.1 rfl)
  have krb : w1.heap[rb]? = w.heap[rb]? := hgrown rb hrl (fun hk => (h.lv_ne e0 hk).1 rfl)
  have kS : ∀ k, S k → w1.heap[k]? = w.heap[k]? := fun k hk => hgrown k (h.S_ne hk).2.2 (fun he => (h.each e e0).2.2.1 k he hk)
  have g'ne : g' ≠ g := by
    rcases hat with h1 | h1
    · exact (h.lv_ne e0 h1).2.1
    · omega
  have hrow1 : w1.ownsRow B 139 3 (.slice (some ⟨g, 0, none⟩) (e :: t).length cap) (e :: t).length (cellsOf (e :: t)) :=
    ownsRow_of h.row (fun k hk => by simp [Value.ownBlock] at hk; subst hk; exact kg)
  have kset : ∀ k, k ≠ g → ∀ u, (w1.setCell ⟨g, t.length * 3, none⟩ u).heap[k]? = w1.heap[k]? := fun k hk u => heap_set_other hk u
  refine ⟨⟨?_, h.low, ?_, ?_, ?_, ?_⟩, ?_⟩
  · rw [kset rb h.ne_rb, krb]; exact h.own
  · have := row_set hrow1 (t.length * 3) (.slice (some ⟨g', 0, none⟩) (vs.length + 1) cap')
    rw [cellsOf_set] at this
    exact this
  · intro f hf
    rcases List.mem_cons.1 hf with rfl | hf
    · refine ⟨⟨vs ++ [v], ?_, ?_⟩, ?_, ?_, (h.each e e0).2.2.2⟩
      · simp only [List.length_append, List.length_cons, List.length_nil]
        exact ownsRow_of hown' (fun k hk => by simp [Value.ownBlock] at hk; subst hk; exact kset _ g'ne _)
      · exact IsStms.kept (fun k hk => by rw [kset k (h.S_ne hk).2.1, kS k hk]) (fun _ hk => hk) _ _ (IsStms.snoc hx _ _ hvs)
      · intro hs
        exact ((h.each e e0).2.1 hs).kept (fun k hk => by rw [kset k (h.S_ne hk).2.1, kS k hk]) (fun _ hk => hk)
      · intro k hk hS
        simp [Value.ownBlock] at hk
        subst hk
        rcases hat with h1 | h1
        · exact (h.each e e0).2.2.1 _ h1 hS
        · have := (h.S_ne hS).2.2; omega
    · have hf' := List.mem_cons_of_mem e hf
      obtain ⟨⟨us, ho, hu⟩, h2, h3⟩ := h.each f hf'
      have hap := (List.pairwise_cons.1 h.parted).1 f hf
      refine ⟨⟨us, ?_, ?_⟩, ?_, h3⟩
      · exact ownsRow_of ho (fun k hk => by
          rw [kset k (h.lv_ne hf' hk).2.1, hgrown k (h.lv_ne hf' hk).2.2.1 (fun he => hap k he hk)])
      · exact IsStms.kept (fun k hk => by rw [kset k (h.S_ne hk).2.1, kS k hk]) (fun _ hk => hk) _ _ hu
      · intro hs
        exact (h2 hs).kept (fun k hk => by rw [kset k (h.S_ne hk).2.1, kS k hk]) (fun _ hk => hk)
  · refine List.pairwise_cons.2 ⟨?_, (List.pairwise_cons.1 h.parted).2⟩
    intro f hf k hk
    simp [Value.ownBlock] at hk
    subst hk
    rcases hat with h1 | h1
    · exact (List.pairwise_cons.1 h.parted).1 f hf _ h1
    · intro hk2
      have := (h.lv_ne (List.mem_cons_of_mem e hf) hk2).2.2.1
      omega
  · intro k hk
    obtain ⟨a, cur, fz, hc⟩ := h.set k hk
    exact ⟨a, cur, fz, by rw [kset k (h.S_ne hk).2.1, kS k hk]; exact hc⟩
  · refine (((Kept.refl B w).alloc hB o).grown hg (by omega) (fun k hk => (h.lv_ne e0 hk).2.2.2) (fun k hk => ?_)).setCell hBg _
    obtain ⟨⟨us, ho, _⟩, _⟩ := h.each e e0
    rcases ho.2 with ⟨h1, _⟩ | ⟨g2, cap2, cur2, h1, _, hg2, _⟩
    · rw [h1] at hk; cases hk
    · rw [h1] at hk; simp [Value.ownBlock] at hk; subst hk
      exact ⟨_, _, _, by rw [Lib.alloc_old _ _ _ (heap_lt hg2)]; exact hg2⟩

end
end Go.Proofs.YtkdnbdgpcgookaaGreatDoor
