/- Renaming of calls, plainly: by statements (the program) and by letters behind a 'C' (the model). No condition; no walk. The literal of renameCalls: what it makes of a statement that is no choice. Condition: its two caught letters can be read. replaceEach with the literal of renameCalls: statements in which another procedure is called, in a row made anew. Condition: at most 2^20 statements; the two caught letters can be read. slices.SortFunc at a program's procedures by their names: the same procedures, in order. Condition: at most 401 procedures. A program in memory one of whose bodies or names is put anew: still one. Plain lemmas; no walk. -/
import Derived.Test.YtfmmpahbjkiomaaGreatDoorOpen2
import Derived.Test.YtfmmpahbjkiomaaGreatDoorFacts
import Derived.Test.YtfmmpahbjkiomaaGreatDoorRd
import Derived.WalkSpells
import Derived.Test.YtfmmpahbjkiomaaGreatDoorEach
import Derived.Test.YtfmmpahbjkiomaaGreatDoorKx
import Derived.Deep.AppendLies
import Derived.Test.YtfmmpahbjkiomaaGreatDoorPRow
import Derived.Test.YtfmmpahbjkiomaaGreatDoorShelf
import Derived.Test.YtfmmpahbjkiomaaGreatDoorShelfSrt
import Derived.Shelf.SlSortCmp.WholeK
namespace Go.Proofs.YtfmmpahbjkiomaaGreatDoor
open Go.RowKit Gram

/-- a name, renamed -/
def renN (a b c : UInt8) : UInt8 := if c = a then b else c
mutual
def _root_.Go.Proofs.YtfmmpahbjkiomaaGreatDoor.Gram.Stm.ren (a b : UInt8) : Stm → Stm
  | .chg g d => .chg g d
  | .prt => .prt
  | .pro => .pro
  | .call c => .call (renN a b c)
  | .cho x y => .cho (rens a b x) (rens a b y)
def rens (a b : UInt8) : List Stm → List Stm
  | [] => []
  | x :: xs => x.ren a b :: rens a b xs
end
/-- a text with another letter behind each 'C'; p: the letter in front is a 'C' -/
def renB (a b : UInt8) : Bool → List UInt8 → List UInt8
  | _, [] => []
  | p, c :: t => (if p = true ∧ c = a then b else c) :: renB a b (c == 67) t
/-- no call's sign at the end -/
def endC : Bool → List UInt8 → Bool
  | p, [] => p
  | _, c :: t => endC (c == 67) t
theorem renB_append (a b : UInt8) : ∀ (l : List UInt8) (p : Bool) (r : List UInt8), renB a b p (l ++ r) = renB a b p l ++ renB a b (endC p l) r
  | [], _, _ => rfl
  | c :: l, p, r => by rw [List.cons_append, renB, renB_append a b l _ r]; rfl
theorem endC_append : ∀ (l : List UInt8) (p : Bool) (r : List UInt8), endC p (l ++ r) = endC (endC p l) r
  | [], _, _ => rfl
  | c :: l, p, r => by rw [List.cons_append, endC, endC_append l _ r]; rfl
mutual
theorem stm_ren (a b : UInt8) (x : Stm) (h : x.wf = true) : renB a b false x.txt = (x.ren a b).txt ∧ endC false x.txt = false := by
  match x with
  | .chg g d =>
    simp only [Stm.wf, Bool.and_eq_true] at h
    have hg : (g == 67) = false := by
      rw [beq_eq_false_iff_ne]; rintro rfl; exact absurd h.1 (by decide)
    have hd : (d == 67) = false := by
      rw [beq_eq_false_iff_ne]; rintro rfl; exact absurd h.2 (by decide)
    simp [Stm.txt, Stm.ren, renB, endC, hg, hd]
  | .prt => exact ⟨rfl, rfl⟩
  | .pro => exact ⟨rfl, rfl⟩
  | .call c =>
    simp only [Stm.wf] at h
    have hc : (c == 67) = false := by
      rw [beq_eq_false_iff_ne]; rintro rfl; exact absurd h (by decide)
    simp [Stm.txt, Stm.ren, renB, endC, renN, hc]
  | .cho x y =>
    simp only [Stm.wf, Bool.and_eq_true] at h
    obtain ⟨h1, h2⟩ := stms_ren a b x h.1
    obtain ⟨h3, h4⟩ := stms_ren a b y h.2
    have e1 : renB a b false (Stm.cho x y).txt = 63 :: 91 :: (renB a b false (txts x) ++ renB a b (endC false (txts x)) (93 :: 91 :: (txts y ++ [93]))) := by
      rw [Stm.txt, renB, renB, renB_append]; rfl
    have e2 : renB a b false (93 :: 91 :: (txts y ++ [93])) = 93 :: 91 :: (renB a b false (txts y) ++ renB a b (endC false (txts y)) [93]) := by
      rw [renB, renB, renB_append]; rfl
    have e3 : endC false (Stm.cho x y).txt = endC (endC (endC false (txts x)) (93 :: 91 :: txts y)) [93] := by
      rw [Stm.txt, endC, endC, endC_append, ← List.cons_append, ← List.cons_append, endC_append]; rfl
    refine ⟨?_, ?_⟩
    · rw [e1, h2, e2, h1, h3, h4]
      show _ = Stm.txt (.cho (rens a b x) (rens a b y))
      rw [Stm.txt]; rfl
    · rw [e3]; rfl
theorem stms_ren (a b : UInt8) (xs : List Stm) (h : wfs xs = true) : renB a b false (txts xs) = txts (rens a b xs) ∧ endC false (txts xs) = false := by
  match xs with
  | [] => exact ⟨rfl, rfl⟩
  | x :: xs =>
    simp only [wfs, Bool.and_eq_true] at h
    obtain ⟨h1, h2⟩ := stm_ren a b x h.1
    obtain ⟨h3, h4⟩ := stms_ren a b xs h.2
    rw [txts, renB_append, endC_append, h2, h1, h3, h4, rens, txts]
    exact ⟨rfl, rfl⟩
end
mutual
theorem stm_ren_wf (a b : UInt8) (hb : isLet b = true) (x : Stm) (h : x.wf = true) : (x.ren a b).wf = true ∧ (x.nk = true → (x.ren a b).nk = true) ∧ (x.ren a b).txt.length = x.txt.length ∧ (x.ren a b).calls = x.calls.map (renN a b) := by
  match x with
  | .chg g d => exact ⟨h, fun h => h, rfl, rfl⟩
  | .prt => exact ⟨rfl, fun h => h, rfl, rfl⟩
  | .pro => exact ⟨rfl, fun h => h, rfl, rfl⟩
  | .call c =>
    simp only [Stm.wf] at h
    refine ⟨?_, fun h => h, rfl, rfl⟩
    show isLet (renN a b c) = true
    unfold renN
    split
    · exact hb
    · exact h
  | .cho x y =>
    simp only [Stm.wf, Bool.and_eq_true] at h
    obtain ⟨h1, h2, h3, h4⟩ := stms_ren_wf a b hb x h.1
    obtain ⟨k1, k2, k3, k4⟩ := stms_ren_wf a b hb y h.2
    refine ⟨?_, ?_, ?_, ?_⟩
    · simp only [Stm.ren, Stm.wf, h1, k1, Bool.and_self]
    · intro hn
      simp only [Stm.nk, Bool.and_eq_true] at hn
      simp only [Stm.ren, Stm.nk, h2 hn.1, k2 hn.2, Bool.and_self]
    · simp only [Stm.ren, Stm.txt, List.length_cons, List.length_append, h3, k3]
    · simp only [Stm.ren, Stm.calls, h4, k4, List.map_append]
theorem stms_ren_wf (a b : UInt8) (hb : isLet b = true) (xs : List Stm) (h : wfs xs = true) : wfs (rens a b xs) = true ∧ (nks xs = true → nks (rens a b xs) = true) ∧ (txts (rens a b xs)).length = (txts xs).length ∧ callsIn (rens a b xs) = (callsIn xs).map (renN a b) := by
  match xs with
  | [] => exact ⟨rfl, fun h => h, rfl, rfl⟩
  | x :: xs =>
    simp only [wfs, Bool.and_eq_true] at h
    obtain ⟨h1, h2, h3, h4⟩ := stm_ren_wf a b hb x h.1
    obtain ⟨k1, k2, k3, k4⟩ := stms_ren_wf a b hb xs h.2
    refine ⟨?_, ?_, ?_, ?_⟩
    · simp only [rens, wfs, h1, k1, Bool.and_self]
    · intro hn
      simp only [nks, Bool.and_eq_true] at hn
      simp only [rens, nks, h2 hn.1, k2 hn.2, Bool.and_self]
    · simp only [rens, txts, List.length_append, h3, k3]
    · simp only [rens, callsIn, h4, k4, List.map_append]
end
/-- a procedure, renamed -/
def renP (a b : UInt8) (p : Pr) : Pr := (renN a b p.1, rens a b p.2)
theorem renP_good {p : Pr} (h : Good p) (a b : UInt8) (hb : isLet b = true) : Good (renP a b p) := by
  obtain ⟨h1, h2, h3, h4⟩ := h
  obtain ⟨k1, k2, k3, _⟩ := stms_ren_wf a b hb p.2 h1
  refine ⟨k1, k2 h2, ?_, ?_⟩
  · show (txts (rens a b p.2)).length ≤ 400
    rw [k3]; exact h3
  · show isLet (renN a b p.1) = true
    unfold renN
    split
    · exact hb
    · exact h4
end Go.Proofs.YtfmmpahbjkiomaaGreatDoor
namespace Go.Proofs.YtfmmpahbjkiomaaGreatDoor
open Go.RowKit Gram

theorem rl_chg (pv : Value) (w : World) : (Instr.typeAssert (.iface 196 pv) 103 114 true).run Tryz.prog w = .ok (.tuple #[.agg #[.int .u8 0], .bool false]) w := by kernel_rfl
theorem rl_prt (pv : Value) (w : World) : (Instr.typeAssert (.iface 209 pv) 103 114 true).run Tryz.prog w = .ok (.tuple #[.agg #[.int .u8 0], .bool false]) w := by kernel_rfl
theorem rl_pro (pv : Value) (w : World) : (Instr.typeAssert (.iface 219 pv) 103 114 true).run Tryz.prog w = .ok (.tuple #[.agg #[.int .u8 0], .bool false]) w := by kernel_rfl
theorem rl_call (pv : Value) (w : World) : (Instr.typeAssert (.iface 114 pv) 103 114 true).run Tryz.prog w = .ok (.tuple #[pv, .bool true]) w := by kernel_rfl
/-- a row of one statement, made anew -/
def OneS (w : World) (S : Nat → Prop) (y : Stm) (e : Ending) (w' : World) : Prop :=
  ∃ g v', e = .returned (.slice (some ⟨g, 0, none⟩) 1 1) ∧ w.heap.size ≤ g ∧ w'.heap[g]? = some (.cells #[v'] 103 (0, 0)) ∧ IsStm w' S y v' ∧ Below w.heap.size w w'
theorem oneS_of {w : World} {S : Nat → Prop} {y : Stm} {v' : Value} (o : Obj) (h : ∀ w', IsStm w' S y v') : OneS w S y (.returned (.slice (some ⟨w.heap.size + 1, 0, none⟩) 1 1)) ((w.alloc o).alloc (.cells #[v'] 103)) := by
  refine ⟨w.heap.size + 1, v', rfl, Nat.le_succ _, ?_, h _, ((Below.refl _ w).alloc (Nat.le_refl _) _).alloc (by simp) _⟩
  have := heap_alloc_new (w.alloc o) (Obj.cells #[v'] 103)
  rw [alloc_size'] at this
  exact this
set_option maxHeartbeats 2000000 in
set_option maxRecDepth 100000 in
theorem ren_lit (x : Stm) (hx : ∀ p q, x ≠ .cho p q) (w : World) (S : Nat → Prop) (v : Value) (g1 g2 : Nat) (a b : UInt8) (h1 : w.cell? ⟨g1, 0, none⟩ = some (.int .u8 a.toNat)) (h2 : w.cell? ⟨g2, 0, none⟩ = some (.int .u8 b.toNat)) (hv : IsStm w S x v) :
    Calls Tryz.prog 57 #[v, .pointer (some ⟨g1, 0, none⟩), .pointer (some ⟨g2, 0, none⟩)] w (OneS w S (x.ren a b)) := by
  have k1 := fun o => cell_later (show Below w.heap.size w (w.alloc o) from (Below.refl _ _).alloc (Nat.le_refl _) o) h1
  have k2 := fun o => cell_later (show Below w.heap.size w (w.alloc o) from (Below.refl _ _).alloc (Nat.le_refl _) o) h2
  cases x with
  | cho p q => exact absurd rfl (hx p q)
  | chg g d =>
    simp only [IsStm] at hv
    subst hv
    clear hx
    have ht := rl_chg
    go_enter Tryz.func57, Tryz.ntmps57
    go_wp2_with fail
    go_ret
    exact oneS_of _ fun w' => by simp only [Stm.ren, IsStm]
  | prt =>
    simp only [IsStm] at hv
    subst hv
    clear hx
    have ht := rl_prt
    go_enter Tryz.func57, Tryz.ntmps57
    go_wp2_with fail
    go_ret
    exact oneS_of _ fun w' => by simp only [Stm.ren, IsStm]
  | pro =>
    simp only [IsStm] at hv
    subst hv
    clear hx
    have ht := rl_pro
    go_enter Tryz.func57, Tryz.ntmps57
    go_wp2_with fail
    go_ret
    exact oneS_of _ fun w' => by simp only [Stm.ren, IsStm]
  | call c =>
    simp only [IsStm] at hv
    subst hv
    clear hx
    have ht := rl_call
    have hq : ((c.toNat : Int) == (a.toNat : Int)) = (c == a) := toNat_beq c a
    cases hca : (c == a) with
    | true =>
      rw [hca] at hq
      have HR := Lib.hid (show renN a b c = b by unfold renN; rw [if_pos (by simpa using hca)])
      clear hca
      go_enter Tryz.func57, Tryz.ntmps57
      go_wp2_with fail
      go_ret
      exact oneS_of _ fun w' => by simp only [Stm.ren, IsStm, HR.out]
    | false =>
      rw [hca] at hq
      have HR := Lib.hid (show renN a b c = c by unfold renN; rw [if_neg (by simpa using hca)])
      clear hca
      go_enter Tryz.func57, Tryz.ntmps57
      go_wp2_with fail
      go_ret
      exact oneS_of _ fun w' => by simp only [Stm.ren, IsStm, HR.out]
end Go.Proofs.YtfmmpahbjkiomaaGreatDoor
namespace Go.Proofs.YtfmmpahbjkiomaaGreatDoor
open Go.RowKit Gram

theorem rens_append (a b : UInt8) (x y : List Stm) : rens a b (x ++ y) = rens a b x ++ rens a b y := by
  induction x with
  | nil => simp [rens]
  | cons s t ih => simp [rens, ih]
theorem rens_take (a b : UInt8) (xs : List Stm) (k : Nat) (x : Stm) (hx : xs[k]? = some x) : rens a b (xs.take (k + 1)) = rens a b (xs.take k) ++ [x.ren a b] := by
  obtain ⟨hk, rfl⟩ := List.getElem?_eq_some_iff.1 hx
  rw [List.take_succ_eq_append_getElem hk, rens_append]; simp [rens]
theorem stm_any {x : Stm} (hx : ∀ p q, x ≠ .cho p q) {w w' : World} {S S' : Nat → Prop} {v : Value} (h : IsStm w S x v) : IsStm w' S' x v := by
  cases x with
  | cho p q => exact absurd rfl (hx p q)
  | _ => simp only [IsStm] at h ⊢; exact h
theorem ren_plain {x : Stm} (hx : ∀ p q, x ≠ .cho p q) (a b : UInt8) : ∀ p q, x.ren a b ≠ .cho p q := by
  cases x with
  | cho p q => exact absurd rfl (hx p q)
  | _ => intro p q h; simp [Stm.ren] at h
set_option maxRecDepth 100000 in
theorem ta_plain {x : Stm} (hx : ∀ p q, x ≠ .cho p q) {w : World} {S : Nat → Prop} {ty : TypeId} {pv : Value} (h : IsStm w S x (.iface ty pv)) (w' : World) :
    (Instr.typeAssert (.iface ty pv) 103 148 true).run Tryz.prog w' = .ok (.tuple #[.agg #[.slice none 0 0, .slice none 0 0], .bool false]) w' := by
  cases x with
  | cho p q => exact absurd rfl (hx p q)
  | chg g d => simp only [IsStm] at h; injection h with h1 h2; subst h1; exact ta_chg pv w'
  | prt => simp only [IsStm] at h; injection h with h1 h2; subst h1; exact ta_prt pv w'
  | pro => simp only [IsStm] at h; injection h with h1 h2; subst h1; exact ta_pro pv w'
  | call c => simp only [IsStm] at h; injection h with h1 h2; subst h1; exact ta_call pv w'
theorem one_cell_stm {w : World} {S : Nat → Prop} {x : Stm} {v : Value} (h : IsStm w S x v) : v.oneCell' = true := by
  obtain ⟨ty, pv, rfl⟩ := h.iface
  rfl

/-- statements in a row that grows -/
structure NewB (w : World) (B : Nat) (S : Nat → Prop) (n : Nat) (v : Value) (xs : List Stm) (vs : List Value) : Prop where
  row : w.ownsRow B 103 1 v n vs
  stm : IsStms w S xs vs
  set : ∀ k, S k → B ≤ k ∧ ∃ cur fz, w.heap[k]? = some (.cells cur 103 fz)
  apart : ∀ g, v.ownBlock = some g → ¬ S g
theorem NewB.kept {w w' : World} {B : Nat} {S : Nat → Prop} {n : Nat} {v : Value} {xs : List Stm} {vs : List Value} (h : NewB w B S n v xs vs) (hk : ∀ k, k < w.heap.size → w'.heap[k]? = w.heap[k]?) : NewB w' B S n v xs vs :=
  ⟨ownsRow_of h.row fun g hg => hk g (h.row.lt g hg).2, IsStms.kept (fun k hS => by obtain ⟨_, cur, fz, hc⟩ := h.set k hS; exact hk k (heap_lt hc)) (fun _ h => h) _ _ h.stm,
    fun k hS => by obtain ⟨h1, cur, fz, hc⟩ := h.set k hS; exact ⟨h1, cur, fz, by rw [hk k (heap_lt hc)]; exact hc⟩, h.apart⟩
/-- one statement more -/
theorem NewB.more {w w' : World} {B : Nat} {S T : Nat → Prop} {n : Nat} {v : Value} {xs : List Stm} {vs : List Value} {y : Stm} {u : Value} {g' cap' : Nat} (h : NewB w B S n v xs vs) (hy : IsStm w T y u)
    (hT : ∀ k, T k → B ≤ k ∧ ∃ cur fz, w.heap[k]? = some (.cells cur 103 fz)) (hTv : ∀ g, v.ownBlock = some g → ¬ T g)
    (hown : w'.ownsRow B 103 1 (.slice (some ⟨g', 0, none⟩) (n + 1) cap') (n + 1) (vs ++ [u])) (hg : w.grownBy w' v.ownBlock) (hat : v.ownBlock = some g' ∨ g' = w.heap.size) :
    NewB w' B (fun k => S k ∨ T k) (n + 1) (.slice (some ⟨g', 0, none⟩) (n + 1) cap') (xs ++ [y]) (vs ++ [u]) := by
  have hlt : ∀ k, (S k ∨ T k) → (B ≤ k ∧ ∃ cur fz, w.heap[k]? = some (.cells cur 103 fz)) ∧ v.ownBlock ≠ some k := by
    rintro k (hk | hk)
    · exact ⟨h.set k hk, fun he => h.apart k he hk⟩
    · exact ⟨hT k hk, fun he => hTv k he hk⟩
  have hsame : ∀ k, (S k ∨ T k) → w'.heap[k]? = w.heap[k]? := by
    intro k hk
    obtain ⟨⟨_, cur, fz, hc⟩, hne⟩ := hlt k hk
    exact hg.block k (heap_lt hc) fun he => hne he.symm
  refine ⟨hown, ?_, ?_, ?_⟩
  · exact IsStms.snoc (IsStm.kept (fun k hk => hsame k (.inr hk)) (fun _ hk => .inr hk) _ _ hy) _ _ (IsStms.kept (fun k hk => hsame k (.inl hk)) (fun _ hk => .inl hk) _ _ h.stm)
  · intro k hk
    obtain ⟨⟨h1, cur, fz, hc⟩, _⟩ := hlt k hk
    exact ⟨h1, cur, fz, by rw [hsame k hk]; exact hc⟩
  · intro g hgv hk
    obtain ⟨⟨_, cur, fz, hc⟩, hne⟩ := hlt g hk
    have hgg : g' = g := by simpa [Value.ownBlock] using hgv
    subst hgg
    rcases hat with h1 | h1
    · exact hne h1
    · have := heap_lt hc; omega

theorem cho_made {w3 w4 : World} {C : Nat} {S1 S2 : Nat → Prop} {xs ys : List Stm} {v1 v2 : Value} (b1 : IsBody w3 S1 xs v1) (hS1 : ∀ k, S1 k → C + 1 ≤ k ∧ ∃ cur fz, w3.heap[k]? = some (.cells cur 103 fz))
    (hb4 : Below w3.heap.size (w3.setCell ⟨C, 0, none⟩ v1) w4) (b2 : IsBody w4 S2 ys v2) (hS2 : ∀ k, S2 k → C + 1 ≤ k ∧ ∃ cur fz, w4.heap[k]? = some (.cells cur 103 fz)) :
    IsStm (w4.setCell ⟨C, 1, none⟩ v2) (fun k => S1 k ∨ S2 k) (.cho xs ys) (.iface 148 (.agg #[v1, v2])) ∧ ∀ k, (S1 k ∨ S2 k) → C + 1 ≤ k ∧ ∃ cur fz, (w4.setCell ⟨C, 1, none⟩ v2).heap[k]? = some (.cells cur 103 fz) := by
  have k2 : ∀ k, C + 1 ≤ k → (w4.setCell ⟨C, 1, none⟩ v2).heap[k]? = w4.heap[k]? := fun k hk => heap_set_other (by omega) v2
  have k1 : ∀ k, S1 k → (w4.setCell ⟨C, 1, none⟩ v2).heap[k]? = w3.heap[k]? := fun k hk => by
    obtain ⟨h1, cur, fz, hc⟩ := hS1 k hk
    rw [k2 k h1, hb4.block k (heap_lt hc)]
    exact heap_set_other (by omega) v1
  obtain ⟨vs1, r1, s1⟩ := b1
  obtain ⟨vs2, r2, s2⟩ := b2
  refine ⟨?_, ?_⟩
  · simp only [IsStm]
    exact ⟨v1, v2, vs1, vs2, rfl, r1.kept k1 (fun _ h => .inl h), IsStms.kept k1 (fun _ h => .inl h) _ _ s1, r2.kept (fun k hk => k2 k (hS2 k hk).1) (fun _ h => .inr h), IsStms.kept (fun k hk => k2 k (hS2 k hk).1) (fun _ h => .inr h) _ _ s2⟩
  · rintro k (hk | hk)
    · obtain ⟨h1, cur, fz, hc⟩ := hS1 k hk
      exact ⟨h1, cur, fz, by rw [k1 k hk]; exact hc⟩
    · obtain ⟨h1, cur, fz, hc⟩ := hS2 k hk
      exact ⟨h1, cur, fz, by rw [k2 k h1]; exact hc⟩

/-- statements, renamed, in blocks of their own -/
def RepTo (w : World) (ys : List Stm) (e : Ending) (w' : World) : Prop :=
  ∃ la ln lc S, e = .returned (.slice la ln lc) ∧ IsBody w' S ys (.slice la ln lc) ∧ (∀ k, S k → w.heap.size ≤ k ∧ ∃ cur fz, w'.heap[k]? = some (.cells cur 103 fz)) ∧ Below w.heap.size w w'
theorem NewB.body {w : World} {B : Nat} {S : Nat → Prop} {n : Nat} {v : Value} {xs : List Stm} {vs : List Value} (h : NewB w B S n v xs vs) :
    ∃ la ln lc S', v = .slice la ln lc ∧ IsBody w S' xs v ∧ ∀ k, S' k → B ≤ k ∧ ∃ cur fz, w.heap[k]? = some (.cells cur 103 fz) := by
  obtain ⟨la, ln, lc, rfl⟩ := slice_form h.row
  have hn : n = vs.length := by have := h.row.1; omega
  refine ⟨la, ln, lc, fun k => S k ∨ (Value.slice la ln lc).ownBlock = some k, rfl, ⟨vs, ⟨?_, fun g hg => .inr hg⟩, IsStms.kept (fun _ _ => rfl) (fun _ hk => .inl hk) _ _ h.stm⟩, ?_⟩
  · rw [← hn]; exact ownsRow_base h.row fun _ _ => Nat.zero_le _
  · rintro k (hk | hk)
    · exact h.set k hk
    · rcases h.row.2 with ⟨h1, _⟩ | ⟨g, cap, cur, h1, hb, hc, _⟩
      · rw [h1] at hk; cases hk
      · rw [h1] at hk
        have hgk : g = k := by simpa [Value.ownBlock] using hk
        subst hgk
        exact ⟨hb, _, _, hc⟩

section
variable (a b : UInt8) (g1 g2 : Nat)
def SaidRep (n : Nat) : Prop := ∀ (xs : List Stm) (w : World) (S : Nat → Prop) (v : Value), (flats xs).length ≤ n → n ≤ 1048576 → (∀ k, S k → k < w.heap.size) → IsBody w S xs v →
  w.cell? ⟨g1, 0, none⟩ = some (.int .u8 a.toNat) → w.cell? ⟨g2, 0, none⟩ = some (.int .u8 b.toNat) →
  Calls Tryz.prog 56 #[v, .func (.func 57) #[] #[.pointer (some ⟨g1, 0, none⟩), .pointer (some ⟨g2, 0, none⟩)]] w (RepTo w (rens a b xs))

set_option maxHeartbeats 4000000 in
set_option maxRecDepth 100000 in
theorem rep_loop (n : Nat) (h : ∀ m, m < n → SaidRep a b g1 g2 m) (xs : List Stm) (w : World) (S : Nat → Prop) (ad : Option Addr) (ln cp : Nat) (vs : List Value) (hx : (flats xs).length ≤ n) (hn : n ≤ 1048576)
    (hS : ∀ k, S k → k < w.heap.size) (hr : Row w S (.slice ad ln cp) vs) (hs : IsStms w S xs vs) (hln : ln = xs.length) (h1 : w.cell? ⟨g1, 0, none⟩ = some (.int .u8 a.toNat)) (h2 : w.cell? ⟨g2, 0, none⟩ = some (.int .u8 b.toNat)) :
    Calls Tryz.prog 56 #[.slice ad ln cp, .func (.func 57) #[] #[.pointer (some ⟨g1, 0, none⟩), .pointer (some ⟨g2, 0, none⟩)]] w (RepTo w (rens a b xs)) := by
  have hle := flats_ge xs
  have hlb : ln ≤ 1048576 := by omega
  obtain ⟨i0, hi, hz0, hz1, hz2⟩ := info_parts info_stm
  have hE : ∀ (args : Array Value) (w : World), (callFunc 57 args).run Tryz.prog w = .ok (.enter 57 args) w := enters_of Tryz.func57 (by kernel_rfl) rfl
  have H := Lib.hid h
  have HR := Lib.hid hr
  have HS := Lib.hid hs
  have HL := Lib.hid hln
  have HSS := Lib.hid hS
  have HX := Lib.hid hx
  have K1 := Lib.hid (fun w' (hb : Below w.heap.size w w') => cell_later hb h1)
  have K2 := Lib.hid (fun w' (hb : Below w.heap.size w w') => cell_later hb h2)
  clear h hr hs hS hln hx hle h1 h2
  go_enter Tryz.func56, Tryz.ntmps56
  go_wp2_with (at_make; refine wpList_make_own _ rfl _ _ 63 rfl w.heap.size 103 i0 .nilIface 1 Tryz.underlying63 hi hz0 hz1 _ _ _ ln rfl rfl (by omega) ?c1 ?c2 ?c3 ?_)
  case c1 => rw [hz2]; omega
  case c2 => unfold maxLen; omega
  case c3 => exact Nat.le_refl _
  intro w2 hown hgrow
  have HN0 := Lib.hid (show NewB w2 w.heap.size (fun _ => False) 0 _ (rens a b (xs.take 0)) [] from ⟨hown, by simp [rens, IsStms], fun _ h => h.elim, fun _ _ h => h⟩)
  have hb2 := Lib.hid (show Below w.heap.size w w2 from (Below.refl _ _).grown hgrow (Nat.le_refl _) (fun k hk => by cases hk))
  clear hown hgrow
  go_wp2_with fail
  go_loopw [5, 15] (fun v i wr => ∃ k : Nat, k ≤ ln ∧ i = .int .i64 k ∧ Hid (∃ T us, NewB wr w.heap.size T k v (rens a b (xs.take k)) us) ∧ Hid (Below w.heap.size w wr)) (fun _ i _ => ln - (intOf i).toNat)
  case atStart => exact ⟨0, Nat.zero_le _, by go_num, ⟨_, _, HN0.out⟩, hb2.out⟩
  case round =>
    obtain ⟨k, hk, rfl, HW, hbr⟩ := hrel
    have hszr := hbr.out.size
    by_cases hlt : k < ln
    · obtain ⟨x, u, hxk, huk, hst⟩ := stms_get xs vs HS.out k (by rw [← HL.out]; exact hlt)
      obtain ⟨g, hga, hc1⟩ : ∃ g, ad = some ⟨g, 0, none⟩ ∧ wr.cell? ⟨g, k, none⟩ = some u := by
        rcases HR.out.1.2 with ⟨h1, h2⟩ | ⟨g, cap, cur, h1, _, _⟩
        · injection h1 with h3 h4; omega
        · injection h1 with h3 h4 h5
          subst h3; subst h4; subst h5
          have hg := HSS.out g (HR.out.2 g rfl)
          have := row_cell HR.out.1 k u huk
          exact ⟨g, rfl, by rw [← this]; exact World.cell?_of_block (a := ⟨g, k, none⟩) (hbr.out.block g hg)⟩
      subst hga
      have hkeep : ∀ j, S j → wr.heap[j]? = w.heap[j]? := fun j hj => hbr.out.block j (HSS.out j hj)
      have hst2 := IsStm.kept hkeep (fun _ h => h) _ _ hst
      obtain ⟨ty, pv, rfl⟩ := hst2.iface
      obtain ⟨hf1, _⟩ := flats_cut xs k x hxk
      have hx2 := HX.out
      rw [hf1] at hx2
      simp only [List.length_append] at hx2
      have HT := Lib.hid (rens_take a b xs k x hxk)
      clear hf1 hst hkeep hxk huk
      obtain ⟨T, us, hNB⟩ := HW.out
      have hul : us.length = k := by have := hNB.row.1; omega
      have hvlt := hNB.row.lt
      have HNB := Lib.hid hNB
      have HV := Lib.hid hvlt
      clear HW hNB hvlt
      by_cases hch : ∃ p q, x = .cho p q
      · obtain ⟨p, q, rfl⟩ := hch
        simp only [IsStm] at hst2
        obtain ⟨va, vb, vas, vbs, he, r1, s1, r2, s2⟩ := hst2
        injection he with h1 h2; subst h1; subst h2
        obtain ⟨la, l1, lc, rfl⟩ := slice_form r1.1
        obtain ⟨fa, l2, fc, rfl⟩ := slice_form r2.1
        simp only [Stm.flat, List.length_cons, List.length_append] at hx2
        have hS2 : ∀ w', Below wr.heap.size wr w' → (∀ k, S k → k < w'.heap.size) ∧ ∀ k, S k → w'.heap[k]? = wr.heap[k]? := by
          intro w' hb'
          have h1 : ∀ k, S k → k < wr.heap.size := fun k hk => Nat.lt_of_lt_of_le (HSS.out k hk) hszr
          exact ⟨fun k hk => Nat.lt_of_lt_of_le (h1 k hk) hb'.size, fun k hk => hb'.block k (h1 k hk)⟩
        have HP := Lib.hid (fun w' (hb' : Below wr.heap.size wr w') => H.out (flats p).length (by omega) p w' S (.slice la l1 lc) (Nat.le_refl _) (by omega) (hS2 w' hb').1 (IsBody.kept (hS2 w' hb').2 (fun _ h => h) ⟨vas, r1, s1⟩) (K1.out _ (hbr.out.trans (hb'.mono hszr))) (K2.out _ (hbr.out.trans (hb'.mono hszr))))
        have HQ := Lib.hid (fun w' (hb' : Below wr.heap.size wr w') => H.out (flats q).length (by omega) q w' S (.slice fa l2 fc) (Nat.le_refl _) (by omega) (hS2 w' hb').1 (IsBody.kept (hS2 w' hb').2 (fun _ h => h) ⟨vbs, r2, s2⟩) (K1.out _ (hbr.out.trans (hb'.mono hszr))) (K2.out _ (hbr.out.trans (hb'.mono hszr))))
        clear hS2 r1 s1 r2 s2 hx2
        have hta := ta_cho
        go_wp2_with fail
        have HAl := Lib.hid ((Below.refl wr.heap.size wr).alloc (Nat.le_refl _) (.cells #[.slice la l1 lc, .slice fa l2 fc] 148))
        refine (HP.out _ HAl.out).mono ?_
        rintro e w3 ⟨pa, pn, pc, S1, rfl, hB1, hS1, hb3⟩
        have hblk : w3.heap[wr.heap.size]? = some (.cells #[.slice la l1 lc, .slice fa l2 fc] 148 (0, 0)) := by
          rw [hb3.block _ (by rw [alloc_size']; omega)]; exact heap_alloc_new _ _
        have q0 : w3.cell? ⟨wr.heap.size, 0, none⟩ = some (.slice la l1 lc) := by rw [Lib.cell_of_heap hblk]; rfl
        have q1 : w3.cell? ⟨wr.heap.size, 1, none⟩ = some (.slice fa l2 fc) := by rw [Lib.cell_of_heap hblk]; rfl
        have f0 : w3.frozen? ⟨wr.heap.size, 0, none⟩ = false := Lib.frozen_of_heap hblk _
        have HBk := Lib.hid hblk
        have HB3 := Lib.hid (show Below wr.heap.size wr w3 from HAl.out.trans (hb3.mono HAl.out.size))
        have HI1 := Lib.hid hB1
        have HI2 := Lib.hid (fun k hk => show wr.heap.size + 1 ≤ k ∧ _ from by have := hS1 k hk; rw [alloc_size'] at this; exact this)
        clear hblk hb3 hB1 hS1
        go_wp2_with fail
        have HB4 := Lib.hid (HB3.out.setCell (p := ⟨wr.heap.size, 0, none⟩) (Nat.le_refl _) (.slice pa pn pc))
        refine (HQ.out _ HB4.out).mono ?_
        rintro e w4 ⟨qa, qn, qc, S2, rfl, hB2, hS2, hb4⟩
        have hszs : (w3.setCell ⟨wr.heap.size, 0, none⟩ (.slice pa pn pc)).heap.size = w3.heap.size := by simp [World.setCell]
        have hCl : wr.heap.size < w3.heap.size := heap_lt HBk.out
        have hblk4 : w4.heap[wr.heap.size]? = some (.cells #[.slice pa pn pc, .slice fa l2 fc] 148 (0, 0)) := by
          rw [hb4.block _ (by rw [hszs]; exact hCl)]
          exact heap_set_same HBk.out (.slice pa pn pc)
        have HCM := Lib.hid (cho_made HI1.out (fun k hk => ⟨(HI2.out k hk).1, (HI2.out k hk).2⟩) (by rw [hszs] at hb4; exact hb4) hB2 (fun k hk => by have := hS2 k hk; rw [hszs] at this; exact ⟨by omega, this.2⟩))
        have q2 : w4.cell? ⟨wr.heap.size, 0, none⟩ = some (.slice pa pn pc) := by rw [Lib.cell_of_heap hblk4]; rfl
        have q3 : w4.cell? ⟨wr.heap.size, 1, none⟩ = some (.slice fa l2 fc) := by rw [Lib.cell_of_heap hblk4]; rfl
        have f1 : w4.frozen? ⟨wr.heap.size, 1, none⟩ = false := Lib.frozen_of_heap hblk4 _
        have hblk5 : (w4.setCell ⟨wr.heap.size, 1, none⟩ (.slice qa qn qc)).heap[wr.heap.size]? = some (.cells #[.slice pa pn pc, .slice qa qn qc] 148 (0, 0)) := heap_set_same hblk4 (.slice qa qn qc)
        have q4 : (w4.setCell ⟨wr.heap.size, 1, none⟩ (.slice qa qn qc)).cell? ⟨wr.heap.size, 0, none⟩ = some (.slice pa pn pc) := by rw [Lib.cell_of_heap hblk5]; rfl
        have q5 : (w4.setCell ⟨wr.heap.size, 1, none⟩ (.slice qa qn qc)).cell? ⟨wr.heap.size, 1, none⟩ = some (.slice qa qn qc) := by rw [Lib.cell_of_heap hblk5]; rfl
        have HB5 := Lib.hid ((HB4.out.trans (hb4.mono (by rw [hszs]; omega))).setCell (p := ⟨wr.heap.size, 1, none⟩) (Nat.le_refl _) (.slice qa qn qc))
        have HN5 := Lib.hid (HNB.out.kept (w' := w4.setCell ⟨wr.heap.size, 1, none⟩ (.slice qa qn qc)) fun k hk => HB5.out.block k hk)
        have hsz5 := HB5.out.size
        clear hB2 hS2 hb4 hblk4 hblk5 q0 q1 f0 hszs
        have hsz6 : (w4.setCell ⟨wr.heap.size, 1, none⟩ (.slice qa qn qc)).heap.size = w4.heap.size := by simp [World.setCell]
        have HS6 := Lib.hid hsz6
        have HN6 := Lib.hid (HN5.out.kept (w' := (w4.setCell ⟨wr.heap.size, 1, none⟩ (.slice qa qn qc)).alloc (Obj.cells #[.iface 148 (.agg #[.slice pa pn pc, .slice qa qn qc])] 103)) fun k hk => Lib.alloc_old _ _ _ hk)
        have HCc := Lib.hid (show ∀ (j : Nat) (u : Value), [Value.iface 148 (.agg #[.slice pa pn pc, .slice qa qn qc])][j]? = some u → ((w4.setCell ⟨wr.heap.size, 1, none⟩ (.slice qa qn qc)).alloc (Obj.cells #[.iface 148 (.agg #[.slice pa pn pc, .slice qa qn qc])] 103)).cell? ((⟨w4.heap.size, 0, none⟩ : Addr).add j) = some u from by
          rw [← hsz6]; exact World.news_of_block (heap_alloc_new _ _))
        clear hsz6
        go_wp2_with (at_builtin; refine wpList_append_lies _ rfl _ _ 63 rfl w.heap.size 103 i0 .nilIface 1 16 Tryz.underlying63 hi hz0 hz1 hz2 rfl (by decide) u5 k us rfl HN6.out.row ⟨w4.heap.size, 0, none⟩ 1 1 [.iface 148 (.agg #[.slice pa pn pc, .slice qa qn qc])] rfl rfl ?c1 ?c2 (by decide) ?c3 ?c4 ?c5 _ rfl ?_)
        case c1 => exact HCc.out
        case c2 => intro u hu; simp at hu; subst hu; rfl
        case c3 => unfold maxLen; omega
        case c4 => omega
        case c5 => rw [alloc_size']; omega
        intro g' cap' w6 hown' hgrow hat _
        have HCM2 := Lib.hid (show IsStm ((w4.setCell ⟨wr.heap.size, 1, none⟩ (.slice qa qn qc)).alloc (Obj.cells #[.iface 148 (.agg #[.slice pa pn pc, .slice qa qn qc])] 103)) (fun k => S1 k ∨ S2 k) ((Stm.cho p q).ren a b) (.iface 148 (.agg #[.slice pa pn pc, .slice qa qn qc])) from
          IsStm.kept (fun k hk => by obtain ⟨_, cur, fz, hc⟩ := HCM.out.2 k hk; exact Lib.alloc_old _ _ _ (heap_lt hc)) (fun _ h => h) _ _ (by rw [Stm.ren]; exact HCM.out.1))
        have HM := Lib.hid (HN6.out.more HCM2.out (fun k hk => by
          obtain ⟨h1, cur, fz, hc⟩ := HCM.out.2 k hk
          exact ⟨by omega, cur, fz, by rw [Lib.alloc_old _ _ _ (heap_lt hc)]; exact hc⟩) (fun g hg hk => by have h1 := (HV.out g hg).2; have h2 := (HCM.out.2 g hk).1; omega) hown' hgrow (by rw [alloc_size', HS6.out]; exact hat))
        have HB6 := Lib.hid (show Below w.heap.size w w6 from (hbr.out.trans ((HB5.out.alloc (by omega) _).mono hszr)).grown hgrow (by rw [alloc_size']; omega) (fun j hj => (HV.out j hj).1))
        clear hown' hgrow hat
        go_wp2_with fail
        go_roundw
        case rel =>
          refine ⟨k + 1, by omega, by go_num, ?_, HB6.out⟩
          show ∃ _ _, _
          rw [HT.out]
          exact ⟨_, _, HM.out⟩
        case measure => simp [intOf]; omega
      · have hpl : ∀ p q, x ≠ .cho p q := fun p q h => hch ⟨p, q, h⟩
        have hta := ta_plain hpl hst2
        have HC := Lib.hid (fun w' (hb : Below w.heap.size w w') => ren_lit x hpl w' T (.iface ty pv) g1 g2 a b (K1.out _ hb) (K2.out _ hb) (stm_any hpl hst2))
        have HPl := Lib.hid (ren_plain hpl a b)
        clear hst2 hpl hch
        go_wp2_with fail
        refine (HC.out wr hbr.out).mono ?_
        rintro e w3 ⟨ga, v', rfl, hgl, hcell, hst3, hb3⟩
        have HN3 := Lib.hid (HNB.out.kept fun k hk => hb3.block k hk)
        have hcc := World.news_of_block hcell
        have h1c := one_cell_stm hst3
        have HST := Lib.hid (stm_any (w' := w3) (S' := fun _ => False) HPl.out hst3)
        have HB3 := Lib.hid (hbr.out.trans (hb3.mono hszr))
        have hsz3 := HB3.out.size
        have HCc := Lib.hid hcc
        have H1c := Lib.hid h1c
        clear hgl hcell hst3 hb3 hcc h1c
        go_wp2_with (at_builtin; refine wpList_append_lies _ rfl _ _ 63 rfl w.heap.size 103 i0 .nilIface 1 16 Tryz.underlying63 hi hz0 hz1 hz2 rfl (by decide) u5 k us rfl HN3.out.row ⟨ga, 0, none⟩ 1 1 [v'] rfl rfl ?c1 ?c2 (by decide) ?c3 ?c4 ?c5 _ rfl ?_)
        case c1 => exact HCc.out
        case c2 => intro u hu; simp at hu; subst hu; exact H1c.out
        case c3 => unfold maxLen; omega
        case c4 => omega
        case c5 => exact hsz3
        intro g' cap' w4 hown' hgrow hat _
        have HM := Lib.hid (HN3.out.more (y := x.ren a b) HST.out (fun _ h => h.elim) (fun _ _ h => h) hown' hgrow hat)
        have HB4 := Lib.hid (HB3.out.grown hgrow hsz3 (fun j hj => (HV.out j hj).1))
        clear hown' hgrow hat
        go_wp2_with fail
        go_roundw
        case rel =>
          refine ⟨k + 1, by omega, by go_num, ?_, HB4.out⟩
          show ∃ _ _, _
          rw [HT.out]
          exact ⟨_, _, HM.out⟩
        case measure => simp [intOf]; omega
    · have hall : xs.take k = xs := List.take_of_length_le (by rw [← HL.out]; omega)
      rw [hall] at HW
      go_wp2_with fail
      go_ret
      obtain ⟨T, us, hNB⟩ := HW.out
      obtain ⟨la, l1, lc, S', rfl, hB, hS'⟩ := hNB.body
      exact ⟨la, l1, lc, S', rfl, hB, hS', hbr.out⟩

theorem rep_all (n : Nat) : SaidRep a b g1 g2 n := by
  induction n using Nat.strongRecOn with
  | _ n ih =>
    intro xs w S v hx hn hS hB h1 h2
    obtain ⟨vs, hr, hs⟩ := hB
    obtain ⟨ad, ln, cp, rfl⟩ := slice_form hr.1
    have hl := IsStms.len _ _ hs
    refine rep_loop a b g1 g2 n ih xs w S ad ln cp vs hx hn hS hr hs ?_ h1 h2
    rcases hr.1.2 with ⟨h1, h2⟩ | ⟨g, cap, cur, h1, _⟩
    · injection h1 with _ h3; omega
    · injection h1 with _ h3; omega
end
end Go.Proofs.YtfmmpahbjkiomaaGreatDoor
namespace Go.Proofs.YtfmmpahbjkiomaaGreatDoor
open Go.RowKit Go.Shelf Gram

/-- how two procedures are compared -/
def cfQ (x y : Qr) : Int := (x.1.1.toNat : Int) - (y.1.1.toNat : Int)
theorem lt_q (x y : Qr) : ltOf cfQ x y = decide (x.1.1.toNat < y.1.1.toNat) := by
  unfold ltOf cfQ
  by_cases h : x.1.1.toNat < y.1.1.toNat
  · rw [decide_eq_true h]; exact decide_eq_true (by omega)
  · rw [decide_eq_false h]; exact decide_eq_false (by omega)
theorem swo_q : Go.Sort.SWO (ltOf cfQ) where
  irrefl x := by rw [lt_q]; simp
  trans x y z h1 h2 := by rw [lt_q] at *; simp at *; omega
  ntrans x y z h1 h2 := by rw [lt_q] at *; simp at *; omega

/-- a value of one cell -/
def oneV (v : Value) : Value := if v.oneCell' = true then v else .int .u8 0
theorem oneV_one (v : Value) : (oneV v).oneCell' = true := by unfold oneV; split; · assumption
                                                              · rfl
/-- a procedure's two cells -/
def qW (q : Qr) : List Value := [.int .u8 q.1.1.toNat, oneV q.2]
theorem IsProg.one {w : World} {B : Nat} {S : Nat → Prop} {qs : List Qr} {v : Value} (h : IsProg w B S qs v) : ∀ q ∈ qs, q.2.oneCell' = true := by
  intro q hq
  obtain ⟨vs, hr, _⟩ := h.body q hq
  obtain ⟨a, n, c, he⟩ := slice_form hr.1
  rw [he]; rfl

theorem flat_q (qs : List Qr) (ho : ∀ q ∈ qs, q.2.oneCell' = true) : Go.Sort.flatK qW 2 qs.toArray = (qVs qs).toArray := by
  refine Go.Sort.ext_get! (by simp [qVs_len]) fun t ht => ?_
  have ht' : t < qs.length * 2 := by simpa using ht
  rw [Go.Sort.get_flatK _ _ _ _ (by simpa using ht')]
  have hk : t / 2 < qs.length := by omega
  obtain ⟨h0, h1⟩ := qVs_get qs (t / 2) hk
  have e1 : (qs.toArray)[t / 2]! = qs[t / 2] := by simp [hk]
  have hb : t < (qVs qs).length := by rw [qVs_len]; exact ht'
  have e2 : ((qVs qs).toArray)[t]! = (qVs qs)[t] := by simp [hb]
  rw [e1, e2]
  rcases Nat.mod_two_eq_zero_or_one t with hm | hm
  · rw [show t / 2 * 2 = t by omega, List.getElem?_eq_getElem hb] at h0
    injection h0 with h0
    rw [h0, hm]; rfl
  · rw [show t / 2 * 2 + 1 = t by omega, List.getElem?_eq_getElem hb] at h1
    injection h1 with h1
    rw [h1, hm]
    show oneV _ = _
    rw [oneV, if_pos (ho _ (List.getElem_mem hk))]
theorem holds_q {w : World} {B : Nat} {S : Nat → Prop} {qs : List Qr} {g n c : Nat} (h : IsProg w B S qs (.slice (some ⟨g, 0, none⟩) n c)) : Go.Sort.HoldsK qW 2 w g 0 qs.toArray := by
  intro j hj
  rw [flat_q qs h.one] at hj ⊢
  have hj2 : j < (qVs qs).length := by simpa using hj
  have hr := h.row
  have hn : n = qs.length := by
    obtain ⟨a', c', h'⟩ := h.form
    injection h'
  subst hn
  refine ⟨?_, ?_⟩
  · rw [Nat.zero_add, row_cell hr j (qVs qs)[j] (List.getElem?_eq_getElem hj2)]
    simp [hj2]
  · rw [Nat.zero_add]; exact row_free hr j

theorem put_take (F cur : Array Value) (h : F.size ≤ cur.size) : (Go.Sort.putCells id 0 F cur).toList.take F.size = F.toList := by
  apply List.ext_getElem
  · simp [Go.Sort.putCells]; omega
  · intro i h1 h2
    have h3 : i < F.size := by simpa using h2
    simp [Go.Sort.putCells, h3]
theorem sw_row {w : World} {g : Nat} {cur : Array Value} {e : TypeId} {fz : Nat × Nat} (hg : w.heap[g]? = some (.cells cur e fz)) (m : Nat) (d : Array Qr) (os : Array Obj) :
    (Go.Proofs.sortWorldK qW 2 w g 0 m d os).heap[g]? = some (.cells (Go.Sort.putCells id 0 (Go.Sort.flatK qW 2 d) cur) e fz) := by
  have hl := heap_lt hg
  unfold Go.Proofs.sortWorldK Go.Sort.grow Go.Sort.putRowK Go.Sort.putRow Go.Sort.mapBlock Go.Sort.ahead
  rw [Array.getElem?_append_left (by simpa using hl), Array.getElem?_modify, if_pos rfl, hg]
  rfl
theorem sw_other {w : World} {g k : Nat} (hk : k ≠ g) (hl : k < w.heap.size) (m : Nat) (d : Array Qr) (os : Array Obj) : (Go.Proofs.sortWorldK qW 2 w g 0 m d os).heap[k]? = w.heap[k]? := by
  unfold Go.Proofs.sortWorldK Go.Sort.grow Go.Sort.putRowK Go.Sort.putRow Go.Sort.mapBlock Go.Sort.ahead
  rw [Array.getElem?_append_left (by simpa using hl), Array.getElem?_modify, if_neg (Ne.symm hk)]
theorem sw_below {w : World} {B g : Nat} (hB : B ≤ g) (hg : g < w.heap.size) (m : Nat) (d : Array Qr) (os : Array Obj) : Below B w (Go.Proofs.sortWorldK qW 2 w g 0 m d os) := by
  refine ⟨rfl, rfl, rfl, ?_, fun k hk => sw_other (by omega) (by omega) m d os⟩
  unfold Go.Proofs.sortWorldK Go.Sort.grow Go.Sort.putRowK Go.Sort.putRow Go.Sort.mapBlock Go.Sort.ahead
  simp

/-- the program in its new order -/
theorem sw_prog {w : World} {B : Nat} {S : Nat → Prop} {qs : List Qr} {g n c : Nat} (h : IsProg w B S qs (.slice (some ⟨g, 0, none⟩) n c)) (m : Nat) (d : Array Qr) (os : Array Obj) (hp : d.toList.Perm qs) :
    IsProg (Go.Proofs.sortWorldK qW 2 w g 0 m d os) B S d.toList (.slice (some ⟨g, 0, none⟩) n c) := by
  have hne : ∀ k, S k → k ≠ g := by
    rintro k hk rfl
    exact h.apart (v := .slice (some ⟨k, 0, none⟩) n c) rfl hk
  have hk : ∀ k, S k → (Go.Proofs.sortWorldK qW 2 w g 0 m d os).heap[k]? = w.heap[k]? := fun k hk => sw_other (hne k hk) (h.lt k hk) m d os
  refine ⟨?_, fun q hq => (h.body q (hp.mem_iff.1 hq)).kept hk (fun _ h => h), fun k hS => ?_⟩
  · obtain ⟨hl, hr⟩ := h.row
    have hln : d.toList.length = qs.length := hp.length_eq
    rcases hr with ⟨h1, _⟩ | ⟨g', cap, cur, hv, hg, hbk, hnc, hm, hcs, ht⟩
    · injection h1 with h2; cases h2
    · injection hv with h2 h3 h4
      injection h2 with h2
      injection h2 with h2
      subst h2; subst h4
      have hF : Go.Sort.flatK qW 2 d = (qVs d.toList).toArray := flat_q d.toList fun q hq => h.one q (hp.mem_iff.1 hq)
      have hFs : (Go.Sort.flatK qW 2 d).size = qs.length * 2 := by rw [hF, List.size_toArray, qVs_len, hln]
      refine ⟨by rw [qVs_len], .inr ⟨g, c, _, by rw [hln, ← h3], hg, sw_row hbk m d os, by rw [hln]; exact hnc, hm, by simp only [Go.Sort.putCells, Array.size_mapIdx]; exact hcs, ?_⟩⟩
      have := put_take (Go.Sort.flatK qW 2 d) cur (by rw [hFs, hcs]; exact Nat.mul_le_mul_right _ hnc)
      rw [hFs] at this
      rw [hln, this, hF]
  · obtain ⟨a, cur, fz, hc⟩ := h.set k hS
    exact ⟨a, cur, fz, by rw [hk k hS]; exact hc⟩

set_option maxHeartbeats 1000000 in
theorem cmp_q (x y : Qr) (W : World) : Calls Tryz.prog 32 #[.agg #[.int .u8 x.1.1.toNat, oneV x.2], .agg #[.int .u8 y.1.1.toNat, oneV y.2]] W fun e w' => e = .returned (.int .i64 (cfQ x y)) ∧ ∃ q os', w' = Go.Sort.grow (W.drewN q) os' := by
  have hx := x.1.1.toNat_lt
  have hy := y.1.1.toNat_lt
  have HC := Lib.hid (show cfQ x y = (x.1.1.toNat : Int) - (y.1.1.toNat : Int) from rfl)
  generalize x.1.1.toNat = a at *
  generalize y.1.1.toNat = b at *
  generalize oneV x.2 = u at *
  generalize oneV y.2 = v at *
  have e1 : IntKind.i64.wrap (a : Int) = (a : Int) := IntWalk.i64_in _ (by omega)
  have e2 : IntKind.i64.wrap (b : Int) = (b : Int) := IntWalk.i64_in _ (by omega)
  have e3 : IntKind.i64.wrap ((a : Int) - (b : Int)) = (a : Int) - (b : Int) := IntWalk.i64_in _ (by omega)
  go_enter Tryz.func32, Tryz.ntmps32
  go_wp2_with fail
  go_ret
  exact ⟨by rw [HC.out]; rfl, 0, _, by rw [Go.Sort.alloc_eq_grow, Go.Sort.alloc_eq_grow, Go.Sort.grow_grow]; rfl⟩

set_option maxHeartbeats 1000000 in
theorem sort_any {w : World} {B : Nat} {S : Nat → Prop} {qs : List Qr} {g n c : Nat} (h : IsProg w B S qs (.slice (some ⟨g, 0, none⟩) n c)) (hl : n ≤ 401) :
    Calls Tryz.prog 31 #[.slice (some ⟨g, 0, none⟩) n c, .func (.func 32) #[] #[]] w fun e w' => e = .returned (.tuple #[]) ∧
      ∃ qs', qs'.Perm qs ∧ (qs'.Pairwise fun p q => p.1.1.toNat ≤ q.1.1.toNat) ∧ IsProg w' B S qs' (.slice (some ⟨g, 0, none⟩) n c) ∧ Below B w w' := by
  have hn : n = qs.length := by
    obtain ⟨a', c', h'⟩ := h.form
    injection h'
  subst hn
  have eg : ∀ args w, (callFunc 32 args).run Tryz.prog w = .ok (.enter 32 args) w := enters_of Tryz.func32 (by kernel_rfl) rfl
  obtain ⟨hgB, cur, hcur⟩ := h.row_block (g := g) rfl
  have hgl := heap_lt hcur
  have hone : ∀ x : Qr, ∀ v ∈ qW x, v.oneCell' = true := fun x v hv => by
    simp only [qW, List.mem_cons, List.not_mem_nil, or_false] at hv
    rcases hv with rfl | rfl
    · rfl
    · exact oneV_one _
  have hlim : Lib.bitLen qs.length < 4611686018427387904 := Nat.lt_of_le_of_lt (Lib.bitLen_le qs.length 62 (by omega) (by omega)) (by omega)
  have hp : Calls Tryz.prog 58 #[.slice (some ⟨g, 0, none⟩) qs.length c, .int .i64 0, .int .i64 qs.length, .int .i64 (Lib.bitLen qs.length : Nat), .func (.func 32) #[] #[]] w fun e w' => e = .returned (.tuple #[]) ∧ Go.Proofs.SWK qW 2 w g 0 (Go.Sort.pdq (ltOf cfQ) qs.toArray 0 qs.length (Lib.bitLen qs.length) true true) w' :=
    AnyQ.pdqsortCmpFunc_all Tryz.laysSrt 2 Tryz.isAgg65 Tryz.sizeOf65 qW cfQ 32 #[] swo_q g 0 c qs.toArray w eg (fun _ _ _ _ x y => cmp_q x y _) ⟨fun _ => rfl, hone, holds_q h, hgl⟩ (qs.length + 1) 0 qs.length (Lib.bitLen qs.length) qs.toArray w (by omega) rfl (Go.Proofs.SWK.start (holds_q h)) (Nat.zero_le _) (Nat.le_refl _) (show qs.length < _ by omega) hlim (Or.inl rfl)
  have hs := Go.Sort.pdq_sorts (ltOf cfQ) swo_q qs.toArray 0 qs.length (Lib.bitLen qs.length) true true (Nat.zero_le _) (Nat.le_refl _) (Or.inl rfl)
  have hlen : Calls Tryz.prog 59 #[.int .u64 (qs.length : Int)] w fun e w' => e = .returned (.int .i64 (Lib.bitLen qs.length : Nat)) ∧ w' = w := by
    have := Tryz.bits_Len (qs.length : Int) w (by omega) (by omega)
    rwa [Int.toNat_natCast] at this
  have wr : IntKind.u64.wrap (qs.length : Int) = qs.length := by simp [IntKind.wrap, IntKind.bits, IntKind.signed]; omega
  generalize hpd : Go.Sort.pdq (ltOf cfQ) qs.toArray 0 qs.length (Lib.bitLen qs.length) true true = d' at *
  generalize hbl : Lib.bitLen qs.length = bl at *
  generalize hql : qs.length = ql at *
  have HP := Lib.hid hp
  have HLn := Lib.hid hlen
  have HS := Lib.hid hs
  have HI := Lib.hid h
  have HQ := Lib.hid hql
  have HG := Lib.hid (And.intro hgB hgl)
  clear hp hlen hs h hpd hbl hql hgB hgl hcur eg hone hlim
  go_enter Tryz.func31, Tryz.ntmps31
  go_wp2_with fail
  refine HLn.out.mono ?_
  rintro e w2 ⟨rfl, rfl⟩
  go_wp2_with fail
  refine HP.out.mono ?_
  rintro e w2 ⟨rfl, m, os, hw⟩
  subst hw
  go_wp2_with fail
  go_end0
  obtain ⟨hp, hs⟩ := HS.out
  have h := HI.out
  have hql := HQ.out
  obtain ⟨hgB, hgl⟩ := HG.out
  subst hql
  obtain ⟨hsz, _, hperm⟩ := hp
  have hpm : d'.toList.Perm qs := by
    have := hperm
    simp only [List.size_toArray] at this hsz
    rw [← hsz, Array.extract_size, hsz] at this
    simpa using this
  refine ⟨rfl, d'.toList, hpm, ?_, sw_prog h m d' os hpm, sw_below hgB hgl m d' os⟩
  rw [List.pairwise_iff_getElem]
  intro i j hi hj hij
  have h1 := hs i j (Nat.zero_le _) hij (by simp at hsz hj ⊢; omega)
  rw [lt_q, decide_eq_false_iff_not] at h1
  have e1 : d'[i]! = d'.toList[i] := by simp at hi; simp [hi]
  have e2 : d'[j]! = d'.toList[j] := by simp at hj; simp [hj]
  rw [e1, e2] at h1
  omega
end Go.Proofs.YtfmmpahbjkiomaaGreatDoor
namespace Go.Proofs.YtfmmpahbjkiomaaGreatDoor
open Go.RowKit Gram

theorem qVs_set (qs : List Qr) (i : Nat) (hi : i < qs.length) (b : List Stm) (bv : Value) : (qVs qs).set (i * 2 + 1) bv = qVs (qs.set i ((qs[i].1.1, b), bv)) := by
  induction qs generalizing i with
  | nil => simp at hi
  | cons p t ih =>
    cases i with
    | zero => rfl
    | succ i =>
      have := ih i (by simpa using hi)
      rw [show qVs (p :: t) = qV p ++ qVs t from rfl, show (i + 1) * 2 + 1 = (qV p).length + (i * 2 + 1) by show _ = 2 + _; omega, List.set_append_right _ _ (by omega)]
      rw [show (qV p).length + (i * 2 + 1) - (qV p).length = i * 2 + 1 by omega, this]
      rfl

theorem IsProg.put {w : World} {B : Nat} {S S2 : Nat → Prop} {qs : List Qr} {g n c : Nat} (i : Nat) (hi : i < qs.length) (b : List Stm) (bv : Value) (h : IsProg w B S qs (.slice (some ⟨g, 0, none⟩) n c)) (hB : IsBody w S2 b bv) (hS : ∀ k, S2 k → B ≤ k ∧ ∃ cur fz, w.heap[k]? = some (.cells cur 103 fz)) :
    IsProg (w.setCell ⟨g, i * 2 + 1, none⟩ bv) B (fun k => S k ∨ S2 k) (qs.set i ((qs[i].1.1, b), bv)) (.slice (some ⟨g, 0, none⟩) n c) := by
  have hne : ∀ k, (S k ∨ S2 k) → k ≠ g := by
    rintro k hk rfl
    rcases hk with hk | hk
    · exact h.apart (v := .slice (some ⟨k, 0, none⟩) n c) rfl hk
    · obtain ⟨_, cur, hc⟩ := h.row_block (v := .slice (some ⟨k, 0, none⟩) n c) rfl
      obtain ⟨_, cur', fz, hc'⟩ := hS k hk
      rw [hc] at hc'
      injection hc' with hc'
      injection hc' with _ ht _
      exact absurd ht (by decide)
  have hk : ∀ k, (S k ∨ S2 k) → (w.setCell ⟨g, i * 2 + 1, none⟩ bv).heap[k]? = w.heap[k]? := fun k hk => Below.heap_setCell w ⟨g, i * 2 + 1, none⟩ bv k (hne k hk)
  refine ⟨?_, ?_, ?_⟩
  · obtain ⟨hl, hr⟩ := h.row
    rcases hr with ⟨h1, _⟩ | ⟨g', cap, cur, hv, hg, hbk, hnc, hm, hcs, ht⟩
    · injection h1 with h2; cases h2
    · injection hv with h2 h3 h4
      injection h2 with h2
      injection h2 with h2
      subst h2; subst h4
      have hlq := qVs_len qs
      refine ⟨by rw [qVs_len], .inr ⟨g, c, cur.setIfInBounds (i * 2 + 1) bv, by rw [List.length_set, ← h3], hg, ?_, by rw [List.length_set]; exact hnc, hm, by rw [Array.size_setIfInBounds]; exact hcs, ?_⟩⟩
      · exact heap_set_same hbk bv
      · rw [List.length_set, Array.toList_setIfInBounds, ← qVs_set qs i hi b bv, ← ht, List.take_set]
  · intro p hp
    rcases List.mem_or_eq_of_mem_set hp with hp | rfl
    · exact (h.body p hp).kept (fun k hS => hk k (.inl hS)) (fun _ h => .inl h)
    · exact hB.kept (fun k hS => hk k (.inr hS)) (fun _ h => .inr h)
  · intro k hS'
    rcases hS' with h1 | h1
    · obtain ⟨a, cur, fz, hc⟩ := h.set k h1; exact ⟨a, cur, fz, by rw [hk k (.inl h1)]; exact hc⟩
    · obtain ⟨a, cur, fz, hc⟩ := hS k h1; exact ⟨a, cur, fz, by rw [hk k (.inr h1)]; exact hc⟩
theorem qVs_name (qs : List Qr) (i : Nat) (hi : i < qs.length) (c : UInt8) : (qVs qs).set (i * 2) (.int .u8 c.toNat) = qVs (qs.set i ((c, qs[i].1.2), qs[i].2)) := by
  induction qs generalizing i with
  | nil => simp at hi
  | cons p t ih =>
    cases i with
    | zero => rfl
    | succ i =>
      have := ih i (by simpa using hi)
      rw [show qVs (p :: t) = qV p ++ qVs t from rfl, show (i + 1) * 2 = (qV p).length + (i * 2) by show _ = 2 + _; omega, List.set_append_right _ _ (by omega)]
      rw [show (qV p).length + (i * 2) - (qV p).length = i * 2 by omega, this]
      rfl
theorem IsProg.name {w : World} {B : Nat} {S : Nat → Prop} {qs : List Qr} {g n c : Nat} (i : Nat) (hi : i < qs.length) (d : UInt8) (h : IsProg w B S qs (.slice (some ⟨g, 0, none⟩) n c)) :
    IsProg (w.setCell ⟨g, i * 2, none⟩ (.int .u8 d.toNat)) B S (qs.set i ((d, qs[i].1.2), qs[i].2)) (.slice (some ⟨g, 0, none⟩) n c) := by
  have hne : ∀ k, S k → k ≠ g := by
    rintro k hk rfl
    exact h.apart (v := .slice (some ⟨k, 0, none⟩) n c) rfl hk
  have hk : ∀ k, S k → (w.setCell ⟨g, i * 2, none⟩ (.int .u8 d.toNat)).heap[k]? = w.heap[k]? := fun k hk => Below.heap_setCell w ⟨g, i * 2, none⟩ _ k (hne k hk)
  refine ⟨?_, ?_, ?_⟩
  · obtain ⟨hl, hr⟩ := h.row
    rcases hr with ⟨h1, _⟩ | ⟨g', cap, cur, hv, hg, hbk, hnc, hm, hcs, ht⟩
    · injection h1 with h2; cases h2
    · injection hv with h2 h3 h4
      injection h2 with h2
      injection h2 with h2
      subst h2; subst h4
      refine ⟨by rw [qVs_len], .inr ⟨g, c, cur.setIfInBounds (i * 2) (.int .u8 d.toNat), by rw [List.length_set, ← h3], hg, ?_, by rw [List.length_set]; exact hnc, hm, by rw [Array.size_setIfInBounds]; exact hcs, ?_⟩⟩
      · exact heap_set_same hbk _
      · rw [List.length_set, Array.toList_setIfInBounds, ← qVs_name qs i hi d, ← ht, List.take_set]
  · intro p hp
    rcases List.mem_or_eq_of_mem_set hp with hp | rfl
    · exact (h.body p hp).kept (fun k hS => hk k hS) (fun _ h => h)
    · exact (h.body _ (List.getElem_mem hi)).kept (fun k hS => hk k hS) (fun _ h => h)
  · intro k hS'
    obtain ⟨a, cur, fz, hc⟩ := h.set k hS'; exact ⟨a, cur, fz, by rw [hk k hS']; exact hc⟩
end Go.Proofs.YtfmmpahbjkiomaaGreatDoor
