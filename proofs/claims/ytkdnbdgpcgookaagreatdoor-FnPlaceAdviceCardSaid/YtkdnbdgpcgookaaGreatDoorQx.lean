/- Statements and those within them in the order of the text; a row's statement; type switches over choices. No condition. Statements put where a body proceeds, plainly; their text. No walk, no condition. The literal of surroundingOf: what it makes of a statement that is no choice. Condition: its caught row can be read. replaceEach with the literal of surroundingOf: a body with other statements where it proceeds, in rows made anew. Conditions: at most 1000 statements on both sides; the caught row can be read. replaceEach with the literal of surroundingOf, walked: rpk_all. Conditions: at most 1000 statements on both sides; the caught row can be read. The function that surroundingOf makes: a body of advice around statements. Conditions: at most 1000 statements on both sides. readDeed: the single print or call that a text tells. Condition: texts of at most 2^30 bytes. -/
import Derived.Test.YtkdnbdgpcgookaaGreatDoorTx
import Derived.Test.YtkdnbdgpcgookaaGreatDoorPx
import Derived.Test.YtkdnbdgpcgookaaGreatDoorAx
import Derived.Test.YtkdnbdgpcgookaaGreatDoorKx
import Derived.Deep.AppendLies
import Derived.Deep.Upon
import Derived.Lib.AppendZeros
import Derived.Test.YtkdnbdgpcgookaaGreatDoorSpl
namespace Go.Proofs.YtkdnbdgpcgookaaGreatDoor
open Go.RowKit Gram

mutual
/-- a statement and those within it, in the order of the text -/
def _root_.Go.Proofs.YtkdnbdgpcgookaaGreatDoor.Gram.Stm.flat : Stm → List Stm
  | .cho a b => .cho a b :: (flats a ++ flats b)
  | .chg g d => [.chg g d]
  | .prt => [.prt]
  | .pro => [.pro]
  | .call c => [.call c]
def flats : List Stm → List Stm
  | [] => []
  | x :: xs => x.flat ++ flats xs
end
theorem flats_append (a b : List Stm) : flats (a ++ b) = flats a ++ flats b := by
  induction a with
  | nil => simp [flats]
  | cons x t ih => simp [flats, ih]
theorem flats_cons (x : Stm) (t : List Stm) : flats (x :: t) = x.flat ++ flats t := by simp [flats]
theorem flat_pos (x : Stm) : 0 < x.flat.length := by cases x <;> simp [Stm.flat]
theorem flats_ge (xs : List Stm) : xs.length ≤ (flats xs).length := by
  induction xs with
  | nil => simp
  | cons x t ih => have := flat_pos x; simp [flats]; omega
theorem flats_cut (xs : List Stm) (k : Nat) (x : Stm) (hx : xs[k]? = some x) : flats xs = flats (xs.take k) ++ (x.flat ++ flats (xs.drop (k + 1))) ∧ flats (xs.take (k + 1)) = flats (xs.take k) ++ x.flat := by
  obtain ⟨hk, rfl⟩ := List.getElem?_eq_some_iff.1 hx
  constructor
  · rw [← flats_cons, List.getElem_cons_drop, ← flats_append, List.take_append_drop]
  · rw [List.take_succ_eq_append_getElem hk, flats_append]; simp [flats]

theorem ta_chg (pv : Value) (w : World) : (Instr.typeAssert (.iface 162 pv) 72 164 true).run Tryz.prog w = .ok (.tuple #[.agg #[.slice none 0 0, .slice none 0 0], .bool false]) w := by kernel_rfl
theorem ta_prt (pv : Value) (w : World) : (Instr.typeAssert (.iface 151 pv) 72 164 true).run Tryz.prog w = .ok (.tuple #[.agg #[.slice none 0 0, .slice none 0 0], .bool false]) w := by kernel_rfl
theorem ta_call (pv : Value) (w : World) : (Instr.typeAssert (.iface 150 pv) 72 164 true).run Tryz.prog w = .ok (.tuple #[.agg #[.slice none 0 0, .slice none 0 0], .bool false]) w := by kernel_rfl
theorem ta_pro (pv : Value) (w : World) : (Instr.typeAssert (.iface 134 pv) 72 164 true).run Tryz.prog w = .ok (.tuple #[.agg #[.slice none 0 0, .slice none 0 0], .bool false]) w := by kernel_rfl
theorem ta_cho (pv : Value) (w : World) : (Instr.typeAssert (.iface 164 pv) 72 164 true).run Tryz.prog w = .ok (.tuple #[pv, .bool true]) w := by kernel_rfl

theorem stms_get {w : World} {S : Nat → Prop} : ∀ (xs : List Stm) (vs : List Value), IsStms w S xs vs → ∀ k, k < xs.length → ∃ x v, xs[k]? = some x ∧ vs[k]? = some v ∧ IsStm w S x v
  | [], _, _, k, hk => by simp at hk
  | x :: xs, vs, h, k, hk => by
    simp only [IsStms] at h
    obtain ⟨v, t, rfl, h1, h2⟩ := h
    cases k with
    | zero => exact ⟨x, v, rfl, rfl, h1⟩
    | succ k =>
      obtain ⟨y, u, a, b, c⟩ := stms_get xs t h2 k (by simpa using hk)
      exact ⟨y, u, by simpa using a, by simpa using b, c⟩
end Go.Proofs.YtkdnbdgpcgookaaGreatDoor
namespace Go.Proofs.YtkdnbdgpcgookaaGreatDoor
open Go.RowKit Gram

mutual
def _root_.Go.Proofs.YtkdnbdgpcgookaaGreatDoor.Gram.Stm.plug (ys : List Stm) : Stm → List Stm
  | .chg g d => [.chg g d]
  | .prt => [.prt]
  | .pro => ys
  | .call c => [.call c]
  | .cho a b => [.cho (plugs ys a) (plugs ys b)]
def plugs (ys : List Stm) : List Stm → List Stm
  | [] => []
  | x :: xs => x.plug ys ++ plugs ys xs
end
theorem plugs_append (ys : List Stm) (x y : List Stm) : plugs ys (x ++ y) = plugs ys x ++ plugs ys y := by
  induction x with
  | nil => simp [plugs]
  | cons s t ih => simp [plugs, ih]
theorem plugs_take (ys : List Stm) (xs : List Stm) (k : Nat) (x : Stm) (hx : xs[k]? = some x) : plugs ys (xs.take (k + 1)) = plugs ys (xs.take k) ++ x.plug ys := by
  obtain ⟨hk, rfl⟩ := List.getElem?_eq_some_iff.1 hx
  rw [List.take_succ_eq_append_getElem hk, plugs_append]; simp [plugs]
theorem putK_append (x y b : List UInt8) : putK (x ++ y) b = putK x b ++ putK y b := by simp [putK]
theorem plug_txts (x y : List Stm) : txts (x ++ y) = txts x ++ txts y := by
  induction x with
  | nil => simp [txts]
  | cons s t ih => simp [txts, ih]
theorem putK_one (c : UInt8) (b : List UInt8) (h : c ≠ 75) : putK [c] b = [c] := by
  simp only [putK, List.flatMap_cons, List.flatMap_nil, List.append_nil, beq_iff_eq]
  rw [if_neg h]
mutual
theorem stm_plug (ys : List Stm) (x : Stm) (h : x.wf = true) : putK x.txt (txts ys) = txts (x.plug ys) := by
  match x with
  | .chg g d =>
    simp only [Stm.wf, Bool.and_eq_true] at h
    have hd : d ≠ 75 := by rintro rfl; exact absurd h.2 (by decide)
    have hg : g ≠ 75 := by rintro rfl; exact absurd h.1 (by decide)
    rw [show (Stm.chg g d).txt = [g] ++ [d] from rfl, putK_append, putK_one g _ hg, putK_one d _ hd]
    simp [Stm.plug, txts, Stm.txt]
  | .prt => rw [show Stm.prt.txt = [80] from rfl, putK_one 80 _ (by decide)]; simp [Stm.plug, txts, Stm.txt]
  | .pro => simp [Stm.plug, Stm.txt, putK]
  | .call c =>
    simp only [Stm.wf] at h
    have hc : c ≠ 75 := by rintro rfl; exact absurd h (by decide)
    rw [show (Stm.call c).txt = [67] ++ [c] from rfl, putK_append, putK_one 67 _ (by decide), putK_one c _ hc]
    simp [Stm.plug, txts, Stm.txt]
  | .cho a b =>
    simp only [Stm.wf, Bool.and_eq_true] at h
    have ha := stms_plug ys a h.1
    have hb := stms_plug ys b h.2
    rw [show (Stm.cho a b).txt = [63] ++ ([91] ++ (txts a ++ ([93] ++ ([91] ++ (txts b ++ [93]))))) by simp [Stm.txt]]
    simp only [putK_append]
    rw [ha, hb, putK_one 63 _ (by decide), putK_one 91 _ (by decide), putK_one 93 _ (by decide)]
    simp [Stm.plug, txts, Stm.txt]
theorem stms_plug (ys : List Stm) (xs : List Stm) (h : wfs xs = true) : putK (txts xs) (txts ys) = txts (plugs ys xs) := by
  match xs with
  | [] => simp [txts, plugs, putK]
  | x :: xs =>
    simp only [wfs, Bool.and_eq_true] at h
    have ha := stm_plug ys x h.1
    have hb := stms_plug ys xs h.2
    rw [txts, plugs, putK_append, plug_txts, ha, hb]
end
mutual
theorem stm_plug_wf (ys : List Stm) (hy : wfs ys = true) (x : Stm) (h : x.wf = true) : wfs (x.plug ys) = true := by
  match x with
  | .chg g d => simpa [Stm.plug, wfs] using h
  | .prt => simp [Stm.plug, wfs, Stm.wf]
  | .pro => simpa [Stm.plug] using hy
  | .call c => simpa [Stm.plug, wfs] using h
  | .cho a b =>
    simp only [Stm.wf, Bool.and_eq_true] at h
    simp [Stm.plug, wfs, Stm.wf, plugs_wf ys hy a h.1, plugs_wf ys hy b h.2]
theorem plugs_wf (ys : List Stm) (hy : wfs ys = true) (xs : List Stm) (h : wfs xs = true) : wfs (plugs ys xs) = true := by
  match xs with
  | [] => rfl
  | x :: xs =>
    simp only [wfs, Bool.and_eq_true] at h
    have ha := stm_plug_wf ys hy x h.1
    have hb := plugs_wf ys hy xs h.2
    rw [plugs]
    clear h
    generalize x.plug ys = l at *
    induction l with
    | nil => simpa using hb
    | cons z l ih =>
      simp only [wfs, Bool.and_eq_true] at ha
      simp only [List.cons_append, wfs, Bool.and_eq_true]
      exact ⟨ha.1, ih ha.2⟩
end
end Go.Proofs.YtkdnbdgpcgookaaGreatDoor
namespace Go.Proofs.YtkdnbdgpcgookaaGreatDoor
open Go.RowKit Gram

theorem pk_chg (pv : Value) (w : World) : (Instr.typeAssert (.iface 162 pv) 72 134 true).run Tryz.prog w = .ok (.tuple #[.agg #[], .bool false]) w := by kernel_rfl
theorem pk_prt (pv : Value) (w : World) : (Instr.typeAssert (.iface 151 pv) 72 134 true).run Tryz.prog w = .ok (.tuple #[.agg #[], .bool false]) w := by kernel_rfl
theorem pk_call (pv : Value) (w : World) : (Instr.typeAssert (.iface 150 pv) 72 134 true).run Tryz.prog w = .ok (.tuple #[.agg #[], .bool false]) w := by kernel_rfl
theorem pk_pro (w : World) : (Instr.typeAssert (.iface 134 (.agg #[])) 72 134 true).run Tryz.prog w = .ok (.tuple #[.agg #[], .bool true]) w := by kernel_rfl
theorem sk_any {x : Stm} (hx : ∀ p q, x ≠ .cho p q) {w w' : World} {S S' : Nat → Prop} {v : Value} (h : IsStm w S x v) : IsStm w' S' x v := by
  cases x with
  | cho p q => exact absurd rfl (hx p q)
  | _ => simp only [IsStm] at h ⊢; exact h
set_option maxRecDepth 100000 in
theorem tk_plain {x : Stm} (hx : ∀ p q, x ≠ .cho p q) {w : World} {S : Nat → Prop} {ty : TypeId} {pv : Value} (h : IsStm w S x (.iface ty pv)) (w' : World) :
    (Instr.typeAssert (.iface ty pv) 72 164 true).run Tryz.prog w' = .ok (.tuple #[.agg #[.slice none 0 0, .slice none 0 0], .bool false]) w' := by
  cases x with
  | cho p q => exact absurd rfl (hx p q)
  | chg g d => simp only [IsStm] at h; injection h with h1 h2; subst h1; exact ta_chg pv w'
  | prt => simp only [IsStm] at h; injection h with h1 h2; subst h1; exact ta_prt pv w'
  | pro => simp only [IsStm] at h; injection h with h1 h2; subst h1; exact ta_pro pv w'
  | call c => simp only [IsStm] at h; injection h with h1 h2; subst h1; exact ta_call pv w'

/-- what the literal hands back: the caught row, or a row of the one statement -/
def PlcTo (x : Stm) (iv v : Value) (w : World) (e : Ending) (w' : World) : Prop :=
  ((x = .pro ∧ e = .returned iv) ∨ (x ≠ .pro ∧ ∃ g, e = .returned (.slice (some ⟨g, 0, none⟩) 1 1) ∧ w.heap.size ≤ g ∧ w'.heap[g]? = some (.cells #[v] 72 (0, 0)))) ∧ Below w.heap.size w w'
theorem plc_one {w : World} {x : Stm} {iv v : Value} (o : Obj) (hx : x ≠ .pro) : PlcTo x iv v w (.returned (.slice (some ⟨w.heap.size + 1, 0, none⟩) 1 1)) ((w.alloc o).alloc (.cells #[v] 72)) := by
  refine ⟨.inr ⟨hx, w.heap.size + 1, rfl, Nat.le_succ _, ?_⟩, ((Below.refl _ w).alloc (Nat.le_refl _) _).alloc (by simp) _⟩
  have := heap_alloc_new (w.alloc o) (Obj.cells #[v] 72)
  rw [alloc_size'] at this
  exact this
set_option maxHeartbeats 2000000 in
set_option maxRecDepth 100000 in
theorem plc_any (x : Stm) (hx : ∀ p q, x ≠ .cho p q) (w : World) (S : Nat → Prop) (v : Value) (g1 : Nat) (ia : Option Addr) (il ic : Nat) (h1 : w.cell? ⟨g1, 0, none⟩ = some (.slice ia il ic)) (hv : IsStm w S x v) :
    Calls Tryz.prog 95 #[v, .pointer (some ⟨g1, 0, none⟩)] w (PlcTo x (.slice ia il ic) v w) := by
  have k1 := fun o => cell_later (show Below w.heap.size w (w.alloc o) from (Below.refl _ _).alloc (Nat.le_refl _) o) h1
  cases x with
  | cho p q => exact absurd rfl (hx p q)
  | chg g d =>
    simp only [IsStm] at hv
    subst hv
    clear hx
    have ht := pk_chg
    go_enter Tryz.func95, Tryz.ntmps95
    go_wp2_with fail
    go_ret
    exact plc_one _ (by simp)
  | prt =>
    simp only [IsStm] at hv
    subst hv
    clear hx
    have ht := pk_prt
    go_enter Tryz.func95, Tryz.ntmps95
    go_wp2_with fail
    go_ret
    exact plc_one _ (by simp)
  | call c =>
    simp only [IsStm] at hv
    subst hv
    clear hx
    have ht := pk_call
    go_enter Tryz.func95, Tryz.ntmps95
    go_wp2_with fail
    go_ret
    exact plc_one _ (by simp)
  | pro =>
    simp only [IsStm] at hv
    subst hv
    clear hx
    have ht := pk_pro
    go_enter Tryz.func95, Tryz.ntmps95
    go_wp2_with fail
    go_ret
    exact ⟨.inl ⟨rfl, rfl⟩, (Below.refl _ w).alloc (Nat.le_refl _) _⟩
end Go.Proofs.YtkdnbdgpcgookaaGreatDoor
namespace Go.Proofs.YtkdnbdgpcgookaaGreatDoor
open Go.RowKit Gram

theorem plug_len (ys : List Stm) (x : Stm) : (x.plug ys).length ≤ ys.length + 1 := by
  cases x <;> simp [Stm.plug]
theorem plugs_len (ys : List Stm) (xs : List Stm) : (plugs ys xs).length ≤ xs.length * (ys.length + 1) := by
  induction xs with
  | nil => simp [plugs]
  | cons x t ih =>
    have := plug_len ys x
    rw [plugs, List.length_append, List.length_cons, Nat.succ_mul]; omega
theorem stms_app {w : World} {S : Nat → Prop} {ys : List Stm} {us : List Value} (hy : IsStms w S ys us) : ∀ (xs : List Stm) (vs : List Value), IsStms w S xs vs → IsStms w S (xs ++ ys) (vs ++ us)
  | [], vs, h => by simp only [IsStms] at h; subst h; exact hy
  | x :: xs, vs, h => by
    simp only [IsStms] at h
    obtain ⟨v, t, rfl, h1, h2⟩ := h
    rw [List.cons_append]
    simp only [IsStms]
    exact ⟨v, t ++ us, rfl, h1, stms_app hy xs t h2⟩
theorem one_cellK {w : World} {S : Nat → Prop} : ∀ (xs : List Stm) (vs : List Value), IsStms w S xs vs → ∀ u ∈ vs, u.oneCell' = true
  | [], vs, h, u, hu => by simp only [IsStms] at h; subst h; cases hu
  | x :: xs, vs, h, u, hu => by
    simp only [IsStms] at h
    obtain ⟨v, t, rfl, h1, h2⟩ := h
    rcases List.mem_cons.1 hu with rfl | hu
    · obtain ⟨ty, pv, rfl⟩ := h1.iface; rfl
    · exact one_cellK xs t h2 u hu

/-- a row of statements of one's own -/
def Srow (w : World) (B g n c : Nat) (vs : List Value) : Prop := w.ownsRow B 72 1 (.slice (some ⟨g, 0, none⟩) n c) n vs
theorem Srow.lt {w : World} {B g n c : Nat} {vs : List Value} (h : Srow w B g n c vs) : B ≤ g ∧ g < w.heap.size := World.ownsRow.lt h g rfl
theorem Srow.room {w : World} {B g n c : Nat} {vs : List Value} (h : Srow w B g n c vs) : n ≤ c ∧ c ≤ maxLen := by
  rcases h.2 with ⟨h1, _⟩ | ⟨g', cap, cur, hv, _, _, h3, h4, _⟩
  · cases h1
  · injection hv with _ _ h5; subst h5; exact ⟨h3, h4⟩
theorem more_stms (w : World) (B g t cap : Nat) (vs : List Value) (hown : Srow w B g t cap vs) (gs m c : Nat) (us : List Value) (hl : us.length = m)
    (hnews : ∀ (j : Nat) (u : Value), us[j]? = some u → w.cell? ((⟨gs, 0, none⟩ : Addr).add j) = some u) (h1 : ∀ u ∈ us, u.oneCell' = true) (hmax : t + m ≤ 3000000) (hB : B ≤ w.heap.size) :
    ∃ g' c' w', (Builtin.append_ #[55, 55] 55 #[.slice (some ⟨g, 0, none⟩) t cap, .slice (some ⟨gs, 0, none⟩) m c]).run Tryz.prog w = .ok (.slice (some ⟨g', 0, none⟩) (t + m) c') w' ∧
      Srow w' B g' (t + m) c' (vs ++ us) ∧ w.grownBy w' (some g) ∧ (g' = g ∨ g' = w.heap.size) := by
  obtain ⟨i0, hi, hz0, hz1, hz2⟩ := info_parts info_stm
  by_cases h0 : m = 0
  · subst h0
    have hys : us = [] := List.length_eq_zero_iff.1 hl
    subst hys
    have hsrc : Src Tryz.prog i0.size 55 (.slice (some ⟨gs, 0, none⟩) 0 c) 0 [] w := Src.ofSlice w Tryz.underlying55 ⟨gs, 0, none⟩ 0 c [] (by simp) (fun j u h => by simp at h) (fun _ h => by cases h)
    exact ⟨g, cap, w, run_append_nothing w _ _ _ 72 i0 Tryz.underlying55 hi (some ⟨g, 0, none⟩) t cap hown.room.1 _ hsrc, by simpa using hown, ⟨rfl, rfl, rfl, Nat.le_refl _, fun _ _ _ => rfl⟩, .inl rfl⟩
  · obtain ⟨g', c', w', hrun, h2, h3, h4, _⟩ := run_append_lies (P := Tryz.prog) w 55 55 B 72 i0 .nilIface 1 16 Tryz.underlying55 hi hz0 hz1 hz2 rfl (by decide) (.slice (some ⟨g, 0, none⟩) t cap) t vs hown ⟨gs, 0, none⟩ m c us (by rw [hl, Nat.mul_one])
      hnews h1 (by omega) (by unfold maxLen; omega) (by omega) hB w.heap.size rfl
    refine ⟨g', c', w', hrun, h2, h3, ?_⟩
    rcases h4 with h4 | h4
    · left; have : g = g' := by simpa [Value.ownBlock] using h4
      exact this.symm
    · exact .inr h4
theorem wl_append_stm {ops : Array Oper} {rest : List Oper} {o : Oper} {a : Act} {w : World} {Q : Exit → Act → World → Prop} (hgd : o.guard = none) (s x : Operand)
    (ho : o.op = .call { callee := .builtin .append, args := #[s, x], argTypes := #[55, 55] }) (hty : o.type = 55) (vs vx : Value) (hs : a.eval s = vs) (hx : a.eval x = vx) (n : Nat) (R : Nat → Nat → World → Prop)
    (hr : ∃ g c w', (Builtin.append_ #[55, 55] 55 #[vs, vx]).run Tryz.prog w = .ok (.slice (some ⟨g, 0, none⟩) n c) w' ∧ R g c w')
    (h : ∀ g c w', R g c w' → wpList Tryz.prog ops Q rest (a.put o.dst (.slice (some ⟨g, 0, none⟩) n c)) w') : wpList Tryz.prog ops Q (o :: rest) a w := by
  obtain ⟨g, c, w', hrun, hR⟩ := hr
  exact Lib.wpList_append_run w hgd s x _ _ ho vs vx hs hx _ w' (by rw [hty]; exact hrun) (h _ _ _ hR)

/-- statements in a row that grows; what they lead to is new or in Si -/
structure NewK (w : World) (B : Nat) (Si S : Nat → Prop) (g n c : Nat) (xs : List Stm) (vs : List Value) : Prop where
  row : Srow w B g n c vs
  stm : IsStms w S xs vs
  set : ∀ k, S k → (B ≤ k ∨ Si k) ∧ ∃ cur fz, w.heap[k]? = some (.cells cur 72 fz)
  apart : ¬ S g
theorem NewK.kept {w w' : World} {B : Nat} {Si S : Nat → Prop} {g n c : Nat} {xs : List Stm} {vs : List Value} (h : NewK w B Si S g n c xs vs) (hk : ∀ k, k < w.heap.size → w'.heap[k]? = w.heap[k]?) : NewK w' B Si S g n c xs vs :=
  ⟨ownsRow_of h.row fun g hg => hk g (World.ownsRow.lt h.row g hg).2, IsStms.kept (fun k hS => by obtain ⟨_, cur, fz, hc⟩ := h.set k hS; exact hk k (heap_lt hc)) (fun _ h => h) _ _ h.stm,
    fun k hS => by obtain ⟨h1, cur, fz, hc⟩ := h.set k hS; exact ⟨h1, cur, fz, by rw [hk k (heap_lt hc)]; exact hc⟩, h.apart⟩
theorem NewK.more {w w' : World} {B : Nat} {Si S T : Nat → Prop} {g n c m : Nat} {xs ys : List Stm} {vs us : List Value} {g' c' : Nat} (h : NewK w B Si S g n c xs vs) (hy : IsStms w T ys us)
    (hT : ∀ k, T k → (B ≤ k ∨ Si k) ∧ ∃ cur fz, w.heap[k]? = some (.cells cur 72 fz)) (hTv : ¬ T g)
    (hown : Srow w' B g' (n + m) c' (vs ++ us)) (hg : w.grownBy w' (some g)) (hat : g' = g ∨ g' = w.heap.size) :
    NewK w' B Si (fun k => S k ∨ T k) g' (n + m) c' (xs ++ ys) (vs ++ us) := by
  have hlt : ∀ k, (S k ∨ T k) → ((B ≤ k ∨ Si k) ∧ ∃ cur fz, w.heap[k]? = some (.cells cur 72 fz)) ∧ k ≠ g := by
    rintro k (hk | hk)
    · exact ⟨h.set k hk, fun he => h.apart (he ▸ hk)⟩
    · exact ⟨hT k hk, fun he => hTv (he ▸ hk)⟩
  have hsame : ∀ k, (S k ∨ T k) → w'.heap[k]? = w.heap[k]? := by
    intro k hk
    obtain ⟨⟨_, cur, fz, hc⟩, hne⟩ := hlt k hk
    exact hg.block k (heap_lt hc) fun he => hne (by injection he)
  refine ⟨hown, ?_, ?_, ?_⟩
  · exact stms_app (IsStms.kept (fun k hk => hsame k (.inr hk)) (fun _ hk => .inr hk) _ _ hy) _ _ (IsStms.kept (fun k hk => hsame k (.inl hk)) (fun _ hk => .inl hk) _ _ h.stm)
  · intro k hk
    obtain ⟨⟨h1, cur, fz, hc⟩, _⟩ := hlt k hk
    exact ⟨h1, cur, fz, by rw [hsame k hk]; exact hc⟩
  · intro hk
    obtain ⟨⟨_, cur, fz, hc⟩, hne⟩ := hlt g' hk
    rcases hat with h1 | h1
    · exact hne h1
    · have := heap_lt hc; omega

theorem cho_madeK {w3 w4 : World} {C : Nat} {S1 S2 : Nat → Prop} {xs ys : List Stm} {v1 v2 : Value} (b1 : IsBody w3 S1 xs v1) (hS1 : ∀ k, S1 k → k ≠ C ∧ ∃ cur fz, w3.heap[k]? = some (.cells cur 72 fz))
    (hb4 : Below w3.heap.size (w3.setCell ⟨C, 0, none⟩ v1) w4) (b2 : IsBody w4 S2 ys v2) (hS2 : ∀ k, S2 k → k ≠ C ∧ ∃ cur fz, w4.heap[k]? = some (.cells cur 72 fz)) :
    IsStm (w4.setCell ⟨C, 1, none⟩ v2) (fun k => S1 k ∨ S2 k) (.cho xs ys) (.iface 164 (.agg #[v1, v2])) ∧ ∀ k, (S1 k ∨ S2 k) → ∃ cur fz, (w4.setCell ⟨C, 1, none⟩ v2).heap[k]? = some (.cells cur 72 fz) := by
  have k2 : ∀ k, k ≠ C → (w4.setCell ⟨C, 1, none⟩ v2).heap[k]? = w4.heap[k]? := fun k hk => heap_set_other hk v2
  have k1 : ∀ k, S1 k → (w4.setCell ⟨C, 1, none⟩ v2).heap[k]? = w3.heap[k]? := fun k hk => by
    obtain ⟨h1, cur, fz, hc⟩ := hS1 k hk
    rw [k2 k h1, hb4.block k (heap_lt hc)]
    exact heap_set_other h1 v1
  obtain ⟨vs1, r1, s1⟩ := b1
  obtain ⟨vs2, r2, s2⟩ := b2
  refine ⟨?_, ?_⟩
  · simp only [IsStm]
    exact ⟨v1, v2, vs1, vs2, rfl, r1.kept k1 (fun _ h => .inl h), IsStms.kept k1 (fun _ h => .inl h) _ _ s1, r2.kept (fun k hk => k2 k (hS2 k hk).1) (fun _ h => .inr h), IsStms.kept (fun k hk => k2 k (hS2 k hk).1) (fun _ h => .inr h) _ _ s2⟩
  · rintro k (hk | hk)
    · obtain ⟨h1, cur, fz, hc⟩ := hS1 k hk
      exact ⟨cur, fz, by rw [k1 k hk]; exact hc⟩
    · obtain ⟨h1, cur, fz, hc⟩ := hS2 k hk
      exact ⟨cur, fz, by rw [k2 k h1]; exact hc⟩

/-- a body with other statements where it proceeds -/
def RpkTo (w : World) (Si : Nat → Prop) (zs : List Stm) (e : Ending) (w' : World) : Prop :=
  ∃ g lc S, e = .returned (.slice (some ⟨g, 0, none⟩) zs.length lc) ∧ IsBody w' S zs (.slice (some ⟨g, 0, none⟩) zs.length lc) ∧ (∀ k, S k → (w.heap.size ≤ k ∨ Si k) ∧ ∃ cur fz, w'.heap[k]? = some (.cells cur 72 fz)) ∧ Below w.heap.size w w'
theorem NewK.body {w : World} {B : Nat} {Si S : Nat → Prop} {g n c : Nat} {xs : List Stm} {vs : List Value} (h : NewK w B Si S g n c xs vs) :
    ∃ S', IsBody w S' xs (.slice (some ⟨g, 0, none⟩) xs.length c) ∧ (∀ k, S' k → (B ≤ k ∨ Si k) ∧ ∃ cur fz, w.heap[k]? = some (.cells cur 72 fz)) ∧ n = xs.length := by
  have hn : n = vs.length := by have := h.row.1; omega
  have hl := IsStms.len _ _ h.stm
  obtain rfl : n = xs.length := by omega
  have hj : ∀ j, (Value.slice (some ⟨g, 0, none⟩) xs.length c).ownBlock = some j → S j ∨ j = g := fun j hj => by
    have h1 : g = j := by simpa [Value.ownBlock] using hj
    exact .inr h1.symm
  refine ⟨fun k => S k ∨ k = g, ⟨vs, ⟨?_, hj⟩, IsStms.kept (fun _ _ => rfl) (fun _ hk => .inl hk) _ _ h.stm⟩, ?_, rfl⟩
  · rw [← hn]; exact ownsRow_base h.row fun _ _ => Nat.zero_le _
  · rintro k (hk | rfl)
    · exact h.set k hk
    · rcases h.row.2 with ⟨h1, _⟩ | ⟨g', cap, cur, h1, hb, hc, _⟩
      · cases h1
      · injection h1 with h1
        injection h1 with h1; injection h1 with h1
        subst h1
        exact ⟨.inl hb, _, _, hc⟩
end Go.Proofs.YtkdnbdgpcgookaaGreatDoor
namespace Go.Proofs.YtkdnbdgpcgookaaGreatDoor
open Go.RowKit Gram

theorem plug_plain {x : Stm} (hx : ∀ p q, x ≠ .cho p q) (hp : x ≠ .pro) (ys : List Stm) : x.plug ys = [x] := by
  cases x with
  | cho p q => exact absurd rfl (hx p q)
  | pro => exact absurd rfl hp
  | _ => simp [Stm.plug]
/-- a body made anew, its row's form left open -/
def RpkV (w : World) (Si : Nat → Prop) (zs : List Stm) (e : Ending) (w' : World) : Prop :=
  ∃ pa pn pc S, e = .returned (.slice pa pn pc) ∧ IsBody w' S zs (.slice pa pn pc) ∧ (∀ k, S k → (w.heap.size ≤ k ∨ Si k) ∧ ∃ cur fz, w'.heap[k]? = some (.cells cur 72 fz)) ∧ Below w.heap.size w w'
theorem RpkTo.open_ {w w' : World} {Si : Nat → Prop} {zs : List Stm} {e : Ending} (h : RpkTo w Si zs e w') : RpkV w Si zs e w' := by
  obtain ⟨g, lc, S, h1, h2, h3, h4⟩ := h
  exact ⟨_, _, _, S, h1, h2, h3, h4⟩
section
variable (ys : List Stm) (g1 ig ic : Nat) (Si : Nat → Prop)
/-- the caught row and what it leads to -/
def Caught (w : World) : Prop := w.cell? ⟨g1, 0, none⟩ = some (.slice (some ⟨ig, 0, none⟩) ys.length ic) ∧ IsBody w Si ys (.slice (some ⟨ig, 0, none⟩) ys.length ic) ∧ ∀ k, Si k → ∃ cur fz, w.heap[k]? = some (.cells cur 72 fz)
theorem Caught.later {w w' : World} (h : Caught ys g1 ig ic Si w) (hb : Below w.heap.size w w') : Caught ys g1 ig ic Si w' := by
  obtain ⟨h1, h2, h3⟩ := h
  have hk : ∀ k, Si k → w'.heap[k]? = w.heap[k]? := fun k hk => by obtain ⟨cur, fz, hc⟩ := h3 k hk; exact hb.block k (heap_lt hc)
  exact ⟨cell_later hb h1, h2.kept hk (fun _ h => h), fun k h => by obtain ⟨cur, fz, hc⟩ := h3 k h; exact ⟨cur, fz, by rw [hk k h]; exact hc⟩⟩
def SaidRpk (n : Nat) : Prop := ∀ (xs : List Stm) (w : World) (S : Nat → Prop) (v : Value), (flats xs).length ≤ n → n ≤ 1000 → (∀ k, S k → k < w.heap.size) → IsBody w S xs v → Caught ys g1 ig ic Si w →
  Calls Tryz.prog 94 #[v, .func (.func 95) #[] #[.pointer (some ⟨g1, 0, none⟩)]] w (RpkTo w Si (plugs ys xs))

set_option maxHeartbeats 4000000 in
set_option maxRecDepth 100000 in
theorem rpk_loop (hys : ys.length ≤ 1000) (n : Nat) (h : ∀ m, m < n → SaidRpk ys g1 ig ic Si m) (xs : List Stm) (w : World) (S : Nat → Prop) (ad : Option Addr) (ln cp : Nat) (vs : List Value) (hx : (flats xs).length ≤ n) (hn : n ≤ 1000)
    (hS : ∀ k, S k → k < w.heap.size) (hr : Row w S (.slice ad ln cp) vs) (hs : IsStms w S xs vs) (hln : ln = xs.length) (hc : Caught ys g1 ig ic Si w) :
    Calls Tryz.prog 94 #[.slice ad ln cp, .func (.func 95) #[] #[.pointer (some ⟨g1, 0, none⟩)]] w (RpkTo w Si (plugs ys xs)) := by
  have hle := flats_ge xs
  have hlb : ln ≤ 1000 := by omega
  obtain ⟨i0, hi, hz0, hz1, hz2⟩ := info_parts info_stm
  have hE : ∀ (args : Array Value) (w : World), (callFunc 95 args).run Tryz.prog w = .ok (.enter 95 args) w := enters_of Tryz.func95 (by kernel_rfl) rfl
  have H := Lib.hid h
  have HR := Lib.hid hr
  have HS := Lib.hid hs
  have HL := Lib.hid hln
  have HSS := Lib.hid hS
  have HX := Lib.hid hx
  have HC0 := Lib.hid hc
  have HY := Lib.hid hys
  have HSI := Lib.hid (show ∀ k, Si k → k < w.heap.size from fun k hk => by obtain ⟨cur, fz, h⟩ := hc.2.2 k hk; exact heap_lt h)
  clear h hr hs hS hln hx hle hc hys
  go_enter Tryz.func94, Tryz.ntmps94
  go_wp2_with (at_make; refine wpList_make_own _ rfl _ _ 55 rfl w.heap.size 72 i0 .nilIface 1 Tryz.underlying55 hi hz0 hz1 _ _ _ ln rfl rfl (by omega) ?c1 ?c2 ?c3 ?_)
  case c1 => rw [hz2]; omega
  case c2 => unfold maxLen; omega
  case c3 => exact Nat.le_refl _
  intro w2 hown hgrow
  have HN0 : Hid (∃ T us, NewK w2 w.heap.size Si T w.heap.size 0 ln (plugs ys (xs.take 0)) us) := ⟨fun _ => False, [], hown, by simp [plugs, IsStms], fun _ h => h.elim, fun h => h⟩
  have hb2 := Lib.hid (show Below w.heap.size w w2 from (Below.refl _ _).grown hgrow (Nat.le_refl _) (fun k hk => by cases hk))
  clear hown hgrow
  go_wp2_with fail
  go_loopw [5, 15] (fun v i wr => ∃ (k L g c : Nat), k ≤ ln ∧ i = .int .i64 k ∧ v = .slice (some ⟨g, 0, none⟩) L c ∧ Hid (∃ T us, NewK wr w.heap.size Si T g L c (plugs ys (xs.take k)) us) ∧ Hid (Below w.heap.size w wr)) (fun _ i _ => ln - (intOf i).toNat)
  case atStart => exact ⟨0, _, _, _, Nat.zero_le _, by go_num, rfl, HN0.out, hb2.out⟩
  case round =>
    obtain ⟨k, L, gr, cr, hk, rfl, rfl, HW, hbr⟩ := hrel
    have hszr := hbr.out.size
    by_cases hlt : k < ln
    · obtain ⟨x, u, hxk, huk, hst⟩ := stms_get xs vs HS.out k (by rw [← HL.out]; exact hlt)
      obtain ⟨g, hga, hc1⟩ : ∃ g, ad = some ⟨g, 0, none⟩ ∧ wr.cell? ⟨g, k, none⟩ = some u := by
        rcases HR.out.1.2 with ⟨h1, h2⟩ | ⟨g, cap, cur, h1, _, _⟩
        · injection h1 with h3 h4; omega
        · injection h1 with h3 h4 h5
          subst h3; subst h4; subst h5
          have hg := HSS.out g (HR.out.2 g rfl)
          have := row_cell HR.out.1 k u huk
          exact ⟨g, rfl, by rw [← this]; exact World.cell?_of_block (a := ⟨g, k, none⟩) (hbr.out.block g hg)⟩
      subst hga
      have hkeep : ∀ j, S j → wr.heap[j]? = w.heap[j]? := fun j hj => hbr.out.block j (HSS.out j hj)
      have hst2 := IsStm.kept hkeep (fun _ h => h) _ _ hst
      obtain ⟨ty, pv, rfl⟩ := hst2.iface
      obtain ⟨hf1, _⟩ := flats_cut xs k x hxk
      have hx2 := HX.out
      rw [hf1] at hx2
      simp only [List.length_append] at hx2
      have HT := Lib.hid (plugs_take ys xs k x hxk)
      clear hf1 hst hkeep hxk huk
      obtain ⟨T, us, hNB⟩ := HW.out
      have hLb : L ≤ 1001000 := by
        have h1 := hNB.row.1
        have h2 := IsStms.len _ _ hNB.stm
        have h3 := plugs_len ys (xs.take k)
        have h4 : (xs.take k).length ≤ 1000 := by rw [List.length_take]; omega
        have h5 := HY.out
        have h6 : (xs.take k).length * (ys.length + 1) ≤ 1000 * 1001 := Nat.mul_le_mul h4 (by omega)
        omega
      have hrl := hNB.row.lt
      have HNB := Lib.hid hNB
      clear HW hNB
      by_cases hch : ∃ p q, x = .cho p q
      · obtain ⟨p, q, rfl⟩ := hch
        simp only [IsStm] at hst2
        obtain ⟨va, vb, vas, vbs, he, r1, s1, r2, s2⟩ := hst2
        injection he with h1 h2; subst h1; subst h2
        obtain ⟨la, l1, lc, rfl⟩ := slice_form r1.1
        obtain ⟨fa, l2, fc, rfl⟩ := slice_form r2.1
        simp only [Stm.flat, List.length_cons, List.length_append] at hx2
        have hS2 : ∀ w', Below wr.heap.size wr w' → (∀ k, S k → k < w'.heap.size) ∧ ∀ k, S k → w'.heap[k]? = wr.heap[k]? := by
          intro w' hb'
          have h1 : ∀ k, S k → k < wr.heap.size := fun k hk => Nat.lt_of_lt_of_le (HSS.out k hk) hszr
          exact ⟨fun k hk => Nat.lt_of_lt_of_le (h1 k hk) hb'.size, fun k hk => hb'.block k (h1 k hk)⟩
        have HP := Lib.hid (fun w' (hb' : Below wr.heap.size wr w') => (H.out (flats p).length (by omega) p w' S (.slice la l1 lc) (Nat.le_refl _) (by omega) (hS2 w' hb').1 (IsBody.kept (hS2 w' hb').2 (fun _ h => h) ⟨vas, r1, s1⟩) (HC0.out.later _ _ _ _ _ (hbr.out.trans (hb'.mono hszr)))).mono fun _ _ h => h.open_)
        have HQ := Lib.hid (fun w' (hb' : Below wr.heap.size wr w') => (H.out (flats q).length (by omega) q w' S (.slice fa l2 fc) (Nat.le_refl _) (by omega) (hS2 w' hb').1 (IsBody.kept (hS2 w' hb').2 (fun _ h => h) ⟨vbs, r2, s2⟩) (HC0.out.later _ _ _ _ _ (hbr.out.trans (hb'.mono hszr)))).mono fun _ _ h => h.open_)
        clear hS2 r1 s1 r2 s2 hx2
        have hta := ta_cho
        go_wp2_with fail
        have HAl := Lib.hid ((Below.refl wr.heap.size wr).alloc (Nat.le_refl _) (.cells #[.slice la l1 lc, .slice fa l2 fc] 164))
        refine (HP.out _ HAl.out).mono ?_
        rintro e w3 ⟨pa, pn, pc, S1, rfl, hB1, hS1, hb3⟩
        have hblk : w3.heap[wr.heap.size]? = some (.cells #[.slice la l1 lc, .slice fa l2 fc] 164 (0, 0)) := by
          rw [hb3.block _ (by rw [alloc_size']; omega)]; exact heap_alloc_new _ _
        have q0 : w3.cell? ⟨wr.heap.size, 0, none⟩ = some (.slice la l1 lc) := by rw [Lib.cell_of_heap hblk]; rfl
        have q1 : w3.cell? ⟨wr.heap.size, 1, none⟩ = some (.slice fa l2 fc) := by rw [Lib.cell_of_heap hblk]; rfl
        have f0 : w3.frozen? ⟨wr.heap.size, 0, none⟩ = false := Lib.frozen_of_heap hblk _
        have HBk := Lib.hid hblk
        have HB3 := Lib.hid (show Below wr.heap.size wr w3 from HAl.out.trans (hb3.mono HAl.out.size))
        have HI1 := Lib.hid hB1
        have HI2 := Lib.hid (fun k hk => show (wr.heap.size + 1 ≤ k ∨ Si k) ∧ _ from by have := hS1 k hk; rw [alloc_size'] at this; exact this)
        clear hblk hb3 hB1 hS1
        go_wp2_with fail
        have HB4 := Lib.hid (HB3.out.setCell (p := ⟨wr.heap.size, 0, none⟩) (Nat.le_refl _) (.slice pa pn pc))
        refine (HQ.out _ HB4.out).mono ?_
        rintro e w4 ⟨qa, qn, qc, S2, rfl, hB2, hS2, hb4⟩
        have hszs : (w3.setCell ⟨wr.heap.size, 0, none⟩ (.slice pa pn pc)).heap.size = w3.heap.size := by simp [World.setCell]
        have hCl : wr.heap.size < w3.heap.size := heap_lt HBk.out
        have hblk4 : w4.heap[wr.heap.size]? = some (.cells #[.slice pa pn pc, .slice fa l2 fc] 164 (0, 0)) := by
          rw [hb4.block _ (by rw [hszs]; exact hCl)]
          exact heap_set_same HBk.out (.slice pa pn pc)
        have hne1 : ∀ k, S1 k → (wr.heap.size < k ∨ Si k) ∧ k ≠ wr.heap.size ∧ k ≠ gr := fun k hk => by
          rcases (HI2.out k hk).1 with h1 | h1
          · exact ⟨.inl (by omega), by omega, by omega⟩
          · have := HSI.out k h1; exact ⟨.inr h1, by omega, by omega⟩
        have hne2 : ∀ k, S2 k → (wr.heap.size < k ∨ Si k) ∧ k ≠ wr.heap.size ∧ k ≠ gr := fun k hk => by
          have h0 := (hS2 k hk).1
          rw [hszs] at h0
          rcases h0 with h1 | h1
          · exact ⟨.inl (by omega), by omega, by omega⟩
          · have := HSI.out k h1; exact ⟨.inr h1, by omega, by omega⟩
        have HNe := Lib.hid (show ∀ k, (S1 k ∨ S2 k) → (wr.heap.size < k ∨ Si k) ∧ k ≠ gr from fun k hk => by
          rcases hk with hk | hk
          · exact ⟨(hne1 k hk).1, (hne1 k hk).2.2⟩
          · exact ⟨(hne2 k hk).1, (hne2 k hk).2.2⟩)
        have HCM := Lib.hid (cho_madeK HI1.out (fun k hk => ⟨(hne1 k hk).2.1, (HI2.out k hk).2⟩) (by rw [hszs] at hb4; exact hb4) hB2 (fun k hk => ⟨(hne2 k hk).2.1, (hS2 k hk).2⟩))
        have q2 : w4.cell? ⟨wr.heap.size, 0, none⟩ = some (.slice pa pn pc) := by rw [Lib.cell_of_heap hblk4]; rfl
        have q3 : w4.cell? ⟨wr.heap.size, 1, none⟩ = some (.slice fa l2 fc) := by rw [Lib.cell_of_heap hblk4]; rfl
        have f1 : w4.frozen? ⟨wr.heap.size, 1, none⟩ = false := Lib.frozen_of_heap hblk4 _
        have hblk5 : (w4.setCell ⟨wr.heap.size, 1, none⟩ (.slice qa qn qc)).heap[wr.heap.size]? = some (.cells #[.slice pa pn pc, .slice qa qn qc] 164 (0, 0)) := heap_set_same hblk4 (.slice qa qn qc)
        have q4 : (w4.setCell ⟨wr.heap.size, 1, none⟩ (.slice qa qn qc)).cell? ⟨wr.heap.size, 0, none⟩ = some (.slice pa pn pc) := by rw [Lib.cell_of_heap hblk5]; rfl
        have q5 : (w4.setCell ⟨wr.heap.size, 1, none⟩ (.slice qa qn qc)).cell? ⟨wr.heap.size, 1, none⟩ = some (.slice qa qn qc) := by rw [Lib.cell_of_heap hblk5]; rfl
        have HB5 := Lib.hid ((HB4.out.trans (hb4.mono (by rw [hszs]; omega))).setCell (p := ⟨wr.heap.size, 1, none⟩) (Nat.le_refl _) (.slice qa qn qc))
        have HN5 := Lib.hid (HNB.out.kept (w' := w4.setCell ⟨wr.heap.size, 1, none⟩ (.slice qa qn qc)) fun k hk => HB5.out.block k hk)
        have hsz5 := HB5.out.size
        clear hB2 hS2 hb4 hblk4 hblk5 q0 q1 f0 hszs hne1 hne2
        have hsz6 : (w4.setCell ⟨wr.heap.size, 1, none⟩ (.slice qa qn qc)).heap.size = w4.heap.size := by simp [World.setCell]
        have HS6 := Lib.hid hsz6
        have HN6 := Lib.hid (HN5.out.kept (w' := (w4.setCell ⟨wr.heap.size, 1, none⟩ (.slice qa qn qc)).alloc (Obj.cells #[.iface 164 (.agg #[.slice pa pn pc, .slice qa qn qc])] 72)) fun k hk => Lib.alloc_old _ _ _ hk)
        have HCc := Lib.hid (show ∀ (j : Nat) (u : Value), [Value.iface 164 (.agg #[.slice pa pn pc, .slice qa qn qc])][j]? = some u → ((w4.setCell ⟨wr.heap.size, 1, none⟩ (.slice qa qn qc)).alloc (Obj.cells #[.iface 164 (.agg #[.slice pa pn pc, .slice qa qn qc])] 72)).cell? ((⟨w4.heap.size, 0, none⟩ : Addr).add j) = some u from by
          rw [← hsz6]; exact World.news_of_block (heap_alloc_new _ _))
        clear hsz6
        have HCM2 := Lib.hid (show IsStms ((w4.setCell ⟨wr.heap.size, 1, none⟩ (.slice qa qn qc)).alloc (Obj.cells #[.iface 164 (.agg #[.slice pa pn pc, .slice qa qn qc])] 72)) (fun k => S1 k ∨ S2 k) ((Stm.cho p q).plug ys) [.iface 164 (.agg #[.slice pa pn pc, .slice qa qn qc])] from by
          rw [Stm.plug]; simp only [IsStms]
          exact ⟨_, [], rfl, IsStm.kept (fun k hk => by obtain ⟨cur, fz, hc⟩ := HCM.out.2 k hk; exact Lib.alloc_old _ _ _ (heap_lt hc)) (fun _ h => h) _ _ HCM.out.1, rfl⟩)
        go_wp2_with (at_builtin; go_loud (refine wl_append_stm rfl _ _ rfl rfl (.slice (some ⟨gr, 0, none⟩) L cr) (.slice (some ⟨w4.heap.size, 0, none⟩) 1 1) rfl rfl (L + 1) (fun g' c' w' => Srow w' w.heap.size g' (L + 1) c' (us ++ [.iface 164 (.agg #[.slice pa pn pc, .slice qa qn qc])]) ∧ ((w4.setCell ⟨wr.heap.size, 1, none⟩ (.slice qa qn qc)).alloc (Obj.cells #[.iface 164 (.agg #[.slice pa pn pc, .slice qa qn qc])] 72)).grownBy w' (some gr) ∧ (g' = gr ∨ g' = ((w4.setCell ⟨wr.heap.size, 1, none⟩ (.slice qa qn qc)).alloc (Obj.cells #[.iface 164 (.agg #[.slice pa pn pc, .slice qa qn qc])] 72)).heap.size)) (more_stms _ w.heap.size gr L cr us HN6.out.row w4.heap.size 1 1 [.iface 164 (.agg #[.slice pa pn pc, .slice qa qn qc])] rfl HCc.out (by intro u hu; simp at hu; subst hu; rfl) (by omega) (by rw [alloc_size']; omega)) ?_); rintro g' cap' w6 ⟨hown', hgrow, hat⟩)
        have HM := Lib.hid (HN6.out.more HCM2.out (fun k hk => by
          obtain ⟨cur, fz, hc⟩ := HCM.out.2 k hk
          refine ⟨?_, cur, fz, by rw [Lib.alloc_old _ _ _ (heap_lt hc)]; exact hc⟩
          rcases (HNe.out k hk).1 with h1 | h1
          · exact .inl (by omega)
          · exact .inr h1) (fun hk => (HNe.out gr hk).2 rfl) hown' hgrow hat)
        have HB6 := Lib.hid (show Below w.heap.size w w6 from (hbr.out.trans ((HB5.out.alloc (by omega) _).mono hszr)).grown hgrow (by rw [alloc_size']; omega) (fun j hj => by injection hj with hj; omega))
        clear hown' hgrow hat
        go_wp2_with fail
        go_roundw
        case rel =>
          refine ⟨k + 1, _, _, _, by omega, by go_num, rfl, ?_, HB6.out⟩
          show ∃ _ _, _
          rw [HT.out]
          exact ⟨_, _, HM.out⟩
        case measure => simp [intOf]; omega
      · have hpl : ∀ p q, x ≠ .cho p q := fun p q h => hch ⟨p, q, h⟩
        have hta := tk_plain hpl hst2
        have HC := Lib.hid (plc_any x hpl wr T (.iface ty pv) g1 (some ⟨ig, 0, none⟩) ys.length ic (HC0.out.later _ _ _ _ _ hbr.out).1 (sk_any hpl hst2))
        have HPl := Lib.hid hpl
        have HSt := Lib.hid (fun w' S' => sk_any (w' := w') (S' := S') hpl hst2)
        clear hst2 hpl hch
        go_wp2_with fail
        refine HC.out.mono ?_
        rintro e w3 ⟨hor, hb3⟩
        have HN3 := Lib.hid (HNB.out.kept fun k hk => hb3.block k hk)
        have HB3 := Lib.hid (hbr.out.trans (hb3.mono hszr))
        have hsz3 := HB3.out.size
        clear hb3
        rcases hor with ⟨rfl, rfl⟩ | ⟨hnp, ga, rfl, hgl, hcell⟩
        · obtain ⟨_, ⟨vsI, rowI, stmI⟩, hcI⟩ := HC0.out.later _ _ _ _ _ HB3.out
          have hlI := IsStms.len _ _ stmI
          have HNews := Lib.hid (show ∀ (j : Nat) (u : Value), vsI[j]? = some u → w3.cell? ((⟨ig, 0, none⟩ : Addr).add j) = some u from fun j u hj => by
            have h1 := rowI.1
            rw [hlI] at h1
            rw [Go.WideShapes.add_plain, Nat.zero_add]
            exact row_cell h1 j u hj)
          have H1c := Lib.hid (one_cellK _ _ stmI)
          have HSt3 := Lib.hid stmI
          have HcI := Lib.hid hcI
          have hyl := HY.out
          clear stmI rowI hcI
          go_wp2_with (at_builtin; go_loud (refine wl_append_stm rfl _ _ rfl rfl (.slice (some ⟨gr, 0, none⟩) L cr) (.slice (some ⟨ig, 0, none⟩) ys.length ic) rfl rfl (L + ys.length) (fun g' c' w' => Srow w' w.heap.size g' (L + ys.length) c' (us ++ vsI) ∧ w3.grownBy w' (some gr) ∧ (g' = gr ∨ g' = w3.heap.size)) (more_stms _ w.heap.size gr L cr us HN3.out.row ig ys.length ic vsI hlI HNews.out H1c.out (by omega) hsz3) ?_); rintro g' cap' w4 ⟨hown', hgrow, hat⟩)
          have HM := Lib.hid (HN3.out.more HSt3.out (fun k hk => ⟨.inr hk, HcI.out k hk⟩) (fun hk => by have := HSI.out gr hk; omega) hown' hgrow hat)
          have HB4 := Lib.hid (HB3.out.grown hgrow hsz3 (fun j hj => by injection hj with hj; omega))
          clear hown' hgrow hat
          go_wp2_with fail
          go_roundw
          case rel =>
            refine ⟨k + 1, _, _, _, by omega, by go_num, rfl, ?_, HB4.out⟩
            show ∃ _ _, _
            rw [HT.out, show Stm.pro.plug ys = ys by simp [Stm.plug]]
            exact ⟨_, _, HM.out⟩
          case measure => simp [intOf]; omega
        · have HNews := Lib.hid (World.news_of_block hcell)
          have HPg := Lib.hid (plug_plain HPl.out hnp ys)
          clear hcell hnp
          go_wp2_with (at_builtin; go_loud (refine wl_append_stm rfl _ _ rfl rfl (.slice (some ⟨gr, 0, none⟩) L cr) (.slice (some ⟨ga, 0, none⟩) 1 1) rfl rfl (L + 1) (fun g' c' w' => Srow w' w.heap.size g' (L + 1) c' (us ++ [.iface ty pv]) ∧ w3.grownBy w' (some gr) ∧ (g' = gr ∨ g' = w3.heap.size)) (more_stms _ w.heap.size gr L cr us HN3.out.row ga 1 1 [.iface ty pv] rfl HNews.out (by intro u hu; simp at hu; subst hu; rfl) (by omega) hsz3) ?_); rintro g' cap' w4 ⟨hown', hgrow, hat⟩)
          have HM := Lib.hid (HN3.out.more (ys := [x]) (T := fun _ => False) (by simp only [IsStms]; exact ⟨_, [], rfl, HSt.out w3 _, rfl⟩) (fun _ h => h.elim) (fun h => h) hown' hgrow hat)
          have HB4 := Lib.hid (HB3.out.grown hgrow hsz3 (fun j hj => by injection hj with hj; omega))
          clear hown' hgrow hat
          go_wp2_with fail
          go_roundw
          case rel =>
            refine ⟨k + 1, _, _, _, by omega, by go_num, rfl, ?_, HB4.out⟩
            show ∃ _ _, _
            rw [HT.out, HPg.out]
            exact ⟨_, _, HM.out⟩
          case measure => simp [intOf]; omega
    · have hall : xs.take k = xs := List.take_of_length_le (by rw [← HL.out]; omega)
      rw [hall] at HW
      obtain ⟨T, us, hNB⟩ := HW.out
      obtain ⟨S', hB, hS', hLe⟩ := hNB.body
      have HRes := Lib.hid (show RpkTo w Si (plugs ys xs) (.returned (.slice (some ⟨gr, 0, none⟩) L cr)) wr from ⟨gr, cr, S', by rw [hLe], hB, hS', hbr.out⟩)
      clear HW hNB hB hS' hLe
      go_wp2_with fail
      go_ret
      exact HRes.out

theorem rpk_all (hys : ys.length ≤ 1000) (n : Nat) : SaidRpk ys g1 ig ic Si n := by
  induction n using Nat.strongRecOn with
  | _ n ih =>
    intro xs w S v hx hn hS hB hc
    obtain ⟨vs, hr, hs⟩ := hB
    obtain ⟨ad, ln, cp, rfl⟩ := slice_form hr.1
    have hl := IsStms.len _ _ hs
    refine rpk_loop ys g1 ig ic Si hys n ih xs w S ad ln cp vs hx hn hS hr hs ?_ hc
    rcases hr.1.2 with ⟨h1, h2⟩ | ⟨g, cap, cur, h1, _⟩
    · injection h1 with _ h3; omega
    · injection h1 with _ h3; omega
end
end Go.Proofs.YtkdnbdgpcgookaaGreatDoor
namespace Go.Proofs.YtkdnbdgpcgookaaGreatDoor
open Go.RowKit Gram

set_option maxHeartbeats 1000000 in
set_option maxRecDepth 100000 in
theorem srd_any (ys xs : List Stm) (w : World) (S Si : Nat → Prop) (gb ig ic : Nat) (la : Option Addr) (ln lc : Nat) (hys : ys.length ≤ 1000) (hxs : (flats xs).length ≤ 1000) (hS : ∀ k, S k → k < w.heap.size) (hB : IsBody w S xs (.slice la ln lc))
    (hb : w.cell? ⟨gb, 0, none⟩ = some (.slice la ln lc)) (hI : IsBody w Si ys (.slice (some ⟨ig, 0, none⟩) ys.length ic)) (hSi : ∀ k, Si k → ∃ cur fz, w.heap[k]? = some (.cells cur 72 fz)) :
    Calls Tryz.prog 93 #[.slice (some ⟨ig, 0, none⟩) ys.length ic, .pointer (some ⟨gb, 0, none⟩)] w (RpkTo w Si (plugs ys xs)) := by
  have B1 : Below w.heap.size w (w.alloc (Obj.cells #[.slice (some ⟨ig, 0, none⟩) ys.length ic] 55)) := (Below.refl _ w).alloc (Nat.le_refl _) _
  have HB1 := Lib.hid B1
  have hk : ∀ k, k < w.heap.size → (w.alloc (Obj.cells #[.slice (some ⟨ig, 0, none⟩) ys.length ic] 55)).heap[k]? = w.heap[k]? := fun k h => Lib.alloc_old _ _ _ h
  have hSi' : ∀ k, Si k → k < w.heap.size := fun k h => by obtain ⟨cur, fz, hc⟩ := hSi k h; exact heap_lt hc
  have hcell : (w.alloc (Obj.cells #[.slice (some ⟨ig, 0, none⟩) ys.length ic] 55)).cell? ⟨w.heap.size, 0, none⟩ = some (.slice (some ⟨ig, 0, none⟩) ys.length ic) := by
    rw [Lib.cell_of_heap (heap_alloc_new w _)]; rfl
  have HR := Lib.hid (rpk_all ys w.heap.size ig ic Si hys 1000 xs (w.alloc (Obj.cells #[.slice (some ⟨ig, 0, none⟩) ys.length ic] 55)) S (.slice la ln lc) hxs (Nat.le_refl _)
    (fun k h => by have := hS k h; rw [alloc_size']; omega) (hB.kept (fun k h => hk k (hS k h)) (fun _ h => h))
    ⟨hcell, hI.kept (fun k h => hk k (hSi' k h)) (fun _ h => h), fun k h => by obtain ⟨cur, fz, hc⟩ := hSi k h; exact ⟨cur, fz, by rw [hk k (hSi' k h)]; exact hc⟩⟩)
  have hb' := cell_later B1 hb
  clear hys hxs hS hB hb hI hSi B1 hk hSi' hcell
  go_enter Tryz.func93, Tryz.ntmps93
  go_wp2_with fail
  refine HR.out.mono ?_
  rintro e w2 ⟨g, c, T, rfl, hT, hTk, hb2⟩
  have HRes := Lib.hid (show RpkTo w Si (plugs ys xs) (.returned (.slice (some ⟨g, 0, none⟩) (plugs ys xs).length c)) w2 from
    ⟨g, c, T, rfl, hT, fun k h => by
      obtain ⟨h1, h2⟩ := hTk k h
      refine ⟨?_, h2⟩
      rcases h1 with h1 | h1
      · rw [alloc_size'] at h1; exact .inl (by omega)
      · exact .inr h1, HB1.out.trans (hb2.mono HB1.out.size)⟩)
  clear hT hTk hb2
  go_wp2_with fail
  go_ret
  exact HRes.out

set_option maxHeartbeats 1000000 in
theorem sro_any (w : World) (la : Option Addr) (ln lc : Nat) : Calls Tryz.prog 71 #[.slice la ln lc] w fun e w' => e = .returned (.func (.func 93) #[] #[.pointer (some ⟨w.heap.size, 0, none⟩)]) ∧ w' = w.alloc (Obj.cells #[.slice la ln lc] 55) := by
  go_enter Tryz.func71, Tryz.ntmps71
  go_wp2_with fail
  go_ret
  exact ⟨rfl, rfl⟩
end Go.Proofs.YtkdnbdgpcgookaaGreatDoor
namespace Go.Proofs.YtkdnbdgpcgookaaGreatDoor
open Go.RowKit Gram

theorem rd_prt_prt (pv : Value) (w : World) : (Instr.typeAssert (.iface 151 pv) 72 151 true).run Tryz.prog w = .ok (.tuple #[pv, .bool true]) w := by kernel_rfl
theorem rd_call_call (pv : Value) (w : World) : (Instr.typeAssert (.iface 150 pv) 72 150 true).run Tryz.prog w = .ok (.tuple #[pv, .bool true]) w := by kernel_rfl
theorem rd_cho_call (pv : Value) (w : World) : (Instr.typeAssert (.iface 164 pv) 72 150 true).run Tryz.prog w = .ok (.tuple #[.agg #[.int .u8 0], .bool false]) w := by kernel_rfl
theorem rd_cho_prt (pv : Value) (w : World) : (Instr.typeAssert (.iface 164 pv) 72 151 true).run Tryz.prog w = .ok (.tuple #[.agg #[], .bool false]) w := by kernel_rfl
theorem rd_chg_call (pv : Value) (w : World) : (Instr.typeAssert (.iface 162 pv) 72 150 true).run Tryz.prog w = .ok (.tuple #[.agg #[.int .u8 0], .bool false]) w := by kernel_rfl
theorem rd_prt_call (pv : Value) (w : World) : (Instr.typeAssert (.iface 151 pv) 72 150 true).run Tryz.prog w = .ok (.tuple #[.agg #[.int .u8 0], .bool false]) w := by kernel_rfl
theorem rd_chg_prt (pv : Value) (w : World) : (Instr.typeAssert (.iface 162 pv) 72 151 true).run Tryz.prog w = .ok (.tuple #[.agg #[], .bool false]) w := by kernel_rfl
/-- whether a statement is a print or a call -/
def isDd : Stm → Bool
  | .prt => true
  | .call _ => true
  | _ => false

set_option maxHeartbeats 400000 in
theorem jp_deed (x : Stm) (hk : x.nk = true) (S : Nat → Prop) (v : Value) (w : World) (hv : IsStm w S x v) :
    Calls Tryz.prog 68 #[v, .string ⟨#[]⟩] w fun e w' => (∃ j1 j2 j3, e = .returned (.tuple #[.agg #[.string j1, .string j2, .string j3], .bool (isDd x)])) ∧ Below w.heap.size w w' := by
  cases x with
  | pro => simp [Stm.nk] at hk
  | chg g d =>
    simp only [IsStm] at hv
    subst hv
    have t1 := rd_chg_call
    have t2 := rd_chg_prt
    clear hk
    go_enter Tryz.func68, Tryz.ntmps68
    go_wp2_with fail
    refine bodyPost_ret (v := .tuple #[.agg #[.string ⟨#[]⟩, .string ⟨#[]⟩, .string ⟨#[]⟩], .bool false]) ?_ rfl ⟨⟨_, _, _, rfl⟩, ?_⟩
    · simp [results, Tryz.results68, go_sem]
    · exact (Below.refl _ w).alloc (Nat.le_refl _) _
  | prt =>
    simp only [IsStm] at hv
    subst hv
    have t1 := rd_prt_call
    have t2 := rd_prt_prt
    clear hk
    go_enter Tryz.func68, Tryz.ntmps68
    go_wp2_with fail
    refine bodyPost_ret (v := .tuple #[.agg #[.string ⟨#[112, 114, 105, 110, 116]⟩, .string ⟨#[]⟩, .string ⟨#[]⟩], .bool true]) ?_ rfl ⟨⟨_, _, _, rfl⟩, ?_⟩
    · simp [results, Tryz.results68, go_sem]
    · exact ((Below.refl _ w).alloc (Nat.le_refl _) _).alloc (by simp) _
  | call c =>
    simp only [IsStm] at hv
    subst hv
    have t1 := rd_call_call
    clear hk
    go_enter Tryz.func68, Tryz.ntmps68
    go_wp2_with fail
    refine bodyPost_ret (v := .tuple #[.agg #[.string ⟨#[99, 97, 108, 108]⟩, .string (Utf8.encode (wrap32 (c.toNat : Int))), .string ⟨#[]⟩], .bool true]) ?_ rfl ⟨⟨_, _, _, rfl⟩, ?_⟩
    · simp [results, Tryz.results68, go_sem]
    · exact ((Below.refl _ w).alloc (Nat.le_refl _) _).alloc (by simp) _
  | cho a b =>
    simp only [IsStm] at hv
    obtain ⟨va, vb, vas, vbs, rfl, r1, s1, r2, s2⟩ := hv
    obtain ⟨la, l1, lc, rfl⟩ := slice_form r1.1
    obtain ⟨fa, l2, fc, rfl⟩ := slice_form r2.1
    have t1 := rd_cho_call
    have t2 := rd_cho_prt
    clear hk r1 s1 r2 s2
    go_enter Tryz.func68, Tryz.ntmps68
    go_wp2_with fail
    refine bodyPost_ret (v := .tuple #[.agg #[.string ⟨#[]⟩, .string ⟨#[]⟩, .string ⟨#[]⟩], .bool false]) ?_ rfl ⟨⟨_, _, _, rfl⟩, ?_⟩
    · simp [results, Tryz.results68, go_sem]
    · exact (Below.refl _ w).alloc (Nat.le_refl _) _

/-- what readDeed hands back -/
def DeedTo (s : ByteArray) (w : World) (e : Ending) (w' : World) : Prop :=
  ((plD s = false ∧ ∃ v, e = .returned (.tuple #[v, .bool false])) ∨ (plD s = true ∧ ∃ x v, bodyOf s = some [x] ∧ e = .returned (.tuple #[v, .bool true]) ∧ ∀ w2 S, IsStm w2 S x v)) ∧ Below w.heap.size w w'
theorem dd_some (x : Stm) : isDd x = true ↔ (x = .prt ∨ ∃ c, x = .call c) := by
  cases x <;> simp [isDd]
theorem plD_one {s : ByteArray} {x : Stm} (h : bodyOf s = some [x]) : plD s = isDd x := by
  unfold plD; rw [h]
  cases x <;> rfl
theorem plD_not {s : ByteArray} {xs : List Stm} (h : bodyOf s = some xs) (hl : xs.length ≠ 1) : plD s = false := by
  unfold plD; rw [h]
  rcases xs with _ | ⟨x, _ | ⟨y, ys⟩⟩
  · rfl
  · simp at hl
  · cases x <;> rfl
theorem deed_flat {x : Stm} (h : isDd x = true) {w w' : World} {S S' : Nat → Prop} {v : Value} (hs : IsStm w S x v) : IsStm w' S' x v := by
  rcases (dd_some x).1 h with rfl | ⟨c, rfl⟩ <;> (simp only [IsStm] at hs ⊢; exact hs)

set_option maxHeartbeats 1000000 in
set_option maxRecDepth 100000 in
theorem rde_any (s : ByteArray) (w : World) (hm : s.size ≤ 1073741824) : Calls Tryz.prog 40 #[.string s] w (DeedTo s w) := by
  have HR := Lib.hid (body_any s w hm)
  cases hb : bodyOf s with
  | none =>
    rw [hb] at HR
    have HX := Lib.hid (show plD s = false by unfold plD; rw [hb])
    clear hb
    go_enter Tryz.func40, Tryz.ntmps40
    go_wp2_with fail
    refine HR.out.mono ?_
    rintro e w1 ⟨rfl, hb1⟩
    have HB := Lib.hid hb1
    clear hb1
    go_wp2_with fail
    go_ret2
    exact ⟨.inl ⟨HX.out, _, rfl⟩, HB.out⟩
  | some xs =>
    rw [hb] at HR
    obtain ⟨_, _, hwf, hnk⟩ := bodyOf_some hb
    by_cases hl : xs.length = 1
    · obtain ⟨x, rfl⟩ : ∃ x, xs = [x] := List.length_eq_one_iff.1 hl
      have HX := Lib.hid (plD_one hb)
      have HBo := Lib.hid hb
      simp only [wfs, Bool.and_eq_true] at hwf
      simp only [nks, Bool.and_eq_true] at hnk
      have HJ := Lib.hid (fun S v w' hv => jp_deed x hnk.1 S v w' hv)
      have HD := Lib.hid (fun (h : isDd x = true) w S v hs w' S' => @deed_flat x h w w' S S' v hs)
      clear hb hwf hnk hl
      go_enter Tryz.func40, Tryz.ntmps40
      go_wp2_with fail
      refine HR.out.mono ?_
      rintro e w1 ⟨⟨v, S, rfl, hbody, hS⟩, hb1⟩
      have HB := Lib.hid hb1
      obtain ⟨vs, hrow, hst⟩ := hbody
      obtain ⟨u, rfl⟩ : ∃ u, vs = [u] := by
        have := IsStms.len _ _ hst
        exact List.length_eq_one_iff.1 (by simp at this; omega)
      obtain ⟨g, cp, rfl, hc⟩ : ∃ g cp, v = .slice (some ⟨g, 0, none⟩) 1 cp ∧ w1.cell? ⟨g, 0, none⟩ = some u := by
        rcases hrow.1.2 with ⟨h1, h2⟩ | ⟨g, cap, cur, h1, _, _⟩
        · simp at h2
        · subst h1
          have := row_cell hrow.1 0 u rfl
          exact ⟨g, cap, rfl, this⟩
      simp only [IsStms] at hst
      obtain ⟨u0, t0, he, hu0, _⟩ := hst
      injection he with he1 he2
      subst he1
      have hst0 := Lib.hid hu0
      clear hb1 hrow hu0 hS he2
      generalize hdd : isDd x = dd at *
      go_wp2_with fail
      refine (HJ.out S u w1 hst0.out).mono ?_
      rintro e w2 ⟨⟨j1, j2, j3, rfl⟩, hb2⟩
      have HB2 := Lib.hid (HB.out.trans (hb2.mono HB.out.size))
      have HC2 := Lib.hid (cell_later hb2 hc)
      have hc2 := cell_later ((Below.refl _ w2).alloc (Nat.le_refl _) (Obj.cells #[.string j1, .string j2, .string j3] 108)) HC2.out
      clear hb2 hc
      go_wp2_with fail
      go_ret2
      cases dd with
      | false => exact ⟨.inl ⟨HX.out, _, rfl⟩, HB2.out.alloc HB2.out.size _⟩
      | true => exact ⟨.inr ⟨HX.out, x, u, HBo.out, rfl, fun w2 S2 => HD.out rfl w1 S u hst0.out w2 S2⟩, HB2.out.alloc HB2.out.size _⟩
    · have HX := Lib.hid (plD_not hb hl)
      clear hb hwf hnk
      go_enter Tryz.func40, Tryz.ntmps40
      go_wp2_with fail
      refine HR.out.mono ?_
      rintro e w1 ⟨⟨v, S, rfl, hbody, hS⟩, hb1⟩
      have HB := Lib.hid hb1
      obtain ⟨vs, hrow, hst⟩ := hbody
      have hlen := IsStms.len _ _ hst
      obtain ⟨a1, c1, rfl⟩ : ∃ a1 c1, v = .slice a1 vs.length c1 := by
        rcases hrow.1.2 with ⟨h1, h2⟩ | ⟨g, cap, cur, h1, _⟩
        · exact ⟨none, 0, by rw [h1, h2]⟩
        · exact ⟨_, _, h1⟩
      have hl2 : vs.length ≠ 1 := by omega
      have hli : ((vs.length : Int) != 1) = true := by rw [bne_iff_ne]; omega
      clear hb1 hrow hst hS hl hlen hl2
      go_wp2_with fail
      go_ret2
      exact ⟨.inl ⟨HX.out, _, rfl⟩, HB.out⟩
end Go.Proofs.YtkdnbdgpcgookaaGreatDoor
