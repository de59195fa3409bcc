/- What kind a statement of a body is: the type switches' facts. No condition. joinPointAt, and the cells of join points. No condition. -/
import Derived.Test.YtomodlllmbkndaaGreatDoorA4
import Derived.Test.YtomodlllmbkndaaGreatDoorA3
import Derived.Test.YtomodlllmbkndaaGreatDoorRun
namespace Go.Proofs.YtomodlllmbkndaaGreatDoor
open Go.RowKit Gram

theorem sw_chg_chg (pv : Value) (w : World) : (Instr.typeAssert (.iface 157 pv) 139 157 true).run Tryz.prog w = .ok (.tuple #[pv, .bool true]) w := by kernel_rfl
theorem sw_prt_chg (pv : Value) (w : World) : (Instr.typeAssert (.iface 160 pv) 139 157 true).run Tryz.prog w = .ok (.tuple #[.agg #[.int .u8 0, .int .u8 0], .bool false]) w := by kernel_rfl
theorem sw_prt_prt (pv : Value) (w : World) : (Instr.typeAssert (.iface 160 pv) 139 160 true).run Tryz.prog w = .ok (.tuple #[pv, .bool true]) w := by kernel_rfl
theorem sw_call_chg (pv : Value) (w : World) : (Instr.typeAssert (.iface 150 pv) 139 157 true).run Tryz.prog w = .ok (.tuple #[.agg #[.int .u8 0, .int .u8 0], .bool false]) w := by kernel_rfl
theorem sw_call_prt (pv : Value) (w : World) : (Instr.typeAssert (.iface 150 pv) 139 160 true).run Tryz.prog w = .ok (.tuple #[.agg #[], .bool false]) w := by kernel_rfl
theorem sw_call_call (pv : Value) (w : World) : (Instr.typeAssert (.iface 150 pv) 139 150 true).run Tryz.prog w = .ok (.tuple #[pv, .bool true]) w := by kernel_rfl
theorem sw_cho_chg (pv : Value) (w : World) : (Instr.typeAssert (.iface 163 pv) 139 157 true).run Tryz.prog w = .ok (.tuple #[.agg #[.int .u8 0, .int .u8 0], .bool false]) w := by kernel_rfl
theorem sw_cho_prt (pv : Value) (w : World) : (Instr.typeAssert (.iface 163 pv) 139 160 true).run Tryz.prog w = .ok (.tuple #[.agg #[], .bool false]) w := by kernel_rfl
theorem sw_cho_call (pv : Value) (w : World) : (Instr.typeAssert (.iface 163 pv) 139 150 true).run Tryz.prog w = .ok (.tuple #[.agg #[.int .u8 0], .bool false]) w := by kernel_rfl
theorem sw_cho_cho (pv : Value) (w : World) : (Instr.typeAssert (.iface 163 pv) 139 163 true).run Tryz.prog w = .ok (.tuple #[pv, .bool true]) w := by kernel_rfl
theorem sw_chg_call (pv : Value) (w : World) : (Instr.typeAssert (.iface 157 pv) 139 150 true).run Tryz.prog w = .ok (.tuple #[.agg #[.int .u8 0], .bool false]) w := by kernel_rfl
theorem sw_prt_call (pv : Value) (w : World) : (Instr.typeAssert (.iface 160 pv) 139 150 true).run Tryz.prog w = .ok (.tuple #[.agg #[.int .u8 0], .bool false]) w := by kernel_rfl
theorem sw_chg_prt (pv : Value) (w : World) : (Instr.typeAssert (.iface 157 pv) 139 160 true).run Tryz.prog w = .ok (.tuple #[.agg #[], .bool false]) w := by kernel_rfl

/-- a letter as a string -/
theorem enc_let (c : UInt8) (h : isLet c = true) : Utf8.encode (c.toNat : Int) = txtOf [c] := by
  rw [isLet_int, Bool.and_eq_true, decide_eq_true_eq, decide_eq_true_eq] at h
  unfold Utf8.encode
  have hv : Utf8.valid (c.toNat : Int) = true := by unfold Utf8.valid; simp; omega
  simp only [hv, if_true]
  rw [if_pos (by omega)]
  simp [txtOf]
theorem enc_let32 (c : UInt8) (h : isLet c = true) : Utf8.encode (wrap32 (c.toNat : Int)) = txtOf [c] := by
  have h' := h
  rw [isLet_int, Bool.and_eq_true, decide_eq_true_eq, decide_eq_true_eq] at h'
  have : wrap32 (c.toNat : Int) = c.toNat := by unfold wrap32; omega
  rw [this, enc_let c h]
end Go.Proofs.YtomodlllmbkndaaGreatDoor
namespace Go.Proofs.YtomodlllmbkndaaGreatDoor
open Go.RowKit Gram

theorem one_extract (S : List UInt8) (k : Nat) (hk : k < S.length) : (txtOf S).extract k (k + 1) = txtOf [S[k]] := by
  apply ByteArray.ext
  apply Array.ext'
  simp [txtOf, List.extract_eq_take_drop]
  rw [List.take_one, List.head?_drop, List.getElem?_eq_getElem hk]; rfl

theorem row_block {w : World} {B : Nat} {e : TypeId} {sz n : Nat} {v : Value} {xs : List Value} (h : w.ownsRow B e sz v n xs) {g : Nat} (hg : v.ownBlock = some g) : B ≤ g ∧ ∃ cur, w.heap[g]? = some (.cells cur e (0, 0)) := by
  rcases h.2 with ⟨h1, h2⟩ | ⟨g', cap, cur, h1, hb, hc, _⟩
  · rw [h1] at hg; cases hg
  · rw [h1] at hg
    have : g' = g := by simpa [Value.ownBlock] using hg
    subst this
    exact ⟨hb, cur, hc⟩
theorem row_apart {w : World} {B B' : Nat} {e e' : TypeId} {sz n sz' n' : Nat} {v v' : Value} {xs xs' : List Value} (h : w.ownsRow B e sz v n xs) (h' : w.ownsRow B' e' sz' v' n' xs') (hne : e ≠ e') {g : Nat} (hg : v.ownBlock = some g) : v'.ownBlock ≠ some g := by
  intro hg'
  obtain ⟨_, cur, hc⟩ := row_block h hg
  obtain ⟨_, cur', hc'⟩ := row_block h' hg'
  rw [hc] at hc'
  injection hc' with hc'
  injection hc' with _ ht _
  exact hne ht

theorem row_up {w w' : World} {B : Nat} {e : TypeId} {sz n : Nat} {v : Value} {xs : List Value} (h : w.ownsRow B e sz v n xs) (hb : Below w.heap.size w w') : w'.ownsRow B e sz v n xs :=
  ownsRow_of h (fun j hj => hb.block j (h.lt j hj).2)
theorem row_under {w w' : World} {B : Nat} {row : Option Nat} {e : TypeId} {sz n : Nat} {v : Value} {xs : List Value} (h : w.ownsRow B e sz v n xs) (hg : w.grownBy w' row) (hne : ∀ j, v.ownBlock = some j → row ≠ some j) : w'.ownsRow B e sz v n xs :=
  ownsRow_of h (fun j hj => hg.block j (h.lt j hj).2 (fun he => hne j hj he.symm))
theorem info_jp : (Tryz.prog.info? 49).map (fun i => (i.zero, i.size, i.bytes)) = some (some (.agg #[.string ⟨#[]⟩, .string ⟨#[]⟩, .string ⟨#[]⟩]), 3, 48) := by kernel_rfl
/-- the cells of join points -/
def jpC (js : List Jpt) : List Value := js.flatMap fun j => [.string (txtOf (if j.nm.isSome then [99, 97, 108, 108] else [112, 114, 105, 110, 116])), .string (txtOf j.nm.toList), .string (txtOf j.stk)]
theorem jpC_len (js : List Jpt) : (jpC js).length = js.length * 3 := by
  induction js with
  | nil => rfl
  | cons p t ih => simp [jpC] at ih ⊢; omega
theorem jpC_snoc (js : List Jpt) (j : Jpt) : jpC (js ++ [j]) = jpC js ++ [.string (txtOf (if j.nm.isSome then [99, 97, 108, 108] else [112, 114, 105, 110, 116])), .string (txtOf j.nm.toList), .string (txtOf j.stk)] := by simp [jpC]

/-- the texts of join points, laid flat -/
def jpF (js : List Jpt) : List ByteArray := js.flatMap fun j => [txtOf (if j.nm.isSome then [99, 97, 108, 108] else [112, 114, 105, 110, 116]), txtOf j.nm.toList, txtOf j.stk]
theorem jpF_cells (js : List Jpt) : jpC js = (jpF js).map Value.string := by
  induction js with
  | nil => rfl
  | cons p t ih => simp only [jpC, jpF, List.flatMap_cons, List.map_append, List.map_cons, List.map_nil] at ih ⊢; rw [ih]
theorem jpF_len (js : List Jpt) : (jpF js).length = js.length * 3 := by
  have := congrArg List.length (jpF_cells js)
  rw [jpC_len, List.length_map] at this
  exact this.symm
/-- the texts of a join point -/
def kT (j : Jpt) : ByteArray := txtOf (if j.nm.isSome then [99, 97, 108, 108] else [112, 114, 105, 110, 116])
def nT (j : Jpt) : ByteArray := txtOf j.nm.toList
def sT (j : Jpt) : ByteArray := txtOf j.stk

theorem jpC_at : ∀ (l : List Jpt) (k : Nat) (h : k < l.length), (jpC l)[k * 3]? = some (.string (txtOf (if l[k].nm.isSome then [99, 97, 108, 108] else [112, 114, 105, 110, 116]))) ∧ (jpC l)[k * 3 + 1]? = some (.string (txtOf l[k].nm.toList)) ∧ (jpC l)[k * 3 + 2]? = some (.string (txtOf l[k].stk))
  | j :: l, 0, _ => ⟨rfl, rfl, rfl⟩
  | j :: l, k + 1, h => by
    have ih := jpC_at l k (by simpa using h)
    have e : jpC (j :: l) = [.string (txtOf (if j.nm.isSome then [99, 97, 108, 108] else [112, 114, 105, 110, 116])), .string (txtOf j.nm.toList), .string (txtOf j.stk)] ++ jpC l := rfl
    rw [e]
    refine ⟨?_, ?_, ?_⟩
    · rw [List.getElem?_append_right (by simp; omega)]; simpa [Nat.succ_mul] using ih.1
    · rw [List.getElem?_append_right (by simp; omega)]; have := ih.2.1; simp [Nat.succ_mul]; exact this
    · rw [List.getElem?_append_right (by simp; omega)]; have := ih.2.2; simp [Nat.succ_mul]; exact this
/-- the cells of one of a row of join points, or of shadows -/
theorem jrow_cell {w : World} {B c : Nat} {T : TypeId} {a : Option Addr} {js : List Jpt} (h : w.ownsRow B T 3 (.slice a js.length c) js.length (jpC js)) (k : Nat) (hk : k < js.length) :
    ∃ (g : Nat), a = some ⟨g, 0, none⟩ ∧ w.cell? ⟨g, k * 3, none⟩ = some (.string (kT js[k])) ∧ w.cell? ⟨g, k * 3 + 1, none⟩ = some (.string (nT js[k])) ∧ w.cell? ⟨g, k * 3 + 2, none⟩ = some (.string (sT js[k])) := by
  rcases h.2 with ⟨h1, h2⟩ | ⟨g, cap, cur, h1, hb, hc, hm⟩
  · omega
  · injection h1 with h1 h2 h3
    obtain ⟨e0, e1, e2⟩ := jpC_at js k hk
    subst h1; subst h3
    exact ⟨g, rfl, row_cell h _ _ e0, row_cell h _ _ e1, row_cell h _ _ e2⟩
/-- what a join point is as a value -/
def jpV (j : Jpt) : Value := .agg #[.string (txtOf (if j.nm.isSome then [99, 97, 108, 108] else [112, 114, 105, 110, 116])), .string (txtOf j.nm.toList), .string (txtOf j.stk)]
/-- the join point at which a statement is -/
def jpOf (x : Stm) (s : List UInt8) : Option Jpt := match x with
  | .prt => some ⟨none, s⟩
  | .call c => some ⟨some c, s⟩
  | _ => none
def jpO (o : Option Jpt) : Value := match o with
  | some j => jpV j
  | none => .agg #[.string (txtOf []), .string (txtOf []), .string (txtOf [])]

set_option maxHeartbeats 400000 in
theorem jpat_any (x : Stm) (hx : x.wf = true) (hk : x.nk = true) (S : Nat → Prop) (s : List UInt8) (v : Value) (w : World) (hv : IsStm w S x v) :
    Calls Tryz.prog 106 #[v, .string (txtOf s)] w fun e w' => e = .returned (.tuple #[jpO (jpOf x s), .bool (jpOf x s).isSome]) ∧ Below w.heap.size w w' := by
  cases x with
  | pro => simp [Stm.nk] at hk
  | chg g d =>
    simp only [IsStm] at hv
    subst hv
    have t1 := sw_chg_call
    have t2 := sw_chg_prt
    clear hx hk
    go_enter Tryz.func106, Tryz.ntmps106
    go_wp2_with fail
    refine bodyPost_ret (v := .tuple #[jpO (jpOf (.chg g d) s), .bool (jpOf (.chg g d) s).isSome]) ?_ rfl ⟨rfl, ?_⟩
    · simp [results, Tryz.results106, go_sem, jpO, jpOf, txtOf]
    · exact (Below.refl _ w).alloc (Nat.le_refl _) _
  | prt =>
    simp only [IsStm] at hv
    subst hv
    have t1 := sw_prt_call
    have t2 := sw_prt_prt
    clear hx hk
    go_enter Tryz.func106, Tryz.ntmps106
    go_wp2_with fail
    refine bodyPost_ret (v := .tuple #[jpO (jpOf .prt s), .bool (jpOf .prt s).isSome]) ?_ rfl ⟨rfl, ?_⟩
    · simp [results, Tryz.results106, go_sem, jpO, jpOf, jpV, txtOf]
    · exact ((Below.refl _ w).alloc (Nat.le_refl _) _).alloc (by simp) _
  | call c =>
    simp only [IsStm] at hv
    subst hv
    have t1 := sw_call_call
    have he := enc_let32 c (wf_call hx)
    clear hx hk
    go_enter Tryz.func106, Tryz.ntmps106
    go_wp2_with fail
    refine bodyPost_ret (v := .tuple #[jpO (jpOf (.call c) s), .bool (jpOf (.call c) s).isSome]) ?_ rfl ⟨rfl, ?_⟩
    · simp [results, Tryz.results106, go_sem, jpO, jpOf, jpV, txtOf]
    · exact ((Below.refl _ w).alloc (Nat.le_refl _) _).alloc (by simp) _
  | cho a b =>
    simp only [IsStm] at hv
    obtain ⟨va, vb, vas, vbs, rfl, r1, s1, r2, s2⟩ := hv
    obtain ⟨la, l1, lc, rfl⟩ := slice_form r1.1
    obtain ⟨fa, l2, fc, rfl⟩ := slice_form r2.1
    have t1 := sw_cho_call
    have t2 := sw_cho_prt
    clear hx hk r1 s1 r2 s2
    go_enter Tryz.func106, Tryz.ntmps106
    go_wp2_with fail
    refine bodyPost_ret (v := .tuple #[jpO (jpOf (.cho a b) s), .bool (jpOf (.cho a b) s).isSome]) ?_ rfl ⟨rfl, ?_⟩
    · simp [results, Tryz.results106, go_sem, jpO, jpOf, txtOf]
    · exact (Below.refl _ w).alloc (Nat.le_refl _) _

end Go.Proofs.YtomodlllmbkndaaGreatDoor
