/- Rows of inlined aspects: a cut and the function that puts its body around statements. Plain lemmas; no walk. The library's Backward over a row of inlined aspects: its closure hands each element out, the last one first. Inside a fence. readInlined: a row of inlined aspects out of a list of aspects. Conditions: at most 2^20 bytes; the errors lie where start-up laid them. What stands in place of a deed, by statements and by texts: plS and plU say the same. No walk, no condition. -/
import Derived.Test.YtkdnbdgpcgookaaGreatDoorQx
import Derived.RangeFuncBox
import Derived.RangeFuncLeaves
import Derived.Shelf.Abstract
import Derived.WalkKit
import Derived.OwnWalkIn
import Derived.TacticsInMore
import Derived.LoopNIn
import Derived.LoopIn
import Derived.Test.YtkdnbdgpcgookaaGreatDoorSx
import Derived.Test.YtkdnbdgpcgookaaGreatDoorFx
import Derived.Test.YtkdnbdgpcgookaaGreatDoorPx
namespace Go.Proofs.YtkdnbdgpcgookaaGreatDoor
open Go.RowKit Gram

/-- a block of statements -/
def StB (w : World) (k : Nat) : Prop := ∃ cur fz, w.heap[k]? = some (.cells cur 72 fz)
theorem Row.typed {w : World} {S : Nat → Prop} {v : Value} {vs : List Value} (h : Row w S v vs) : Row w (fun k => S k ∧ StB w k) v vs := by
  refine ⟨h.1, fun g hg => ⟨h.2 g hg, ?_⟩⟩
  rcases h.1.2 with ⟨h1, _⟩ | ⟨g', cap, cur, h1, _, hc, _⟩
  · rw [h1] at hg; cases hg
  · rw [h1] at hg
    have : g' = g := by simpa [Value.ownBlock] using hg
    subst this
    exact ⟨cur, _, hc⟩
mutual
theorem stm_typed {w : World} {S : Nat → Prop} (x : Stm) (v : Value) (h : IsStm w S x v) : IsStm w (fun k => S k ∧ StB w k) x v := by
  match x with
  | .chg g d => simpa only [IsStm] using h
  | .prt => simpa only [IsStm] using h
  | .pro => simpa only [IsStm] using h
  | .call c => simpa only [IsStm] using h
  | .cho a b =>
    simp only [IsStm] at h ⊢
    obtain ⟨va, vb, vas, vbs, he, r1, s1, r2, s2⟩ := h
    exact ⟨va, vb, vas, vbs, he, r1.typed, stms_typed a vas s1, r2.typed, stms_typed b vbs s2⟩
theorem stms_typed {w : World} {S : Nat → Prop} (xs : List Stm) (vs : List Value) (h : IsStms w S xs vs) : IsStms w (fun k => S k ∧ StB w k) xs vs := by
  match xs with
  | [] => simpa only [IsStms] using h
  | x :: xs =>
    simp only [IsStms] at h ⊢
    obtain ⟨v, t, he, h1, h2⟩ := h
    exact ⟨v, t, he, stm_typed x v h1, stms_typed xs t h2⟩
end
theorem body_typed {w : World} {S : Nat → Prop} {xs : List Stm} {v : Value} (h : IsBody w S xs v) : IsBody w (fun k => S k ∧ StB w k) xs v := by
  obtain ⟨vs, hr, hs⟩ := h
  exact ⟨vs, hr.typed, stms_typed xs vs hs⟩

/-- the function that puts a body around statements -/
def InlE (w : World) (v : Value) (xs : List Stm) : Prop :=
  ∃ gb la ln lc S, v = .func (.func 93) #[] #[.pointer (some ⟨gb, 0, none⟩)] ∧ w.heap[gb]? = some (.cells #[.slice la ln lc] 55 (0, 0)) ∧ IsBody w S xs (.slice la ln lc) ∧ ∀ k, S k → StB w k
theorem InlE.kept {w w' : World} {v : Value} {xs : List Stm} (h : InlE w v xs) (hk : ∀ (k : Nat) (cur : Array Value) (T : TypeId) (fz : Nat × Nat), w.heap[k]? = some (Obj.cells cur T fz) → T ≠ 121 → w'.heap[k]? = w.heap[k]?) : InlE w' v xs := by
  obtain ⟨gb, la, ln, lc, S, h1, h2, h3, h4⟩ := h
  have hS : ∀ k, S k → w'.heap[k]? = w.heap[k]? := fun k hk' => by obtain ⟨cur, fz, hc⟩ := h4 k hk'; exact hk k _ _ _ hc (by decide)
  exact ⟨gb, la, ln, lc, S, h1, by rw [hk gb _ _ _ h2 (by decide)]; exact h2, h3.kept hS (fun _ h => h), fun k hk' => by obtain ⟨cur, fz, hc⟩ := h4 k hk'; exact ⟨cur, fz, by rw [hS k hk']; exact hc⟩⟩

/-- a row of inlined aspects -/
structure Inl (w : World) (B g n c : Nat) (vals : List Value) (bs : List (List Stm)) : Prop where
  row : w.ownsRow B 121 2 (.slice (some ⟨g, 0, none⟩) n c) n vals
  len : bs.length = n
  each : ∀ i (h : i < bs.length), ∃ cty cpv fv, vals[i * 2]? = some (.iface cty cpv) ∧ vals[i * 2 + 1]? = some fv ∧ InlE w fv bs[i]
theorem Inl.later {w w' : World} {B g n c : Nat} {vals : List Value} {bs : List (List Stm)} (h : Inl w B g n c vals bs) (hb : Below w.heap.size w w') : Inl w' B g n c vals bs :=
  ⟨ownsRow_of h.row fun j hj => hb.block j (World.ownsRow.lt h.row j hj).2, h.len, fun i hi => by
    obtain ⟨cty, cpv, fv, h1, h2, h3⟩ := h.each i hi
    exact ⟨cty, cpv, fv, h1, h2, h3.kept fun k cur T fz hc _ => hb.block k (heap_lt hc)⟩⟩
theorem Inl.more {w w' : World} {B g n c g' c' : Nat} {vals : List Value} {bs : List (List Stm)} {cty : TypeId} {cpv fv : Value} {xs : List Stm} (h : Inl w B g n c vals bs) (hx : InlE w fv xs)
    (hown : w'.ownsRow B 121 2 (.slice (some ⟨g', 0, none⟩) (n + 1) c') (n + 1) (vals ++ [.iface cty cpv, fv])) (hg : w.grownBy w' (some g)) : Inl w' B g' (n + 1) c' (vals ++ [.iface cty cpv, fv]) (bs ++ [xs]) := by
  have hcell : ∃ cur, w.heap[g]? = some (.cells cur 121 (0, 0)) := by
    rcases h.row.2 with ⟨h1, _⟩ | ⟨g2, cap, cur, h1, _, hc, _⟩
    · cases h1
    · injection h1 with h1; injection h1 with h1; injection h1 with h1; subst h1; exact ⟨cur, hc⟩
  have hk : ∀ (k : Nat) (cur : Array Value) (T : TypeId) (fz : Nat × Nat), w.heap[k]? = some (Obj.cells cur T fz) → T ≠ 121 → w'.heap[k]? = w.heap[k]? := fun k cur T fz hc hT => by
    refine hg.block k (heap_lt hc) fun he => ?_
    injection he with he
    subst he
    obtain ⟨cur', hc'⟩ := hcell
    rw [hc] at hc'
    injection hc' with hc'
    injection hc' with _ h2 _
    exact hT h2
  have hvl : vals.length = n * 2 := h.row.1
  have hl := h.len
  refine ⟨hown, by simp [h.len], fun i hi => ?_⟩
  by_cases hin : i < bs.length
  · obtain ⟨cty', cpv', fv', h1, h2, h3⟩ := h.each i hin
    refine ⟨cty', cpv', fv', ?_, ?_, ?_⟩
    · rw [List.getElem?_append_left (by omega)]; exact h1
    · rw [List.getElem?_append_left (by omega)]; exact h2
    · rw [List.getElem_append_left hin]; exact h3.kept hk
  · have hie : i = bs.length := by simp at hi; omega
    subst hie
    refine ⟨cty, cpv, fv, ?_, ?_, ?_⟩
    · rw [List.getElem?_append_right (by omega), show bs.length * 2 - vals.length = 0 by omega]; rfl
    · rw [List.getElem?_append_right (by omega), show bs.length * 2 + 1 - vals.length = 1 by omega]; rfl
    · rw [List.getElem_append_right (Nat.le_refl _)]
      simp only [Nat.sub_self, List.getElem_cons_zero]
      exact hx.kept hk
end Go.Proofs.YtkdnbdgpcgookaaGreatDoor
namespace Go.Proofs.YtkdnbdgpcgookaaGreatDoor
open Go.RowKit Go.Shelf Gram

attribute [local go_sem] Oper.semAt_some

/-- what has come when k rounds are over -/
def bwdTo (len k : Nat) : List Nat := (List.range k).map fun i => len - 1 - i
theorem bwdTo_succ (len k : Nat) : bwdTo len (k + 1) = bwdTo len k ++ [len - 1 - k] := by simp [bwdTo, List.range_succ]
theorem bwdTo_length (len k : Nat) : (bwdTo len k).length = k := by simp [bwdTo]

/-- a round leaves the row and its box as they lay -/
def BwdK (b Bs : Nat) (W W' : World) : Prop := W'.heap[b]? = W.heap[b]? ∧ W'.heap[Bs]? = W.heap[Bs]?
theorem BwdK.trans {b Bs : Nat} {A B C : World} (h : BwdK b Bs A B) (k : BwdK b Bs B C) : BwdK b Bs A C := ⟨k.1.trans h.1, k.2.trans h.2⟩
theorem BwdK.of_below {b Bs n₀ : Nat} {A B : World} (h : Below n₀ A B) (h1 : b < n₀) (h2 : Bs < n₀) : BwdK b Bs A B := ⟨h.block b h1, h.block Bs h2⟩

set_option maxRecDepth 100000 in
set_option maxHeartbeats 4000000 in
theorem bwd1_in (F : Fence) (n : Nat) (h7 : F.fn 96) (hro : F.round = none) (hn : 1 ≤ n) (l Bs b len cap : Nat) (cv fv : Nat → Value) (hl : len ≤ 1000) (J Jx : List Nat → World → Prop)
    (hY : ∀ pre x W, J pre W → pre.length < len → YieldAt F (n - 1) Tryz.prog l #[.int .i64 (x : Nat), .agg #[cv x, fv x]] W fun e W' =>
      (e = .returned (.bool true) ∧ J (pre ++ [x]) W' ∧ BwdK b Bs W W') ∨ (e = .returned (.bool false) ∧ Jx (pre ++ [x]) W'))
    (W : World) (hBs : W.cell? ⟨Bs, 0, none⟩ = some (.slice (some ⟨b, 0, none⟩) len cap)) (hc : ∀ j, j < len → W.cell? ⟨b, j * 2, none⟩ = some (cv j) ∧ W.cell? ⟨b, j * 2 + 1, none⟩ = some (fv j)) (h0 : J [] W) :
    CallsIn F n Tryz.prog 96 #[.func (.yield l) #[] #[], .pointer (some ⟨Bs, 0, none⟩)] W fun e W' => (∃ v, e = .returned v) ∧
      (J (bwdTo len len) W' ∨ ∃ k, k ≤ len ∧ Jx (bwdTo len k) W') := by
  refine callsIn_of_wp Tryz.func96 rfl h7 ?_ hro
  simp only [Tryz.ntmps96, List.size_toArray, List.length_cons, List.length_nil, Nat.reduceAdd, Nat.reduceSub, Array.replicate_succ, Array.replicate_zero, List.push_toArray, List.append_toArray, List.nil_append, List.cons_append]
  gi_wp2
  gi_loopw [3] (fun p wr => ∃ (k : Nat) (v : Int), k ≤ len ∧ Hid (v = (len : Int) - 1 - k) ∧ p = .int .i64 v ∧ J (bwdTo len k) wr ∧ BwdK b Bs W wr) (fun p _ => (intOf p + 1).toNat)
  case atStart => exact ⟨0, (len : Int) - 1, Nat.zero_le _, (show _ = _ by simp), by first | rfl | go_num, h0, rfl, rfl⟩
  case round =>
    obtain ⟨k, v, hk, HV, rfl, hJs, hnx⟩ := hrel
    by_cases hlt : k < len
    · obtain ⟨x, hx⟩ : ∃ x, x = len - 1 - k := ⟨_, rfl⟩
      obtain ⟨fn, tmps, assign, body, hy, hR⟩ := hY _ x wr hJs (by rw [bwdTo_length]; exact hlt)
      have hve := HV.out
      have hxl : x < len := by omega
      have hxv : ((x : Nat) : Int) = v := by omega
      have hv0 : 0 ≤ v := by omega
      have hvt : v.toNat = x := by omega
      have hvn : v < (len : Int) := by omega
      have c0 := (World.cell?_of_block (a := ⟨b, x * 2, none⟩) hnx.1).trans (hc x hxl).1
      have c1 := (World.cell?_of_block (a := ⟨b, x * 2 + 1, none⟩) hnx.1).trans (hc x hxl).2
      have hBs' := (World.cell?_of_block (a := ⟨Bs, 0, none⟩) hnx.2).trans hBs
      rw [hxv] at hy
      have HX := Lib.hid hx
      clear hve hxv hx
      gi_wp2
      refine hR.mono ?_
      rintro e W3 (⟨rfl, hJ3, hk3⟩ | ⟨rfl, hJx3⟩)
      · gi_wp2
        go_roundw
        case rel => exact ⟨k + 1, v - 1, by omega, (show _ = _ by have := HV.out; omega), by go_num, by rw [bwdTo_succ, ← HX.out]; exact hJ3, hnx.trans hk3⟩
        case measure => simp [intOf]; omega
      · gi_wp2
        refine bodyPost_ret (results_none rfl _ _ _) rfl ?_
        exact ⟨⟨_, rfl⟩, .inr ⟨k + 1, by omega, by rw [bwdTo_succ, ← HX.out]; exact hJx3⟩⟩
    · obtain rfl : k = len := by omega
      have hneg : v < 0 := by have := HV.out; omega
      gi_wp2
      go_end0
      exact ⟨⟨_, rfl⟩, .inl hJs⟩
set_option maxHeartbeats 1000000 in
/-- Backward: the row is boxed; the function value captures the box. -/
theorem bwd_in (F : Fence) (n : Nat) (h5 : F.fn 72) (hro : F.round = none) (a : Option Addr) (len cap : Nat) (w : World) :
    CallsIn F n Tryz.prog 72 #[.slice a len cap] w fun e w' => e = .returned (.func (.func 96) #[] #[.pointer (some ⟨w.heap.size, 0, none⟩)]) ∧ w' = w.alloc (.cells #[.slice a len cap] 75) := by
  refine callsIn_of_wp Tryz.func72 rfl h5 ?_ hro
  simp only [Tryz.ntmps72, List.size_toArray, List.length_cons, List.length_nil, Nat.reduceAdd, Nat.reduceSub, Array.replicate_succ, Array.replicate_zero, List.push_toArray, List.append_toArray, List.nil_append, List.cons_append]
  gi_wp2
  go_ret
  exact ⟨rfl, rfl⟩

/-- what Backward hands back gives every element, the last one first; or a part of them -/
theorem bwd_stops (F : Fence) (n : Nat) (h7 : F.fn 96) (hro : F.round = none) (hn : 1 ≤ n) (Bs b len cap : Nat) (cv fv : Nat → Value) (hl : len ≤ 1000) (w : World) (hb : b < w.heap.size) (hBs : Bs < w.heap.size)
    (hc : w.cell? ⟨Bs, 0, none⟩ = some (.slice (some ⟨b, 0, none⟩) len cap)) (hI : ∀ j, j < len → w.cell? ⟨b, j * 2, none⟩ = some (cv j) ∧ w.cell? ⟨b, j * 2 + 1, none⟩ = some (fv j)) :
    SeqStopsK F n Tryz.prog 96 #[.pointer (some ⟨Bs, 0, none⟩)] (fun x : Nat => #[Value.int .i64 (x : Int), .agg #[cv x, fv x]]) (BwdK b Bs) (fun ys => ys = bwdTo len len) (fun pre => ∃ k, k ≤ len ∧ pre = bwdTo len k) len w := fun l J Jx W hW _ _ hY h0 => by
  have hc' := (hW.cell (p := ⟨Bs, 0, none⟩) (by show Bs < _; omega)).trans hc
  have hI' : ∀ j, j < len → W.cell? ⟨b, j * 2, none⟩ = some (cv j) ∧ W.cell? ⟨b, j * 2 + 1, none⟩ = some (fv j) := fun j hj =>
    ⟨(hW.cell (p := ⟨b, j * 2, none⟩) (by show b < _; omega)).trans (hI j hj).1, (hW.cell (p := ⟨b, j * 2 + 1, none⟩) (by show b < _; omega)).trans (hI j hj).2⟩
  refine (bwd1_in F n h7 hro hn l Bs b len cap cv fv hl J Jx hY W hc' hI' h0).mono ?_
  rintro e W' ⟨he, hj | ⟨k, hk, hj⟩⟩
  · exact ⟨he, .inl ⟨_, rfl, hj⟩⟩
  · exact ⟨he, .inr ⟨_, ⟨k, hk, rfl⟩, hj⟩⟩
end Go.Proofs.YtkdnbdgpcgookaaGreatDoor
namespace Go.Proofs.YtkdnbdgpcgookaaGreatDoor
open Go.RowKit Gram

theorem info_inl : (Tryz.prog.info? 121).map (fun i => (i.zero, i.size, i.bytes)) = some (some (.agg #[.nilIface, .nilFunc]), 2, 24) := by kernel_rfl
/-- the statements of the aspects of a list -/
def bsOf (zs : List As) : List (List Stm) := zs.map fun q => ((aspOf q.1 q.2.1 q.2.2).map (·.2)).getD []
theorem bsOf_take (zs : List As) (k : Nat) (h : k < zs.length) : bsOf (zs.take (k + 1)) = bsOf (zs.take k) ++ [((aspOf zs[k].1 zs[k].2.1 zs[k].2.2).map (·.2)).getD []] := by
  unfold bsOf; rw [List.take_succ_eq_append_getElem h, List.map_append]; rfl
theorem ardP_valid {p q : As} (h : ardP p = some q) : (aspOf q.1 q.2.1 q.2.2).isSome = true := by
  unfold ardP ardA at h
  split at h
  · split at h
    · rename_i h1; injection h with h; subst h; exact h1
    · cases h
  · cases h
theorem allZ_valid (zs : List As) : ∀ q ∈ allZ zs, ∃ n xs, aspOf q.1 q.2.1 q.2.2 = some (n, xs) := by
  intro q hq
  unfold allZ at hq
  split at hq
  · unfold ardQ at hq
    obtain ⟨p, _, hp⟩ := List.mem_filterMap.1 hq
    obtain ⟨⟨n, xs⟩, h⟩ := Option.isSome_iff_exists.1 (ardP_valid hp)
    exact ⟨n, xs, h⟩
  · cases hq
theorem allZ_len (zs : List As) : (allZ zs).length ≤ 5 := by
  unfold allZ
  split
  · rename_i h
    unfold allOk aspsP at h
    simp only [Bool.and_eq_true, decide_eq_true_eq] at h
    exact Nat.le_trans (List.length_filterMap_le _ _) h.1.2
  · simp

/-- what readInlined hands back -/
def RinTo (zs : List As) (w : World) (e : Ending) (w' : World) : Prop :=
  (∃ g c vals, e = .returned (.tuple #[.slice (some ⟨g, 0, none⟩) (allZ zs).length c, .bool (allOk zs)]) ∧ Inl w' w.heap.size g (allZ zs).length c vals (bsOf (allZ zs))) ∧ Below w.heap.size w w'

set_option maxHeartbeats 4000000 in
set_option maxRecDepth 100000 in
theorem rin_any (w : World) (a : Option Addr) (n c : Nat) (zs : List As) (hA : Asps w a n zs) (hn : n + asT zs ≤ 1048576) (ek ec eb el ep : Addr) (he : Errs w ek ec eb el ep) :
    Calls Tryz.prog 41 #[.slice a n c] w (RinTo zs w) := by
  have HV := Lib.hid (impl_all w a n c zs hA hn ek ec eb el ep he)
  unfold AllTo at HV
  have HE := Lib.hid he
  have HZv := Lib.hid (allZ_valid zs)
  have hzl : (allZ zs).length ≤ 1000 := Nat.le_trans (allZ_len zs) (by omega)
  have HG := Lib.hid (show ∀ e w', ((∃ g c vals, e = .returned (.tuple #[.slice (some ⟨g, 0, none⟩) (allZ zs).length c, .bool (allOk zs)]) ∧ Inl w' w.heap.size g (allZ zs).length c vals (bsOf (allZ zs))) ∧ Below w.heap.size w w') → RinTo zs w e w' from fun _ _ h => h)
  clear hA hn he
  obtain ⟨i0, hi, hz0, hz1, hz2⟩ := info_parts info_inl
  go_enter Tryz.func41, Tryz.ntmps41
  go_wp2_with fail
  refine HV.out.mono ?_
  rintro e w1 ⟨⟨a1, c1, rfl, hrow⟩, hb1⟩
  generalize allZ zs = Z at *
  generalize allOk zs = okb at *
  have HRow := Lib.hid (show Asps w1 a1 Z.length Z from asps_of_row hrow)
  have HB1 := Lib.hid hb1
  have hs1 := hb1.size
  clear hrow hb1
  go_wp2_with (at_make; refine wpList_make_own _ rfl _ _ 75 rfl w.heap.size 121 i0 (.agg #[.nilIface, .nilFunc]) 2 Tryz.underlying75 hi hz0 hz1 _ _ _ Z.length rfl rfl (by omega) ?c1 ?c2 ?c3 ?_)
  case c1 => rw [hz2]; omega
  case c2 => unfold maxLen; omega
  case c3 => exact hs1
  intro w2 hown hgrow
  have hgg : ∀ g, (Value.slice (some ⟨w1.heap.size, 0, none⟩) 0 Z.length).ownBlock = some g → w1.heap.size ≤ g := fun g hg => by
    have h1 : w1.heap.size = g := by simpa [Value.ownBlock] using hg
    omega
  have HI0 := Lib.hid (show Inl w2 w1.heap.size w1.heap.size 0 Z.length [] (bsOf (Z.take 0)) from ⟨ownsRow_base hown hgg, rfl, fun i h => by simp [bsOf] at h⟩)
  clear hgg
  have HB2 := Lib.hid (show Below w1.heap.size w1 w2 from (Below.refl _ w1).grown hgrow (Nat.le_refl _) (fun k hk => by cases hk))
  clear hown hgrow
  go_wp2_with fail
  go_loopw [6, 23] (fun v i wr => ∃ (k g cc : Nat), k ≤ Z.length ∧ i = .int .i64 k ∧ v = .slice (some ⟨g, 0, none⟩) k cc ∧ Hid (∃ vals, Inl wr w1.heap.size g k cc vals (bsOf (Z.take k))) ∧ Hid (Below w1.heap.size w1 wr)) (fun _ i _ => Z.length - (intOf i).toNat)
  case atStart => exact ⟨0, _, _, Nat.zero_le _, by go_num, rfl, ⟨_, HI0.out⟩, HB2.out⟩
  case round =>
    obtain ⟨k, gr, cr, hk, rfl, rfl, hI, hW⟩ := hrel
    have hszr := hW.out.size
    by_cases hlt : k < Z.length
    · obtain ⟨g, off, rfl, c0, c1, c2⟩ := (HRow.out.later hW.out).at_ k hlt
      obtain ⟨n0, xs, hasp⟩ := HZv.out Z[k] (List.getElem_mem hlt)
      have HT := Lib.hid (bsOf_take Z k hlt)
      obtain ⟨_, hcs, hadv, _⟩ := aspOf_some hasp
      have hbz := (advOf_some hadv).1
      obtain ⟨x, hx⟩ := Option.isSome_iff_exists.1 hcs
      have hcz := (cutOf_some hx).1
      have HRd := Lib.hid (fun w' (hb : Below w1.heap.size w1 w') => rasp_any Z[k].1 Z[k].2.1 Z[k].2.2 w' ek ec eb el ep (HE.out.later (HB1.out.trans (hb.mono hs1))) (by omega) (by omega))
      have HCt := Lib.hid (fun w' => read_cut Z[k].2.1 w' (by omega))
      unfold RaspTo aspV at HRd
      unfold ReadC at HCt
      rw [hasp] at HRd HT
      rw [hx] at HCt
      clear hasp hcs hadv hx hbz hcz
      generalize Z[k] = p at *
      obtain ⟨px, py, pz⟩ := p
      simp only [Option.map_some, Option.getD_some] at HRd HCt HT c0 c1 c2
      have HB0 := Lib.hid (hW.out.alloc hszr (Obj.cells #[.string px, .string py, .string pz] 24))
      have HN0 := Lib.hid (Cell3.new wr (.string px) (.string py) (.string pz))
      go_wp2_with fail
      refine (HRd.out _ HB0.out).mono ?_
      rintro e w5 ⟨⟨bv, S, rfl, hbody, hS⟩, hb5⟩
      obtain ⟨vsb, hrb, hsb⟩ := hbody
      obtain ⟨la, ln, lc, rfl⟩ := slice_form hrb.1
      have HBd := Lib.hid (body_typed ⟨vsb, hrb, hsb⟩)
      have HB5 := Lib.hid (HB0.out.trans (hb5.mono HB0.out.size))
      have HN5 := Lib.hid (HN0.out.later hb5)
      have Hb5 := Lib.hid (show Below wr.heap.size wr w5 from ((Below.refl wr.heap.size wr).alloc (Nat.le_refl _) _).trans (hb5.mono (by rw [alloc_size']; omega)))
      have HN6 := Lib.hid (HN5.out.later ((Below.refl _ w5).alloc (Nat.le_refl _) (Obj.cells #[.int .i64 n0, .slice la ln lc] 57)))
      obtain ⟨q0, q1, q2, f0, f1, f2⟩ := HN6.out.read
      clear hrb hsb hS hb5
      go_wp2_with fail
      refine (HCt.out _).mono ?_
      rintro e w6 ⟨rfl, hb6⟩
      have hblk : w6.heap[w5.heap.size]? = some (.cells #[.int .i64 n0, .slice la ln lc] 57 (0, 0)) := by
        rw [hb6.block _ (by rw [alloc_size']; omega)]; exact heap_alloc_new _ _
      have qa : w6.cell? ⟨w5.heap.size, 1, none⟩ = some (.slice la ln lc) := by rw [Lib.cell_of_heap hblk]; rfl
      have hb56 : Below w5.heap.size w5 w6 := ((Below.refl _ w5).alloc (Nat.le_refl _) _).trans (hb6.mono (by rw [alloc_size']; omega))
      have HB6 := Lib.hid (HB5.out.trans (hb56.mono HB5.out.size))
      have hs6 := HB6.out.size
      have hk6 : ∀ k, (S k ∧ StB w5 k) → w6.heap[k]? = w5.heap[k]? := fun k hk => by obtain ⟨_, cur, fz, hc⟩ := hk; exact hb56.block k (heap_lt hc)
      have hBd6 := HBd.out.kept (w' := w6.alloc (Obj.cells #[.slice la ln lc] 55)) (fun k hk => by
        obtain ⟨_, cur, fz, hc⟩ := hk
        rw [Lib.alloc_old _ _ _ (Nat.lt_of_lt_of_le (heap_lt hc) hb56.size)]; exact hb56.block k (heap_lt hc)) (fun _ h => h)
      have HE7 := Lib.hid (show InlE (w6.alloc (Obj.cells #[.slice la ln lc] 55)) (.func (.func 93) #[] #[.pointer (some ⟨w6.heap.size, 0, none⟩)]) xs from
        ⟨w6.heap.size, la, ln, lc, _, rfl, heap_alloc_new _ _, hBd6, fun k hk => by
          obtain ⟨hk1, cur, fz, hc⟩ := hk
          exact ⟨cur, fz, by rw [Lib.alloc_old _ _ _ (Nat.lt_of_lt_of_le (heap_lt hc) hb56.size), hb56.block k (heap_lt hc)]; exact hc⟩⟩)
      obtain ⟨vals, hinl⟩ := hI.out
      have HI6 := Lib.hid (hinl.later (Hb5.out.trans (hb56.mono Hb5.out.size)))
      obtain ⟨cty, cpv, hcv⟩ : ∃ cty cpv, x.val = .iface cty cpv := by cases x <;> exact ⟨_, _, rfl⟩
      rw [hcv]
      clear hb6 hblk hb56 hk6 hBd6 hinl hI hcv q0 q1 q2 f0 f1 f2
      go_wp2_with fail
      refine (sro_any w6 la ln lc).mono ?_
      rintro e w7 ⟨rfl, rfl⟩
      have HI7 := Lib.hid (HI6.out.later ((Below.refl _ w6).alloc (Nat.le_refl _) (Obj.cells #[.slice la ln lc] 55)))
      have HI8 := Lib.hid (HI7.out.later ((Below.refl _ _).alloc (Nat.le_refl _) (Obj.cells #[.iface cty cpv, .func (.func 93) #[] #[.pointer (some ⟨w6.heap.size, 0, none⟩)]] 121)))
      have HE8 := Lib.hid (HE7.out.kept (w' := (w6.alloc (Obj.cells #[.slice la ln lc] 55)).alloc (Obj.cells #[.iface cty cpv, .func (.func 93) #[] #[.pointer (some ⟨w6.heap.size, 0, none⟩)]] 121)) fun k cur T fz hc _ => Lib.alloc_old _ _ _ (heap_lt hc))
      have HNw := Lib.hid (show ∀ (j : Nat) (u : Value), [Value.iface cty cpv, .func (.func 93) #[] #[.pointer (some ⟨w6.heap.size, 0, none⟩)]][j]? = some u → ((w6.alloc (Obj.cells #[.slice la ln lc] 55)).alloc (Obj.cells #[.iface cty cpv, .func (.func 93) #[] #[.pointer (some ⟨w6.heap.size, 0, none⟩)]] 121)).cell? ((⟨w6.heap.size + 1, 0, none⟩ : Addr).add j) = some u from by
        rw [← alloc_size' w6 (Obj.cells #[.slice la ln lc] 55)]
        exact World.news_of_block (cs := #[.iface cty cpv, .func (.func 93) #[] #[.pointer (some ⟨w6.heap.size, 0, none⟩)]]) (heap_alloc_new _ _))
      go_wp2_with (at_builtin; go_loud (refine wpList_append_lies _ rfl _ _ 75 rfl w1.heap.size 121 i0 (.agg #[.nilIface, .nilFunc]) 2 24 Tryz.underlying75 hi hz0 hz1 hz2 rfl (by decide) (.slice (some ⟨gr, 0, none⟩) k cr) k vals rfl HI8.out.row ⟨w6.heap.size + 1, 0, none⟩ 1 1 [.iface cty cpv, .func (.func 93) #[] #[.pointer (some ⟨w6.heap.size, 0, none⟩)]] rfl rfl HNw.out (by intro u hu; simp at hu; rcases hu with rfl | rfl; rfl; rfl) (by decide) (by unfold maxLen; omega) (by omega) (by rw [alloc_size', alloc_size']; omega) _ rfl ?_); intro g' cap' w9 hown' hgrow hat hlt')
      have HM := Lib.hid (HI8.out.more HE8.out hown' hgrow)
      have hgr := (World.ownsRow.lt HI8.out.row gr rfl).1
      have HB9 := Lib.hid (show Below w1.heap.size w1 w9 from ((HB6.out.alloc hs6 _).alloc (by rw [alloc_size']; omega) _).grown hgrow (by rw [alloc_size', alloc_size']; omega) (fun j hj => World.ownsRow.lt HI8.out.row j hj |>.1))
      clear hown' hgrow hat hlt'
      go_wp2_with fail
      exact ⟨⟨k + 1, _, _, by omega, by go_num, rfl, ⟨_, by rw [HT.out]; exact HM.out⟩, HB9.out⟩, by simp [intOf]; omega⟩
    · have hkn : k = Z.length := by omega
      subst hkn
      obtain ⟨vals, hinl⟩ := hI.out
      rw [List.take_length] at hinl
      have HRes := Lib.hid (show Inl wr w.heap.size gr Z.length cr vals (bsOf Z) from ⟨ownsRow_base hinl.row (fun g hg => by
        have h1 := (World.ownsRow.lt hinl.row g hg).1
        omega), hinl.len, hinl.each⟩)
      clear hinl hI
      go_wp2_with fail
      go_ret2
      exact HG.out _ _ ⟨⟨gr, cr, vals, rfl, HRes.out⟩, HB1.out.trans (hW.out.mono hs1)⟩
end Go.Proofs.YtkdnbdgpcgookaaGreatDoor
namespace Go.Proofs.YtkdnbdgpcgookaaGreatDoor
open Go.RowKit Gram

/-- statements within bodies of advice, the innermost first; none where their text grows over 400 on the way -/
def plS : List (List Stm) → List Stm → Option (List Stm)
  | [], s => some s
  | b :: bs, s => match plS bs s with
    | none => none
    | some o => if 400 < (txts (plugs o b)).length then none else some (plugs o b)
theorem plS_drop (bs : List (List Stm)) (s : List Stm) (k : Nat) (h : k < bs.length) : plS (bs.drop k) s = match plS (bs.drop (k + 1)) s with
    | none => none
    | some o => if 400 < (txts (plugs o bs[k])).length then none else some (plugs o bs[k]) := by
  rw [List.drop_eq_getElem_cons h]; rfl
theorem plS_none (bs : List (List Stm)) (s : List Stm) : ∀ k, plS (bs.drop k) s = none → plS bs s = none := by
  intro k
  induction k with
  | zero => intro h; simpa using h
  | succ k ih =>
    intro h
    by_cases hk : k < bs.length
    · exact ih (by rw [plS_drop bs s k hk, h])
    · exact ih (by rw [List.drop_eq_nil_of_le (by omega)] at h; cases h)
theorem plS_le (bs : List (List Stm)) (s o : List Stm) (hs : (txts s).length ≤ 400) (h : plS bs s = some o) : (txts o).length ≤ 400 := by
  cases bs with
  | nil => simp only [plS, Option.some.injEq] at h; subst h; exact hs
  | cons b bs =>
    simp only [plS] at h
    split at h
    · cases h
    · split at h
      · cases h
      · injection h with h; subst h; omega
/-- a body of a valid aspect -/
theorem ardB_body {z : As} (h : ardOk z = true) : ∃ q xs, ardP z = some q ∧ ((aspOf q.1 q.2.1 q.2.2).map (·.2)).getD [] = xs ∧ (ardB z).data.toList = txts xs ∧ wfs xs = true ∧ (txts xs).length ≤ 60 := by
  unfold ardOk at h
  obtain ⟨q, h⟩ := Option.isSome_iff_exists.1 h
  obtain ⟨⟨n, xs⟩, h1⟩ := Option.isSome_iff_exists.1 (ardP_valid h)
  obtain ⟨_, _, h2, _⟩ := aspOf_some h1
  obtain ⟨h3, h4, h5, _⟩ := advOf_some h2
  refine ⟨q, xs, h, by rw [h1]; rfl, by unfold ardB; rw [h]; exact h4, h5, ?_⟩
  rw [← h4]; simpa using h3
theorem plU_plS (zs : List As) (s : List Stm) (h : zs.all ardOk = true) : plU zs (txts s) = (plS (bsOf (ardQ zs)) s).map txts := by
  induction zs with
  | nil => rfl
  | cons z zs ih =>
    simp only [List.all_cons, Bool.and_eq_true] at h
    obtain ⟨q, xs, h1, h2, h3, h4, _⟩ := ardB_body h.1
    have hq : bsOf (ardQ (z :: zs)) = xs :: bsOf (ardQ zs) := by
      unfold ardQ bsOf
      rw [List.filterMap_cons, h1]
      simp only [List.map_cons]
      rw [h2]
    rw [hq]
    simp only [plU, plS]
    rw [ih h.2, h3]
    cases plS (bsOf (ardQ zs)) s with
    | none => rfl
    | some o =>
      simp only [Option.map_some]
      rw [stms_plug o xs h4]
      split
      · rfl
      · rfl
theorem bsOf_small (zs : List As) (h : zs.all ardOk = true) : ∀ b ∈ bsOf (ardQ zs), wfs b = true ∧ (txts b).length ≤ 60 := by
  induction zs with
  | nil => intro b hb; simp [ardQ, bsOf] at hb
  | cons z zs ih =>
    simp only [List.all_cons, Bool.and_eq_true] at h
    obtain ⟨q, xs, h1, h2, _, h4, h5⟩ := ardB_body h.1
    have hq : bsOf (ardQ (z :: zs)) = xs :: bsOf (ardQ zs) := by
      unfold ardQ bsOf
      rw [List.filterMap_cons, h1]
      simp only [List.map_cons]
      rw [h2]
    intro b hb
    rw [hq] at hb
    rcases List.mem_cons.1 hb with rfl | hb
    · exact ⟨h4, h5⟩
    · exact ih h.2 b hb
mutual
theorem flat_txt (x : Stm) : x.flat.length ≤ x.txt.length := by
  match x with
  | .chg g d => simp [Stm.flat, Stm.txt]
  | .prt => simp [Stm.flat, Stm.txt]
  | .pro => simp [Stm.flat, Stm.txt]
  | .call c => simp [Stm.flat, Stm.txt]
  | .cho a b =>
    have ha := flats_txt a
    have hb := flats_txt b
    simp [Stm.flat, Stm.txt]; omega
theorem flats_txt (xs : List Stm) : (flats xs).length ≤ (txts xs).length := by
  match xs with
  | [] => simp [flats, txts]
  | x :: xs =>
    have ha := flat_txt x
    have hb := flats_txt xs
    simp [flats, txts]; omega
end
theorem len_txts (xs : List Stm) : xs.length ≤ (txts xs).length := Nat.le_trans (flats_ge xs) (flats_txt xs)
end Go.Proofs.YtkdnbdgpcgookaaGreatDoor
