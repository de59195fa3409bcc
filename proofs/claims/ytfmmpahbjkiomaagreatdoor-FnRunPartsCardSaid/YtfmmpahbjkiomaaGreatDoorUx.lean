/- How much a run holds; rows that stay. Plain lemmas. The laws' eqOutcome, markOutcome and heldOutcome. Condition: lists of at most 2^20 numbers. SameOutcome of the program; the laws' wvNumbers and wvOutcome. Condition: lists of at most 2^20 numbers. RunProgram of the program and of the model. Conditions: texts of at most 2^30 bytes, and the library's own number can be read. -/
import Derived.Test.YtfmmpahbjkiomaaGreatDoorRx
import Derived.Test.YtfmmpahbjkiomaaGreatDoorMx
import Derived.Test.YtfmmpahbjkiomaaGreatDoorInts
import Derived.Test.YtfmmpahbjkiomaaGreatDoorRd
import Derived.Test.YtfmmpahbjkiomaaGreatDoorDx
import Derived.Deep.QuietTactic
namespace Go.Proofs.YtfmmpahbjkiomaaGreatDoor
open Go.RowKit Gram

/-- how much a run holds -/
theorem runP_small {s nm : ByteArray} {v : Int} {r : Mst × Option Fin} (h : runP s nm v = some r) : r.1.out.length ≤ 500 ∧ r.1.pts.length ≤ 501 := by
  unfold runP at h
  cases hp : progOf s with
  | none => rw [hp] at h; cases h
  | some ps =>
    cases hl : lookP s nm with
    | none => rw [hp, hl] at h; cases h
    | some p =>
      rw [hp, hl] at h
      dsimp only at h
      split at h
      · rename_i hv
        injection h with h
        have hlet : isLet p.1 = true := ((prog_facts hp).2.1 p (look_mem hp hl).1).2.2.2
        have hB : ∀ c, wfs (bodyP ps c) = true := fun c => by
          unfold bodyP
          split
          · rename_i q hq
            exact (fits_ps hp q (List.mem_of_find?_eq_some hq)).1
          · rfl
        have hk := exec_keeps hB 501 ((Mst.start v).enter p.1) (bodyP ps p.1) (start_ok hv.1 hv.2 hlet) (hB p.1)
        unfold runOf callBy at h
        cases hr : exec (bodyP ps) 501 ((Mst.start v).enter p.1) (bodyP ps p.1) with
        | mk m' o =>
          rw [hr] at h hk
          have h1 := hk.1.out
          have h2 := hk.1.steps
          have h3 := hk.1.pts
          cases o with
          | none => subst h; exact ⟨by show m'.out.length ≤ 500; dsimp only at h1 h2; omega, by show m'.pts.length ≤ 501; dsimp only at h3 h2; omega⟩
          | some f => subst h; exact ⟨by show m'.out.length ≤ 500; dsimp only at h1 h2; omega, by show m'.pts.length ≤ 501; dsimp only at h3 h2; omega⟩
      · cases h
end Go.Proofs.YtfmmpahbjkiomaaGreatDoor
namespace Go.Proofs.YtfmmpahbjkiomaaGreatDoor
open Go.RowKit

/-- an outcome as a value -/
def oV (v : Int) (a : Option Addr) (n c : Nat) (e : ByteArray) (st : Int) : Value := .agg #[.int .i64 v, .slice a n c, .string e, .int .i64 st]
/-- two outcomes that lie one behind the other -/
theorem two_lie {w w3 : World} {x0 x1 x2 x3 y0 y1 y2 y3 : Value} {t t' : TypeId} (hb : Below (w.heap.size + 1 + 1) ((w.alloc (Obj.cells #[x0, x1, x2, x3] t)).alloc (Obj.cells #[y0, y1, y2, y3] t')) w3) :
    w3.heap[w.heap.size]? = some (.cells #[x0, x1, x2, x3] t (0, 0)) ∧ w3.heap[w.heap.size + 1]? = some (.cells #[y0, y1, y2, y3] t' (0, 0)) ∧ Below w.heap.size w w3 := by
  have h0 := heap_alloc_new w (Obj.cells #[x0, x1, x2, x3] t)
  have h1 := heap_alloc_new (w.alloc (Obj.cells #[x0, x1, x2, x3] t)) (Obj.cells #[y0, y1, y2, y3] t')
  rw [alloc_size'] at h1
  refine ⟨(hb.block _ (by omega)).trans ((alloc_heap _ _ (by rw [alloc_size']; omega)).trans h0), (hb.block _ (by omega)).trans h1, ?_⟩
  exact (((Below.refl w.heap.size w).alloc (Nat.le_refl _) _).alloc (by rw [alloc_size']; omega) _).trans (hb.mono (by omega))
theorem read4 {w : World} {g : Nat} {x0 x1 x2 x3 : Value} {t : TypeId} (h : w.heap[g]? = some (.cells #[x0, x1, x2, x3] t (0, 0))) : w.cell? ⟨g, 0, none⟩ = some x0 ∧ w.cell? ⟨g, 1, none⟩ = some x1 ∧ w.cell? ⟨g, 2, none⟩ = some x2 ∧ w.cell? ⟨g, 3, none⟩ = some x3 := by
  refine ⟨?_, ?_, ?_, ?_⟩ <;> (rw [Lib.cell_of_heap h]; rfl)

/-- a row of numbers is a list of them -/
theorem ints_of {w : World} {B n c : Nat} {a : Option Addr} {zs : List Int} (h : w.ownsRow B 3 1 (.slice a n c) n (intVs zs)) : Ints w a n zs := by
  have hl : zs.length = n := by have := h.1; rw [intVs_len] at this; omega
  refine ⟨hl, fun i hi => ?_⟩
  rcases h.2 with ⟨h1, h2⟩ | ⟨g, cap, cur, h1, hb, hc, hm⟩
  · omega
  · injection h1 with h1 h2 h3
    subst h1; subst h3
    exact ⟨g, 0, rfl, by
      rw [Nat.zero_add]
      exact row_cell h i _ (by simp [intVs, hi])⟩

/-- numbers in order from k on, n of them, in front of what stands behind -/
def nums (k : Nat) (j : Nat) (zs : List Int) : List Int := (List.range' k j).map (fun i => ((i : Nat) : Int)) ++ zs.drop j
theorem nums_zero (k : Nat) (zs : List Int) : nums k 0 zs = zs := by simp [nums]
theorem nums_len (k j : Nat) (zs : List Int) (h : j ≤ zs.length) : (nums k j zs).length = zs.length := by simp [nums]; omega
theorem nums_get (k j : Nat) (zs : List Int) (i : Nat) (hi : i < j) : (nums k j zs)[i]? = some (((k + i : Nat)) : Int) := by
  unfold nums
  rw [List.getElem?_append_left (by simp; exact hi), List.getElem?_map, List.getElem?_range' hi]
  simp
theorem nums_set (k j : Nat) (zs : List Int) (h : j < zs.length) : (nums k j zs).set j ((k + j : Nat) : Int) = nums k (j + 1) zs := by
  apply List.ext_getElem?
  intro i
  rw [List.getElem?_set]
  by_cases hij : j = i
  · subst hij
    rw [if_pos rfl, if_pos (by rw [nums_len k j zs (by omega)]; exact h), nums_get k (j + 1) zs j (by omega)]
  · rw [if_neg hij]
    by_cases hlt : i < j
    · rw [nums_get k j zs i hlt, nums_get k (j + 1) zs i (by omega)]
    · unfold nums
      rw [List.getElem?_append_right (by simp; omega), List.getElem?_append_right (by simp; omega)]
      simp only [List.length_map, List.length_range', List.getElem?_drop]
      congr 1
      omega

theorem intVs_set (zs : List Int) (j : Nat) (x : Int) : intVs (zs.set j x) = (intVs zs).set j (.int .i64 x) := by simp [intVs, List.map_set]

end Go.Proofs.YtfmmpahbjkiomaaGreatDoor
namespace Go.Proofs.YtfmmpahbjkiomaaGreatDoor
open Go.RowKit

set_option maxHeartbeats 1000000 in
set_option maxRecDepth 100000 in
theorem equal_any (w : World) (a b : Option Addr) (n c m d : Nat) (zs ws : List Int) (hA : Ints w a n zs) (hB : Ints w b m ws) (hn : n ≤ 1099511627776) (hm : m ≤ 1099511627776) :
    Calls Tryz.prog 85 #[.slice a n c, .slice b m d] w fun e w' => e = .returned (.bool (zs == ws)) ∧ Below w.heap.size w w' := by
  have HA := Lib.hid hA
  have HB := Lib.hid hB
  by_cases hl : n = m
  · subst hl
    clear hA hB
    go_enter Tryz.func85, Tryz.ntmps85
    go_wp2_with fail
    go_loopw [13] (fun i wr => ∃ k : Nat, k ≤ n ∧ i = .int .i64 k ∧ Hid (zs.take k = ws.take k) ∧ Hid (Below w.heap.size w wr)) (fun i _ => n - (intOf i).toNat)
    case atStart => exact ⟨0, Nat.zero_le _, by go_num, rfl, Below.refl _ _⟩
    case round =>
      obtain ⟨k, hk, rfl, hE, hW⟩ := hrel
      by_cases hlt : k < n
      · have hz : k < zs.length := by rw [HA.out.len]; exact hlt
        have hw : k < ws.length := by rw [HB.out.len]; exact hlt
        obtain ⟨g, off, rfl, q1⟩ := HA.out.at_ k hz
        obtain ⟨g', off', rfl, q2⟩ := HB.out.at_ k hw
        have c1 : wr.cell? ⟨g, off + k, none⟩ = some (.int .i64 zs[k]) := by rw [hW.out.cell (p := ⟨g, off + k, none⟩) (World.block_lt_of_cell? w _ q1)]; exact q1
        have c2 : wr.cell? ⟨g', off' + k, none⟩ = some (.int .i64 ws[k]) := by rw [hW.out.cell (p := ⟨g', off' + k, none⟩) (World.block_lt_of_cell? w _ q2)]; exact q2
        have HT := Lib.hid (take_eq zs ws k hz hw)
        clear q1 q2
        have HNe := Lib.hid (fun (h : zs[k] ≠ ws[k]) => show (zs == ws) = false by
          rw [beq_eq_false_iff_ne]; rintro rfl; exact h rfl)
        generalize zs[k] = x at *
        generalize ws[k] = y at *
        cases hxy : (x == y) with
        | true =>
          have HX := Lib.hid (by simpa using hxy : x = y)
          go_wp2_with fail
          go_quiet (fail)
          go_wp2_with fail
          go_roundw
          case rel => exact ⟨k + 1, by omega, by go_num, HT.out.2 ⟨hE.out, HX.out⟩, hW.out.trans ⟨rfl, rfl, rfl, Nat.le_refl _, fun _ _ => rfl⟩⟩
          case measure => simp [intOf]; omega
        | false =>
          have HX := Lib.hid (HNe.out (by simpa using hxy))
          go_wp2_with fail
          go_quiet (fail)
          go_wp2_with fail
          go_ret
          exact ⟨ret_bool HX.out.symm, hW.out.trans ⟨rfl, rfl, rfl, Nat.le_refl _, fun _ _ => rfl⟩⟩
      · have HEq := Lib.hid (show (zs == ws) = true by
          have h := hE.out
          rw [List.take_of_length_le (by rw [HA.out.len]; omega), List.take_of_length_le (by rw [HB.out.len]; omega)] at h
          rw [h]; simp)
        go_wp2_with fail
        go_ret
        exact ⟨ret_bool HEq.out.symm, hW.out⟩
  · have hne : ((n : Int) == (m : Int)) = false := by rw [beq_eq_false_iff_ne]; omega
    have HN := Lib.hid (show (zs == ws) = false by
      rw [beq_eq_false_iff_ne]
      intro e
      have h1 := hA.len
      have h2 := hB.len
      rw [e] at h1
      omega)
    clear hA hB
    go_enter Tryz.func85, Tryz.ntmps85
    go_wp2_with fail
    go_ret
    exact ⟨by rw [HN.out]; rfl, Below.refl _ _⟩

/-- the same value, prints and end -/
def sameP (v v' : Int) (zs zs' : List Int) (e e' : ByteArray) : Bool := (v == v') && ((zs == zs') && (e.toList == e'.toList))

set_option maxHeartbeats 1000000 in
set_option maxRecDepth 100000 in
theorem impl_same (w : World) (v v' : Int) (a a' : Option Addr) (n c n' c' : Nat) (zs zs' : List Int) (e e' : ByteArray) (st st' : Int) (hA : Ints w a n zs) (hB : Ints w a' n' zs') (hn : n ≤ 1048576) (hn' : n' ≤ 1048576) :
    Calls Tryz.prog 51 #[oV v a n c e st, oV v' a' n' c' e' st'] w fun r w' => r = .returned (.bool (sameP v v' zs zs' e e')) ∧ Below w.heap.size w w' := by
  have HE := Lib.hid (fun w' hb => equal_any w' a a' n c n' c' zs zs' (hA.later hb) (hB.later hb) (by omega) (by omega))
  clear hA hB
  unfold oV
  by_cases hv : v = v'
  · subst hv
    have HS := Lib.hid (show sameP v v zs zs' e e' = ((zs == zs') && (e.toList == e'.toList)) by simp [sameP])
    rw [HS.out]
    cases hz : zs == zs' with
    | false =>
      rw [hz] at HE
      go_enter Tryz.func51, Tryz.ntmps51
      go_wp2_with fail
      refine (HE.out _ (((Below.refl w.heap.size w).alloc (Nat.le_refl _) _).alloc (by simp) _)).mono ?_
      rintro r w3 ⟨rfl, hb⟩
      rw [alloc_size', alloc_size'] at hb
      have HB := Lib.hid (two_lie hb).2.2
      clear hb
      go_wp2_with fail
      go_ret
      exact ⟨rfl, HB.out⟩
    | true =>
      rw [hz] at HE
      rw [Bool.true_and]
      go_enter Tryz.func51, Tryz.ntmps51
      go_wp2_with fail
      refine (HE.out _ (((Below.refl w.heap.size w).alloc (Nat.le_refl _) _).alloc (by simp) _)).mono ?_
      rintro r w3 ⟨rfl, hb⟩
      rw [alloc_size', alloc_size'] at hb
      obtain ⟨l0, l1, hB⟩ := two_lie hb
      have HB := Lib.hid hB
      obtain ⟨_, _, q2, _⟩ := read4 l0
      obtain ⟨_, _, r2, _⟩ := read4 l1
      clear hb l0 l1 hB
      go_wp2_with fail
      go_ret
      exact ⟨rfl, HB.out⟩
  · have hvb : (v == v') = false := by rw [beq_eq_false_iff_ne]; exact hv
    have HS := Lib.hid (show sameP v v' zs zs' e e' = false by rw [sameP, hvb]; rfl)
    rw [HS.out]
    clear hv
    go_enter Tryz.func51, Tryz.ntmps51
    go_wp2_with fail
    go_ret
    exact ⟨rfl, ((Below.refl w.heap.size w).alloc (Nat.le_refl _) _).alloc (by simp) _⟩


set_option maxHeartbeats 1000000 in
set_option maxRecDepth 100000 in
theorem wvNum_any (w : World) (a b : Option Addr) (n c d : Nat) (zs : List Int) (hA : Ints w a n zs) (hB : Ints w b n zs) (hn : n ≤ 1048576) :
    Calls Tryz.prog 21 #[.slice a n c, .slice b n d] w fun e w' => e = .returned (.bool true) ∧ Below w.heap.size w w' := by
  have HA := Lib.hid hA
  have HB := Lib.hid hB
  clear hA hB
  go_enter Tryz.func21, Tryz.ntmps21
  go_wp2_with fail
  go_loopw [11] (fun i wr => ∃ k : Nat, k ≤ n ∧ i = .int .i64 k ∧ Hid (Below w.heap.size w wr)) (fun i _ => n - (intOf i).toNat)
  case atStart => exact ⟨0, Nat.zero_le _, by go_num, Below.refl _ _⟩
  case round =>
    obtain ⟨k, hk, rfl, hW⟩ := hrel
    by_cases hlt : k < n
    · have hz : k < zs.length := by rw [HA.out.len]; exact hlt
      obtain ⟨g, off, rfl, q1⟩ := HA.out.at_ k hz
      obtain ⟨g', off', rfl, q2⟩ := HB.out.at_ k hz
      have c1 : wr.cell? ⟨g, off + k, none⟩ = some (.int .i64 zs[k]) := by rw [hW.out.cell (p := ⟨g, off + k, none⟩) (World.block_lt_of_cell? w _ q1)]; exact q1
      have c2 : wr.cell? ⟨g', off' + k, none⟩ = some (.int .i64 zs[k]) := by rw [hW.out.cell (p := ⟨g', off' + k, none⟩) (World.block_lt_of_cell? w _ q2)]; exact q2
      clear q1 q2
      generalize zs[k] = x at *
      go_wp2_with fail
      go_quiet (fail)
      go_wp2_with fail
      go_roundw
      case rel => exact ⟨k + 1, by omega, by go_num, hW.out.trans ⟨rfl, rfl, rfl, Nat.le_refl _, fun _ _ => rfl⟩⟩
      case measure => simp [intOf]; omega
    · go_wp2_with fail
      go_ret
      exact ⟨rfl, hW.out⟩

set_option maxHeartbeats 1000000 in
set_option maxRecDepth 100000 in
theorem wvOut_any (w : World) (v : Int) (a a' : Option Addr) (n c c' : Nat) (zs : List Int) (e : ByteArray) (st : Int) (hA : Ints w a n zs) (hB : Ints w a' n zs) (hn : n ≤ 1048576) :
    Calls Tryz.prog 22 #[oV v a n c e st, oV v a' n c' e st] w fun r w' => r = .returned (.bool true) ∧ Below w.heap.size w w' := by
  have HS := Lib.hid (fun w' (hb : Below w.heap.size w w') => impl_same w' v v a a' n c n c' zs zs e e st st (hA.later hb) (hB.later hb) hn hn)
  have hs : sameP v v zs zs e e = true := by simp [sameP]
  rw [hs] at HS
  have HN := Lib.hid (fun w' (hb : Below w.heap.size w w') => wvNum_any w' a a' n c c' zs (hA.later hb) (hB.later hb) hn)
  clear hA hB hs
  unfold oV at *
  go_enter Tryz.func22, Tryz.ntmps22
  go_wp2_with fail
  refine (HS.out _ (((Below.refl w.heap.size w).alloc (Nat.le_refl _) _).alloc (by simp) _)).mono ?_
  rintro r w3 ⟨rfl, hb⟩
  rw [alloc_size', alloc_size'] at hb
  obtain ⟨l0, l1, hB⟩ := two_lie hb
  have HB := Lib.hid hB
  have HL := Lib.hid (And.intro l0 l1)
  obtain ⟨p0, p1, p2, p3⟩ := read4 l0
  obtain ⟨r0, r1, r2, r3⟩ := read4 l1
  clear hb l0 l1 hB
  go_wp2_with fail
  refine (HN.out _ HB.out).mono ?_
  rintro r w4 ⟨rfl, hb4⟩
  have HB4 := Lib.hid (HB.out.trans (hb4.mono HB.out.size))
  have k0 : w4.heap[w.heap.size]? = w3.heap[w.heap.size]? := hb4.block _ (heap_lt HL.out.1)
  have k1 : w4.heap[w.heap.size + 1]? = w3.heap[w.heap.size + 1]? := hb4.block _ (heap_lt HL.out.2)
  obtain ⟨s0, s1, s2, s3⟩ := read4 (k0.trans HL.out.1)
  obtain ⟨t0, t1, t2, t3⟩ := read4 (k1.trans HL.out.2)
  clear hb4 k0 k1 p0 p1 p2 p3 r0 r1 r2 r3
  go_wp2_with fail
  go_ret
  exact ⟨rfl, HB4.out⟩
end Go.Proofs.YtfmmpahbjkiomaaGreatDoor
namespace Go.Proofs.YtfmmpahbjkiomaaGreatDoor
open Go.RowKit Gram

/-- the outcome of a run, if there is one -/
def outP (o : Option (Mst × Option Fin)) : Int × List Int × ByteArray × Int := match o with
  | some r => (r.1.val, r.1.out, txtOf (Fin.word r.2), (r.1.steps : Int))
  | none => (0, [], ⟨#[]⟩, 0)
/-- what RunProgram hands back -/
def OutTo (o : Option (Mst × Option Fin)) (w : World) (e : Ending) (w' : World) : Prop :=
  (∃ a c, e = .returned (.tuple #[oV (outP o).1 a (outP o).2.1.length c (outP o).2.2.1 (outP o).2.2.2, .bool o.isSome]) ∧ w'.ownsRow w.heap.size 3 1 (.slice a (outP o).2.1.length c) (outP o).2.1.length (intVs (outP o).2.1)) ∧ Below w.heap.size w w'
theorem outTo_none {w w' : World} (hb : Below w.heap.size w w') : OutTo none w (.returned (.tuple #[oV 0 none 0 0 ⟨#[]⟩ 0, .bool false])) w' := ⟨⟨none, 0, rfl, World.ownsRow_nil _ _ _ _⟩, hb⟩

/-- an outcome in a block of its own -/
structure OAt (w : World) (g : Nat) (v : Int) (o : Value) (e : ByteArray) (st : Int) : Prop where
  own : w.heap[g]? = some (Obj.cells #[.int .i64 v, o, .string e, .int .i64 st] 37 (0, 0))
theorem OAt.read {w : World} {g : Nat} {v : Int} {o : Value} {e : ByteArray} {st : Int} (h : OAt w g v o e st) : w.cell? ⟨g, 0, none⟩ = some (.int .i64 v) ∧ w.cell? ⟨g, 1, none⟩ = some o ∧ w.cell? ⟨g, 2, none⟩ = some (.string e) ∧ w.cell? ⟨g, 3, none⟩ = some (.int .i64 st) ∧
    w.frozen? ⟨g, 0, none⟩ = false ∧ w.frozen? ⟨g, 1, none⟩ = false ∧ w.frozen? ⟨g, 2, none⟩ = false ∧ w.frozen? ⟨g, 3, none⟩ = false :=
  ⟨Lib.cell_of_heap h.own 0, Lib.cell_of_heap h.own 1, Lib.cell_of_heap h.own 2, Lib.cell_of_heap h.own 3, Lib.frozen_of_heap h.own 0, Lib.frozen_of_heap h.own 1, Lib.frozen_of_heap h.own 2, Lib.frozen_of_heap h.own 3⟩
/-- its four cells put anew -/
abbrev oPut (w : World) (g : Nat) (v : Int) (o : Value) (e : ByteArray) (st : Int) : World := (((w.setCell ⟨g, 0, none⟩ (.int .i64 v)).setCell ⟨g, 1, none⟩ o).setCell ⟨g, 2, none⟩ (.string e)).setCell ⟨g, 3, none⟩ (.int .i64 st)
theorem OAt.put {w : World} {g : Nat} {v : Int} {o : Value} {e : ByteArray} {st : Int} (h : OAt w g v o e st) (v' : Int) (o' : Value) (e' : ByteArray) (st' : Int) : OAt (oPut w g v' o' e' st') g v' o' e' st' :=
  ⟨by unfold oPut; rw [heap_set_same (heap_set_same (heap_set_same (heap_set_same h.own _) _) _) _]; rfl⟩
theorem OAt.later {w w' : World} {g : Nat} {v : Int} {o : Value} {e : ByteArray} {st : Int} (h : OAt w g v o e st) (hb : Below w.heap.size w w') : OAt w' g v o e st := ⟨by rw [hb.block g (heap_lt h.own)]; exact h.own⟩
theorem oPut_below {w w1 : World} (hb : Below w.heap.size w w1) (v : Int) (o : Value) (e : ByteArray) (st : Int) : Below w.heap.size w (oPut w1 w.heap.size v o e st) :=
  (((hb.setCell (p := ⟨w.heap.size, 0, none⟩) (Nat.le_refl _) _).setCell (p := ⟨w.heap.size, 1, none⟩) (Nat.le_refl _) _).setCell (p := ⟨w.heap.size, 2, none⟩) (Nat.le_refl _) _).setCell (p := ⟨w.heap.size, 3, none⟩) (Nat.le_refl _) _
theorem oPut_other {w : World} {g j : Nat} (hj : j ≠ g) (v : Int) (o : Value) (e : ByteArray) (st : Int) : (oPut w g v o e st).heap[j]? = w.heap[j]? := by
  unfold oPut
  rw [heap_set_other hj, heap_set_other hj, heap_set_other hj, heap_set_other hj]

set_option maxHeartbeats 1000000 in
set_option maxRecDepth 100000 in
theorem impl_run (s nm : ByteArray) (v : Int) (w : World) (hs : s.size ≤ 1073741824) (hm : MaxCell w) :
    Calls Tryz.prog 15 #[.string s, .string nm, .int .i64 v] w (OutTo (runP s nm v) w) := by
  have hba : Below w.heap.size w (w.alloc (Obj.cells #[.int .i64 0, .slice none 0 0, .string ⟨#[]⟩, .int .i64 0] 37)) := (Below.refl _ _).alloc (Nat.le_refl _) _
  have HF := Lib.hid (run_of s nm v (w.alloc (Obj.cells #[.int .i64 0, .slice none 0 0, .string ⟨#[]⟩, .int .i64 0] 37)) hs (hm.later hba))
  have HA := Lib.hid (⟨heap_alloc_new w _⟩ : OAt (w.alloc (Obj.cells #[.int .i64 0, .slice none 0 0, .string ⟨#[]⟩, .int .i64 0] 37)) w.heap.size 0 (.slice none 0 0) ⟨#[]⟩ 0)
  have HZ := Lib.hid (alloc_size' w (Obj.cells #[.int .i64 0, .slice none 0 0, .string ⟨#[]⟩, .int .i64 0] 37))
  have HB := Lib.hid hba
  clear hm hs hba
  cases hr : runP s nm v with
  | none =>
    go_enter Tryz.func15, Tryz.ntmps15
    go_wp2_with fail
    refine HF.out.mono ?_
    rintro e w1 ⟨hx, hb⟩
    rw [hr] at hx
    subst hx
    have H1 := Lib.hid (⟨HB.out.trans (hb.mono HB.out.size), HA.out.later hb⟩ : _ ∧ _)
    obtain ⟨_, _, _, _, f0, f1, f2, f3⟩ := H1.out.2.read
    clear hb hr
    go_wp2_with fail
    obtain ⟨r0, r1, r2, r3, _⟩ := (H1.out.2.put 0 (.slice none 0 0) ⟨#[]⟩ 0).read
    unfold oPut at r0 r1 r2 r3
    refine bodyPost_ret (v := .tuple #[oV 0 none 0 0 ⟨#[]⟩ 0, .bool false]) ?_ rfl (outTo_none (oPut_below H1.out.1 0 (.slice none 0 0) ⟨#[]⟩ 0))
    simp [results, Tryz.results15, go_sem, r0, r1, r2, r3, oV]
  | some r =>
    go_enter Tryz.func15, Tryz.ntmps15
    go_wp2_with fail
    refine HF.out.mono ?_
    rintro e w1 ⟨hx, hb⟩
    rw [hr] at hx
    obtain ⟨B, rb, S, qs, pv, oa, ja, oc, jc, rfl, hB, hD, hPw, hpr⟩ := hx
    have H1 := Lib.hid (⟨HB.out.trans (hb.mono HB.out.size), HA.out.later hb⟩ : _ ∧ _)
    obtain ⟨_, _, _, _, f0, f1, f2, f3⟩ := H1.out.2.read
    have HD := Lib.hid (⟨hD, hB⟩ : _ ∧ _)
    have c0 : w1.cell? ⟨rb, 0, none⟩ = some (.int .i64 r.1.val) := hD.cell 0
    have c1 : w1.cell? ⟨rb, 1, none⟩ = some (.slice oa r.1.out.length oc) := hD.cell 1
    have c2 : w1.cell? ⟨rb, 2, none⟩ = some (.string (txtOf (Fin.word r.2))) := hD.cell 2
    have c3 : w1.cell? ⟨rb, 3, none⟩ = some (.int .i64 r.1.steps) := hD.cell 3
    clear hb hr hB hD hPw hpr
    go_wp2_with fail
    obtain ⟨r0, r1, r2, r3, _⟩ := (H1.out.2.put r.1.val (.slice oa r.1.out.length oc) (txtOf (Fin.word r.2)) r.1.steps).read
    unfold oPut at r0 r1 r2 r3
    refine bodyPost_ret (v := .tuple #[oV r.1.val oa r.1.out.length oc (txtOf (Fin.word r.2)) r.1.steps, .bool true]) ?_ rfl ?_
    · simp [results, Tryz.results15, go_sem, r0, r1, r2, r3, oV]
    · refine ⟨⟨oa, oc, rfl, ?_⟩, oPut_below H1.out.1 r.1.val (.slice oa r.1.out.length oc) (txtOf (Fin.word r.2)) r.1.steps⟩
      have hz := HD.out.2
      rw [HZ.out] at hz
      have hge : ∀ g, Value.ownBlock (.slice oa r.1.out.length oc) = some g → w.heap.size + 1 ≤ g := fun g hg => by have := (row_block HD.out.1.out hg).1; omega
      exact ownsRow_base (ownsRow_of HD.out.1.out fun g hg => oPut_other (by have := hge g hg; omega) _ _ _ _) (fun g hg => by have := hge g hg; omega)

set_option maxHeartbeats 1000000 in
set_option maxRecDepth 100000 in
theorem spec_run (s nm : ByteArray) (v : Int) (w : World) (hs : s.size ≤ 1073741824) :
    Calls Tryz.prog 16 #[.string s, .string nm, .int .i64 v] w (OutTo (runP s nm v) w) := by
  have hba : Below w.heap.size w ((w.alloc (Obj.cells #[.int .i64 0, .slice none 0 0, .string ⟨#[]⟩, .int .i64 0] 37)).alloc (Obj.cells #[] 213)) := ((Below.refl _ _).alloc (Nat.le_refl _) _).alloc (by rw [alloc_size']; omega) _
  have HF := Lib.hid (start_any s nm v (some ⟨w.heap.size + 1, 0, none⟩) 0 ((w.alloc (Obj.cells #[.int .i64 0, .slice none 0 0, .string ⟨#[]⟩, .int .i64 0] 37)).alloc (Obj.cells #[] 213)) hs)
  have HA := Lib.hid (⟨(Lib.alloc_old _ _ _ (by rw [alloc_size']; omega)).trans (heap_alloc_new w _)⟩ : OAt ((w.alloc (Obj.cells #[.int .i64 0, .slice none 0 0, .string ⟨#[]⟩, .int .i64 0] 37)).alloc (Obj.cells #[] 213)) w.heap.size 0 (.slice none 0 0) ⟨#[]⟩ 0)
  have HZ := Lib.hid (show ((w.alloc (Obj.cells #[.int .i64 0, .slice none 0 0, .string ⟨#[]⟩, .int .i64 0] 37)).alloc (Obj.cells #[] 213)).heap.size = w.heap.size + 1 + 1 by rw [alloc_size', alloc_size'])
  have HB := Lib.hid hba
  clear hs hba
  cases hr : runP s nm v with
  | none =>
    go_enter Tryz.func16, Tryz.ntmps16
    go_wp2_with fail
    refine HF.out.mono ?_
    rintro e w1 ⟨hx, hb⟩
    rw [hr] at hx
    obtain ⟨rb, rfl⟩ := hx
    have H1 := Lib.hid (⟨HB.out.trans (hb.mono HB.out.size), HA.out.later hb⟩ : _ ∧ _)
    obtain ⟨_, _, _, _, f0, f1, f2, f3⟩ := H1.out.2.read
    clear hb hr
    go_wp2_with fail
    obtain ⟨r0, r1, r2, r3, _⟩ := (H1.out.2.put 0 (.slice none 0 0) ⟨#[]⟩ 0).read
    unfold oPut at r0 r1 r2 r3
    refine bodyPost_ret (v := .tuple #[oV 0 none 0 0 ⟨#[]⟩ 0, .bool false]) ?_ rfl (outTo_none (oPut_below H1.out.1 0 (.slice none 0 0) ⟨#[]⟩ 0))
    simp [results, Tryz.results16, go_sem, r0, r1, r2, r3, oV]
  | some r =>
    go_enter Tryz.func16, Tryz.ntmps16
    go_wp2_with fail
    refine HF.out.mono ?_
    rintro e w1 ⟨hx, hb⟩
    rw [hr] at hx
    obtain ⟨B, rb, pv, av, cv, oa, ja, oc, jc, rfl, hB, hD⟩ := hx
    have H1 := Lib.hid (⟨HB.out.trans (hb.mono HB.out.size), HA.out.later hb⟩ : _ ∧ _)
    obtain ⟨_, _, _, _, f0, f1, f2, f3⟩ := H1.out.2.read
    have HD := Lib.hid (⟨hD, hB⟩ : _ ∧ _)
    have c0 : w1.cell? ⟨rb, 0, none⟩ = some (.int .i64 r.1.val) := hD.cell 0
    have c1 : w1.cell? ⟨rb, 1, none⟩ = some (.slice oa r.1.out.length oc) := hD.cell 1
    have c2 : w1.cell? ⟨rb, 2, none⟩ = some (.string (txtOf (Fin.word r.2))) := hD.cell 2
    have c3 : w1.cell? ⟨rb, 3, none⟩ = some (.int .i64 r.1.steps) := hD.cell 3
    clear hb hr hB hD
    go_wp2_with fail
    obtain ⟨r0, r1, r2, r3, _⟩ := (H1.out.2.put r.1.val (.slice oa r.1.out.length oc) (txtOf (Fin.word r.2)) r.1.steps).read
    unfold oPut at r0 r1 r2 r3
    refine bodyPost_ret (v := .tuple #[oV r.1.val oa r.1.out.length oc (txtOf (Fin.word r.2)) r.1.steps, .bool true]) ?_ rfl ?_
    · simp [results, Tryz.results16, go_sem, r0, r1, r2, r3, oV]
    · refine ⟨⟨oa, oc, rfl, ?_⟩, oPut_below H1.out.1 r.1.val (.slice oa r.1.out.length oc) (txtOf (Fin.word r.2)) r.1.steps⟩
      have hz := HD.out.2
      rw [HZ.out] at hz
      have hge : ∀ g, Value.ownBlock (.slice oa r.1.out.length oc) = some g → w.heap.size + 1 ≤ g := fun g hg => by have := (row_block HD.out.1.out hg).1; omega
      exact ownsRow_base (ownsRow_of HD.out.1.out fun g hg => oPut_other (by have := hge g hg; omega) _ _ _ _) (fun g hg => by have := hge g hg; omega)
end Go.Proofs.YtfmmpahbjkiomaaGreatDoor
