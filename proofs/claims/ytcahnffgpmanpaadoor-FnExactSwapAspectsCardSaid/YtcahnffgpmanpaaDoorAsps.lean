/- Lists of aspects in memory: sizes, copies, comparison (the laws), AspectsValid of the program and of the model. Conditions: at most 2^20 aspects; the errors lie where start-up laid them. -/
import Derived.Test.YtcahnffgpmanpaaDoorAsz
import Derived.Test.YtcahnffgpmanpaaDoorOnly
import Derived.Deep.RegionHeld3
namespace Go.Proofs.YtcahnffgpmanpaaDoor
open Go.RowKit Gram

/-- an aspect, plainly -/
abbrev As := ByteArray × ByteArray × ByteArray
def asV (p : As) : Value := aspV p.1 p.2.1 p.2.2
def asZ (p : As) : Nat := p.1.size + p.2.1.size + p.2.2.size
def asT (zs : List As) : Nat := (zs.map asZ).sum
def asOk (p : As) : Bool := (aspOf p.1 p.2.1 p.2.2).isSome

/-- the aspects of a slice -/
structure Asps (w : World) (a : Option Addr) (n : Nat) (zs : List As) : Prop where
  len : zs.length = n
  at_ : ∀ i (h : i < zs.length), ∃ g off, a = some ⟨g, off, none⟩ ∧ w.cell? ⟨g, off + i * 3, none⟩ = some (.string zs[i].1) ∧ w.cell? ⟨g, off + i * 3 + 1, none⟩ = some (.string zs[i].2.1) ∧ w.cell? ⟨g, off + i * 3 + 2, none⟩ = some (.string zs[i].2.2)
theorem Asps.later {w w' : World} {a : Option Addr} {n : Nat} {zs : List As} (h : Asps w a n zs) (hb : Below w.heap.size w w') : Asps w' a n zs :=
  ⟨h.len, fun i hi => by
    obtain ⟨g, off, ha, c0, c1, c2⟩ := h.at_ i hi
    exact ⟨g, off, ha, by rw [hb.cell (p := ⟨g, off + i * 3, none⟩) (World.block_lt_of_cell? w _ c0)]; exact c0,
      by rw [hb.cell (p := ⟨g, off + i * 3 + 1, none⟩) (World.block_lt_of_cell? w _ c1)]; exact c1,
      by rw [hb.cell (p := ⟨g, off + i * 3 + 2, none⟩) (World.block_lt_of_cell? w _ c2)]; exact c2⟩⟩

theorem asT_take (zs : List As) (k : Nat) (h : k < zs.length) : asT (zs.take (k + 1)) = asT (zs.take k) + asZ zs[k] := by
  unfold asT; rw [List.take_succ_eq_append_getElem h, List.map_append, List.sum_append]; simp
theorem asT_le (zs : List As) (k : Nat) (h : k < zs.length) : asZ zs[k] ≤ asT zs := by
  have h1 := asT_take zs k h
  have h2 : asT (zs.take (k + 1)) + asT (zs.drop (k + 1)) = asT zs := by
    unfold asT; rw [← List.sum_append, ← List.map_append, List.take_append_drop]
  omega
theorem asOk_take (zs : List As) (k : Nat) (h : k < zs.length) : (zs.take (k + 1)).all asOk = ((zs.take k).all asOk && asOk zs[k]) := by
  rw [List.take_succ_eq_append_getElem h, List.all_append]; simp
theorem asOk_not (zs : List As) (k : Nat) (h : k < zs.length) (hn : asOk zs[k] = false) : zs.all asOk = false := by
  rw [List.all_eq_false]; exact ⟨zs[k], List.getElem_mem h, by rw [hn]; decide⟩

set_option maxHeartbeats 1000000 in
theorem sz_one (p : As) (l : Nat) (w : World) (hl : l ≤ 1048576) (hk : p.1.size ≤ maxLen) (hn : p.2.1.size ≤ maxLen) (hs : p.2.2.size ≤ maxLen) :
    Calls Tryd.prog 11 #[asV p, .int .i64 l] w fun e w' => e = .returned (.int .i64 (if asZ p ≤ l then ((l - asZ p : Nat) : Int) else -1)) ∧ Below w.heap.size w w' := by
  obtain ⟨k, n, s⟩ := p
  unfold maxLen at hk hn hs
  simp only at hk hn hs
  unfold asV aspV asZ
  simp only
  by_cases h : k.size + n.size + s.size ≤ l
  · rw [if_pos h]
    go_enter Tryd.func11, Tryd.ntmps11
    go_wp2_with fail
    go_ret
    exact ⟨ret_int (by omega), (Below.refl _ _).alloc (Nat.le_refl _) _⟩
  · rw [if_neg h]
    by_cases h1 : l < k.size
    · go_enter Tryd.func11, Tryd.ntmps11
      go_wp2_with fail
      go_ret
      exact ⟨rfl, (Below.refl _ _).alloc (Nat.le_refl _) _⟩
    · by_cases h2 : l < k.size + n.size
      · go_enter Tryd.func11, Tryd.ntmps11
        go_wp2_with fail
        go_ret
        exact ⟨rfl, (Below.refl _ _).alloc (Nat.le_refl _) _⟩
      · go_enter Tryd.func11, Tryd.ntmps11
        go_wp2_with fail
        go_ret
        exact ⟨rfl, (Below.refl _ _).alloc (Nat.le_refl _) _⟩

set_option maxHeartbeats 1000000 in
set_option maxRecDepth 100000 in
theorem szs_any (w : World) (a : Option Addr) (n c : Nat) (zs : List As) (hA : Asps w a n zs) (hn : n ≤ maxLen) (hz : ∀ p ∈ zs, p.1.size ≤ maxLen ∧ p.2.1.size ≤ maxLen ∧ p.2.2.size ≤ maxLen) :
    Calls Tryd.prog 4 #[.slice a n c, .int .i64 1048576] w fun e w' => (∃ r : Int, e = .returned (.int .i64 r) ∧ (r = -1 ∨ (0 ≤ r ∧ r ≤ 1048576 ∧ n + asT zs ≤ 1048576))) ∧ Below w.heap.size w w' := by
  have HA := Lib.hid hA
  have HZ := Lib.hid hz
  clear hA hz
  unfold maxLen at hn
  by_cases h : n ≤ 1048576
  · go_enter Tryd.func4, Tryd.ntmps4
    go_wp2_with fail
    go_loopw [5, 1] (fun i l wr => ∃ k m : Nat, k ≤ n ∧ i = .int .i64 k ∧ l = .int .i64 m ∧ Hid (m + n + asT (zs.take k) = 1048576) ∧ Hid (Below w.heap.size w wr)) (fun i _ _ => n - (intOf i).toNat)
    case atStart => exact ⟨0, 1048576 - n, Nat.zero_le _, by go_num, by congr 1; omega, by show _ = _; simp [asT]; omega, Below.refl _ _⟩
    case round =>
      obtain ⟨k, m, hk, rfl, rfl, hE, hW⟩ := hrel
      by_cases hlt : k < n
      · have hz : k < zs.length := by rw [HA.out.len]; exact hlt
        obtain ⟨g, off, rfl, c0, c1, c2⟩ := (HA.out.later hW.out).at_ k hz
        have HS := Lib.hid (asT_take zs k hz)
        have HX := Lib.hid (fun w => sz_one zs[k] m w (by have := hE.out; omega) (HZ.out _ (List.getElem_mem hz)).1 (HZ.out _ (List.getElem_mem hz)).2.1 (HZ.out _ (List.getElem_mem hz)).2.2)
        unfold asV aspV at HX
        generalize zs[k] = p at *
        obtain ⟨x, y, z⟩ := p
        by_cases hf : asZ (x, y, z) ≤ m
        · rw [if_pos hf] at HX
          obtain ⟨m', hm'⟩ : ∃ m', m' = m - asZ (x, y, z) := ⟨_, rfl⟩
          rw [← hm'] at HX
          have HM := Lib.hid hm'
          have HF := Lib.hid hf
          have HL := Lib.hid (show m' ≤ 1048576 by have := hE.out; omega)
          clear hm' hf
          go_wp2_with fail
          refine (HX.out _).mono ?_
          rintro e w5 ⟨rfl, hb⟩
          have HB := Lib.hid (hW.out.trans (hb.mono hW.out.size))
          clear hb
          go_wp2_with fail
          exact ⟨⟨k + 1, m', by omega, by go_num, rfl, by show _ = _; have := hE.out; have := HS.out; have := HM.out; have := HF.out; omega, HB.out⟩, by simp [intOf]; omega⟩
        · rw [if_neg hf] at HX
          clear hf
          go_wp2_with fail
          refine (HX.out _).mono ?_
          rintro e w5 ⟨rfl, hb⟩
          have HB := Lib.hid (hW.out.trans (hb.mono hW.out.size))
          clear hb
          go_wp2_with fail
          go_ret
          exact ⟨⟨-1, rfl, .inl rfl⟩, HB.out⟩
      · have HE := Lib.hid (show n + asT zs ≤ 1048576 ∧ m ≤ 1048576 by
          have h1 := hE.out
          have h2 : zs.take k = zs := List.take_of_length_le (by rw [HA.out.len]; omega)
          rw [h2] at h1; omega)
        go_wp2_with fail
        go_ret
        exact ⟨⟨m, rfl, .inr ⟨by omega, by have := HE.out; omega, HE.out.1⟩⟩, hW.out⟩
  · go_enter Tryd.func4, Tryd.ntmps4
    go_wp2_with fail
    go_ret
    exact ⟨⟨-1, rfl, .inl rfl⟩, Below.refl _ _⟩

theorem info_asp : (Tryd.prog.info? 35).map (fun i => (i.zero, i.size, i.bytes)) = some (some (aspV ⟨#[]⟩ ⟨#[]⟩ ⟨#[]⟩), 3, 48) := by kernel_rfl
/-- make of a row of elements of any size -/
theorem wpList_make_wide {P : Program} (w : World) {ops : Array Oper} {rest : List Oper} {o : Oper} {a : Act} {Q : Exit → Act → World → Prop}
    (hg : o.guard = none) (l c : Operand) (t : TypeId) (hop : o.op = Op.makeSlice t l c)
    (e : TypeId) (i : TypeInfo) (z : Value) (size : Nat) (ht : P.underlying t = some (.slice e)) (hi : P.info? e = some i) (hz : i.zero = some z) (hsize : i.size = size) (zc : Array Value) (hzc : z.cells = zc)
    (kl kc : IntKind) (n : Nat) (hl : a.eval l = .int kl (n : Int)) (hc : a.eval c = .int kc (n : Int)) (hbytes : i.bytes * n ≤ 281474976710656) (h63 : n ≤ 9223372036854775807)
    (hK : wpList P ops Q rest (a.put o.dst (.slice (some ⟨w.heap.size, 0, none⟩) n n)) (w.alloc (.cells (madeCells zc (n * size)) e))) :
    wpList P ops Q (o :: rest) a w := by
  refine wpList_plain hg fun K hK' => ?_
  have hrun := run_make (P := P) w t e i z ht hi hz kl kc (n : Int) (n : Int) (by omega) (by omega) (by have h := Int.ofNat_le.2 hbytes; rw [Int.natCast_mul] at h; omega) (by omega)
  rw [hsize, Int.toNat_natCast, hzc] at hrun
  unfold Oper.wp
  simp [execOp, hop, hl, hc, hrun, Result.andThen]
  exact hK' _ _ hK

/-- the copy so far -/
def CopiedA (w : World) (g n k : Nat) (zs : List As) (wr : World) : Prop := ∃ arr : Array Value, wr.heap[g]? = some (.cells arr 35 (0, 0)) ∧ arr.size = n * 3 ∧
  (∀ i (h : i < zs.length), i < k → arr[i * 3]? = some (.string zs[i].1) ∧ arr[i * 3 + 1]? = some (.string zs[i].2.1) ∧ arr[i * 3 + 2]? = some (.string zs[i].2.2)) ∧ Below w.heap.size w wr

theorem copiedA_step {w wr : World} {n k : Nat} {zs : List As} {arr : Array Value} (harr : wr.heap[w.heap.size]? = some (.cells arr 35 (0, 0))) (hsz : arr.size = n * 3)
    (hin : ∀ i (h : i < zs.length), i < k → arr[i * 3]? = some (.string zs[i].1) ∧ arr[i * 3 + 1]? = some (.string zs[i].2.1) ∧ arr[i * 3 + 2]? = some (.string zs[i].2.2)) (hB : Below w.heap.size w wr) (hz : k < zs.length) (hk : k < n) :
    CopiedA w w.heap.size n (k + 1) zs (((wr.setCell ⟨w.heap.size, k * 3, none⟩ (.string zs[k].1)).setCell ⟨w.heap.size, k * 3 + 1, none⟩ (.string zs[k].2.1)).setCell ⟨w.heap.size, k * 3 + 2, none⟩ (.string zs[k].2.2)) := by
  refine ⟨_, heap_set_same (heap_set_same (heap_set_same harr _) _) _, by simp [hsz], fun i h hi => ?_, ((hB.setCell (p := ⟨w.heap.size, k * 3, none⟩) (Nat.le_refl _) _).setCell (p := ⟨w.heap.size, k * 3 + 1, none⟩) (Nat.le_refl _) _).setCell (p := ⟨w.heap.size, k * 3 + 2, none⟩) (Nat.le_refl _) _⟩
  by_cases he : i = k
  · subst he
    simp only [Array.getElem?_setIfInBounds, Array.size_setIfInBounds, hsz]
    refine ⟨?_, ?_, ?_⟩ <;> simp <;> omega
  · simp only [Array.getElem?_setIfInBounds, Array.size_setIfInBounds, hsz]
    obtain ⟨h0, h1, h2⟩ := hin i h (by omega)
    refine ⟨?_, ?_, ?_⟩
    · rw [if_neg (by omega), if_neg (by omega), if_neg (by omega)]; exact h0
    · rw [if_neg (by omega), if_neg (by omega), if_neg (by omega)]; exact h1
    · rw [if_neg (by omega), if_neg (by omega), if_neg (by omega)]; exact h2

/-- the copy at its start -/
theorem copiedA_start (w : World) (n : Nat) (zs : List As) : CopiedA w w.heap.size n 0 zs (w.alloc (.cells (madeCells #[.string ⟨#[]⟩, .string ⟨#[]⟩, .string ⟨#[]⟩] (n * 3)) 35)) :=
  ⟨_, heap_alloc_new _ _, size_madeCells _ _, fun i h h0 => by omega, (Below.refl _ _).alloc (Nat.le_refl _) _⟩

set_option maxHeartbeats 1000000 in
set_option maxRecDepth 100000 in
theorem tos_heap (w : World) (a : Option Addr) (n c : Nat) (zs : List As) (hA : Asps w a n zs) (hn : n ≤ 1048576) :
    Calls Tryd.prog 6 #[.slice a n c] w fun e w' => ∃ g, w.heap.size ≤ g ∧ e = .returned (.slice (some ⟨g, 0, none⟩) n n) ∧ Asps w' (some ⟨g, 0, none⟩) n zs ∧ Below w.heap.size w w' ∧ ∃ arr : Array Value, w'.heap[g]? = some (.cells arr 35 (0, 0)) ∧ arr.size = n * 3 := by
  have HA := Lib.hid hA
  obtain ⟨i0, hi, hz0, hz1, hz2⟩ := info_parts info_asp
  clear hA
  go_enter Tryd.func6, Tryd.ntmps6
  go_wp2_with (at_make; refine wpList_make_wide _ rfl _ _ 24 rfl 35 i0 (aspV ⟨#[]⟩ ⟨#[]⟩ ⟨#[]⟩) 3 Tryd.underlying24 hi hz0 hz1 #[.string ⟨#[]⟩, .string ⟨#[]⟩, .string ⟨#[]⟩] (by rfl) _ _ n rfl rfl ?c1 ?c2 ?_)
  case c1 => rw [hz2]; omega
  case c2 => omega
  go_wp2_with fail
  go_loopw [4] (fun i wr => ∃ k : Nat, k ≤ n ∧ i = .int .i64 k ∧ Hid (CopiedA w w.heap.size n k zs wr)) (fun i _ => n - (intOf i).toNat)
  case atStart =>
    exact ⟨0, Nat.zero_le _, by go_num, copiedA_start _ _ _⟩
  case round =>
    obtain ⟨k, hk, rfl, hC⟩ := hrel
    by_cases hlt : k < n
    · have hz : k < zs.length := by rw [HA.out.len]; exact hlt
      obtain ⟨arr, harr, hsz, hin, hB⟩ := hC.out
      obtain ⟨g, off, rfl, c0, c1, c2⟩ := (HA.out.later hB).at_ k hz
      have HT := Lib.hid (fun w => to_any zs[k].1 zs[k].2.1 zs[k].2.2 w)
      unfold aspV at HT
      have HN := Lib.hid (fun (w5 : World) (hb5 : Below wr.heap.size wr w5) => copiedA_step ((hb5.block _ (heap_lt harr)).trans harr) hsz hin (hB.trans (hb5.mono hB.size)) hz (by omega))
      have HR := Lib.hid (fun (w5 : World) (hb5 : Below wr.heap.size wr w5) => (hb5.block _ (heap_lt harr)).trans harr)
      have hs3 : k * 3 + 2 < arr.size := by omega
      clear harr hin hB hC
      generalize zs[k] = p at *
      obtain ⟨x, y, z⟩ := p
      go_wp2_with fail
      refine (HT.out _).mono ?_
      rintro e w5 ⟨rfl, hb5⟩
      have HN5 := Lib.hid (HN.out _ hb5)
      have h5 := HR.out _ hb5
      have d0 : w5.cell? ⟨w.heap.size, k * 3, none⟩ = some arr[k * 3] := by rw [Lib.cell_of_heap h5]; exact Array.getElem?_eq_getElem (by omega)
      have d1 : w5.cell? ⟨w.heap.size, k * 3 + 1, none⟩ = some arr[k * 3 + 1] := by rw [Lib.cell_of_heap h5]; exact Array.getElem?_eq_getElem (by omega)
      have d2 : w5.cell? ⟨w.heap.size, k * 3 + 2, none⟩ = some arr[k * 3 + 2] := by rw [Lib.cell_of_heap h5]; exact Array.getElem?_eq_getElem (by omega)
      have f0 := Lib.frozen_of_heap h5 (k * 3)
      have f1 := Lib.frozen_of_heap h5 (k * 3 + 1)
      have f2 := Lib.frozen_of_heap h5 (k * 3 + 2)
      clear h5 HN HR hb5 c0 c1 c2
      generalize arr[k * 3] = o0 at *
      generalize arr[k * 3 + 1] = o1 at *
      generalize arr[k * 3 + 2] = o2 at *
      go_wp2_with fail
      exact ⟨⟨k + 1, by omega, by go_num, HN5.out⟩, by simp [intOf]; omega⟩
    · obtain ⟨arr, harr, hsz, hin, hB⟩ := hC.out
      have HI := Lib.hid (show Asps wr (some ⟨w.heap.size, 0, none⟩) n zs from ⟨HA.out.len, fun i hi => ⟨_, _, rfl, by
        rw [Nat.zero_add, Lib.cell_of_heap harr, Lib.cell_of_heap harr, Lib.cell_of_heap harr]
        exact hin i hi (by have := HA.out.len; omega)⟩⟩)
      have HBb := Lib.hid hB
      have HAR := Lib.hid harr
      have HSZ := Lib.hid hsz
      clear harr hsz hin hB
      go_wp2_with fail
      go_ret
      exact ⟨_, Nat.le_refl _, rfl, HI.out, HBb.out, arr, HAR.out, HSZ.out⟩
theorem tos_any (w : World) (a : Option Addr) (n c : Nat) (zs : List As) (hA : Asps w a n zs) (hn : n ≤ 1048576) :
    Calls Tryd.prog 6 #[.slice a n c] w fun e w' => ∃ g, w.heap.size ≤ g ∧ e = .returned (.slice (some ⟨g, 0, none⟩) n n) ∧ Asps w' (some ⟨g, 0, none⟩) n zs ∧ Below w.heap.size w w' :=
  (tos_heap w a n c zs hA hn).mono fun _ _ ⟨g, h1, h2, h3, h4, _⟩ => ⟨g, h1, h2, h3, h4⟩
end Go.Proofs.YtcahnffgpmanpaaDoor
