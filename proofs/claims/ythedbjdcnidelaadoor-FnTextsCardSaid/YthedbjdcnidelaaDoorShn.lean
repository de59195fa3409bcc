/- The model's DrawFormatNumbers: a list of at most four numbers, in a block of its own. No condition but that the bytes can be read. -/
import Derived.Test.YthedbjdcnidelaaDoorIpd
import Derived.Test.YthedbjdcnidelaaDoorFnm
import Derived.OwnWalk
namespace Go.Proofs.YthedbjdcnidelaaDoor
open Go.RowKit Gram

/-- what a draw of a number hands back -/
def DrewJ (w : World) (rb : Nat) (a : Option Addr) (n c p cost : Nat) (e : Ending) (w' : World) : Prop :=
  ∃ (v : Int) (q : Nat), e = .returned (.int .i64 v) ∧ -9223372036854775808 ≤ v ∧ v ≤ 9223372036854775807 ∧ q ≤ p + cost ∧ Rdr w' rb a n c q ∧ w.grownBy w' (some rb)

set_option maxHeartbeats 400000 in
set_option maxRecDepth 100000 in
theorem numj_any (w : World) (rb : Nat) (a : Option Addr) (n c p : Nat) (g ln lc : Nat) (h : Rdr w rb a n c p) (hp : p ≤ 100000) (hl : 1 ≤ ln) (hlb : ln ≤ 1000) (hg : g ≠ rb)
    (hc : ∀ i, i < ln → ∃ v : Int, w.cell? ⟨g, i, none⟩ = some (.int .i64 v) ∧ -9223372036854775808 ≤ v ∧ v ≤ 9223372036854775807) :
    Calls Tryd.prog 21 #[.pointer (some ⟨rb, 0, none⟩), .slice (some ⟨g, 0, none⟩) ln lc] w (DrewJ w rb a n c p 1) := by
  have H := Lib.hid h
  have HC := Lib.hid hc
  clear h hc
  go_enter Tryd.func21, Tryd.ntmps21
  go_wp2_with fail
  refine (pick_to _ H.out hp (by omega)).mono ?_
  rintro e w1 ⟨v, rfl, hv, hr, hgr⟩
  have hv' : v < ln := by omega
  obtain ⟨s, hcs, hs1, hs2⟩ := HC.out v hv'
  have hc1 : w1.cell? ⟨g, v, none⟩ = some (.int .i64 s) := hgr.cell hcs (by simpa using hg)
  have HR := Lib.hid hr
  have HG := Lib.hid hgr
  clear hr hgr hcs
  go_wp2_with fail
  go_ret
  exact ⟨s, p + 1, rfl, hs1, hs2, Nat.le_refl _, HR.out, HG.out⟩

theorem numj_cells (w : World) (g : Nat) (vs : List Int) (hM : ∀ v ∈ vs, -9223372036854775808 ≤ v ∧ v ≤ 9223372036854775807) (hg : g = w.heap.size) : ∀ i, i < vs.length → ∃ v : Int, (w.alloc (Obj.cells (vs.map (Value.int .i64)).toArray 3)).cell? ⟨g, i, none⟩ = some (.int .i64 v) ∧ -9223372036854775808 ≤ v ∧ v ≤ 9223372036854775807 := by
  subst hg
  intro i hi
  refine ⟨vs[i], ?_, hM _ (List.getElem_mem hi)⟩
  rw [Lib.cell_of_heap (heap_alloc_new w _)]
  simp [hi]


/-- how a run of the draw may go on: the source, a row -/
structure One (w : World) (S : Nat) (a : Option Addr) (n c : Nat) (wr : World) (rb q ga ca : Nat) (zs : List Int) : Prop where
  rdr : Rdr wr rb a n c q
  ra : Irow wr S ga ca zs
  at_ : w.heap.size ≤ rb
  lo : rb < S
  low : 0 < n → ∀ g off, a = some ⟨g, off, none⟩ → g < S
  bel : Below w.heap.size w wr
theorem One.picked {w wr w' : World} {S : Nat} {a : Option Addr} {n c rb q q' ga ca : Nat} {zs : List Int} (h : One w S a n c wr rb q ga ca zs) (hr : Rdr w' rb a n c q') (hg : wr.grownBy w' (some rb)) :
    One w S a n c w' rb q' ga ca zs := by
  have e := h.at_
  have el := h.lo
  have la := h.ra.lt
  exact ⟨hr, h.ra.keep (hg.block ga la.2 (fun e' => by injection e' with e'; omega)), e, h.lo, h.low, h.bel.grown hg h.bel.size (fun k hk => by simp at hk; omega)⟩
theorem One.more {w wr w' : World} {S : Nat} {a : Option Addr} {n c rb q ga ca : Nat} {zs : List Int} {x : Int} {o : Obj} {g' cap' : Nat} (h : One w S a n c wr rb q ga ca zs)
    (ho : w'.ownsRow S 3 1 (.slice (some ⟨g', 0, none⟩) (zs.length + 1) cap') (zs.length + 1) (intVs zs ++ [.int .i64 x]))
    (hg : (wr.alloc o).grownBy w' (some ga)) : One w S a n c w' rb q g' cap' (zs ++ [x]) := by
  have e := h.at_
  have el := h.lo
  have la := h.ra.lt
  have hold : ∀ k, k < wr.heap.size → k ≠ ga → w'.heap[k]? = wr.heap[k]? := fun k hk hk' =>
    (hg.block k (by rw [alloc_size']; omega) (fun e' => by injection e' with e'; omega)).trans (alloc_heap o k hk)
  have hbel : Below w.heap.size w w' := (h.bel.alloc h.bel.size _).grown hg (by rw [alloc_size']; have := h.bel.size; omega) (fun k hk => by injection hk with hk; omega)
  refine ⟨h.rdr.keepB (B := S) h.lo h.low (fun k hk => hold k (by omega) (by omega)), ?_, e, h.lo, h.low, hbel⟩
  show World.ownsRow _ _ _ _ _ _ _
  rw [intVs_snoc, List.length_append]; exact ho

/-- what the draw hands back -/
def DrewL (w : World) (e : Ending) (w' : World) : Prop := ∃ (g c : Nat) (zs : List Int), e = .returned (.slice (some ⟨g, 0, none⟩) zs.length c) ∧ Irow w' w.heap.size g c zs ∧ zs.length ≤ 4 ∧ (∀ z ∈ zs, Int64 z) ∧ Below w.heap.size w w'

set_option maxHeartbeats 2000000 in
set_option maxRecDepth 100000 in
theorem drawL_any (w : World) (a : Option Addr) (n c : Nat) (h : BytesAt w a n) (hn : n ≤ c) (hc : c ≤ 9223372036854775807) (hnil : a = none → n = 0) :
    Calls Tryd.prog 7 #[.slice a n c] w (DrewL w) := by
  have HO := Lib.hid (open_any w a n c h hn hc hnil)
  obtain ⟨i0, hi, hz0, hz1, hz2⟩ := info_parts info_int
  clear h hn hc hnil
  go_enter Tryd.func7, Tryd.ntmps7
  go_wp2_with fail
  refine HO.out.mono ?_
  rintro e w1 ⟨m, rfl, hr, hb⟩
  have hz : w.heap.size + 1 ≤ w1.heap.size := by have := heap_lt hr.own; omega
  have HT := Lib.hid (show One w w1.heap.size a m c (w1.alloc (Obj.cells #[] 3)) w.heap.size 0 w1.heap.size 0 [] from
    ⟨hr.later (fun k hk => alloc_heap _ k hk), Irow.made w1 w1.heap.size (Nat.le_refl _), Nat.le_refl _, by omega, fun hp g off ha => by
        obtain ⟨g', off', ha', b, hc'⟩ := hr.bytes 0 hp
        rw [ha] at ha'; injection ha' with ha'; injection ha' with e1 e2; subst e1
        exact World.block_lt_of_cell? w1 _ hc', hb.alloc (by omega) _⟩)
  clear hr hb HO
  go_wp2_with fail
  refine (pick_to 5 HT.out.rdr (by omega) (by omega)).mono ?_
  rintro e w2 ⟨v, rfl, hv, hr2, hg2⟩
  have HT2 := Lib.hid (HT.out.picked hr2 hg2)
  have hv4 : v ≤ 4 := by omega
  clear hr2 hg2 HT hv
  go_wp2_with fail
  go_loopw [4, 10] (fun sa i wr => ∃ (k q ga ca : Nat) (zs : List Int), k ≤ v ∧ i = .int .i64 k ∧ sa = .slice (some ⟨ga, 0, none⟩) k ca ∧ q ≤ 1 + 1 * k ∧ Hid (zs.length = k ∧ ∀ z ∈ zs, Int64 z) ∧ Hid (One w w1.heap.size a m c wr w.heap.size q ga ca zs)) (fun _ i _ => v - (intOf i).toNat)
  case atStart => exact ⟨0, 1, _, 0, [], Nat.zero_le _, by go_num, rfl, by omega, ⟨rfl, fun z h => by cases h⟩, HT2.out⟩
  case round =>
    obtain ⟨k, q, ga, ca, zs, hk, rfl, rfl, hq, hL, hT⟩ := hrel
    have hS := hT.out.ra.lt
    by_cases hlt : k < v
    · go_wp2_with fail
      refine (numj_any _ w.heap.size a m c q wr.heap.size 7 7 (hT.out.rdr.later (alloc_heap (w := wr) _)) (by omega) (by omega) (by omega) (by have := hT.out.lo; omega) (numj_cells wr wr.heap.size [0, 1, -1, 12, 3, -9223372036854775808, 1000000] (by intro v hv; simp at hv; omega) rfl)).mono ?_
      rintro e w3 ⟨x, q3, rfl, hx1, hx2, hq3, hr3, hg3⟩
      have HT3 := Lib.hid (hT.out.picked hr3 (grownBy_trans (World.grownBy_alloc wr _ _) hg3))
      clear hr3 hg3
      have hz3 : w1.heap.size ≤ w3.heap.size := by have := HT3.out.ra.lt; omega
      have HO3 := Lib.hid (show w3.ownsRow w1.heap.size 3 1 (.slice (some ⟨ga, 0, none⟩) k ca) k (intVs zs) by rw [← hL.out.1]; exact HT3.out.ra)
      go_wp2_with (at_builtin; go_loud (refine wpList_append_lies _ rfl _ _ 29 rfl w1.heap.size 3 i0 (.int .i64 0) 1 8 Tryd.underlying29 hi hz0 hz1 hz2 rfl (by decide) _ k (intVs zs) rfl (HO3.out.alloc _) ⟨w3.heap.size, 0, none⟩ 1 1 [.int .i64 x] rfl rfl (cell_one_new _ _ _) (by intro u hu; simp at hu; subst hu; rfl) (by decide) (by unfold maxLen; omega) (by omega) (by rw [alloc_size']; omega) _ rfl ?_))
      intro g4 c4 w4 ho4 hg4 hat4 _
      have HT4 := Lib.hid (HT3.out.more (x := x) (g' := g4) (cap' := c4) (by rw [hL.out.1]; exact ho4) hg4)
      clear ho4 hg4 hat4
      go_wp2_with fail
      go_roundw
      case rel => exact ⟨k + 1, q3, g4, c4, zs ++ [x], by omega, by go_num, rfl, by omega, ⟨by rw [List.length_append, hL.out.1]; rfl, fun z hz => by
        rcases List.mem_append.1 hz with hz | hz
        · exact hL.out.2 z hz
        · rw [List.mem_singleton.1 hz]; exact ⟨hx1, hx2⟩⟩, HT4.out⟩
      case measure => simp [intOf]; omega
    · go_wp2_with fail
      go_ret
      refine ⟨ga, ca, zs, by rw [hL.out.1]; rfl, irow_mono hT.out.ra (by omega), by rw [hL.out.1]; omega, hL.out.2, hT.out.bel⟩
end Go.Proofs.YthedbjdcnidelaaDoor
