/- slices.Insert at a row of procedures that the caller owns: the road at its end (i = len(s)). slices.Insert at a row of procedures that the caller owns: in the middle, where there is room. slices.Insert at a row of procedures that the caller owns: in the middle, where there is no room. What the rows of slices.Insert hold. Plain lemmas; no walk. slices.Insert at a row of procedures that the caller owns: all its roads in one contract. Condition: at most 1000 procedures. A program in memory whose row has taken one procedure more: still one. Plain lemma; no walk. A program in memory one of whose bodies is put anew: Pput; beside what inserts. No walk. WithBody of the program: where it refuses. Condition: the library's own number can be read. WithBody of the program: where the procedure is there. Condition: the library's own number can be read. WithBody of the program: where the procedure is new. Condition: the library's own number can be read. WithBody of the program, in one contract. Condition: the library's own number can be read. What a program is with another body, plainly: the texts of procedures are cut again as they were joined. No condition; no walk. The bodies of a program with another body, plainly: what FnRunParts asks of it. No condition; no walk. What the law FnRunParts asks of the parts of a run, plainly. No condition; no walk. -/
import Derived.Test.YtfmmpahbjkiomaaGreatDoorRProg
import Derived.Lib.AppendZeros
import Derived.Deep.AppendLies
import Derived.Lib.Overlaps
import Derived.Laws.CopyRow
import Derived.Shelf.Spec.SlicesInsert
import Derived.Shelf.Spec.SlicesInsertGrow
import Derived.Test.YtfmmpahbjkiomaaGreatDoorNx
import Derived.Test.YtfmmpahbjkiomaaGreatDoorBody
import Derived.Test.YtfmmpahbjkiomaaGreatDoorTx
import Derived.Test.YtfmmpahbjkiomaaGreatDoorQx
import Derived.Test.YtfmmpahbjkiomaaGreatDoorPx
import Derived.Test.YtfmmpahbjkiomaaGreatDoorYx
import Derived.Test.YtfmmpahbjkiomaaGreatDoorUx
namespace Go.Proofs.YtfmmpahbjkiomaaGreatDoor
open Go.RowKit

/-- what is appended may bear another name of the same type of slices -/
theorem run_append_named (w : World) (t tn ty e : TypeId) (ht : Tryz.prog.underlying t = some (.slice e)) (htn : Tryz.prog.underlying tn = some (.slice e)) (a b : Option Addr) (n c m k : Nat) :
    (Builtin.append_ #[t, tn] ty #[.slice a n c, .slice b m k]).run Tryz.prog w = (Builtin.append_ #[t, t] ty #[.slice a n c, .slice b m k]).run Tryz.prog w := by
  simp [Builtin.append_, run_underlying ht, run_underlying htn]

theorem info_ins : (Tryz.prog.info? 65).map (fun i => (i.zero, i.size, i.bytes)) = some (some (.agg #[.int .u8 0, .slice none 0 0]), 2, 32) := by kernel_rfl

set_option maxHeartbeats 1000000 in
set_option maxRecDepth 100000 in
theorem insert_end (w : World) (B g : Nat) (a : Option Addr) (n c : Nat) (xs : List Value) (x y : Value) (hown : w.ownsRow B 65 2 (.slice a n c) n xs) (hg : w.heap[g]? = some (.cells #[x, y] 65 (0, 0))) (hB : B ≤ w.heap.size) (hn : n ≤ 1000) (hx1 : x.oneCell' = true) (hy1 : y.oneCell' = true) :
    Calls Tryz.prog 50 #[.slice a n c, .int .i64 n, .slice (some ⟨g, 0, none⟩) 1 1] w fun e w' => ∃ g' c', e = .returned (.slice (some ⟨g', 0, none⟩) (n + 1) c') ∧ w'.ownsRow B 65 2 (.slice (some ⟨g', 0, none⟩) (n + 1) c') (n + 1) (xs ++ [x, y]) ∧ w.grownBy w' (Value.slice a n c).ownBlock ∧ ((Value.slice a n c).ownBlock = some g' ∨ g' = w.heap.size) ∧ g' < w'.heap.size := by
  obtain ⟨i0, hi, hz0, hz1, hz2⟩ := info_parts info_ins
  have hnc : n ≤ c := by
    rcases hown.2 with ⟨h, h0⟩ | ⟨b, cap, cur, hv, _, _, h1, _⟩
    · injection h with _ h2 h3; omega
    · injection hv with _ _ h3; omega
  obtain ⟨g', c', w', hr, h2, h3, h4, h5⟩ := run_append_lies (P := Tryz.prog) w 54 54 B 65 i0 (.agg #[.int .u8 0, .slice none 0 0]) 2 32 Tryz.underlying54 hi hz0 hz1 hz2 rfl (by decide) (.slice a n c) n xs hown ⟨g, 0, none⟩ 1 1 [x, y] rfl (World.news_of_block hg) (by simp [hx1, hy1]) (by decide) (by unfold maxLen; omega) (by omega) hB w.heap.size rfl
  rw [← run_append_named w 54 53 54 65 Tryz.underlying54 Tryz.underlying53] at hr
  have HR := Lib.hid hr
  have HP := Lib.hid (And.intro h2 (And.intro (show w.grownBy w' _ from ⟨h3.os, h3.tape, h3.output, h3.size, h3.block⟩) (And.intro h4 h5)))
  have hnci : (n : Int) ≤ (c : Int) := by omega
  have hn0 : (0 : Int) ≤ (n : Int) := by omega
  clear hown hr h2 h3 h4 h5 hg
  by_cases hcn : c = n
  · subst hcn
    go_enter Tryz.func50, Tryz.ntmps50
    go_wp2_with (at_builtin; refine Lib.wpList_append_run _ rfl _ _ 54 53 rfl _ _ rfl rfl _ _ HR.out ?_)
    go_ret
    exact ⟨g', c', rfl, HP.out⟩
  · have hcn2 : ¬ (c : Int) = (n : Int) := by omega
    have hcn3 : ¬ c - n = 0 := by omega
    have hcn4 : n ≠ c := by omega
    go_enter Tryz.func50, Tryz.ntmps50
    go_wp2_with (at_builtin; refine Lib.wpList_append_run _ rfl _ _ 54 53 rfl _ _ rfl rfl _ _ HR.out ?_)
    go_ret
    exact ⟨g', c', rfl, HP.out⟩
end Go.Proofs.YtfmmpahbjkiomaaGreatDoor
namespace Go.Proofs.YtfmmpahbjkiomaaGreatDoor
open Go.RowKit

/-- copy at elements of two cells -/
theorem run_copy_two (w : World) (dT sT ty elem : TypeId) (g o dLen dCap : Nat) (a : Addr) (sLen sCap : Nat) (cur : Array Value) (t : TypeId) (cs : List Value)
    (hu : Tryz.prog.underlying dT = some (.slice elem)) (hs : (Tryz.prog.info? elem).map (·.size) = some 2)
    (hg : w.heap[g]? = some (.cells cur t (0, 0))) (hn : cs.length = Nat.min sLen dLen * 2)
    (hsrc : ∀ j v, cs[j]? = some v → w.cell? (a.add j) = some v) (hfit : o + cs.length ≤ cur.size) (h1 : ∀ v ∈ cs, v.oneCell' = true) :
    (Builtin.copy_ #[dT, sT] ty #[.slice (some ⟨g, o, none⟩) dLen dCap, .slice (some a) sLen sCap]).run Tryz.prog w =
      .ok (goInt (Nat.min sLen dLen)) (w.setRow g (cur.toList.take o ++ cs ++ cur.toList.drop (o + cs.length)).toArray) := by
  have hl := run_loadCells_list (P := Tryz.prog) w a cs hsrc
  have hst := run_storeCells_at Tryz.prog g o t cs 0 cur w hg (by simpa using hfit) h1
  cases hq : Tryz.prog.info? elem with
  | none => simp [hq] at hs
  | some i =>
    have hi : i.size = 2 := by simpa [hq] using hs
    simp [Builtin.copy_, run_underlying hu, Builtin.lenOf, Builtin.firstCells, sizeOf, typeInfo, hq, hi, ← hn, hl, hst]

/-- the row behind the first copy: all from i on stands one place on -/
def row1 (i n : Nat) (cur : Array Value) : Array Value := (cur.toList.take ((i + 1) * 2) ++ (cur.toList.drop (i * 2)).take ((n - i) * 2) ++ cur.toList.drop ((i + 1) * 2 + ((cur.toList.drop (i * 2)).take ((n - i) * 2)).length)).toArray
/-- and behind the second: the new one at i -/
def row2 (i : Nat) (x y : Value) (r : Array Value) : Array Value := (r.toList.take (i * 2) ++ [x, y] ++ r.toList.drop (i * 2 + [x, y].length)).toArray

set_option maxHeartbeats 1000000 in
set_option maxRecDepth 100000 in
theorem insert_shift (w : World) (B g vb : Nat) (i n c : Nat) (xs : List Value) (x y : Value) (cur : Array Value) (hg : w.heap[g]? = some (.cells cur 65 (0, 0))) (hcs : cur.size = c * 2) (hvb : w.heap[vb]? = some (.cells #[x, y] 65 (0, 0))) (hne : vb ≠ g) (hi : i < n) (hr : n + 1 ≤ c) (hc : c ≤ 9223372036854775807) (hn1 : n ≤ 1000) (hx1 : x.oneCell' = true) (hy1 : y.oneCell' = true) (h1c : ∀ v ∈ (cur.toList.drop (i * 2)).take ((n - i) * 2), v.oneCell' = true) :
    Calls Tryz.prog 50 #[.slice (some ⟨g, 0, none⟩) n c, .int .i64 i, .slice (some ⟨vb, 0, none⟩) 1 1] w fun e w' => e = .returned (.slice (some ⟨g, 0, none⟩) (n + 1) c) ∧ w' = w.drew.setRow g (row2 i x y (row1 i n cur)) := by
  have hii : (i : Int) ≤ (n : Int) := by omega
  have hi0 : (0 : Int) ≤ (i : Int) := by omega
  have hin : ¬ (i : Int) = (n : Int) := by omega
  have hnc : (n : Int) ≤ (c : Int) := by omega
  have hrc : ¬ (c : Int) < (n : Int) + 1 := by omega
  have hci : ¬ c = i := by omega
  have hci1 : ¬ c = i + 1 := by omega
  have hw1 : IntKind.i64.wrap ((i : Int) + 1) = (i : Int) + 1 := by rw [IntKind.wrap_i64]; omega
  have hb1 : (0 : Int) ≤ (i : Int) + 1 := by omega
  have htn : ((i : Int) + 1).toNat = i + 1 := by omega
  have hin2 : i ≤ n := by omega
  have hb3 : (i : Int) ≤ (n : Int) + 1 := by omega
  have hov : (callFunc 83 #[.slice (some ⟨vb, 0, none⟩) 1 1, .slice (some ⟨g, (i + 1) * 2, none⟩) (n - i) (c - (i + 1))]).run Tryz.prog w = .ok (.value (.bool false)) w := by
    rw [run_callFunc_extern Tryz.func83 (by kernel_rfl) (by kernel_rfl) (by kernel_rfl) (e := Extern.SlicesOverlaps.overlaps #[53, 53] #[4]) (by kernel_rfl),
      Lib.run_overlaps_apart w 53 4 65 Tryz.underlying53 2 Tryz.sizeOf65 ⟨vb, 0, none⟩ ⟨g, (i + 1) * 2, none⟩ 1 1 (n - i) (c - (i + 1)) hne 65 65 2 (c * 2)
        (by simp [World.shape?, hvb]) (by simp [World.shape?, hg, hcs]) (by omega) (Lib.frozen_of_heap hvb 0) (Lib.frozen_of_heap hvb 2)]
    rfl
  have hsz : (Tryz.prog.info? 65).map (·.size) = some 2 := by kernel_rfl
  have hl1 : ((cur.toList.drop (i * 2)).take ((n - i) * 2)).length = (n - i) * 2 := by simp [hcs]; omega
  have hcp1 : ∀ (W : World), W.heap[g]? = some (.cells cur 65 (0, 0)) → ∀ ty dl dc sl sc, dl = n - i → sl = n + 1 - i → (Builtin.copy_ #[54, 54] ty #[.slice (some ⟨g, (i + 1) * 2, none⟩) dl dc, .slice (some ⟨g, i * 2, none⟩) sl sc]).run Tryz.prog W = .ok (goInt (Nat.min sl dl)) (W.setRow g (row1 i n cur)) := fun W hW ty dl dc sl sc h1 h2 => by
    subst h1; subst h2
    exact run_copy_two W 54 54 ty 65 g ((i + 1) * 2) (n - i) dc ⟨g, i * 2, none⟩ (n + 1 - i) sc cur 65 _ Tryz.underlying54 hsz hW (by rw [hl1, show Nat.min (n + 1 - i) (n - i) = n - i from Nat.min_eq_right (by omega)])
      (fun j v hj => by
        rw [Addr.add_lit, Lib.cell_of_heap hW]
        have hjl : j < (n - i) * 2 := by have := (List.getElem?_eq_some_iff.1 hj).1; rw [hl1] at this; exact this
        rw [List.getElem?_take_of_lt hjl, List.getElem?_drop] at hj
        simpa using hj)
      (by rw [hl1, hcs]; omega) h1c
  have hr1s : (row1 i n cur).size = c * 2 := by
    simp [row1, hcs]; omega
  have hcp2 : ∀ (W : World), W.heap[g]? = some (.cells (row1 i n cur) 65 (0, 0)) → W.heap[vb]? = some (.cells #[x, y] 65 (0, 0)) → ∀ ty dl dc, 1 ≤ dl → (Builtin.copy_ #[54, 53] ty #[.slice (some ⟨g, i * 2, none⟩) dl dc, .slice (some ⟨vb, 0, none⟩) 1 1]).run Tryz.prog W = .ok (goInt (Nat.min 1 dl)) (W.setRow g (row2 i x y (row1 i n cur))) := fun W hW hV ty dl dc h1 =>
    run_copy_two W 54 53 ty 65 g (i * 2) dl dc ⟨vb, 0, none⟩ 1 1 (row1 i n cur) 65 [x, y] Tryz.underlying54 hsz hW (by rw [show Nat.min 1 dl = 1 from Nat.min_eq_left h1]; rfl)
      (World.news_of_block hV) (by rw [hr1s]; show i * 2 + 2 ≤ _; omega) (by simp [hx1, hy1])
  have hW1g : (w.drew.setRow g (row1 i n cur)).heap[g]? = some (.cells (row1 i n cur) 65 (0, 0)) := setRow_heap w.drew g cur _ 65 _ hg
  have hW1v : (w.drew.setRow g (row1 i n cur)).heap[vb]? = some (.cells #[x, y] 65 (0, 0)) := by
    unfold World.setRow
    show (w.heap.modify g _)[vb]? = _
    rw [Array.getElem?_modify, if_neg (Ne.symm hne)]
    exact hvb
  have HG := Lib.hid hg
  have HVB := Lib.hid hvb
  have HC1 := Lib.hid (hcp1 w.drew hg)
  have HC2 := Lib.hid hcp2
  have HWg := Lib.hid hW1g
  have HWv := Lib.hid hW1v
  clear hg hvb hcp1 hcp2 hl1 hsz hr1s hW1g hW1v h1c
  go_enter Tryz.func50, Tryz.ntmps50
  go_wp2_with (simp only [hov])
  go_region_law (refine step_copy_runI rfl _ _ 54 54 rfl _ _ (by simp [Act.eval, Act.put]) (by simp [Act.eval, Act.put]) (HC1.out _ (n - i) (c - (i + 1)) (n + 1 - i) (c - i) rfl rfl) ?_)
  go_wp2_with fail
  rw [HC2.out _ HWg.out HWv.out _ (n + 1 - i) (c - i) (by omega)]
  simp only [Result.andThen]
  rw [Oper.upon_value]
  go_wp2_with fail
  go_ret
  exact ⟨rfl, setRow_setRow _ _ _ _⟩
end Go.Proofs.YtfmmpahbjkiomaaGreatDoor
namespace Go.Proofs.YtfmmpahbjkiomaaGreatDoor
open Go.RowKit

/-- the new row behind the second copy: what stood from i on, one place on -/
def row3 (i n : Nat) (cur r : Array Value) : Array Value := (r.toList.take ((i + 1) * 2) ++ (cur.toList.drop (i * 2)).take ((n - i) * 2) ++ r.toList.drop ((i + 1) * 2 + ((cur.toList.drop (i * 2)).take ((n - i) * 2)).length)).toArray

set_option maxHeartbeats 1000000 in
set_option maxRecDepth 100000 in
theorem insert_grow (w : World) (g vb : Nat) (i n c : Nat) (x y : Value) (cur : Array Value) (hg : w.heap[g]? = some (.cells cur 65 (0, 0))) (hcs : cur.size = c * 2) (hvb : w.heap[vb]? = some (.cells #[x, y] 65 (0, 0))) (hi : i < n) (hnc : n ≤ c) (hr : c < n + 1) (hc : c ≤ 9223372036854775807) (hn1 : n ≤ 1000) (hx1 : x.oneCell' = true) (hy1 : y.oneCell' = true) (h1c : ∀ v ∈ (cur.toList.drop (i * 2)).take ((n - i) * 2), v.oneCell' = true) :
    Calls Tryz.prog 50 #[.slice (some ⟨g, 0, none⟩) n c, .int .i64 i, .slice (some ⟨vb, 0, none⟩) 1 1] w fun e w' => ∃ G, e = .returned (.slice (some ⟨w.heap.size, 0, none⟩) (n + 1) G) ∧ n + 1 ≤ G ∧ G ≤ 9223372036854775807 ∧ ∃ ROW : Array Value, ROW.size = G * 2 ∧ ROW.toList.take (i * 2) = cur.toList.take (i * 2) ∧ w' = (((w.alloc (.cells ROW 65)).drew).setRow w.heap.size (row2 i x y ROW)).drew.setRow w.heap.size (row3 i n cur (row2 i x y ROW)) := by
  have hii : (i : Int) ≤ (n : Int) := by omega
  have hi0 : (0 : Int) ≤ (i : Int) := by omega
  have hin : ¬ (i : Int) = (n : Int) := by omega
  have hnci : (n : Int) ≤ (c : Int) := by omega
  have hrc : (c : Int) < (n : Int) + 1 := by omega
  have hic : (i : Int) ≤ (c : Int) := by omega
  have hci : ¬ c = i := by omega
  obtain ⟨i0, hi0', hz0, hzs, hzb⟩ := info_parts info_ins
  have hkk : (n : Int) + 1 - (i : Int) = ((n + 1 - i : Nat) : Int) := by omega
  have hik : i + (n + 1 - i) = n + 1 := by omega
  have hold : (Builtin.firstCells i0.size i (.slice (some ⟨g, 0, none⟩) i c)).run Tryz.prog w.drew = .ok (cur.toList.take (i * 2)).toArray w.drew := by
    rw [hzs]
    exact run_firstCells_some w.drew 2 i ⟨g, 0, none⟩ i c (cur.toList.take (i * 2)) (by rw [List.length_take]; simp [hcs]; omega) (fun j v hj => by
      rw [Addr.add_lit, Lib.cell_of_heap (w := w.drew) hg]
      rw [List.getElem?_take] at hj
      split at hj
      · simpa using hj
      · cases hj)
  have hg2 : (n + 1) * i0.bytes ≤ 140737488355328 := by rw [hzb]; omega
  obtain ⟨G, hG⟩ : ∃ G, G = grownCap w (n + 1) c 65 := ⟨_, rfl⟩
  obtain ⟨ROW, hROW⟩ : ∃ ROW : Array Value, ROW = (cur.toList.take (i * 2)).toArray ++ Builtin.zeroCells (Value.agg #[.int .u8 0, .slice none 0 0]).cells (n + 1 - i) ++ Builtin.zeroCells (Value.agg #[.int .u8 0, .slice none 0 0]).cells (G - (n + 1)) := ⟨_, rfl⟩
  have hrz : ∀ ty, (Builtin.append_ #[54, 3] ty #[.slice (some ⟨g, 0, none⟩) i c, .int .i64 ((n : Int) + 1 - (i : Int))]).run Tryz.prog w =
      .ok (.slice (some ⟨w.heap.size, 0, none⟩) (n + 1) G) (w.drew.alloc (.cells ROW 65)) := fun ty => by
    have h := Lib.run_append_grow_zeros w 54 3 ty 65 i0 _ .i64 .i64 Tryz.underlying54 Tryz.underlying3 hi0' hz0 (some ⟨g, 0, none⟩) i c (cur.toList.take (i * 2)) hold (n + 1 - i) (by omega) (by omega) (by omega) (by omega) (by rw [hzb]; omega) (by rw [hzb, hik]; exact growslice_fits hr (by omega))
    rw [hik] at h
    rw [hkk, hROW, hG]
    exact h
  have hGn : n + 1 ≤ G := by rw [hG]; exact grownCap_ge w _ _ _
  have hG63 : G ≤ 9223372036854775807 := by
    have := grownCap_le_maxLen w (n + 1) c 65 (by unfold maxLen; omega)
    rw [← hG] at this
    unfold maxLen at this
    omega
  have hRs : (n + 1) * 2 ≤ ROW.size := by
    rw [hROW]
    simp [size_zeroCells, Value.cells, hcs]
    omega
  have hRG : ROW.size = G * 2 := by
    rw [hROW]
    simp [size_zeroCells, Value.cells, hcs]
    omega
  have hRT : ROW.toList.take (i * 2) = cur.toList.take (i * 2) := by
    rw [hROW]
    simp only [Array.toList_append, List.append_assoc]
    rw [List.take_left' (by simp [hcs]; omega)]
  have HRR := Lib.hid (And.intro hRG hRT)
  have hsz : (Tryz.prog.info? 65).map (·.size) = some 2 := by kernel_rfl
  have hcpA : ∀ (W : World), W.heap[w.heap.size]? = some (.cells ROW 65 (0, 0)) → W.heap[vb]? = some (.cells #[x, y] 65 (0, 0)) → ∀ ty dl dc, 1 ≤ dl → (Builtin.copy_ #[54, 53] ty #[.slice (some ⟨w.heap.size, i * 2, none⟩) dl dc, .slice (some ⟨vb, 0, none⟩) 1 1]).run Tryz.prog W = .ok (goInt (Nat.min 1 dl)) (W.setRow w.heap.size (row2 i x y ROW)) := fun W hW hV ty dl dc h1 =>
    run_copy_two W 54 53 ty 65 w.heap.size (i * 2) dl dc ⟨vb, 0, none⟩ 1 1 ROW 65 [x, y] Tryz.underlying54 hsz hW (by rw [show Nat.min 1 dl = 1 from Nat.min_eq_left h1]; rfl)
      (World.news_of_block hV) (by show i * 2 + 2 ≤ _; omega) (by simp [hx1, hy1])
  have hl1 : ((cur.toList.drop (i * 2)).take ((n - i) * 2)).length = (n - i) * 2 := by simp [hcs]; omega
  have hRs2 : (n + 1) * 2 ≤ (row2 i x y ROW).size := by simp [row2]; omega
  have hcpB : ∀ (W : World), W.heap[w.heap.size]? = some (.cells (row2 i x y ROW) 65 (0, 0)) → W.heap[g]? = some (.cells cur 65 (0, 0)) → ∀ ty dl dc sl sc, dl = n - i → sl = n - i → (Builtin.copy_ #[54, 54] ty #[.slice (some ⟨w.heap.size, (i + 1) * 2, none⟩) dl dc, .slice (some ⟨g, i * 2, none⟩) sl sc]).run Tryz.prog W = .ok (goInt (Nat.min sl dl)) (W.setRow w.heap.size (row3 i n cur (row2 i x y ROW))) := fun W hW hV ty dl dc sl sc h1 h2 => by
    subst h1; subst h2
    exact run_copy_two W 54 54 ty 65 w.heap.size ((i + 1) * 2) (n - i) dc ⟨g, i * 2, none⟩ (n - i) sc (row2 i x y ROW) 65 _ Tryz.underlying54 hsz hW (by rw [hl1, show Nat.min (n - i) (n - i) = n - i from Nat.min_self _])
      (fun j v hj => by
        rw [Addr.add_lit, Lib.cell_of_heap hV]
        have hjl : j < (n - i) * 2 := by have := (List.getElem?_eq_some_iff.1 hj).1; rw [hl1] at this; exact this
        rw [List.getElem?_take_of_lt hjl, List.getElem?_drop] at hj
        simpa using hj)
      (by rw [hl1]; omega) h1c
  have hgl := heap_lt hg
  have hvl := heap_lt hvb
  have HGn := Lib.hid hGn
  have hGi : ¬ (G = i) := by omega
  have hGi1 : ¬ (G = i + 1) := by omega
  have hw1 : IntKind.i64.wrap ((i : Int) + 1) = (i : Int) + 1 := by rw [IntKind.wrap_i64]; omega
  have hb1 : (0 : Int) ≤ (i : Int) + 1 := by omega
  have htn : ((i : Int) + 1).toNat = i + 1 := by omega
  have hin2 : i ≤ n := by omega
  have HRZ := Lib.hid hrz
  have HA := Lib.hid hcpA
  have HBc := Lib.hid hcpB
  have Hg := Lib.hid hg
  have Hv := Lib.hid hvb
  have hA1 : ((w.alloc (.cells ROW 65)).drew).heap[w.heap.size]? = some (.cells ROW 65 (0, 0)) := heap_alloc_new w _
  have hA2 : ((w.alloc (.cells ROW 65)).drew).heap[vb]? = some (.cells #[x, y] 65 (0, 0)) := (alloc_heap _ _ hvl).trans hvb
  have hB1 : (((w.alloc (.cells ROW 65)).drew).setRow w.heap.size (row2 i x y ROW)).drew.heap[w.heap.size]? = some (.cells (row2 i x y ROW) 65 (0, 0)) := setRow_heap _ w.heap.size ROW _ 65 _ hA1
  have hB2 : (((w.alloc (.cells ROW 65)).drew).setRow w.heap.size (row2 i x y ROW)).drew.heap[g]? = some (.cells cur 65 (0, 0)) := by
    unfold World.setRow
    show ((w.alloc _).heap.modify w.heap.size _)[g]? = _
    rw [Array.getElem?_modify, if_neg (by omega)]
    exact (alloc_heap _ _ hgl).trans hg
  have HA1 := Lib.hid hA1
  have HA2 := Lib.hid hA2
  have HB1 := Lib.hid hB1
  have HB2 := Lib.hid hB2
  clear hA1 hA2 hB1 hB2 hgl hvl hRG hRT
  clear hg hvb hrz hcpA hcpB hl1 hRs hRs2 hROW hG h1c hkk hik hold hg2 hcs hGn hsz
  go_enter Tryz.func50, Tryz.ntmps50
  go_wp2_with (at_builtin; refine Lib.wpList_append_run _ rfl _ _ 54 3 rfl _ _ rfl rfl _ _ (HRZ.out _) ?_)
  rw [HA.out _ HA1.out HA2.out _ (n + 1 - i) (G - i) (by omega)]
  simp only [Result.andThen]
  rw [Oper.upon_value]
  go_wp2_with fail
  go_region_law (refine step_copy_runI rfl _ _ 54 54 rfl _ _ (by simp [Act.eval, Act.put]) (by simp [Act.eval, Act.put]) (HBc.out _ HB1.out HB2.out _ (n - i) (G - (i + 1)) (n - i) (c - i) rfl rfl) ?_)
  go_wp2_with fail
  go_ret
  exact ⟨G, rfl, HGn.out, hG63, ROW, HRR.out.1, HRR.out.2, rfl⟩
end Go.Proofs.YtfmmpahbjkiomaaGreatDoor
namespace Go.Proofs.YtfmmpahbjkiomaaGreatDoor
open Go.RowKit

theorem row2_list (i : Nat) (x y : Value) (r : Array Value) : (row2 i x y r).toList = r.toList.take (i * 2) ++ [x, y] ++ r.toList.drop (i * 2 + 2) := by
  simp [row2]
theorem row1_list (i n : Nat) (cur : Array Value) : (row1 i n cur).toList = cur.toList.take ((i + 1) * 2) ++ (cur.toList.drop (i * 2)).take ((n - i) * 2) ++ cur.toList.drop ((i + 1) * 2 + ((cur.toList.drop (i * 2)).take ((n - i) * 2)).length) := by
  simp [row1]
theorem row3_list (i n : Nat) (cur r : Array Value) : (row3 i n cur r).toList = r.toList.take ((i + 1) * 2) ++ (cur.toList.drop (i * 2)).take ((n - i) * 2) ++ r.toList.drop ((i + 1) * 2 + ((cur.toList.drop (i * 2)).take ((n - i) * 2)).length) := by
  simp [row3]

/-- in place: ahead of i as it was, the new one, the rest one place on -/
theorem shift_holds (i n c : Nat) (x y : Value) (cur : Array Value) (hcs : cur.size = c * 2) (hi : i < n) (hr : n + 1 ≤ c) :
    (row2 i x y (row1 i n cur)).size = c * 2 ∧ (row2 i x y (row1 i n cur)).toList.take ((n + 1) * 2) = (cur.toList.take (n * 2)).take (i * 2) ++ [x, y] ++ (cur.toList.take (n * 2)).drop (i * 2) := by
  have hl : ((cur.toList.drop (i * 2)).take ((n - i) * 2)).length = (n - i) * 2 := by simp [hcs]; omega
  have hd : (cur.toList.take (n * 2)).drop (i * 2) = (cur.toList.drop (i * 2)).take ((n - i) * 2) := by
    rw [List.drop_take]; congr 1; omega
  have ht : (cur.toList.take (n * 2)).take (i * 2) = cur.toList.take (i * 2) := by
    rw [List.take_take]; congr 1; omega
  constructor
  · simp [row2, row1, hcs]; omega
  · rw [hd, ht, row2_list, row1_list, hl]
    generalize hm : (cur.toList.drop (i * 2)).take ((n - i) * 2) = mid at *
    have h1 : (cur.toList.take ((i + 1) * 2) ++ mid ++ cur.toList.drop ((i + 1) * 2 + (n - i) * 2)).take (i * 2) = cur.toList.take (i * 2) := by
      rw [List.append_assoc, List.take_append_of_le_length (by simp [hcs]; omega), List.take_take]; congr 1; omega
    have h2 : (cur.toList.take ((i + 1) * 2) ++ mid ++ cur.toList.drop ((i + 1) * 2 + (n - i) * 2)).drop (i * 2 + 2) = mid ++ cur.toList.drop ((i + 1) * 2 + (n - i) * 2) := by
      rw [List.append_assoc, List.drop_left' (by simp [hcs]; omega)]
    rw [h1, h2, ← List.append_assoc, List.take_left' (by simp [hcs, hl]; omega)]

/-- a new row: the same -/
theorem grow_holds (i n c G : Nat) (x y : Value) (cur ROW : Array Value) (hcs : cur.size = c * 2) (hi : i < n) (hnc : n ≤ c) (hG : n + 1 ≤ G) (hRs : ROW.size = G * 2) (hRT : ROW.toList.take (i * 2) = cur.toList.take (i * 2)) :
    (row3 i n cur (row2 i x y ROW)).size = G * 2 ∧ (row3 i n cur (row2 i x y ROW)).toList.take ((n + 1) * 2) = (cur.toList.take (n * 2)).take (i * 2) ++ [x, y] ++ (cur.toList.take (n * 2)).drop (i * 2) := by
  have hl : ((cur.toList.drop (i * 2)).take ((n - i) * 2)).length = (n - i) * 2 := by simp [hcs]; omega
  have hd : (cur.toList.take (n * 2)).drop (i * 2) = (cur.toList.drop (i * 2)).take ((n - i) * 2) := by
    rw [List.drop_take]; congr 1; omega
  have ht : (cur.toList.take (n * 2)).take (i * 2) = cur.toList.take (i * 2) := by
    rw [List.take_take]; congr 1; omega
  constructor
  · simp [row3, row2, hcs, hRs]; omega
  · rw [hd, ht, row3_list, row2_list, hl, hRT]
    generalize hm : (cur.toList.drop (i * 2)).take ((n - i) * 2) = mid at *
    have hl0 : (cur.toList.take (i * 2)).length = i * 2 := by simp [hcs]; omega
    generalize cur.toList.take (i * 2) = pre at *
    have h1 : (pre ++ [x, y] ++ ROW.toList.drop (i * 2 + 2)).take ((i + 1) * 2) = pre ++ [x, y] := List.take_left' (by simp [hl0]; omega)
    rw [h1, List.take_left' (by simp [hl0, hl]; omega)]
end Go.Proofs.YtfmmpahbjkiomaaGreatDoor
namespace Go.Proofs.YtfmmpahbjkiomaaGreatDoor
open Go.RowKit

theorem setRow_size (w : World) (g : Nat) (cs : Array Value) : (w.setRow g cs).heap.size = w.heap.size := by
  unfold World.setRow; exact Array.size_modify
theorem setRow_other (w : World) (g : Nat) (cs : Array Value) (k : Nat) (h : g ≠ k) : (w.setRow g cs).heap[k]? = w.heap[k]? := by
  unfold World.setRow
  dsimp only
  rw [Array.getElem?_modify, if_neg h]
theorem drew_heap (w : World) : w.drew.heap = w.heap := rfl

theorem insert_any (w : World) (B vb : Nat) (a : Option Addr) (i n c : Nat) (xs : List Value) (x y : Value) (hown : w.ownsRow B 65 2 (.slice a n c) n xs) (hvb : w.heap[vb]? = some (.cells #[x, y] 65 (0, 0))) (hne : (Value.slice a n c).ownBlock ≠ some vb) (hB : B ≤ w.heap.size) (hi : i ≤ n) (hn : n ≤ 1000)
    (hx1 : x.oneCell' = true) (hy1 : y.oneCell' = true) (h1 : ∀ v ∈ xs, v.oneCell' = true) :
    Calls Tryz.prog 50 #[.slice a n c, .int .i64 i, .slice (some ⟨vb, 0, none⟩) 1 1] w fun e w' => ∃ g' c', e = .returned (.slice (some ⟨g', 0, none⟩) (n + 1) c') ∧ w'.ownsRow B 65 2 (.slice (some ⟨g', 0, none⟩) (n + 1) c') (n + 1) (xs.take (i * 2) ++ [x, y] ++ xs.drop (i * 2)) ∧ w.grownBy w' (Value.slice a n c).ownBlock := by
  by_cases hin : i = n
  · subst hin
    have hl := hown.1
    refine (insert_end w B vb a i c xs x y hown hvb hB hn hx1 hy1).mono ?_
    rintro e w' ⟨g', c', rfl, h2, h3, _⟩
    refine ⟨g', c', rfl, ?_, h3⟩
    rw [List.take_of_length_le (by omega), List.drop_of_length_le (by omega), List.append_nil]
    exact h2
  · obtain ⟨hl, h⟩ := hown
    rcases h with ⟨_, h0⟩ | ⟨g, cap, cur, hv, hg, hbk, hnc, hm, hcs, ht⟩
    · omega
    · injection hv with h3 h4 h5
      subst h3; subst h5
      have hgv : vb ≠ g := fun e => hne (by rw [e]; rfl)
      have hgl := heap_lt hbk
      have h1c : ∀ v ∈ (cur.toList.drop (i * 2)).take ((n - i) * 2), v.oneCell' = true := by
        intro v hv
        apply h1 v
        rw [← ht]
        have hd : (cur.toList.take (n * 2)).drop (i * 2) = (cur.toList.drop (i * 2)).take ((n - i) * 2) := by
          rw [List.drop_take]; congr 1; omega
        rw [← hd] at hv
        exact List.mem_of_mem_drop hv
      by_cases hr : n + 1 ≤ c
      · refine (insert_shift w B g vb i n c xs x y cur hbk hcs hvb hgv (by omega) hr (by unfold maxLen at hm; omega) hn hx1 hy1 h1c).mono ?_
        rintro e w' ⟨rfl, rfl⟩
        obtain ⟨s1, s2⟩ := shift_holds i n c x y cur hcs (by omega) hr
        refine ⟨g, c, rfl, ⟨by simp [hl]; omega, .inr ⟨g, c, _, rfl, hg, setRow_heap w.drew g cur _ _ _ hbk, hr, hm, s1, by rw [s2, ht]⟩⟩, rfl, rfl, rfl, by show w.heap.size ≤ (w.heap.modify g _).size; simp, fun k hk hne' => ?_⟩
        show (w.heap.modify g _)[k]? = _
        rw [Array.getElem?_modify, if_neg (fun e => hne' (by rw [← e]; rfl))]
      · refine (insert_grow w g vb i n c x y cur hbk hcs hvb (by omega) hnc (by omega) (by unfold maxLen at hm; omega) hn hx1 hy1 h1c).mono ?_
        rintro e w' ⟨G, rfl, hG, hG63, ROW, hRs, hRT, rfl⟩
        obtain ⟨s1, s2⟩ := grow_holds i n c G x y cur ROW hcs (by omega) hnc hG hRs hRT
        have k1 : ((w.alloc (.cells ROW 65)).drew).heap[w.heap.size]? = some (.cells ROW 65 (0, 0)) := heap_alloc_new w _
        have k2 : (((w.alloc (.cells ROW 65)).drew).setRow w.heap.size (row2 i x y ROW)).drew.heap[w.heap.size]? = some (.cells (row2 i x y ROW) 65 (0, 0)) := setRow_heap _ w.heap.size ROW _ 65 _ k1
        have k3 := setRow_heap _ w.heap.size (row2 i x y ROW) (row3 i n cur (row2 i x y ROW)) 65 _ k2
        refine ⟨w.heap.size, G, rfl, ⟨by simp [hl]; omega, .inr ⟨w.heap.size, G, _, rfl, hB, k3, hG, by unfold maxLen; omega, s1, by rw [s2, ht]⟩⟩, rfl, rfl, rfl, ?_, fun k hk hne' => ?_⟩
        · rw [setRow_size, drew_heap, setRow_size, drew_heap, alloc_size']
          exact Nat.le_succ _
        · rw [setRow_other _ _ _ _ (by omega), drew_heap, setRow_other _ _ _ _ (by omega), drew_heap]
          exact alloc_heap _ _ hk
end Go.Proofs.YtfmmpahbjkiomaaGreatDoor
namespace Go.Proofs.YtfmmpahbjkiomaaGreatDoor
open Go.RowKit

theorem qVs_append (a b : List Qr) : qVs (a ++ b) = qVs a ++ qVs b := by simp [qVs]
theorem qVs_length2 (a : List Qr) : (qVs a).length = a.length * 2 := by
  induction a with
  | nil => rfl
  | cons q a ih => rw [show qVs (q :: a) = qV q ++ qVs a from rfl, List.length_append, ih]; show 2 + _ = _; simp; omega
theorem qVs_split (qs : List Qr) (i : Nat) (hi : i ≤ qs.length) : (qVs qs).take (i * 2) = qVs (qs.take i) ∧ (qVs qs).drop (i * 2) = qVs (qs.drop i) := by
  have h : qVs qs = qVs (qs.take i) ++ qVs (qs.drop i) := by rw [← qVs_append, List.take_append_drop]
  have hl : (qVs (qs.take i)).length = i * 2 := by rw [qVs_length2, List.length_take]; omega
  rw [h]
  exact ⟨List.take_left' hl, List.drop_left' hl⟩

theorem IsProg.ins {w w1 w2 : World} {B : Nat} {S S2 : Nat → Prop} {qs : List Qr} {v v' : Value} {q : Qr} (i : Nat) (hi : i ≤ qs.length) (h : IsProg w B S qs v) (hB : IsBody w S2 q.1.2 q.2) (hS : ∀ k, S2 k → B ≤ k ∧ ∃ cur fz, w.heap[k]? = some (.cells cur 103 fz))
    (hb : ∀ k, k < w.heap.size → w1.heap[k]? = w.heap[k]?) (hz : w.heap.size ≤ w1.heap.size) (hrow : w2.ownsRow B 65 2 v' (qs.length + 1) ((qVs qs).take (i * 2) ++ qV q ++ (qVs qs).drop (i * 2))) (hg : w1.grownBy w2 v.ownBlock) :
    IsProg w2 B (fun k => S k ∨ S2 k) (qs.take i ++ [q] ++ qs.drop i) v' := by
  have hk : ∀ k, (S k ∨ S2 k) → w2.heap[k]? = w.heap[k]? := by
    intro k hk
    have hne : v.ownBlock ≠ some k := by
      intro he
      rcases hk with hk | hk
      · exact h.apart he hk
      · obtain ⟨_, cur, hc⟩ := h.row_block he
        obtain ⟨_, cur', fz, hc'⟩ := hS k hk
        rw [hc] at hc'
        injection hc' with hc'
        injection hc' with _ ht _
        exact absurd ht (by decide)
    have hlt : k < w.heap.size := by
      rcases hk with hk | hk
      · exact h.lt k hk
      · obtain ⟨_, cur', fz, hc'⟩ := hS k hk; exact heap_lt hc'
    rw [hg.block k (by omega) (fun e => hne e.symm), hb k hlt]
  obtain ⟨e1, e2⟩ := qVs_split qs i hi
  refine ⟨?_, ?_, ?_⟩
  · rw [e1, e2] at hrow
    rw [qVs_append, qVs_append, show qVs [q] = qV q by simp [qVs], show (qs.take i ++ [q] ++ qs.drop i).length = qs.length + 1 by simp; omega]
    exact hrow
  · intro p hp
    have hp' : p = q ∨ p ∈ qs := by
      rcases List.mem_append.1 hp with hp | hp
      · rcases List.mem_append.1 hp with hp | hp
        · exact .inr (List.mem_of_mem_take hp)
        · exact .inl (List.mem_singleton.1 hp)
      · exact .inr (List.mem_of_mem_drop hp)
    rcases hp' with rfl | hp'
    · exact hB.kept (fun k hS => hk k (.inr hS)) (fun _ h => .inr h)
    · exact (h.body p hp').kept (fun k hS => hk k (.inl hS)) (fun _ h => .inl h)
  · intro k hS'
    rcases hS' with h1 | h1
    · obtain ⟨a, cur, fz, hc⟩ := h.set k h1; exact ⟨a, cur, fz, by rw [hk k (.inl h1)]; exact hc⟩
    · obtain ⟨a, cur, fz, hc⟩ := hS k h1; exact ⟨a, cur, fz, by rw [hk k (.inr h1)]; exact hc⟩
end Go.Proofs.YtfmmpahbjkiomaaGreatDoor
namespace Go.Proofs.YtfmmpahbjkiomaaGreatDoor
end Go.Proofs.YtfmmpahbjkiomaaGreatDoor
namespace Go.Proofs.YtfmmpahbjkiomaaGreatDoor
open Go.RowKit Gram

theorem ReadTo.flag {o : Option (List Stm)} {w w' : World} {r : Ending} (h : ReadTo o w r w') : ∃ v, r = .returned (.tuple #[v, .bool o.isSome]) ∧ Below w.heap.size w w' := by
  obtain ⟨h1, h2⟩ := h
  cases o with
  | none => exact ⟨_, h1, h2⟩
  | some xs => obtain ⟨v, S, h3, _⟩ := h1; exact ⟨v, h3, h2⟩

set_option maxHeartbeats 2000000 in
set_option maxRecDepth 100000 in
theorem with_refused (s nm bt : ByteArray) (w : World) (hs : s.size ≤ 1073741824) (hb : bt.size ≤ 1073741824) (hm : MaxCell w) (h : ((progOf s).isSome && ((nameOf nm.data.toList).isSome && (bodyOf bt).isSome)) = false) :
    Calls Tryz.prog 20 #[.string s, .string nm, .string bt] w fun e w' => e = .returned (.tuple #[.string ⟨#[]⟩, .bool false]) ∧ Below w.heap.size w w' := by
  have HR := Lib.hid ((read_prog s w hs hm).mono fun _ _ h => h.cases)
  have HL := Lib.hid (fun w => letter_of nm w)
  have HB := Lib.hid (fun w => (body_any bt w hb).mono fun _ _ h => h.flag)
  clear hm hs hb
  generalize (progOf s).isSome = b1 at *
  generalize (nameOf nm.data.toList).isSome = b2 at *
  generalize (bodyOf bt).isSome = b3 at *
  cases b1 <;> cases b2 <;> cases b3 <;> first | (cases h; done) | skip
  all_goals
    go_enter Tryz.func20, Tryz.ntmps20
    go_wp2_with fail
    refine HR.out.mono ?_
    rintro e w2 ⟨a, n, c, rfl, hb, _⟩
    have HB2 := Lib.hid hb
    clear hb
    go_wp2_with fail
    refine (HL.out _).mono ?_
    rintro e w3 ⟨rfl, rfl⟩
    go_wp2_with fail
    refine (HB.out _).mono ?_
    rintro e w4 ⟨v, rfl, hb⟩
    have HB4 := Lib.hid (HB2.out.trans (hb.mono HB2.out.size))
    clear hb
    go_wp2_with fail
    first | go_ret | go_ret2 | go_ret3
    exact ⟨rfl, HB4.out⟩
end Go.Proofs.YtfmmpahbjkiomaaGreatDoor
namespace Go.Proofs.YtfmmpahbjkiomaaGreatDoor
open Go.RowKit Gram

/-- the text with another body for a name that is there -/
def putT (ps : List Pr) (t : UInt8) (xs : List Stm) : ByteArray := txtOf (joinP (ps.set (rank (namesOf ps) t) (t, xs)))
/-- what WithBody hands back of a text -/
def validT (T : ByteArray) : Value := if (progOf T).isSome then .tuple #[.string T, .bool true] else .tuple #[.string ⟨#[]⟩, .bool false]

set_option maxHeartbeats 2000000 in
set_option maxRecDepth 100000 in
theorem with_put (s nm bt : ByteArray) (w : World) (hs : s.size ≤ 1073741824) (hb : bt.size ≤ 1073741824) (hm : MaxCell w) (ps : List Pr) (t : UInt8) (xs : List Stm) (hp : progOf s = some ps) (hno : nameOf nm.data.toList = some t) (hbo : bodyOf bt = some xs) (hc : (namesOf ps).contains t = true) :
    Calls Tryz.prog 20 #[.string s, .string nm, .string bt] w fun e w' => e = .returned (validT (putT ps t xs)) ∧ Below w.heap.size w w' := by
  have HR := Lib.hid ((read_prog s w hs hm).mono fun _ _ h => h.cases)
  have HL := Lib.hid (fun w => letter_of nm w)
  have HB := Lib.hid (fun w => body_any bt w hb)
  rw [hp] at HR
  rw [hno] at HL
  rw [hbo] at HB
  have hf := prog_facts hp
  have HX := Lib.hid (bodyOf_some hbo)
  have HM := Lib.hid hm
  clear hm hs hb hp hno hbo
  obtain ⟨T, hT⟩ : ∃ T, T = putT ps t xs := ⟨_, rfl⟩
  rw [← hT]
  have HPT := Lib.hid (show T = txtOf (joinP (ps.set (rank (namesOf ps) t) (t, xs))) from hT)
  clear hT
  go_enter Tryz.func20, Tryz.ntmps20
  go_wp2_with fail
  refine HR.out.mono ?_
  rintro e w2 ⟨a, n, c, rfl, hb, hq⟩
  obtain ⟨S, qs, hqp, hIP, hG⟩ := hq ps rfl
  have hnq : n = qs.length := by
    obtain ⟨a', c', h⟩ := hIP.form
    injection h
  have hln : n ≤ 401 := by rw [hnq, ← List.length_map (f := fun q : Qr => q.1), hqp]; exact hf.1
  have hnm : namesQ qs = namesOf ps := by rw [← hqp, namesOf, List.map_map]; rfl
  have hasc : asc (namesQ qs) := by rw [hnm]; exact procs_asc _ _ _ hf.2.2.2 (by simp [asc, namesOf])
  have HF := fun w3 (hb3 : Below w2.heap.size w2 w3) => find_in (hIP.kept fun k hk => hb3.block k hk) hnq.symm hln hasc t
  rw [hnm, hc] at HF
  have HRk := Lib.hid ((rank_has _ _ hasc).1 (by rw [hnm]; exact hc))
  rw [hnm] at HRk
  have HF2 := Lib.hid HF
  have HB2 := Lib.hid hb
  have HIP := Lib.hid hIP
  have HG := Lib.hid hG
  have HNQ := Lib.hid hnq
  have HQP := Lib.hid hqp
  have hrl : rank (namesOf ps) t < n := by
    obtain ⟨h, _⟩ := HRk.out
    rw [← hnm] at h ⊢
    simpa [namesQ, ← hnq] using h
  clear HF hb hIP hG hnq hqp hq hnm hasc hf hc
  generalize hrk : rank (namesOf ps) t = r at *
  clear hrk
  obtain ⟨g, rfl⟩ : ∃ g, a = some ⟨g, 0, none⟩ := by
    rcases HIP.out.row.2 with ⟨h1, h2⟩ | ⟨g, cap, cur, h1, _⟩
    · have := HNQ.out; omega
    · injection h1 with h3; exact ⟨g, h3⟩
  go_wp2_with fail
  refine (HL.out _).mono ?_
  rintro e w3 ⟨rfl, rfl⟩
  simp only [letN, Option.isSome] 
  go_wp2_with fail
  refine (HB.out _).mono ?_
  rintro e w4 ⟨⟨v, S2, rfl, hB4, hS2⟩, hb4⟩
  obtain ⟨ba, bn, bc, hbf⟩ := hB4.form
  subst hbf
  have HB4 := Lib.hid hb4
  have HBo := Lib.hid hB4
  have HS2 := Lib.hid hS2
  clear hb4 hB4 hS2
  go_wp2_with fail
  refine (HF2.out _ HB4.out).mono ?_
  rintro e w5 ⟨rfl, hb5⟩
  have HB5 := Lib.hid hb5
  have HIP5 := Lib.hid ((HIP.out.kept fun k hk => HB4.out.block k hk).kept fun k hk => hb5.block k hk)
  have hrq : r < qs.length := by rw [← HNQ.out]; exact hrl
  obtain ⟨g2, hg2, hgB, c0, c1⟩ := IsProg.get (a := some ⟨g, 0, none⟩) (n := n) (c := c) HIP5.out r hrq
  injection hg2 with hg2
  injection hg2 with hg2
  subst hg2
  have hri : (r : Int) < (n : Int) := by omega
  have hr0 : (0 : Int) ≤ (r : Int) := Int.natCast_nonneg _
  obtain ⟨_, curg, hcurg⟩ := HIP5.out.row_block (g := g) rfl
  have fz1 : w5.frozen? ⟨g, r * 2 + 1, none⟩ = false := Lib.frozen_of_heap hcurg _
  have HBo5 := Lib.hid (HBo.out.kept (S' := S2) (fun k hk => hb5.block k (by obtain ⟨_, cur, fz, hc⟩ := HS2.out k hk; exact heap_lt hc)) (fun _ h => h))
  have HS5 := Lib.hid (fun k (hk : S2 k) => show w.heap.size ≤ k ∧ ∃ cur fz, w5.heap[k]? = some (.cells cur 103 fz) by
    obtain ⟨h1, cur, fz, hc⟩ := HS2.out k hk
    exact ⟨Nat.le_trans HB2.out.size h1, cur, fz, (hb5.block k (heap_lt hc)).trans hc⟩)
  have HP6 := Lib.hid (IsProg.put r hrq xs (.slice ba bn bc) HIP5.out HBo5.out HS5.out)
  have HB6 := Lib.hid (show Below w.heap.size w (w5.setCell ⟨g, r * 2 + 1, none⟩ (.slice ba bn bc)) from ((HB2.out.trans (HB4.out.mono HB2.out.size)).trans (HB5.out.mono (Nat.le_trans HB2.out.size HB4.out.size))).setCell (p := ⟨g, r * 2 + 1, none⟩) hgB _)
  have hqr : qs[r].1.1 = t := by
    obtain ⟨h1, h2⟩ := HRk.out
    rw [← h2]
    have : namesQ qs = namesOf ps := by rw [← HQP.out, namesOf, List.map_map]; rfl
    simp [← this, namesQ]
  have hmap : (qs.set r ((qs[r].1.1, xs), Value.slice ba bn bc)).map (·.1) = ps.set r (t, xs) := by
    rw [List.map_set, HQP.out, hqr]
  have hgd : ∀ q ∈ qs.set r ((qs[r].1.1, xs), Value.slice ba bn bc), (txts q.1.2).length ≤ 1000 := by
    intro q hq
    rcases List.mem_or_eq_of_mem_set hq with hq | rfl
    · have := (HG.out q hq).2.2.1; omega
    · have h1 := HX.out.1
      have h2 := congrArg List.length HX.out.2.1
      show (txts xs).length ≤ 1000
      rw [← h2, Array.length_toList]
      exact Nat.le_trans h1 (by omega)
  have HPL := Lib.hid (parts_loop HP6.out (by rw [List.length_set]; exact HNQ.out.symm) hln hgd)
  have hTs : T.size ≤ 1073741824 := by
    rw [HPT.out, ← hmap, txtOf_size]
    have h1 := joinP_le ((qs.set r ((qs[r].1.1, xs), Value.slice ba bn bc)).map (·.1)) (fun p hp => by
      obtain ⟨q, hq, rfl⟩ := List.mem_map.1 hp
      have := hgd q hq
      show (_ :: 58 :: txts q.1.2).length ≤ 1002
      simp only [List.length_cons]
      omega)
    rw [List.length_map, List.length_set] at h1
    have := HNQ.out
    omega
  rw [hmap, ← HPT.out] at HPL
  have HV := Lib.hid (fun w' (hb : Below w.heap.size w w') => impl_valid T w' hTs (HM.out.later hb))
  clear hb5 hcurg hqr hmap hgd hTs
  go_wp2_with fail
  refine HPL.out.mono ?_
  rintro e w7 ⟨rfl, hb7⟩
  have HB7 := Lib.hid (HB6.out.trans (hb7.mono HB6.out.size))
  clear hb7
  go_wp2_with fail
  refine (HV.out _ HB7.out).mono ?_
  rintro e w8 ⟨rfl, hb8⟩
  have HB8 := Lib.hid (HB7.out.trans (hb8.mono HB7.out.size))
  clear hb8
  cases hv : (progOf T).isSome with
  | true =>
    have HVT := Lib.hid (show validT T = .tuple #[.string T, .bool true] by rw [validT, hv]; rfl)
    clear hv
    go_wp2_with fail
    first | go_ret | go_ret2
    exact ⟨by rw [HVT.out]; rfl, HB8.out⟩
  | false =>
    have HVT := Lib.hid (show validT T = .tuple #[.string ⟨#[]⟩, .bool false] by rw [validT, hv]; rfl)
    clear hv
    go_wp2_with fail
    first | go_ret | go_ret2
    exact ⟨by rw [HVT.out]; rfl, HB8.out⟩
end Go.Proofs.YtfmmpahbjkiomaaGreatDoor
namespace Go.Proofs.YtfmmpahbjkiomaaGreatDoor
open Go.RowKit Gram

theorem asc_len (l : List UInt8) (h : asc l) : ∀ b, (∀ x ∈ l, b ≤ x.toNat) → b ≤ 256 → l.length ≤ 256 - b := by
  induction l with
  | nil => intro b _ _; exact Nat.zero_le _
  | cons c t ih =>
    intro b hb hb2
    obtain ⟨h1, h2⟩ := List.pairwise_cons.1 h
    have hc := c.toNat_lt
    have h3 := hb c (by simp)
    have h4 := ih h2 (c.toNat + 1) (fun x hx => h1 x hx) (by omega)
    simp only [List.length_cons]
    omega

/-- the text with one procedure more -/
def insT (ps : List Pr) (t : UInt8) (xs : List Stm) : ByteArray := txtOf (joinP (ps.take (rank (namesOf ps) t) ++ [(t, xs)] ++ ps.drop (rank (namesOf ps) t)))

set_option maxHeartbeats 2000000 in
set_option maxRecDepth 100000 in
theorem with_ins (s nm bt : ByteArray) (w : World) (hs : s.size ≤ 1073741824) (hb : bt.size ≤ 1073741824) (hm : MaxCell w) (ps : List Pr) (t : UInt8) (xs : List Stm) (hp : progOf s = some ps) (hno : nameOf nm.data.toList = some t) (hbo : bodyOf bt = some xs) (hc : (namesOf ps).contains t = false) :
    Calls Tryz.prog 20 #[.string s, .string nm, .string bt] w fun e w' => e = .returned (validT (insT ps t xs)) ∧ Below w.heap.size w w' := by
  have HR := Lib.hid ((read_prog s w hs hm).mono fun _ _ h => h.cases)
  have HL := Lib.hid (fun w => letter_of nm w)
  have HB := Lib.hid (fun w => body_any bt w hb)
  rw [hp] at HR
  rw [hno] at HL
  rw [hbo] at HB
  have hf := prog_facts hp
  have HX := Lib.hid (bodyOf_some hbo)
  have HM := Lib.hid hm
  clear hm hs hb hp hno hbo
  obtain ⟨T, hT⟩ : ∃ T, T = insT ps t xs := ⟨_, rfl⟩
  rw [← hT]
  have HPT := Lib.hid (show T = txtOf (joinP (ps.take (rank (namesOf ps) t) ++ [(t, xs)] ++ ps.drop (rank (namesOf ps) t))) from hT)
  clear hT
  go_enter Tryz.func20, Tryz.ntmps20
  go_wp2_with fail
  refine HR.out.mono ?_
  rintro e w2 ⟨a, n, c, rfl, hb, hq⟩
  obtain ⟨S, qs, hqp, hIP, hG⟩ := hq ps rfl
  have hnq : n = qs.length := by
    obtain ⟨a', c', h⟩ := hIP.form
    injection h
  have hln : n ≤ 401 := by rw [hnq, ← List.length_map (f := fun q : Qr => q.1), hqp]; exact hf.1
  have hnm : namesQ qs = namesOf ps := by rw [← hqp, namesOf, List.map_map]; rfl
  have hasc : asc (namesQ qs) := by rw [hnm]; exact procs_asc _ _ _ hf.2.2.2 (by simp [asc, namesOf])
  have HF := fun w3 (hb3 : Below w2.heap.size w2 w3) => find_in (hIP.kept fun k hk => hb3.block k hk) hnq.symm hln hasc t
  rw [hnm, hc] at HF
  have HF2 := Lib.hid HF
  have HB2 := Lib.hid hb
  have HIP := Lib.hid hIP
  have HG := Lib.hid hG
  have HNQ := Lib.hid hnq
  have HQP := Lib.hid hqp
  have hn256 : n ≤ 256 := by
    have h := asc_len _ hasc 0 (fun _ _ => Nat.zero_le _) (by omega)
    rw [namesQ, List.length_map, ← hnq] at h
    omega
  have hrl : rank (namesOf ps) t ≤ n := by
    rw [← hnm, hnq]
    have : rank (namesQ qs) t ≤ (namesQ qs).length := List.countP_le_length
    simpa [namesQ] using this
  clear HF hb hIP hG hnq hqp hq hnm hasc hf hc
  generalize hrk : rank (namesOf ps) t = r at *
  clear hrk
  go_wp2_with fail
  refine (HL.out _).mono ?_
  rintro e w3 ⟨rfl, rfl⟩
  simp only [letN, Option.isSome] 
  go_wp2_with fail
  refine (HB.out _).mono ?_
  rintro e w4 ⟨⟨v, S2, rfl, hB4, hS2⟩, hb4⟩
  obtain ⟨ba, bn, bc, hbf⟩ := hB4.form
  subst hbf
  have HB4 := Lib.hid hb4
  have HBo := Lib.hid hB4
  have HS2 := Lib.hid hS2
  clear hb4 hB4 hS2
  go_wp2_with fail
  refine (HF2.out _ HB4.out).mono ?_
  rintro e w5 ⟨rfl, hb5⟩
  have HB5 := Lib.hid hb5
  have HIP5 := Lib.hid ((HIP.out.kept fun k hk => HB4.out.block k hk).kept fun k hk => hb5.block k hk)
  have hri : (r : Int) ≤ (n : Int) := by omega
  have hr0 : (0 : Int) ≤ (r : Int) := Int.natCast_nonneg _
  have HBo5 := Lib.hid (HBo.out.kept (S' := S2) (fun k hk => hb5.block k (by obtain ⟨_, cur, fz, hc⟩ := HS2.out k hk; exact heap_lt hc)) (fun _ h => h))
  have HS5 := Lib.hid (fun k (hk : S2 k) => show w.heap.size ≤ k ∧ ∃ cur fz, w5.heap[k]? = some (.cells cur 103 fz) by
    obtain ⟨h1, cur, fz, hc⟩ := HS2.out k hk
    exact ⟨Nat.le_trans HB2.out.size h1, cur, fz, (hb5.block k (heap_lt hc)).trans hc⟩)
  have HW5 := Lib.hid (show Below w.heap.size w w5 from (HB2.out.trans (HB4.out.mono HB2.out.size)).trans (HB5.out.mono (Nat.le_trans HB2.out.size HB4.out.size)))
  have hrow5 : w5.ownsRow w.heap.size 65 2 (.slice a n c) n (qVs qs) := by
    have h := HIP5.out.row
    rw [← HNQ.out] at h
    exact h
  have hne5 : (Value.slice a n c).ownBlock ≠ some w5.heap.size := by
    intro he
    obtain ⟨_, cur, hc⟩ := HIP5.out.row_block he
    have := heap_lt hc
    omega
  have hone : ∀ v ∈ qVs qs, v.oneCell' = true := by
    intro v hv
    obtain ⟨q, hq, hv⟩ := List.mem_flatMap.1 hv
    simp only [qV, List.mem_cons, List.not_mem_nil, or_false] at hv
    rcases hv with rfl | rfl
    · rfl
    · obtain ⟨_, _, _, e⟩ := (HIP5.out.body q hq).form
      rw [e]; rfl
  have HINS := Lib.hid (insert_any (w5.alloc (Obj.cells #[.int .u8 t.toNat, .slice ba bn bc] 65)) w.heap.size w5.heap.size a r n c (qVs qs) (.int .u8 t.toNat) (.slice ba bn bc) (World.ownsRow.alloc (w := w5) hrow5 _) (heap_alloc_new w5 _) hne5 (by rw [alloc_size']; exact Nat.le_succ_of_le HW5.out.size) hrl (by omega) rfl rfl hone)
  clear hb5 hrow5 hne5 hone
  go_wp2_with fail
  refine HINS.out.mono ?_
  rintro e w6 ⟨g', c', rfl, hrow6, hgr⟩
  have HP6 := Lib.hid (IsProg.ins (w := w5) (q := ((t, xs), .slice ba bn bc)) r (by rw [← HNQ.out]; exact hrl) HIP5.out HBo5.out HS5.out (fun k hk => alloc_heap _ _ hk) (by rw [alloc_size']; exact Nat.le_succ _) (by rw [← HNQ.out]; exact hrow6) hgr)
  have HB6 := Lib.hid (show Below w.heap.size w w6 from (HW5.out.alloc HW5.out.size _).grown hgr (by rw [alloc_size']; exact Nat.le_succ_of_le HW5.out.size) (fun k hk => (HIP5.out.row_block hk).1))
  have hmap : (qs.take r ++ [((t, xs), Value.slice ba bn bc)] ++ qs.drop r).map (·.1) = ps.take r ++ [(t, xs)] ++ ps.drop r := by
    rw [List.map_append, List.map_append, List.map_take, List.map_drop, HQP.out]; rfl
  have hlen : (qs.take r ++ [((t, xs), Value.slice ba bn bc)] ++ qs.drop r).length = n + 1 := by
    have := HNQ.out
    simp; omega
  have hgd : ∀ q ∈ qs.take r ++ [((t, xs), Value.slice ba bn bc)] ++ qs.drop r, (txts q.1.2).length ≤ 1000 := by
    intro q hq
    have hq' : q = ((t, xs), Value.slice ba bn bc) ∨ q ∈ qs := by
      rcases List.mem_append.1 hq with hq | hq
      · rcases List.mem_append.1 hq with hq | hq
        · exact .inr (List.mem_of_mem_take hq)
        · exact .inl (List.mem_singleton.1 hq)
      · exact .inr (List.mem_of_mem_drop hq)
    rcases hq' with rfl | hq
    · have h1 := HX.out.1
      have h2 := congrArg List.length HX.out.2.1
      show (txts xs).length ≤ 1000
      rw [← h2, Array.length_toList]
      exact Nat.le_trans h1 (by omega)
    · have := (HG.out q hq).2.2.1; omega
  have HPL := Lib.hid (parts_loop HP6.out hlen (by omega) hgd)
  have hTs : T.size ≤ 1073741824 := by
    rw [HPT.out, ← hmap, txtOf_size]
    have h1 := joinP_le ((qs.take r ++ [((t, xs), Value.slice ba bn bc)] ++ qs.drop r).map (·.1)) (fun p hp => by
      obtain ⟨q, hq, rfl⟩ := List.mem_map.1 hp
      have := hgd q hq
      show (_ :: 58 :: txts q.1.2).length ≤ 1002
      simp only [List.length_cons]
      omega)
    rw [List.length_map, hlen] at h1
    omega
  rw [hmap, ← HPT.out] at HPL
  have HV := Lib.hid (fun w' (hb : Below w.heap.size w w') => impl_valid T w' hTs (HM.out.later hb))
  clear hmap hlen hgd hTs hrow6 hgr
  go_wp2_with fail
  refine HPL.out.mono ?_
  rintro e w7 ⟨rfl, hb7⟩
  have HB7 := Lib.hid (HB6.out.trans (hb7.mono HB6.out.size))
  clear hb7
  go_wp2_with fail
  refine (HV.out _ HB7.out).mono ?_
  rintro e w8 ⟨rfl, hb8⟩
  have HB8 := Lib.hid (HB7.out.trans (hb8.mono HB7.out.size))
  clear hb8
  cases hv : (progOf T).isSome with
  | true =>
    have HVT := Lib.hid (show validT T = .tuple #[.string T, .bool true] by rw [validT, hv]; rfl)
    clear hv
    go_wp2_with fail
    first | go_ret | go_ret2
    exact ⟨by rw [HVT.out]; rfl, HB8.out⟩
  | false =>
    have HVT := Lib.hid (show validT T = .tuple #[.string ⟨#[]⟩, .bool false] by rw [validT, hv]; rfl)
    clear hv
    go_wp2_with fail
    first | go_ret | go_ret2
    exact ⟨by rw [HVT.out]; rfl, HB8.out⟩
end Go.Proofs.YtfmmpahbjkiomaaGreatDoor
namespace Go.Proofs.YtfmmpahbjkiomaaGreatDoor
open Go.RowKit Gram

/-- what WithBody hands back -/
def withV (s nm bt : ByteArray) : Value := match progOf s, nameOf nm.data.toList, bodyOf bt with
  | some ps, some t, some xs => validT (if (namesOf ps).contains t then putT ps t xs else insT ps t xs)
  | _, _, _ => .tuple #[.string ⟨#[]⟩, .bool false]

theorem impl_with (s nm bt : ByteArray) (w : World) (hs : s.size ≤ 1073741824) (hb : bt.size ≤ 1073741824) (hm : MaxCell w) :
    Calls Tryz.prog 20 #[.string s, .string nm, .string bt] w fun e w' => e = .returned (withV s nm bt) ∧ Below w.heap.size w w' := by
  by_cases h : ((progOf s).isSome && ((nameOf nm.data.toList).isSome && (bodyOf bt).isSome)) = true
  · simp only [Bool.and_eq_true, Option.isSome_iff_exists] at h
    obtain ⟨⟨ps, hp⟩, ⟨t, hno⟩, xs, hbo⟩ := h
    have hV : withV s nm bt = validT (if (namesOf ps).contains t then putT ps t xs else insT ps t xs) := by simp only [withV, hp, hno, hbo]
    rw [hV]
    cases hc : (namesOf ps).contains t with
    | true => exact with_put s nm bt w hs hb hm ps t xs hp hno hbo hc
    | false => exact with_ins s nm bt w hs hb hm ps t xs hp hno hbo hc
  · have h2 := Bool.not_eq_true _ ▸ h
    have hV : withV s nm bt = .tuple #[.string ⟨#[]⟩, .bool false] := by
      unfold withV
      split
      · rename_i hp hno hbo
        rw [hp, hno, hbo] at h
        exact absurd rfl h
      · rfl
    rw [hV]
    exact with_refused s nm bt w hs hb hm (by simpa using h)
end Go.Proofs.YtfmmpahbjkiomaaGreatDoor
namespace Go.Proofs.YtfmmpahbjkiomaaGreatDoor
open Go.RowKit Gram

/-- what the law FnWithBody asks of a program with another body -/
structure WbF (s nm bt T : ByteArray) (ps : List Pr) : Prop where
  prog : progOf s = some ps
  got : ∃ p, lookP T nm = some p ∧ txtOf (txts p.2) = bt
  valid : (progOf T).isSome = true
  others : ∀ y ∈ namesOf ps, txtOf [y] ≠ nm → bodyT (lookP s (txtOf [y])) = bodyT (lookP T (txtOf [y]))
  back : ∀ p, lookP s nm = some p → withV T nm (txtOf (txts p.2)) = .tuple #[.string s, .bool true]
theorem with_facts {s nm bt T : ByteArray} (h : withV s nm bt = .tuple #[.string T, .bool true]) : ∃ ps, WbF s nm bt T ps := by
  unfold withV at h
  split at h
  · rename_i ps t xs hp hno hbo
    have hf := prog_facts hp
    have hasc : asc (namesOf ps) := procs_asc _ _ _ hf.2.2.2 (by simp [asc, namesOf])
    obtain ⟨b1, b2, b3, b4⟩ := bodyOf_some hbo
    have hlt := (nameOf_some hno).2
    have hnm : nm = txtOf [t] := txt_same (by rw [(nameOf_some hno).1]; rfl)
    have hgood : Good (t, xs) := ⟨b3, b4, by show (txts xs).length ≤ 400; rw [← b2]; simpa using b1, hlt⟩
    have hbt : txtOf (txts xs) = bt := txt_same (by rw [b2]; rfl)
    have key : ∀ qs : List Pr, (∀ q ∈ qs, Good q) → qs ≠ [] → validT (txtOf (joinP qs)) = .tuple #[.string T, .bool true] → T = txtOf (joinP qs) ∧ progOf T = some qs := by
      intro qs hg hne hv
      unfold validT at hv
      split at hv
      · rename_i hs
        injection hv with hv
        injection hv with hv
        simp only [List.cons.injEq, Value.string.injEq] at hv
        obtain ⟨ps2, h2⟩ := Option.isSome_iff_exists.1 hs
        have h3 := prog_join hg hne h2
        subst h3
        exact ⟨hv.1.symm, by rw [← hv.1]; exact h2⟩
      · injection hv with hv
        injection hv with hv
        simp at hv
    by_cases hc : (namesOf ps).contains t = true
    · rw [if_pos hc] at h
      obtain ⟨hr, hre⟩ := (rank_has _ _ hasc).1 hc
      have hrp : rank (namesOf ps) t < ps.length := by simpa [namesOf] using hr
      have hpt : ps[rank (namesOf ps) t].1 = t := by simpa [namesOf] using hre
      obtain ⟨e1, e2⟩ := key (ps.set (rank (namesOf ps) t) (t, xs)) (by
        intro q hq
        rcases List.mem_or_eq_of_mem_set hq with hq | rfl
        · exact hf.2.1 q hq
        · exact hgood) (by
        intro e
        have := congrArg List.length e
        rw [List.length_set, List.length_nil] at this
        omega) h
      have hmem : (t, xs) ∈ ps.set (rank (namesOf ps) t) (t, xs) := List.mem_set hrp ..
      refine ⟨ps, hp, ⟨(t, xs), by rw [hnm]; exact lookW_at e2 (t, xs) hmem, hbt⟩, by rw [e2]; rfl, ?_, ?_⟩
      · intro y hy hne
        obtain ⟨p, hpm, rfl⟩ := List.mem_map.1 hy
        have hne' : p.1 ≠ t := fun e => hne (by rw [e, hnm])
        obtain ⟨i, hi, hie⟩ := List.mem_iff_getElem.1 hpm
        have hir : rank (namesOf ps) t ≠ i := by
          rintro rfl
          rw [hie] at hpt
          exact hne' hpt
        have hm2 : p ∈ ps.set (rank (namesOf ps) t) (t, xs) := by
          rw [List.mem_iff_getElem]
          exact ⟨i, by rw [List.length_set]; exact hi, by rw [List.getElem_set_ne hir]; exact hie⟩
        rw [lookW_at hp p hpm, lookW_at e2 p hm2]
      · intro p hl
        have hpp : p = ps[rank (namesOf ps) t] := by
          have h1 := lookW_at hp _ (List.getElem_mem hrp)
          rw [hpt, ← hnm, hl] at h1
          injection h1
        have hgp := hf.2.1 p (by rw [hpp]; exact List.getElem_mem hrp)
        have hnn : namesOf (ps.set (rank (namesOf ps) t) (t, xs)) = namesOf ps := by
          rw [namesOf, List.map_set]
          show (namesOf ps).set _ t = namesOf ps
          exact set_self _ _ hr hre
        unfold withV
        rw [e2, hno, bodyW_text hgp]
        dsimp only
        rw [hnn, if_pos hc]
        unfold putT
        rw [hnn, List.set_set]
        have hpe : (t, p.2) = ps[rank (namesOf ps) t] := by rw [← hpp]; exact Prod.ext (by rw [hpp, hpt]) rfl
        rw [hpe]
        have hself : ps.set (rank (namesOf ps) t) ps[rank (namesOf ps) t] = ps := by simp
        rw [hself]
        have hsj : txtOf (joinP ps) = s := txt_same (by rw [(prog_text hp).1]; rfl)
        rw [hsj]
        unfold validT
        rw [hp]; rfl
    · rw [if_neg hc] at h
      obtain ⟨e1, e2⟩ := key (ps.take (rank (namesOf ps) t) ++ [(t, xs)] ++ ps.drop (rank (namesOf ps) t)) (by
        intro q hq
        simp only [List.mem_append, List.mem_singleton] at hq
        rcases hq with (hq | rfl) | hq
        · exact hf.2.1 q (List.mem_of_mem_take hq)
        · exact hgood
        · exact hf.2.1 q (List.mem_of_mem_drop hq)) (by simp) h
      refine ⟨ps, hp, ⟨(t, xs), by rw [hnm]; exact lookW_at e2 (t, xs) (by simp), hbt⟩, by rw [e2]; rfl, ?_, ?_⟩
      · intro y hy hne
        obtain ⟨p, hpm, rfl⟩ := List.mem_map.1 hy
        have hm2 : p ∈ ps.take (rank (namesOf ps) t) ++ [(t, xs)] ++ ps.drop (rank (namesOf ps) t) := by
          rw [← List.take_append_drop (rank (namesOf ps) t) ps] at hpm
          rcases List.mem_append.1 hpm with h1 | h1
          · simp [h1]
          · simp [h1]
        rw [lookW_at hp p hpm, lookW_at e2 p hm2]
      · intro p hl
        exfalso
        apply hc
        have : p.1 ∈ namesOf ps := by
          unfold lookP at hl
          rw [hp, hno] at hl
          exact List.mem_map.2 ⟨p, List.mem_of_find?_eq_some hl, rfl⟩
        have hpt : p.1 = t := by
          unfold lookP at hl
          rw [hp, hno] at hl
          simpa using List.find?_some hl
        rw [← hpt]
        exact List.contains_iff_mem.2 this
  · injection h with h
    injection h with h
    simp at h
end Go.Proofs.YtfmmpahbjkiomaaGreatDoor
namespace Go.Proofs.YtfmmpahbjkiomaaGreatDoor
open Go.RowKit Gram

/-- a procedure's body, by its name's text -/
def bodyL (s nm : ByteArray) : List Stm := match lookP s nm with | some p => p.2 | none => []
theorem lookL_good {s nm : ByteArray} {p : Pr} (h : lookP s nm = some p) : Good p := by
  unfold lookP at h
  split at h
  · rename_i ps c hp _
    exact (prog_facts hp).2.1 p (List.mem_of_find?_eq_some h)
  · cases h
theorem bodyL_text (s nm : ByteArray) : bodyT (lookP s nm) = txtOf (txts (bodyL s nm)) ∧ bodyOf (txtOf (txts (bodyL s nm))) = some (bodyL s nm) := by
  unfold bodyL
  cases h : lookP s nm with
  | none => exact ⟨rfl, bodyW_text (p := (97, [])) ⟨rfl, rfl, by simp [txts], by decide⟩⟩
  | some p => exact ⟨rfl, bodyW_text (lookL_good h)⟩
theorem bodyL_same {s T nm nm' : ByteArray} (h : bodyT (lookP s nm) = bodyT (lookP T nm')) : bodyL s nm = bodyL T nm' := by
  have h1 := bodyL_text s nm
  have h2 := bodyL_text T nm'
  rw [h1.1, h2.1] at h
  have h3 := h1.2
  rw [h, h2.2] at h3
  injection h3 with h3
  exact h3.symm
/-- with another body the named procedure has that body, every other one what it had -/
theorem with_bodies {s nm bt T : ByteArray} {xs : List Stm} (hb : bodyOf bt = some xs) (h : withV s nm bt = .tuple #[.string T, .bool true]) :
    (progOf T).isSome = true ∧ bodyL T nm = xs ∧ ∃ ps, progOf s = some ps ∧ ∀ y ∈ namesOf ps, txtOf [y] ≠ nm → bodyL T (txtOf [y]) = bodyL s (txtOf [y]) := by
  obtain ⟨ps, hF⟩ := with_facts h
  refine ⟨hF.valid, ?_, ps, hF.prog, fun y hy hn => (bodyL_same (hF.others y hy hn)).symm⟩
  obtain ⟨p, hp, hpt⟩ := hF.got
  have h1 := bodyW_text (lookL_good hp)
  rw [hpt, hb] at h1
  injection h1 with h1
  unfold bodyL
  rw [hp]
  exact h1.symm
/-- a statement of a body is a body -/
theorem one_body {xs : List Stm} {c : UInt8} (h : Good (c, xs)) (k : Nat) (hk : k < xs.length) : Good (c, [xs[k]]) := by
  obtain ⟨h1, h2, h3, h4⟩ := h
  have w1 : ∀ (l : List Stm) (k : Nat) (hk : k < l.length), wfs l = true → l[k].wf = true := by
    intro l
    induction l with
    | nil => intro k hk; simp at hk
    | cons x l ih =>
      intro k hk h
      simp only [wfs, Bool.and_eq_true] at h
      cases k with
      | zero => exact h.1
      | succ k => exact ih k (by simpa using hk) h.2
  have w2 : ∀ (l : List Stm) (k : Nat) (hk : k < l.length), nks l = true → l[k].nk = true := by
    intro l
    induction l with
    | nil => intro k hk; simp at hk
    | cons x l ih =>
      intro k hk h
      simp only [nks, Bool.and_eq_true] at h
      cases k with
      | zero => exact h.1
      | succ k => exact ih k (by simpa using hk) h.2
  have w3 : ∀ (l : List Stm) (k : Nat) (hk : k < l.length), l[k].txt.length ≤ (txts l).length := by
    intro l
    induction l with
    | nil => intro k hk; simp at hk
    | cons x l ih =>
      intro k hk
      rw [txts, List.length_append]
      cases k with
      | zero => exact Nat.le_add_right _ _
      | succ k => exact Nat.le_trans (ih k (by simpa using hk)) (Nat.le_add_left _ _)
  refine ⟨?_, ?_, ?_, h4⟩
  · simp only [wfs, w1 xs k hk h1, Bool.and_self]
  · simp only [nks, w2 xs k hk h2, Bool.and_self]
  · simp only [txts, List.append_nil]
    exact Nat.le_trans (w3 xs k hk) h3
theorem wgt_set : ∀ (ps : List Pr) (i : Nat) (hi : i < ps.length) (q : Pr), (txts q.2).length ≤ (txts ps[i].2).length → wgt (ps.set i q) ≤ wgt ps
  | [], i, hi, _, _ => by simp at hi
  | p :: ps, 0, _, q, h => by
    simp only [List.getElem_cons_zero] at h
    simp only [List.set_cons_zero, wgt, List.map_cons, List.sum_cons]
    omega
  | p :: ps, i + 1, hi, q, h => by
    have := wgt_set ps i (by simpa using hi) q (by simpa using h)
    simp only [List.set_cons_succ, wgt, List.map_cons, List.sum_cons] at this ⊢
    omega
theorem calls_one {xs : List Stm} (k : Nat) (hk : k < xs.length) : ∀ c ∈ callsIn [xs[k]], c ∈ callsIn xs := by
  have key : ∀ (l : List Stm) (d : UInt8), d ∈ callsIn l ↔ ∃ x ∈ l, d ∈ x.calls := by
    intro l d
    induction l with
    | nil => simp [callsIn]
    | cons x l ih => simp [callsIn, ih]
  intro c hc
  obtain ⟨x, hx, hcx⟩ := (key _ c).1 hc
  rw [List.mem_singleton.1 hx] at hcx
  exact (key xs c).2 ⟨_, List.getElem_mem hk, hcx⟩
/-- one statement of a procedure's body in its body's place: a program again -/
theorem with_one {s nm : ByteArray} {p : Pr} (h : lookP s nm = some p) (k : Nat) (hk : k < p.2.length) : ∃ T, withV s nm (txtOf (txts [p.2[k]])) = .tuple #[.string T, .bool true] := by
  have h0 := h
  unfold lookP at h
  split at h
  · rename_i ps c hp hno
    have hf := prog_facts hp
    have hasc : asc (namesOf ps) := procs_asc _ _ _ hf.2.2.2 (by simp [asc, namesOf])
    have hpm := List.mem_of_find?_eq_some h
    have hpc : p.1 = c := by simpa using List.find?_some h
    have hgood := hf.2.1 p hpm
    have hone : Good (c, [p.2[k]]) := by rw [← hpc]; exact one_body hgood k hk
    have hc : (namesOf ps).contains c = true := List.contains_iff_mem.2 (List.mem_map.2 ⟨p, hpm, hpc⟩)
    obtain ⟨hr, hre⟩ := (rank_has _ _ hasc).1 hc
    have hrp : rank (namesOf ps) c < ps.length := by simpa [namesOf] using hr
    have hpt : ps[rank (namesOf ps) c].1 = c := by simpa [namesOf] using hre
    have hpe : ps[rank (namesOf ps) c] = p := names_eq (asc_nodup' hasc) (List.getElem_mem hrp) hpm (by rw [hpt, hpc])
    have hnames : namesOf (ps.set (rank (namesOf ps) c) (c, [p.2[k]])) = namesOf ps := by
      rw [namesOf, List.map_set]
      exact set_self _ _ hr hre
    obtain ⟨htx, hne⟩ := prog_text hp
    have hne2 : ps.set (rank (namesOf ps) c) (c, [p.2[k]]) ≠ [] := by
      intro e
      have := congrArg List.length e
      rw [List.length_set, List.length_nil] at this
      omega
    have hown := own_calls (prog_own hp)
    have hT : progOf (putT ps c [p.2[k]]) = some (ps.set (rank (namesOf ps) c) (c, [p.2[k]])) := by
      refine prog_made ?_ hne2 (by rw [hnames]; exact hasc) ?_ ?_
      · intro q hq
        rcases List.mem_or_eq_of_mem_set hq with hq | rfl
        · exact hf.2.1 q hq
        · exact hone
      · unfold ownCalls
        rw [List.all_eq_true]
        intro q hq
        rw [List.all_eq_true]
        intro d hd
        rw [hnames, List.contains_iff_mem]
        rcases List.mem_or_eq_of_mem_set hq with hq | rfl
        · exact hown q hq d hd
        · exact hown p hpm d (calls_one k hk d hd)
      · have e1 := joinP_wgt _ hne2
        have e2 := joinP_wgt ps hne
        have e3 := wgt_set ps (rank (namesOf ps) c) hrp (c, [p.2[k]]) (by
          rw [hpe]
          have w3 : ∀ (l : List Stm) (k : Nat) (hk : k < l.length), l[k].txt.length ≤ (txts l).length := by
            intro l
            induction l with
            | nil => intro k hk; simp at hk
            | cons x l ih =>
              intro k hk
              rw [txts, List.length_append]
              cases k with
              | zero => exact Nat.le_add_right _ _
              | succ k => exact Nat.le_trans (ih k (by simpa using hk)) (Nat.le_add_left _ _)
          simp only [txts, List.append_nil]
          exact w3 p.2 k hk)
        have e4 : s.size = (joinP ps).length := by rw [← htx]; simp
        have := hf.2.2.1
        omega
    refine ⟨putT ps c [p.2[k]], ?_⟩
    unfold withV
    rw [hp, hno, show bodyOf (txtOf (txts [p.2[k]])) = some [p.2[k]] from bodyW_text hone]
    dsimp only
    rw [if_pos hc]
    unfold validT
    rw [hT]; rfl
  · cases h
end Go.Proofs.YtfmmpahbjkiomaaGreatDoor
namespace Go.Proofs.YtfmmpahbjkiomaaGreatDoor
open Go.RowKit Gram

theorem bodyL_P {s : ByteArray} {ps : List Pr} (hp : progOf s = some ps) {y : UInt8} (hy : isLet y = true) : bodyL s (txtOf [y]) = bodyP ps y := by
  have hn : nameOf (txtOf [y]).data.toList = some y := by show nameOf [y] = _; rw [nameOf, if_pos hy]
  unfold bodyL lookP bodyP
  rw [hp, hn]
  dsimp only
  cases List.find? (fun p => p.1 == y) ps <;> rfl
theorem lookP_name {s nm : ByteArray} {p : Pr} (h : lookP s nm = some p) : nm = txtOf [p.1] ∧ isLet p.1 = true := by
  unfold lookP at h
  split at h
  · rename_i ps c hp hno
    have hpc : p.1 = c := by simpa using List.find?_some h
    have h1 := nameOf_some hno
    rw [hpc]
    refine ⟨?_, h1.2⟩
    apply ByteArray.ext; apply Array.ext'; rw [h1.1]; rfl
  · cases h

/-- what is known of the parts -/
structure PartsF (s nm : ByteArray) (xs : List Stm) (St : Nat → Mst) (k : Nat) (hk : k < xs.length) : Prop where
  part : ∃ T r2, withV s nm (txtOf (txts [xs[k]])) = .tuple #[.string T, .bool true] ∧ T.size ≤ 400 ∧ runP T nm (St k).val = some (r2, none) ∧ r2.val = (St (k + 1)).val ∧ (St (k + 1)).out = (St k).out ++ r2.out ∧ (St (k + 1)).steps = (St k).steps + r2.steps

theorem parts_all {s nm : ByteArray} {ps : List Pr} {p : Pr} {v : Int} {r : Mst} (hp : progOf s = some ps) (hl : lookP s nm = some p) (hr : runP s nm v = some (r, none)) {l : List UInt8} (hR : RT s nm l) (hc : p.1 ∉ l) :
    ∃ St : Nat → Mst, (St 0).val = v ∧ (St 0).out = [] ∧ (St 0).steps = 0 ∧ (St p.2.length).val = r.val ∧ (St p.2.length).out = r.out ∧ (St p.2.length).steps = r.steps ∧
      (∀ k, k ≤ p.2.length → (-9999 ≤ (St k).val ∧ (St k).val ≤ 9999) ∧ (St k).steps ≤ 500 ∧ (St k).out.length ≤ 500) ∧ ∀ k (hk : k < p.2.length), PartsF s nm p.2 St k hk := by
  obtain ⟨hnm, hlet⟩ := lookP_name hl
  have hf := prog_facts hp
  have hv : -9999 ≤ v ∧ v ≤ 9999 := by
    unfold runP at hr
    rw [hp, hl] at hr
    dsimp only at hr
    split at hr
    · assumption
    · cases hr
  have hrun : runOf (bodyP ps) p.1 v = (r, none) := by
    unfold runP at hr
    rw [hp, hl] at hr
    dsimp only at hr
    rw [if_pos hv] at hr
    injection hr
  have hB0 : bodyP ps p.1 = p.2 := by
    rw [← bodyL_P hp hlet, ← hnm, bodyL, hl]
  obtain ⟨m0, hm0⟩ : ∃ m, m = (Mst.start v).enter p.1 := ⟨_, rfl⟩
  obtain ⟨r', hx, hrr⟩ : ∃ r', exec (bodyP ps) 501 m0 p.2 = (r', none) ∧ r = r'.leave [] := by
    unfold runOf callBy at hrun
    rw [hB0, ← hm0] at hrun
    cases he : exec (bodyP ps) 501 m0 p.2 with
    | mk m' e =>
      rw [he] at hrun
      cases e with
      | none => injection hrun with h1 h2; exact ⟨m', rfl, h1.symm⟩
      | some e => injection hrun with h1 h2; cases h2
  have hwB : ∀ c, wfs (bodyP ps c) = true := fun c => by
    unfold bodyP
    split
    · rename_i q hq
      exact (hf.2.1 q (List.mem_of_find?_eq_some hq)).1
    · rfl
  have hSt : ∀ k, k ≤ p.2.length → ∃ m, exec (bodyP ps) 501 m0 (p.2.take k) = (m, none) := fun k _ => by
    have h1 := hx
    rw [← List.take_append_drop k p.2] at h1
    obtain ⟨m, e, _⟩ := exec_split 501 m0 _ _ r' h1
    exact ⟨m, e⟩
  obtain ⟨re, hre, rfl, hRF⟩ := hR
  have hcre : p.1 ∉ re := fun h => hc ((mem_upTo hre p.1).2 h)
  have hstart : startOf s nm = callsIn p.2 := by rw [startOf, hl]
  have hown := own_calls (prog_own hp)
  have hpm : p ∈ ps := by
    unfold lookP at hl
    rw [hp] at hl
    split at hl
    · rename_i qs c h1 h2
      injection h1 with h1
      subst h1
      exact List.mem_of_find?_eq_some hl
    · cases hl
  have hin : ∀ y ∈ re, y ∈ namesOf ps := by
    refine hRF.least _ (fun y hy => ?_) fun x y _ hc => ?_
    · rw [hstart] at hy; exact hown p hpm y hy
    · obtain ⟨q, hq, hy⟩ := hc
      have hqm : q ∈ ps := by
        unfold lookP at hq
        rw [hp] at hq
        split at hq
        · rename_i qs c h1 h2
          injection h1 with h1
          subst h1
          exact List.mem_of_find?_eq_some hq
        · cases hq
      exact hown q hqm y hy
  have hL : ∀ d ∈ re, ∀ e ∈ callsIn (bodyP ps d), e ∈ re := by
    intro d hd e he
    rw [← bodyL_P hp (hre d hd)] at he
    unfold bodyL at he
    cases hq : lookP s (txtOf [d]) with
    | none => rw [hq] at he; simp [callsIn] at he
    | some q => rw [hq] at he; exact hRF.closed d hd e ⟨q, hq, he⟩
  have hxs : ∀ d ∈ callsIn p.2, d ∈ re := fun d hd => hRF.first d (by rw [hstart]; exact hd)
  refine ⟨fun k => (exec (bodyP ps) 501 m0 (p.2.take k)).1, ?_, ?_, ?_, ?_, ?_, ?_, ?_, ?_⟩
  · show (exec (bodyP ps) 501 m0 []).1.val = v
    rw [exec, hm0]; rfl
  · show (exec (bodyP ps) 501 m0 []).1.out = []
    rw [exec, hm0]; rfl
  · show (exec (bodyP ps) 501 m0 []).1.steps = 0
    rw [exec, hm0]; rfl
  · show (exec (bodyP ps) 501 m0 (p.2.take p.2.length)).1.val = r.val
    rw [List.take_length, hx, hrr]; rfl
  · show (exec (bodyP ps) 501 m0 (p.2.take p.2.length)).1.out = r.out
    rw [List.take_length, hx, hrr]; rfl
  · show (exec (bodyP ps) 501 m0 (p.2.take p.2.length)).1.steps = r.steps
    rw [List.take_length, hx, hrr]; rfl
  · intro k hk
    have hw : wfs (p.2.take k) = true := by
      have h1 := (hf.2.1 p hpm).1
      rw [← List.take_append_drop k p.2, wfs_append] at h1
      simp only [Bool.and_eq_true] at h1
      exact h1.1
    have hkp := exec_keeps hwB 501 m0 (p.2.take k) (by rw [hm0]; exact start_ok hv.1 hv.2 hlet) hw
    have h1 := hkp.1.lo
    have h2 := hkp.1.hi
    have h3 := hkp.1.steps
    have h4 := hkp.1.out
    exact ⟨⟨h1, h2⟩, h3, by dsimp only at h3 h4 ⊢; omega⟩
  · intro k hk
    obtain ⟨m1, m2, e1, e2, hfun⟩ := part_at (c := p.1) hL hxs (by rw [hm0]; rfl) (by rw [hm0]; rfl) (by rw [hm0]; rfl) hx k hk
    obtain ⟨T, hT⟩ := with_one hl k hk
    have hone := bodyW_text (one_body (c := p.1) (hf.2.1 p hpm) k hk)
    obtain ⟨hTv, hTb, ps2, hps2, hTo⟩ := with_bodies hone hT
    rw [hp] at hps2
    injection hps2 with hps2
    subst hps2
    obtain ⟨psT, hpT⟩ := Option.isSome_iff_exists.1 hTv
    have hBT : bodyP psT p.1 = [p.2[k]] := by rw [← bodyL_P hpT hlet, ← hnm, hTb]
    have hBo : ∀ d ∈ re, bodyP psT d = bodyP ps d := by
      intro d hd
      rw [← bodyL_P hpT (hre d hd), ← bodyL_P hp (hre d hd)]
      refine hTo d (hin d hd) ?_
      intro he
      rw [hnm] at he
      have h1 := congrArg (fun x : ByteArray => x.data.toList) he
      have h2 : [d] = [p.1] := h1
      injection h2 with h2
      exact hcre (h2 ▸ hd)
    obtain ⟨r2, g1, g2, g3, g4⟩ := hfun (bodyP psT) hBo ((Mst.start m1.val).enter p.1) rfl rfl rfl rfl
    have hlT : ∃ pT, lookP T nm = some pT ∧ pT.1 = p.1 := by
      cases hq : lookP T nm with
      | none => unfold bodyL at hTb; rw [hq] at hTb; cases hTb
      | some pT =>
        refine ⟨pT, rfl, ?_⟩
        have h1 := (lookP_name hq).1
        rw [hnm] at h1
        have h2 := congrArg (fun x : ByteArray => x.data.toList) h1
        have h3 : [p.1] = [pT.1] := h2
        injection h3 with h3
        exact h3.symm
    obtain ⟨pT, hq, hpT1⟩ := hlT
    have hm1v : -9999 ≤ m1.val ∧ m1.val ≤ 9999 := by
      have hw : wfs (p.2.take k) = true := by
        have h1 := (hf.2.1 p hpm).1
        rw [← List.take_append_drop k p.2, wfs_append] at h1
        simp only [Bool.and_eq_true] at h1
        exact h1.1
      have hkp := exec_keeps hwB 501 m0 (p.2.take k) (by rw [hm0]; exact start_ok hv.1 hv.2 hlet) hw
      rw [e1] at hkp
      exact ⟨hkp.1.lo, hkp.1.hi⟩
    refine ⟨⟨T, r2.leave [], hT, (prog_facts hpT).2.2.1, ?_, ?_, ?_, ?_⟩⟩
    · show runP T nm (exec (bodyP ps) 501 m0 (p.2.take k)).1.val = _
      rw [e1]
      unfold runP
      rw [hpT, hq]
      dsimp only
      rw [if_pos hm1v, hpT1]
      unfold runOf callBy
      rw [hBT, g1]; rfl
    · show (r2.leave []).val = (exec (bodyP ps) 501 m0 (p.2.take (k + 1))).1.val
      rw [e2]; exact g2
    · show (exec (bodyP ps) 501 m0 (p.2.take (k + 1))).1.out = (exec (bodyP ps) 501 m0 (p.2.take k)).1.out ++ (r2.leave []).out
      rw [e1, e2]; exact g3
    · show (exec (bodyP ps) 501 m0 (p.2.take (k + 1))).1.steps = (exec (bodyP ps) 501 m0 (p.2.take k)).1.steps + (r2.leave []).steps
      rw [e1, e2]; exact g4
end Go.Proofs.YtfmmpahbjkiomaaGreatDoor
