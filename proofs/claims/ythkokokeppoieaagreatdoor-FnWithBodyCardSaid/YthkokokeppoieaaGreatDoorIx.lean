/- slices.Insert at a row of procedures that the caller owns: the road at its end (i = len(s)). slices.Insert at a row of procedures that the caller owns: in the middle, where there is room. slices.Insert at a row of procedures that the caller owns: in the middle, where there is no room. What the rows of slices.Insert hold. Plain lemmas; no walk. slices.Insert at a row of procedures that the caller owns: all its roads in one contract. Condition: at most 1000 procedures. A program in memory whose row has taken one procedure more: still one. Plain lemma; no walk. A program in memory one of whose bodies is put anew: still one. Plain lemma; no walk. -/
import Derived.Test.YthkokokeppoieaaGreatDoorOx
import Derived.Lib.AppendZeros
import Derived.Deep.AppendLies
import Derived.Lib.Overlaps
import Derived.Laws.CopyRow
import Derived.Shelf.Spec.SlicesInsert
import Derived.Shelf.Spec.SlicesInsertGrow
namespace Go.Proofs.YthkokokeppoieaaGreatDoor
open Go.RowKit

/-- what is appended may bear another name of the same type of slices -/
theorem run_append_named (w : World) (t tn ty e : TypeId) (ht : Tryz.prog.underlying t = some (.slice e)) (htn : Tryz.prog.underlying tn = some (.slice e)) (a b : Option Addr) (n c m k : Nat) :
    (Builtin.append_ #[t, tn] ty #[.slice a n c, .slice b m k]).run Tryz.prog w = (Builtin.append_ #[t, t] ty #[.slice a n c, .slice b m k]).run Tryz.prog w := by
  simp [Builtin.append_, run_underlying ht, run_underlying htn]

theorem info_ins : (Tryz.prog.info? 58).map (fun i => (i.zero, i.size, i.bytes)) = some (some (.agg #[.int .u8 0, .slice none 0 0]), 2, 32) := by kernel_rfl

set_option maxHeartbeats 1000000 in
set_option maxRecDepth 100000 in
theorem insert_end (w : World) (B g : Nat) (a : Option Addr) (n c : Nat) (xs : List Value) (x y : Value) (hown : w.ownsRow B 58 2 (.slice a n c) n xs) (hg : w.heap[g]? = some (.cells #[x, y] 58 (0, 0))) (hB : B ≤ w.heap.size) (hn : n ≤ 1000) (hx1 : x.oneCell' = true) (hy1 : y.oneCell' = true) :
    Calls Tryz.prog 25 #[.slice a n c, .int .i64 n, .slice (some ⟨g, 0, none⟩) 1 1] w fun e w' => ∃ g' c', e = .returned (.slice (some ⟨g', 0, none⟩) (n + 1) c') ∧ w'.ownsRow B 58 2 (.slice (some ⟨g', 0, none⟩) (n + 1) c') (n + 1) (xs ++ [x, y]) ∧ w.grownBy w' (Value.slice a n c).ownBlock ∧ ((Value.slice a n c).ownBlock = some g' ∨ g' = w.heap.size) ∧ g' < w'.heap.size := by
  obtain ⟨i0, hi, hz0, hz1, hz2⟩ := info_parts info_ins
  have hnc : n ≤ c := by
    rcases hown.2 with ⟨h, h0⟩ | ⟨b, cap, cur, hv, _, _, h1, _⟩
    · injection h with _ h2 h3; omega
    · injection hv with _ _ h3; omega
  obtain ⟨g', c', w', hr, h2, h3, h4, h5⟩ := run_append_lies (P := Tryz.prog) w 47 47 B 58 i0 (.agg #[.int .u8 0, .slice none 0 0]) 2 32 Tryz.underlying47 hi hz0 hz1 hz2 rfl (by decide) (.slice a n c) n xs hown ⟨g, 0, none⟩ 1 1 [x, y] rfl (World.news_of_block hg) (by simp [hx1, hy1]) (by decide) (by unfold maxLen; omega) (by omega) hB w.heap.size rfl
  rw [← run_append_named w 47 46 47 58 Tryz.underlying47 Tryz.underlying46] at hr
  have HR := Lib.hid hr
  have HP := Lib.hid (And.intro h2 (And.intro (show w.grownBy w' _ from ⟨h3.os, h3.tape, h3.output, h3.size, h3.block⟩) (And.intro h4 h5)))
  have hnci : (n : Int) ≤ (c : Int) := by omega
  have hn0 : (0 : Int) ≤ (n : Int) := by omega
  clear hown hr h2 h3 h4 h5 hg
  by_cases hcn : c = n
  · subst hcn
    go_enter Tryz.func25, Tryz.ntmps25
    go_wp2_with (at_builtin; refine Lib.wpList_append_run _ rfl _ _ 47 46 rfl _ _ rfl rfl _ _ HR.out ?_)
    go_ret
    exact ⟨g', c', rfl, HP.out⟩
  · have hcn2 : ¬ (c : Int) = (n : Int) := by omega
    have hcn3 : ¬ c - n = 0 := by omega
    have hcn4 : n ≠ c := by omega
    go_enter Tryz.func25, Tryz.ntmps25
    go_wp2_with (at_builtin; refine Lib.wpList_append_run _ rfl _ _ 47 46 rfl _ _ rfl rfl _ _ HR.out ?_)
    go_ret
    exact ⟨g', c', rfl, HP.out⟩
end Go.Proofs.YthkokokeppoieaaGreatDoor
namespace Go.Proofs.YthkokokeppoieaaGreatDoor
open Go.RowKit

/-- copy at elements of two cells -/
theorem run_copy_two (w : World) (dT sT ty elem : TypeId) (g o dLen dCap : Nat) (a : Addr) (sLen sCap : Nat) (cur : Array Value) (t : TypeId) (cs : List Value)
    (hu : Tryz.prog.underlying dT = some (.slice elem)) (hs : (Tryz.prog.info? elem).map (·.size) = some 2)
    (hg : w.heap[g]? = some (.cells cur t (0, 0))) (hn : cs.length = Nat.min sLen dLen * 2)
    (hsrc : ∀ j v, cs[j]? = some v → w.cell? (a.add j) = some v) (hfit : o + cs.length ≤ cur.size) (h1 : ∀ v ∈ cs, v.oneCell' = true) :
    (Builtin.copy_ #[dT, sT] ty #[.slice (some ⟨g, o, none⟩) dLen dCap, .slice (some a) sLen sCap]).run Tryz.prog w =
      .ok (goInt (Nat.min sLen dLen)) (w.setRow g (cur.toList.take o ++ cs ++ cur.toList.drop (o + cs.length)).toArray) := by
  have hl := run_loadCells_list (P := Tryz.prog) w a cs hsrc
  have hst := run_storeCells_at Tryz.prog g o t cs 0 cur w hg (by simpa using hfit) h1
  cases hq : Tryz.prog.info? elem with
  | none => simp [hq] at hs
  | some i =>
    have hi : i.size = 2 := by simpa [hq] using hs
    simp [Builtin.copy_, run_underlying hu, Builtin.lenOf, Builtin.firstCells, sizeOf, typeInfo, hq, hi, ← hn, hl, hst]

/-- the row behind the first copy: all from i on stands one place on -/
def row1 (i n : Nat) (cur : Array Value) : Array Value := (cur.toList.take ((i + 1) * 2) ++ (cur.toList.drop (i * 2)).take ((n - i) * 2) ++ cur.toList.drop ((i + 1) * 2 + ((cur.toList.drop (i * 2)).take ((n - i) * 2)).length)).toArray
/-- and behind the second: the new one at i -/
def row2 (i : Nat) (x y : Value) (r : Array Value) : Array Value := (r.toList.take (i * 2) ++ [x, y] ++ r.toList.drop (i * 2 + [x, y].length)).toArray

set_option maxHeartbeats 1000000 in
set_option maxRecDepth 100000 in
theorem insert_shift (w : World) (B g vb : Nat) (i n c : Nat) (xs : List Value) (x y : Value) (cur : Array Value) (hg : w.heap[g]? = some (.cells cur 58 (0, 0))) (hcs : cur.size = c * 2) (hvb : w.heap[vb]? = some (.cells #[x, y] 58 (0, 0))) (hne : vb ≠ g) (hi : i < n) (hr : n + 1 ≤ c) (hc : c ≤ 9223372036854775807) (hn1 : n ≤ 1000) (hx1 : x.oneCell' = true) (hy1 : y.oneCell' = true) (h1c : ∀ v ∈ (cur.toList.drop (i * 2)).take ((n - i) * 2), v.oneCell' = true) :
    Calls Tryz.prog 25 #[.slice (some ⟨g, 0, none⟩) n c, .int .i64 i, .slice (some ⟨vb, 0, none⟩) 1 1] w fun e w' => e = .returned (.slice (some ⟨g, 0, none⟩) (n + 1) c) ∧ w' = w.drew.setRow g (row2 i x y (row1 i n cur)) := by
  have hii : (i : Int) ≤ (n : Int) := by omega
  have hi0 : (0 : Int) ≤ (i : Int) := by omega
  have hin : ¬ (i : Int) = (n : Int) := by omega
  have hnc : (n : Int) ≤ (c : Int) := by omega
  have hrc : ¬ (c : Int) < (n : Int) + 1 := by omega
  have hci : ¬ c = i := by omega
  have hci1 : ¬ c = i + 1 := by omega
  have hw1 : IntKind.i64.wrap ((i : Int) + 1) = (i : Int) + 1 := by rw [IntKind.wrap_i64]; omega
  have hb1 : (0 : Int) ≤ (i : Int) + 1 := by omega
  have htn : ((i : Int) + 1).toNat = i + 1 := by omega
  have hin2 : i ≤ n := by omega
  have hb3 : (i : Int) ≤ (n : Int) + 1 := by omega
  have hov : (callFunc 53 #[.slice (some ⟨vb, 0, none⟩) 1 1, .slice (some ⟨g, (i + 1) * 2, none⟩) (n - i) (c - (i + 1))]).run Tryz.prog w = .ok (.value (.bool false)) w := by
    rw [run_callFunc_extern Tryz.func53 (by kernel_rfl) (by kernel_rfl) (by kernel_rfl) (e := Extern.SlicesOverlaps.overlaps #[46, 46] #[4]) (by kernel_rfl),
      Lib.run_overlaps_apart w 46 4 58 Tryz.underlying46 2 Tryz.sizeOf58 ⟨vb, 0, none⟩ ⟨g, (i + 1) * 2, none⟩ 1 1 (n - i) (c - (i + 1)) hne 58 58 2 (c * 2)
        (by simp [World.shape?, hvb]) (by simp [World.shape?, hg, hcs]) (by omega) (Lib.frozen_of_heap hvb 0) (Lib.frozen_of_heap hvb 2)]
    rfl
  have hsz : (Tryz.prog.info? 58).map (·.size) = some 2 := by kernel_rfl
  have hl1 : ((cur.toList.drop (i * 2)).take ((n - i) * 2)).length = (n - i) * 2 := by simp [hcs]; omega
  have hcp1 : ∀ (W : World), W.heap[g]? = some (.cells cur 58 (0, 0)) → ∀ ty dl dc sl sc, dl = n - i → sl = n + 1 - i → (Builtin.copy_ #[47, 47] ty #[.slice (some ⟨g, (i + 1) * 2, none⟩) dl dc, .slice (some ⟨g, i * 2, none⟩) sl sc]).run Tryz.prog W = .ok (goInt (Nat.min sl dl)) (W.setRow g (row1 i n cur)) := fun W hW ty dl dc sl sc h1 h2 => by
    subst h1; subst h2
    exact run_copy_two W 47 47 ty 58 g ((i + 1) * 2) (n - i) dc ⟨g, i * 2, none⟩ (n + 1 - i) sc cur 58 _ Tryz.underlying47 hsz hW (by rw [hl1, show Nat.min (n + 1 - i) (n - i) = n - i from Nat.min_eq_right (by omega)])
      (fun j v hj => by
        rw [Addr.add_lit, Lib.cell_of_heap hW]
        have hjl : j < (n - i) * 2 := by have := (List.getElem?_eq_some_iff.1 hj).1; rw [hl1] at this; exact this
        rw [List.getElem?_take_of_lt hjl, List.getElem?_drop] at hj
        simpa using hj)
      (by rw [hl1, hcs]; omega) h1c
  have hr1s : (row1 i n cur).size = c * 2 := by
    simp [row1, hcs]; omega
  have hcp2 : ∀ (W : World), W.heap[g]? = some (.cells (row1 i n cur) 58 (0, 0)) → W.heap[vb]? = some (.cells #[x, y] 58 (0, 0)) → ∀ ty dl dc, 1 ≤ dl → (Builtin.copy_ #[47, 46] ty #[.slice (some ⟨g, i * 2, none⟩) dl dc, .slice (some ⟨vb, 0, none⟩) 1 1]).run Tryz.prog W = .ok (goInt (Nat.min 1 dl)) (W.setRow g (row2 i x y (row1 i n cur))) := fun W hW hV ty dl dc h1 =>
    run_copy_two W 47 46 ty 58 g (i * 2) dl dc ⟨vb, 0, none⟩ 1 1 (row1 i n cur) 58 [x, y] Tryz.underlying47 hsz hW (by rw [show Nat.min 1 dl = 1 from Nat.min_eq_left h1]; rfl)
      (World.news_of_block hV) (by rw [hr1s]; show i * 2 + 2 ≤ _; omega) (by simp [hx1, hy1])
  have hW1g : (w.drew.setRow g (row1 i n cur)).heap[g]? = some (.cells (row1 i n cur) 58 (0, 0)) := setRow_heap w.drew g cur _ 58 _ hg
  have hW1v : (w.drew.setRow g (row1 i n cur)).heap[vb]? = some (.cells #[x, y] 58 (0, 0)) := by
    unfold World.setRow
    show (w.heap.modify g _)[vb]? = _
    rw [Array.getElem?_modify, if_neg (Ne.symm hne)]
    exact hvb
  have HG := Lib.hid hg
  have HVB := Lib.hid hvb
  have HC1 := Lib.hid (hcp1 w.drew hg)
  have HC2 := Lib.hid hcp2
  have HWg := Lib.hid hW1g
  have HWv := Lib.hid hW1v
  clear hg hvb hcp1 hcp2 hl1 hsz hr1s hW1g hW1v h1c
  go_enter Tryz.func25, Tryz.ntmps25
  go_wp2_with (simp only [hov])
  go_region_law (refine step_copy_runI rfl _ _ 47 47 rfl _ _ (by simp [Act.eval, Act.put]) (by simp [Act.eval, Act.put]) (HC1.out _ (n - i) (c - (i + 1)) (n + 1 - i) (c - i) rfl rfl) ?_)
  go_wp2_with fail
  rw [HC2.out _ HWg.out HWv.out _ (n + 1 - i) (c - i) (by omega)]
  simp only [Result.andThen]
  rw [Oper.upon_value]
  go_wp2_with fail
  go_ret
  exact ⟨rfl, setRow_setRow _ _ _ _⟩
end Go.Proofs.YthkokokeppoieaaGreatDoor
namespace Go.Proofs.YthkokokeppoieaaGreatDoor
open Go.RowKit

/-- the new row behind the second copy: what stood from i on, one place on -/
def row3 (i n : Nat) (cur r : Array Value) : Array Value := (r.toList.take ((i + 1) * 2) ++ (cur.toList.drop (i * 2)).take ((n - i) * 2) ++ r.toList.drop ((i + 1) * 2 + ((cur.toList.drop (i * 2)).take ((n - i) * 2)).length)).toArray

set_option maxHeartbeats 1000000 in
set_option maxRecDepth 100000 in
theorem insert_grow (w : World) (g vb : Nat) (i n c : Nat) (x y : Value) (cur : Array Value) (hg : w.heap[g]? = some (.cells cur 58 (0, 0))) (hcs : cur.size = c * 2) (hvb : w.heap[vb]? = some (.cells #[x, y] 58 (0, 0))) (hi : i < n) (hnc : n ≤ c) (hr : c < n + 1) (hc : c ≤ 9223372036854775807) (hn1 : n ≤ 1000) (hx1 : x.oneCell' = true) (hy1 : y.oneCell' = true) (h1c : ∀ v ∈ (cur.toList.drop (i * 2)).take ((n - i) * 2), v.oneCell' = true) :
    Calls Tryz.prog 25 #[.slice (some ⟨g, 0, none⟩) n c, .int .i64 i, .slice (some ⟨vb, 0, none⟩) 1 1] w fun e w' => ∃ G, e = .returned (.slice (some ⟨w.heap.size, 0, none⟩) (n + 1) G) ∧ n + 1 ≤ G ∧ G ≤ 9223372036854775807 ∧ ∃ ROW : Array Value, ROW.size = G * 2 ∧ ROW.toList.take (i * 2) = cur.toList.take (i * 2) ∧ w' = (((w.alloc (.cells ROW 58)).drew).setRow w.heap.size (row2 i x y ROW)).drew.setRow w.heap.size (row3 i n cur (row2 i x y ROW)) := by
  have hii : (i : Int) ≤ (n : Int) := by omega
  have hi0 : (0 : Int) ≤ (i : Int) := by omega
  have hin : ¬ (i : Int) = (n : Int) := by omega
  have hnci : (n : Int) ≤ (c : Int) := by omega
  have hrc : (c : Int) < (n : Int) + 1 := by omega
  have hic : (i : Int) ≤ (c : Int) := by omega
  have hci : ¬ c = i := by omega
  obtain ⟨i0, hi0', hz0, hzs, hzb⟩ := info_parts info_ins
  have hkk : (n : Int) + 1 - (i : Int) = ((n + 1 - i : Nat) : Int) := by omega
  have hik : i + (n + 1 - i) = n + 1 := by omega
  have hold : (Builtin.firstCells i0.size i (.slice (some ⟨g, 0, none⟩) i c)).run Tryz.prog w.drew = .ok (cur.toList.take (i * 2)).toArray w.drew := by
    rw [hzs]
    exact run_firstCells_some w.drew 2 i ⟨g, 0, none⟩ i c (cur.toList.take (i * 2)) (by rw [List.length_take]; simp [hcs]; omega) (fun j v hj => by
      rw [Addr.add_lit, Lib.cell_of_heap (w := w.drew) hg]
      rw [List.getElem?_take] at hj
      split at hj
      · simpa using hj
      · cases hj)
  have hg2 : (n + 1) * i0.bytes ≤ 140737488355328 := by rw [hzb]; omega
  obtain ⟨G, hG⟩ : ∃ G, G = grownCap w (n + 1) c 58 := ⟨_, rfl⟩
  obtain ⟨ROW, hROW⟩ : ∃ ROW : Array Value, ROW = (cur.toList.take (i * 2)).toArray ++ Builtin.zeroCells (Value.agg #[.int .u8 0, .slice none 0 0]).cells (n + 1 - i) ++ Builtin.zeroCells (Value.agg #[.int .u8 0, .slice none 0 0]).cells (G - (n + 1)) := ⟨_, rfl⟩
  have hrz : ∀ ty, (Builtin.append_ #[47, 3] ty #[.slice (some ⟨g, 0, none⟩) i c, .int .i64 ((n : Int) + 1 - (i : Int))]).run Tryz.prog w =
      .ok (.slice (some ⟨w.heap.size, 0, none⟩) (n + 1) G) (w.drew.alloc (.cells ROW 58)) := fun ty => by
    have h := Lib.run_append_grow_zeros w 47 3 ty 58 i0 _ .i64 .i64 Tryz.underlying47 Tryz.underlying3 hi0' hz0 (some ⟨g, 0, none⟩) i c (cur.toList.take (i * 2)) hold (n + 1 - i) (by omega) (by omega) (by omega) (by omega) (by rw [hzb]; omega) (by rw [hzb, hik]; exact growslice_fits hr (by omega))
    rw [hik] at h
    rw [hkk, hROW, hG]
    exact h
  have hGn : n + 1 ≤ G := by rw [hG]; exact grownCap_ge w _ _ _
  have hG63 : G ≤ 9223372036854775807 := by
    have := grownCap_le_maxLen w (n + 1) c 58 (by unfold maxLen; omega)
    rw [← hG] at this
    unfold maxLen at this
    omega
  have hRs : (n + 1) * 2 ≤ ROW.size := by
    rw [hROW]
    simp [size_zeroCells, Value.cells, hcs]
    omega
  have hRG : ROW.size = G * 2 := by
    rw [hROW]
    simp [size_zeroCells, Value.cells, hcs]
    omega
  have hRT : ROW.toList.take (i * 2) = cur.toList.take (i * 2) := by
    rw [hROW]
    simp only [Array.toList_append, List.append_assoc]
    rw [List.take_left' (by simp [hcs]; omega)]
  have HRR := Lib.hid (And.intro hRG hRT)
  have hsz : (Tryz.prog.info? 58).map (·.size) = some 2 := by kernel_rfl
  have hcpA : ∀ (W : World), W.heap[w.heap.size]? = some (.cells ROW 58 (0, 0)) → W.heap[vb]? = some (.cells #[x, y] 58 (0, 0)) → ∀ ty dl dc, 1 ≤ dl → (Builtin.copy_ #[47, 46] ty #[.slice (some ⟨w.heap.size, i * 2, none⟩) dl dc, .slice (some ⟨vb, 0, none⟩) 1 1]).run Tryz.prog W = .ok (goInt (Nat.min 1 dl)) (W.setRow w.heap.size (row2 i x y ROW)) := fun W hW hV ty dl dc h1 =>
    run_copy_two W 47 46 ty 58 w.heap.size (i * 2) dl dc ⟨vb, 0, none⟩ 1 1 ROW 58 [x, y] Tryz.underlying47 hsz hW (by rw [show Nat.min 1 dl = 1 from Nat.min_eq_left h1]; rfl)
      (World.news_of_block hV) (by show i * 2 + 2 ≤ _; omega) (by simp [hx1, hy1])
  have hl1 : ((cur.toList.drop (i * 2)).take ((n - i) * 2)).length = (n - i) * 2 := by simp [hcs]; omega
  have hRs2 : (n + 1) * 2 ≤ (row2 i x y ROW).size := by simp [row2]; omega
  have hcpB : ∀ (W : World), W.heap[w.heap.size]? = some (.cells (row2 i x y ROW) 58 (0, 0)) → W.heap[g]? = some (.cells cur 58 (0, 0)) → ∀ ty dl dc sl sc, dl = n - i → sl = n - i → (Builtin.copy_ #[47, 47] ty #[.slice (some ⟨w.heap.size, (i + 1) * 2, none⟩) dl dc, .slice (some ⟨g, i * 2, none⟩) sl sc]).run Tryz.prog W = .ok (goInt (Nat.min sl dl)) (W.setRow w.heap.size (row3 i n cur (row2 i x y ROW))) := fun W hW hV ty dl dc sl sc h1 h2 => by
    subst h1; subst h2
    exact run_copy_two W 47 47 ty 58 w.heap.size ((i + 1) * 2) (n - i) dc ⟨g, i * 2, none⟩ (n - i) sc (row2 i x y ROW) 58 _ Tryz.underlying47 hsz hW (by rw [hl1, show Nat.min (n - i) (n - i) = n - i from Nat.min_self _])
      (fun j v hj => by
        rw [Addr.add_lit, Lib.cell_of_heap hV]
        have hjl : j < (n - i) * 2 := by have := (List.getElem?_eq_some_iff.1 hj).1; rw [hl1] at this; exact this
        rw [List.getElem?_take_of_lt hjl, List.getElem?_drop] at hj
        simpa using hj)
      (by rw [hl1]; omega) h1c
  have hgl := heap_lt hg
  have hvl := heap_lt hvb
  have HGn := Lib.hid hGn
  have hGi : ¬ (G = i) := by omega
  have hGi1 : ¬ (G = i + 1) := by omega
  have hw1 : IntKind.i64.wrap ((i : Int) + 1) = (i : Int) + 1 := by rw [IntKind.wrap_i64]; omega
  have hb1 : (0 : Int) ≤ (i : Int) + 1 := by omega
  have htn : ((i : Int) + 1).toNat = i + 1 := by omega
  have hin2 : i ≤ n := by omega
  have HRZ := Lib.hid hrz
  have HA := Lib.hid hcpA
  have HBc := Lib.hid hcpB
  have Hg := Lib.hid hg
  have Hv := Lib.hid hvb
  have hA1 : ((w.alloc (.cells ROW 58)).drew).heap[w.heap.size]? = some (.cells ROW 58 (0, 0)) := heap_alloc_new w _
  have hA2 : ((w.alloc (.cells ROW 58)).drew).heap[vb]? = some (.cells #[x, y] 58 (0, 0)) := (alloc_heap _ _ hvl).trans hvb
  have hB1 : (((w.alloc (.cells ROW 58)).drew).setRow w.heap.size (row2 i x y ROW)).drew.heap[w.heap.size]? = some (.cells (row2 i x y ROW) 58 (0, 0)) := setRow_heap _ w.heap.size ROW _ 58 _ hA1
  have hB2 : (((w.alloc (.cells ROW 58)).drew).setRow w.heap.size (row2 i x y ROW)).drew.heap[g]? = some (.cells cur 58 (0, 0)) := by
    unfold World.setRow
    show ((w.alloc _).heap.modify w.heap.size _)[g]? = _
    rw [Array.getElem?_modify, if_neg (by omega)]
    exact (alloc_heap _ _ hgl).trans hg
  have HA1 := Lib.hid hA1
  have HA2 := Lib.hid hA2
  have HB1 := Lib.hid hB1
  have HB2 := Lib.hid hB2
  clear hA1 hA2 hB1 hB2 hgl hvl hRG hRT
  clear hg hvb hrz hcpA hcpB hl1 hRs hRs2 hROW hG h1c hkk hik hold hg2 hcs hGn hsz
  go_enter Tryz.func25, Tryz.ntmps25
  go_wp2_with (at_builtin; refine Lib.wpList_append_run _ rfl _ _ 47 3 rfl _ _ rfl rfl _ _ (HRZ.out _) ?_)
  rw [HA.out _ HA1.out HA2.out _ (n + 1 - i) (G - i) (by omega)]
  simp only [Result.andThen]
  rw [Oper.upon_value]
  go_wp2_with fail
  go_region_law (refine step_copy_runI rfl _ _ 47 47 rfl _ _ (by simp [Act.eval, Act.put]) (by simp [Act.eval, Act.put]) (HBc.out _ HB1.out HB2.out _ (n - i) (G - (i + 1)) (n - i) (c - i) rfl rfl) ?_)
  go_wp2_with fail
  go_ret
  exact ⟨G, rfl, HGn.out, hG63, ROW, HRR.out.1, HRR.out.2, rfl⟩
end Go.Proofs.YthkokokeppoieaaGreatDoor
namespace Go.Proofs.YthkokokeppoieaaGreatDoor
open Go.RowKit

theorem row2_list (i : Nat) (x y : Value) (r : Array Value) : (row2 i x y r).toList = r.toList.take (i * 2) ++ [x, y] ++ r.toList.drop (i * 2 + 2) := by
  simp [row2]
theorem row1_list (i n : Nat) (cur : Array Value) : (row1 i n cur).toList = cur.toList.take ((i + 1) * 2) ++ (cur.toList.drop (i * 2)).take ((n - i) * 2) ++ cur.toList.drop ((i + 1) * 2 + ((cur.toList.drop (i * 2)).take ((n - i) * 2)).length) := by
  simp [row1]
theorem row3_list (i n : Nat) (cur r : Array Value) : (row3 i n cur r).toList = r.toList.take ((i + 1) * 2) ++ (cur.toList.drop (i * 2)).take ((n - i) * 2) ++ r.toList.drop ((i + 1) * 2 + ((cur.toList.drop (i * 2)).take ((n - i) * 2)).length) := by
  simp [row3]

/-- in place: ahead of i as it was, the new one, the rest one place on -/
theorem shift_holds (i n c : Nat) (x y : Value) (cur : Array Value) (hcs : cur.size = c * 2) (hi : i < n) (hr : n + 1 ≤ c) :
    (row2 i x y (row1 i n cur)).size = c * 2 ∧ (row2 i x y (row1 i n cur)).toList.take ((n + 1) * 2) = (cur.toList.take (n * 2)).take (i * 2) ++ [x, y] ++ (cur.toList.take (n * 2)).drop (i * 2) := by
  have hl : ((cur.toList.drop (i * 2)).take ((n - i) * 2)).length = (n - i) * 2 := by simp [hcs]; omega
  have hd : (cur.toList.take (n * 2)).drop (i * 2) = (cur.toList.drop (i * 2)).take ((n - i) * 2) := by
    rw [List.drop_take]; congr 1; omega
  have ht : (cur.toList.take (n * 2)).take (i * 2) = cur.toList.take (i * 2) := by
    rw [List.take_take]; congr 1; omega
  constructor
  · simp [row2, row1, hcs]; omega
  · rw [hd, ht, row2_list, row1_list, hl]
    generalize hm : (cur.toList.drop (i * 2)).take ((n - i) * 2) = mid at *
    have h1 : (cur.toList.take ((i + 1) * 2) ++ mid ++ cur.toList.drop ((i + 1) * 2 + (n - i) * 2)).take (i * 2) = cur.toList.take (i * 2) := by
      rw [List.append_assoc, List.take_append_of_le_length (by simp [hcs]; omega), List.take_take]; congr 1; omega
    have h2 : (cur.toList.take ((i + 1) * 2) ++ mid ++ cur.toList.drop ((i + 1) * 2 + (n - i) * 2)).drop (i * 2 + 2) = mid ++ cur.toList.drop ((i + 1) * 2 + (n - i) * 2) := by
      rw [List.append_assoc, List.drop_left' (by simp [hcs]; omega)]
    rw [h1, h2, ← List.append_assoc, List.take_left' (by simp [hcs, hl]; omega)]

/-- a new row: the same -/
theorem grow_holds (i n c G : Nat) (x y : Value) (cur ROW : Array Value) (hcs : cur.size = c * 2) (hi : i < n) (hnc : n ≤ c) (hG : n + 1 ≤ G) (hRs : ROW.size = G * 2) (hRT : ROW.toList.take (i * 2) = cur.toList.take (i * 2)) :
    (row3 i n cur (row2 i x y ROW)).size = G * 2 ∧ (row3 i n cur (row2 i x y ROW)).toList.take ((n + 1) * 2) = (cur.toList.take (n * 2)).take (i * 2) ++ [x, y] ++ (cur.toList.take (n * 2)).drop (i * 2) := by
  have hl : ((cur.toList.drop (i * 2)).take ((n - i) * 2)).length = (n - i) * 2 := by simp [hcs]; omega
  have hd : (cur.toList.take (n * 2)).drop (i * 2) = (cur.toList.drop (i * 2)).take ((n - i) * 2) := by
    rw [List.drop_take]; congr 1; omega
  have ht : (cur.toList.take (n * 2)).take (i * 2) = cur.toList.take (i * 2) := by
    rw [List.take_take]; congr 1; omega
  constructor
  · simp [row3, row2, hcs, hRs]; omega
  · rw [hd, ht, row3_list, row2_list, hl, hRT]
    generalize hm : (cur.toList.drop (i * 2)).take ((n - i) * 2) = mid at *
    have hl0 : (cur.toList.take (i * 2)).length = i * 2 := by simp [hcs]; omega
    generalize cur.toList.take (i * 2) = pre at *
    have h1 : (pre ++ [x, y] ++ ROW.toList.drop (i * 2 + 2)).take ((i + 1) * 2) = pre ++ [x, y] := List.take_left' (by simp [hl0]; omega)
    rw [h1, List.take_left' (by simp [hl0, hl]; omega)]
end Go.Proofs.YthkokokeppoieaaGreatDoor
namespace Go.Proofs.YthkokokeppoieaaGreatDoor
open Go.RowKit

theorem setRow_size (w : World) (g : Nat) (cs : Array Value) : (w.setRow g cs).heap.size = w.heap.size := by
  unfold World.setRow; exact Array.size_modify
theorem setRow_other (w : World) (g : Nat) (cs : Array Value) (k : Nat) (h : g ≠ k) : (w.setRow g cs).heap[k]? = w.heap[k]? := by
  unfold World.setRow
  dsimp only
  rw [Array.getElem?_modify, if_neg h]
theorem drew_heap (w : World) : w.drew.heap = w.heap := rfl

theorem insert_any (w : World) (B vb : Nat) (a : Option Addr) (i n c : Nat) (xs : List Value) (x y : Value) (hown : w.ownsRow B 58 2 (.slice a n c) n xs) (hvb : w.heap[vb]? = some (.cells #[x, y] 58 (0, 0))) (hne : (Value.slice a n c).ownBlock ≠ some vb) (hB : B ≤ w.heap.size) (hi : i ≤ n) (hn : n ≤ 1000)
    (hx1 : x.oneCell' = true) (hy1 : y.oneCell' = true) (h1 : ∀ v ∈ xs, v.oneCell' = true) :
    Calls Tryz.prog 25 #[.slice a n c, .int .i64 i, .slice (some ⟨vb, 0, none⟩) 1 1] w fun e w' => ∃ g' c', e = .returned (.slice (some ⟨g', 0, none⟩) (n + 1) c') ∧ w'.ownsRow B 58 2 (.slice (some ⟨g', 0, none⟩) (n + 1) c') (n + 1) (xs.take (i * 2) ++ [x, y] ++ xs.drop (i * 2)) ∧ w.grownBy w' (Value.slice a n c).ownBlock := by
  by_cases hin : i = n
  · subst hin
    have hl := hown.1
    refine (insert_end w B vb a i c xs x y hown hvb hB hn hx1 hy1).mono ?_
    rintro e w' ⟨g', c', rfl, h2, h3, _⟩
    refine ⟨g', c', rfl, ?_, h3⟩
    rw [List.take_of_length_le (by omega), List.drop_of_length_le (by omega), List.append_nil]
    exact h2
  · obtain ⟨hl, h⟩ := hown
    rcases h with ⟨_, h0⟩ | ⟨g, cap, cur, hv, hg, hbk, hnc, hm, hcs, ht⟩
    · omega
    · injection hv with h3 h4 h5
      subst h3; subst h5
      have hgv : vb ≠ g := fun e => hne (by rw [e]; rfl)
      have hgl := heap_lt hbk
      have h1c : ∀ v ∈ (cur.toList.drop (i * 2)).take ((n - i) * 2), v.oneCell' = true := by
        intro v hv
        apply h1 v
        rw [← ht]
        have hd : (cur.toList.take (n * 2)).drop (i * 2) = (cur.toList.drop (i * 2)).take ((n - i) * 2) := by
          rw [List.drop_take]; congr 1; omega
        rw [← hd] at hv
        exact List.mem_of_mem_drop hv
      by_cases hr : n + 1 ≤ c
      · refine (insert_shift w B g vb i n c xs x y cur hbk hcs hvb hgv (by omega) hr (by unfold maxLen at hm; omega) hn hx1 hy1 h1c).mono ?_
        rintro e w' ⟨rfl, rfl⟩
        obtain ⟨s1, s2⟩ := shift_holds i n c x y cur hcs (by omega) hr
        refine ⟨g, c, rfl, ⟨by simp [hl]; omega, .inr ⟨g, c, _, rfl, hg, setRow_heap w.drew g cur _ _ _ hbk, hr, hm, s1, by rw [s2, ht]⟩⟩, rfl, rfl, rfl, by show w.heap.size ≤ (w.heap.modify g _).size; simp, fun k hk hne' => ?_⟩
        show (w.heap.modify g _)[k]? = _
        rw [Array.getElem?_modify, if_neg (fun e => hne' (by rw [← e]; rfl))]
      · refine (insert_grow w g vb i n c x y cur hbk hcs hvb (by omega) hnc (by omega) (by unfold maxLen at hm; omega) hn hx1 hy1 h1c).mono ?_
        rintro e w' ⟨G, rfl, hG, hG63, ROW, hRs, hRT, rfl⟩
        obtain ⟨s1, s2⟩ := grow_holds i n c G x y cur ROW hcs (by omega) hnc hG hRs hRT
        have k1 : ((w.alloc (.cells ROW 58)).drew).heap[w.heap.size]? = some (.cells ROW 58 (0, 0)) := heap_alloc_new w _
        have k2 : (((w.alloc (.cells ROW 58)).drew).setRow w.heap.size (row2 i x y ROW)).drew.heap[w.heap.size]? = some (.cells (row2 i x y ROW) 58 (0, 0)) := setRow_heap _ w.heap.size ROW _ 58 _ k1
        have k3 := setRow_heap _ w.heap.size (row2 i x y ROW) (row3 i n cur (row2 i x y ROW)) 58 _ k2
        refine ⟨w.heap.size, G, rfl, ⟨by simp [hl]; omega, .inr ⟨w.heap.size, G, _, rfl, hB, k3, hG, by unfold maxLen; omega, s1, by rw [s2, ht]⟩⟩, rfl, rfl, rfl, ?_, fun k hk hne' => ?_⟩
        · rw [setRow_size, drew_heap, setRow_size, drew_heap, alloc_size']
          exact Nat.le_succ _
        · rw [setRow_other _ _ _ _ (by omega), drew_heap, setRow_other _ _ _ _ (by omega), drew_heap]
          exact alloc_heap _ _ hk
end Go.Proofs.YthkokokeppoieaaGreatDoor
namespace Go.Proofs.YthkokokeppoieaaGreatDoor
open Go.RowKit

theorem qVs_append (a b : List Qr) : qVs (a ++ b) = qVs a ++ qVs b := by simp [qVs]
theorem qVs_length2 (a : List Qr) : (qVs a).length = a.length * 2 := by
  induction a with
  | nil => rfl
  | cons q a ih => rw [show qVs (q :: a) = qV q ++ qVs a from rfl, List.length_append, ih]; show 2 + _ = _; simp; omega
theorem qVs_split (qs : List Qr) (i : Nat) (hi : i ≤ qs.length) : (qVs qs).take (i * 2) = qVs (qs.take i) ∧ (qVs qs).drop (i * 2) = qVs (qs.drop i) := by
  have h : qVs qs = qVs (qs.take i) ++ qVs (qs.drop i) := by rw [← qVs_append, List.take_append_drop]
  have hl : (qVs (qs.take i)).length = i * 2 := by rw [qVs_length2, List.length_take]; omega
  rw [h]
  exact ⟨List.take_left' hl, List.drop_left' hl⟩

theorem IsProg.ins {w w1 w2 : World} {B : Nat} {S S2 : Nat → Prop} {qs : List Qr} {v v' : Value} {q : Qr} (i : Nat) (hi : i ≤ qs.length) (h : IsProg w B S qs v) (hB : IsBody w S2 q.1.2 q.2) (hS : ∀ k, S2 k → B ≤ k ∧ ∃ cur fz, w.heap[k]? = some (.cells cur 110 fz))
    (hb : ∀ k, k < w.heap.size → w1.heap[k]? = w.heap[k]?) (hz : w.heap.size ≤ w1.heap.size) (hrow : w2.ownsRow B 58 2 v' (qs.length + 1) ((qVs qs).take (i * 2) ++ qV q ++ (qVs qs).drop (i * 2))) (hg : w1.grownBy w2 v.ownBlock) :
    IsProg w2 B (fun k => S k ∨ S2 k) (qs.take i ++ [q] ++ qs.drop i) v' := by
  have hk : ∀ k, (S k ∨ S2 k) → w2.heap[k]? = w.heap[k]? := by
    intro k hk
    have hne : v.ownBlock ≠ some k := by
      intro he
      rcases hk with hk | hk
      · exact h.apart he hk
      · obtain ⟨_, cur, hc⟩ := h.row_block he
        obtain ⟨_, cur', fz, hc'⟩ := hS k hk
        rw [hc] at hc'
        injection hc' with hc'
        injection hc' with _ ht _
        exact absurd ht (by decide)
    have hlt : k < w.heap.size := by
      rcases hk with hk | hk
      · exact h.lt k hk
      · obtain ⟨_, cur', fz, hc'⟩ := hS k hk; exact heap_lt hc'
    rw [hg.block k (by omega) (fun e => hne e.symm), hb k hlt]
  obtain ⟨e1, e2⟩ := qVs_split qs i hi
  refine ⟨?_, ?_, ?_⟩
  · rw [e1, e2] at hrow
    rw [qVs_append, qVs_append, show qVs [q] = qV q by simp [qVs], show (qs.take i ++ [q] ++ qs.drop i).length = qs.length + 1 by simp; omega]
    exact hrow
  · intro p hp
    have hp' : p = q ∨ p ∈ qs := by
      rcases List.mem_append.1 hp with hp | hp
      · rcases List.mem_append.1 hp with hp | hp
        · exact .inr (List.mem_of_mem_take hp)
        · exact .inl (List.mem_singleton.1 hp)
      · exact .inr (List.mem_of_mem_drop hp)
    rcases hp' with rfl | hp'
    · exact hB.kept (fun k hS => hk k (.inr hS)) (fun _ h => .inr h)
    · exact (h.body p hp').kept (fun k hS => hk k (.inl hS)) (fun _ h => .inl h)
  · intro k hS'
    rcases hS' with h1 | h1
    · obtain ⟨a, cur, fz, hc⟩ := h.set k h1; exact ⟨a, cur, fz, by rw [hk k (.inl h1)]; exact hc⟩
    · obtain ⟨a, cur, fz, hc⟩ := hS k h1; exact ⟨a, cur, fz, by rw [hk k (.inr h1)]; exact hc⟩
end Go.Proofs.YthkokokeppoieaaGreatDoor
namespace Go.Proofs.YthkokokeppoieaaGreatDoor
open Go.RowKit Gram

theorem qVs_set (qs : List Qr) (i : Nat) (hi : i < qs.length) (b : List Stm) (bv : Value) : (qVs qs).set (i * 2 + 1) bv = qVs (qs.set i ((qs[i].1.1, b), bv)) := by
  induction qs generalizing i with
  | nil => simp at hi
  | cons p t ih =>
    cases i with
    | zero => rfl
    | succ i =>
      have := ih i (by simpa using hi)
      rw [show qVs (p :: t) = qV p ++ qVs t from rfl, show (i + 1) * 2 + 1 = (qV p).length + (i * 2 + 1) by show _ = 2 + _; omega, List.set_append_right _ _ (by omega)]
      rw [show (qV p).length + (i * 2 + 1) - (qV p).length = i * 2 + 1 by omega, this]
      rfl

theorem IsProg.put {w : World} {B : Nat} {S S2 : Nat → Prop} {qs : List Qr} {g n c : Nat} (i : Nat) (hi : i < qs.length) (b : List Stm) (bv : Value) (h : IsProg w B S qs (.slice (some ⟨g, 0, none⟩) n c)) (hB : IsBody w S2 b bv) (hS : ∀ k, S2 k → B ≤ k ∧ ∃ cur fz, w.heap[k]? = some (.cells cur 110 fz)) :
    IsProg (w.setCell ⟨g, i * 2 + 1, none⟩ bv) B (fun k => S k ∨ S2 k) (qs.set i ((qs[i].1.1, b), bv)) (.slice (some ⟨g, 0, none⟩) n c) := by
  have hne : ∀ k, (S k ∨ S2 k) → k ≠ g := by
    rintro k hk rfl
    rcases hk with hk | hk
    · exact h.apart (v := .slice (some ⟨k, 0, none⟩) n c) rfl hk
    · obtain ⟨_, cur, hc⟩ := h.row_block (v := .slice (some ⟨k, 0, none⟩) n c) rfl
      obtain ⟨_, cur', fz, hc'⟩ := hS k hk
      rw [hc] at hc'
      injection hc' with hc'
      injection hc' with _ ht _
      exact absurd ht (by decide)
  have hk : ∀ k, (S k ∨ S2 k) → (w.setCell ⟨g, i * 2 + 1, none⟩ bv).heap[k]? = w.heap[k]? := fun k hk => Below.heap_setCell w ⟨g, i * 2 + 1, none⟩ bv k (hne k hk)
  refine ⟨?_, ?_, ?_⟩
  · obtain ⟨hl, hr⟩ := h.row
    rcases hr with ⟨h1, _⟩ | ⟨g', cap, cur, hv, hg, hbk, hnc, hm, hcs, ht⟩
    · injection h1 with h2; cases h2
    · injection hv with h2 h3 h4
      injection h2 with h2
      injection h2 with h2
      subst h2; subst h4
      have hlq := qVs_length2 qs
      refine ⟨by rw [qVs_length2], .inr ⟨g, c, cur.setIfInBounds (i * 2 + 1) bv, by rw [List.length_set, ← h3], hg, ?_, by rw [List.length_set]; exact hnc, hm, by rw [Array.size_setIfInBounds]; exact hcs, ?_⟩⟩
      · exact heap_set_same hbk bv
      · rw [List.length_set, Array.toList_setIfInBounds, ← qVs_set qs i hi b bv, ← ht, List.take_set]
  · intro p hp
    rcases List.mem_or_eq_of_mem_set hp with hp | rfl
    · exact (h.body p hp).kept (fun k hS => hk k (.inl hS)) (fun _ h => .inl h)
    · exact hB.kept (fun k hS => hk k (.inr hS)) (fun _ h => .inr h)
  · intro k hS'
    rcases hS' with h1 | h1
    · obtain ⟨a, cur, fz, hc⟩ := h.set k h1; exact ⟨a, cur, fz, by rw [hk k (.inl h1)]; exact hc⟩
    · obtain ⟨a, cur, fz, hc⟩ := hS k h1; exact ⟨a, cur, fz, by rw [hk k (.inr h1)]; exact hc⟩
end Go.Proofs.YthkokokeppoieaaGreatDoor
