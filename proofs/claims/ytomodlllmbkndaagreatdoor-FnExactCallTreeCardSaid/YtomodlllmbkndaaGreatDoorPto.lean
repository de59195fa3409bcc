/- pointsOf: the join points of a kind that a runner holds. Condition: at most 501 of them. -/
import Derived.Test.YtomodlllmbkndaaGreatDoorJz
namespace Go.Proofs.YtomodlllmbkndaaGreatDoor
open Go.RowKit Gram

/-- a join point in a block of its own -/
def Jc3 (w : World) (B : Nat) (x y z : ByteArray) : Prop := w.heap[B]? = some (.cells #[.string x, .string y, .string z] 49 (0, 0))
theorem Jc3.read {w : World} {B : Nat} {x y z : ByteArray} (h : Jc3 w B x y z) : w.cell? ⟨B, 0, none⟩ = some (.string x) ∧ w.cell? ⟨B, 1, none⟩ = some (.string y) ∧ w.cell? ⟨B, 2, none⟩ = some (.string z) :=
  ⟨Lib.cell_of_heap h 0, Lib.cell_of_heap h 1, Lib.cell_of_heap h 2⟩
theorem Jc3.new (w : World) (x y z : ByteArray) : Jc3 (w.alloc (.cells #[.string x, .string y, .string z] 49)) w.heap.size x y z := heap_alloc_new _ _

/-- the join points of a kind: calls or prints -/
def ofKind (b : Bool) (l : List Jpt) : List Jpt := l.filter fun j => j.nm.isSome == b
def kindT (b : Bool) : ByteArray := txtOf (if b then [99, 97, 108, 108] else [112, 114, 105, 110, 116])
theorem kind_eq (j : Jpt) (b : Bool) : ((kT j).toList == (kindT b).toList) = (j.nm.isSome == b) := by
  obtain ⟨n, s⟩ := j
  rw [ByteArray.toList_eq, ByteArray.toList_eq]
  cases n <;> cases b <;> rfl
theorem ofKind_take (b : Bool) (l : List Jpt) (k : Nat) (h : k < l.length) : ofKind b (l.take (k + 1)) = ofKind b (l.take k) ++ if (l[k].nm.isSome == b) = true then [l[k]] else [] := by
  unfold ofKind
  rw [List.take_succ_eq_append_getElem h, List.filter_append]
  congr 1
  by_cases h2 : (l[k].nm.isSome == b) = true
  · rw [if_pos h2]; exact List.filter_cons_of_pos (p := fun j : Jpt => j.nm.isSome == b) (a := l[k]) (l := []) h2
  · rw [if_neg h2]; exact List.filter_cons_of_neg (p := fun j : Jpt => j.nm.isSome == b) (a := l[k]) (l := []) h2
theorem ofKind_le (b : Bool) (l : List Jpt) : (ofKind b l).length ≤ l.length := List.length_filter_le _ _

set_option maxHeartbeats 4000000 in
set_option maxRecDepth 100000 in
theorem pto_any (b : Bool) (w : World) (B rb : Nat) (pv fv ov : Value) (ja : Option Addr) (jc : Nat) (m : Mst) (en : List UInt8) (hD : RnD w B rb pv fv ov (.slice ja m.pts.length jc) m en) (hn : m.pts.length ≤ 501) :
    Calls Tryz.prog 28 #[.pointer (some ⟨rb, 0, none⟩), .string (kindT b)] w fun e w' =>
      (∃ a c, e = .returned (.slice a (ofKind b m.pts).length c) ∧ w'.ownsRow w.heap.size 49 3 (.slice a (ofKind b m.pts).length c) (ofKind b m.pts).length (jpC (ofKind b m.pts))) ∧ Below w.heap.size w w' := by
  obtain ⟨i0, hi, hz0, hz1, hz2⟩ := info_parts info_jp
  have c5 : w.cell? ⟨rb, 5, none⟩ = some (.slice ja m.pts.length jc) := hD.cell 5
  have HRow := Lib.hid hD.pts
  have HK := Lib.hid (fun k (h : k < m.pts.length) => kind_eq m.pts[k] b)
  have HT := Lib.hid (fun k (h : k < m.pts.length) => ofKind_take b m.pts k h)
  have HLe := Lib.hid (fun k => Nat.le_trans (ofKind_le b (m.pts.take k)) (List.length_take_le k m.pts))
  have HG := Lib.hid (show ∀ (a : Option Addr) (c : Nat) (w' : World), w'.ownsRow w.heap.size 49 3 (.slice a (ofKind b m.pts).length c) (ofKind b m.pts).length (jpC (ofKind b m.pts)) → Below w.heap.size w w' → ((∃ a' c', Ending.returned (.slice a (ofKind b m.pts).length c) = .returned (.slice a' (ofKind b m.pts).length c') ∧ w'.ownsRow w.heap.size 49 3 (.slice a' (ofKind b m.pts).length c') (ofKind b m.pts).length (jpC (ofKind b m.pts))) ∧ Below w.heap.size w w') from fun a c w' h1 h2 => ⟨⟨a, c, rfl, h1⟩, h2⟩)
  clear hD
  generalize kindT b = kk at *
  generalize m.pts = pts at *
  go_enter Tryz.func28, Tryz.ntmps28
  go_wp2_with fail
  go_loopw [5, 13] (fun v i wr => ∃ (k : Nat) (a : Option Addr) (n c : Nat) (l : List Jpt), k ≤ pts.length ∧ i = .int .i64 k ∧ v = .slice a n c ∧ n = l.length ∧ n ≤ 501 ∧ Hid (l = ofKind b (pts.take k)) ∧ Hid (wr.ownsRow w.heap.size 49 3 (.slice a n c) n (jpC l)) ∧ Hid (Below w.heap.size w wr)) (fun _ i _ => pts.length - (intOf i).toNat)
  case atStart => exact ⟨0, none, 0, 0, [], Nat.zero_le _, by go_num, rfl, rfl, by omega, rfl, World.ownsRow_nil _ _ _ _, Below.refl _ _⟩
  case round =>
    obtain ⟨k, a, n, c, l, hk, rfl, rfl, hnl, hn5, hL, hR, hW⟩ := hrel
    have hNL := Lib.hid hnl
    clear hnl
    by_cases hlt : k < pts.length
    · obtain ⟨g, rfl, c0, c1, c2⟩ := jrow_cell (row_up HRow.out hW.out) k hlt
      have hq := HK.out k hlt
      have hT := HT.out k hlt
      have hle := HLe.out (k + 1)
      have hszr := hW.out.size
      obtain ⟨j, hj⟩ : ∃ j, pts[k] = j := ⟨_, rfl⟩
      rw [hj] at c0 c1 c2 hq hT
      clear hj
      have N5 := Lib.hid (Jc3.new wr (kT j) (nT j) (sT j))
      have B5 := Lib.hid (hW.out.alloc hszr (.cells #[.string (kT j), .string (nT j), .string (sT j)] 49))
      have R5 := Lib.hid (ownsRow_of (w' := wr.alloc (.cells #[.string (kT j), .string (nT j), .string (sT j)] 49)) hR.out (fun x hx => Lib.alloc_old _ _ _ (hR.out.lt x hx).2))
      have hjc : jpC [j] = [.string (kT j), .string (nT j), .string (sT j)] := rfl
      have HJC := Lib.hid (show ∀ l', jpC (l' ++ [j]) = jpC l' ++ [.string (kT j), .string (nT j), .string (sT j)] from fun l' => jpC_snoc l' j)
      clear hjc
      generalize kT j = kd at *
      generalize nT j = nt at *
      generalize sT j = st at *
      obtain ⟨W5, hW5⟩ : ∃ W5, wr.alloc (.cells #[.string kd, .string nt, .string st] 49) = W5 := ⟨_, rfl⟩
      have hz5 : W5.heap.size = wr.heap.size + 1 := by rw [← hW5, alloc_size']
      rw [hW5] at N5 B5 R5
      obtain ⟨d0, d1, d2⟩ := N5.out.read
      cases hb : (j.nm.isSome == b) with
      | false =>
        rw [hb] at hq hT
        have HT2 := Lib.hid (show ofKind b (pts.take (k + 1)) = ofKind b (pts.take k) by rw [hT]; simp)
        clear hT hb
        go_wp2_with fail
        exact ⟨⟨k + 1, a, n, c, l, by omega, by go_num, rfl, hNL.out, hn5, Lib.hid (by rw [HT2.out]; exact hL.out), R5.out, B5.out⟩, by simp [intOf]; omega⟩
      | true =>
        rw [hb] at hq hT
        have HT2 := Lib.hid (show ofKind b (pts.take (k + 1)) = ofKind b (pts.take k) ++ [j] by rw [hT]; simp)
        rw [HT2.out, ← hL.out, List.length_append, List.length_singleton, ← hNL.out] at hle
        have R6 := Lib.hid (ownsRow_of (w' := W5.alloc (.cells #[.string kd, .string nt, .string st] 49)) R5.out (fun x hx => Lib.alloc_old _ _ _ (R5.out.lt x hx).2))
        have HNw := Lib.hid (show ∀ (j : Nat) (u : Value), [Value.string kd, .string nt, .string st][j]? = some u → (W5.alloc (.cells #[.string kd, .string nt, .string st] 49)).cell? ((⟨W5.heap.size, 0, none⟩ : Addr).add j) = some u from World.news_of_block (cs := #[.string kd, .string nt, .string st]) (heap_alloc_new _ _))
        have hlen : n + 1 ≤ 501 := by omega
        clear hT hb hle
        go_wp2_with (at_builtin; go_loud (refine wpList_append_lies _ rfl _ _ 44 rfl w.heap.size 49 i0 (.agg #[.string ⟨#[]⟩, .string ⟨#[]⟩, .string ⟨#[]⟩]) 3 48 Tryz.underlying44 hi hz0 hz1 hz2 rfl (by decide) (.slice a n c) n (jpC l) rfl R6.out ⟨wr.heap.size + 1, 0, none⟩ 1 1 [.string kd, .string nt, .string st] rfl rfl (by rw [← hz5]; exact HNw.out) (by intro u hu; simp at hu; rcases hu with rfl | rfl | rfl <;> rfl) (by decide) (by unfold maxLen; omega) (by omega) (by rw [alloc_size']; omega) _ rfl ?_))
        intro g' cap' w2 hown' hgrow hat hlt'
        have R7 := Lib.hid (show w2.ownsRow w.heap.size 49 3 (.slice (some ⟨g', 0, none⟩) (n + 1) cap') (n + 1) (jpC (l ++ [j])) by rw [HJC.out]; exact hown')
        have B7 := Lib.hid ((B5.out.alloc B5.out.size _).grown hgrow (by rw [alloc_size']; have := B5.out.size; omega) (fun x hx => (R6.out.lt x hx).1))
        clear hown' hgrow hat hlt'
        go_wp2_with fail
        exact ⟨⟨k + 1, _, _, _, l ++ [j], by omega, by go_num, rfl, by simp [← hNL.out], hlen, Lib.hid (by rw [HT2.out, hL.out]), R7.out, B7.out⟩, by simp [intOf]; omega⟩
    · have hkn : k = pts.length := by omega
      subst hkn
      rw [List.take_length] at hL
      have hl := hL.out
      have hn' := hNL.out
      subst hl
      subst hn'
      go_wp2_with fail
      go_ret
      exact HG.out _ _ _ hR.out hW.out
end Go.Proofs.YtomodlllmbkndaaGreatDoor
