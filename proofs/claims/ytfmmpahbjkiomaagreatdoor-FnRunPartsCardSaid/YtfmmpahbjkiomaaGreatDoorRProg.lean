/- readProgram: the program of a text, or none, as its plain reading tells. Condition: a text of at most 2^30 bytes, and the library's own number can be read. -/
import Derived.Test.YtfmmpahbjkiomaaGreatDoorOwn2
namespace Go.Proofs.YtfmmpahbjkiomaaGreatDoor
open Go.RowKit Gram

theorem IsProg.base {w : World} {B B' : Nat} {S : Nat → Prop} {qs : List Qr} {v : Value} (h : IsProg w B S qs v) (hB : B' ≤ B) : IsProg w B' S qs v :=
  ⟨ownsRow_base h.row fun _ hg => Nat.le_trans hB (h.row_block hg).1, h.body, fun k hk => ⟨Nat.le_trans hB (h.set k hk).1, (h.set k hk).2⟩⟩

/-- what readProgram hands back -/
def ReadPTo (s : ByteArray) (w : World) (e : Ending) (w' : World) : Prop :=
  (match progOf s with
    | some ps => ∃ v S qs, e = .returned (.tuple #[v, .bool true]) ∧ qs.map (·.1) = ps ∧ IsProg w' w.heap.size S qs v ∧ (∀ q ∈ qs, Good q.1)
    | none => ∃ (a : Option Addr) (n c : Nat), e = .returned (.tuple #[.slice a n c, .bool false])) ∧ Below w.heap.size w w'
theorem readP_none {s : ByteArray} {w w' : World} {a : Option Addr} {n c : Nat} (h : progOf s = none) (hb : Below w.heap.size w w') : ReadPTo s w (.returned (.tuple #[.slice a n c, .bool false])) w' := by
  refine ⟨?_, hb⟩
  rw [h]; exact ⟨_, _, _, rfl⟩
theorem readP_some {s : ByteArray} {w w' : World} {v : Value} {S : Nat → Prop} {qs : List Qr} (h : progOf s = some (qs.map (·.1))) (hP : IsProg w' w.heap.size S qs v) (hg : ∀ q ∈ qs, Good q.1) (hb : Below w.heap.size w w') : ReadPTo s w (.returned (.tuple #[v, .bool true])) w' := by
  refine ⟨?_, hb⟩
  rw [h]; exact ⟨_, _, _, rfl, rfl, hP, hg⟩
theorem ownQ_plain (qs : List Qr) : ownQ qs = ownCalls (qs.map (·.1)) := by
  simp only [ownQ, ownCalls, namesQ, namesOf, List.all_map, List.map_map]
  rfl
theorem last_q (qs : List Qr) (n : UInt8) (j : Nat) (hj : qs.length = j + 1) : lastBelow (qs.map (·.1)) n = decide ((qs[j]'(by omega)).1.1.toNat < n.toNat) := by
  have : (qs.map (·.1)).getLast? = some (qs[j]'(by omega)).1 := by
    have h2 : qs.length - 1 = j := by omega
    rw [List.getLast?_map, List.getLast?_eq_getElem?, h2, List.getElem?_eq_getElem (show j < qs.length by omega)]; rfl
  rw [lastBelow, this]
  simp [UInt8.lt_iff_toNat_lt]

theorem below_drewN {B : Nat} {a w : World} (h : Below B a w) (n : Nat) : Below B a (w.drewN n) := h.trans ⟨rfl, rfl, rfl, Nat.le_refl _, fun _ _ => rfl⟩

theorem info_proc : (Tryz.prog.info? 65).map (fun i => (i.zero, i.size, i.bytes)) = some (some (.agg #[.int .u8 0, .slice none 0 0]), 2, 32) := by kernel_rfl

theorem readp_long (s : ByteArray) (w : World) (h : 400 < s.size) (hs : s.size ≤ 1073741824) :
    Calls Tryz.prog 39 #[.string s] w (ReadPTo s w) := by
  have HN := Lib.hid (by rw [progOf, if_neg (by omega)] : progOf s = none)
  go_enter Tryz.func39, Tryz.ntmps39
  go_wp2_with fail
  go_ret2
  exact readP_none HN.out (Below.refl _ _)

set_option maxHeartbeats 4000000 in
set_option maxRecDepth 100000 in
theorem readp_short (s : ByteArray) (w : World) (h : s.size ≤ 400) (hm : MaxCell w) :
    Calls Tryz.prog 39 #[.string s] w (ReadPTo s w) := by
  obtain ⟨m0, hm0⟩ := hm
  have hmz := World.block_lt_of_cell? w _ hm0
  obtain ⟨i0, hi, hz0, hz1, hz2⟩ := info_parts info_proc
  have hSp := fun w1 h1 => Tryz.strings_Split s ⟨#[59]⟩ m0 w1 (by omega) h1 (by decide)
  rw [splitB_cuts, ← splitB_len] at hSp
  have hcl := cuts_le s.data.toList []
  rw [show s.data.toList.length = s.size from by simp] at hcl
  generalize hparts : cuts s.data.toList = parts at *
  rw [show cutsP [] s.data.toList = parts from hparts] at hcl
  have hpl : parts.length ≤ 401 := by have := hcl.1; omega
  have HCl := Lib.hid hcl.2
  have HPa := Lib.hid hparts
  have HSp := Lib.hid hSp
  have HM := Lib.hid hm0
  clear hcl hparts hSp hm0
  have HP0 := Lib.hid (by rw [progOf, if_pos h, HPa.out] : progOf s = (procsOf [] parts).bind fun ps => if ownCalls ps then some ps else none)
  go_enter Tryz.func39, Tryz.ntmps39
  go_wp2_with fail
  refine (HSp.out _ HM.out).mono ?_
  rintro e w1 ⟨rfl, rfl⟩
  go_wp2_with fail
  go_loopw [4, 15] (fun v i wr => ∃ (k : Nat) (qs : List Qr) (S : Nat → Prop), i = .int .i64 k ∧ k ≤ parts.length ∧ qs.length = k ∧ Hid (IsProg wr (w.heap.size + 1) S qs v) ∧ Hid (Below w.heap.size w wr) ∧ Hid (w.heap.size + 1 ≤ wr.heap.size) ∧
      Hid (wr.heap[w.heap.size]? = some (.cells (((parts.map fun l => (⟨l.toArray⟩ : ByteArray)).map Value.string).toArray) 9 (0, 0))) ∧ Hid (procsOf [] parts = procsOf (qs.map (·.1)) (parts.drop k)) ∧ Hid (∀ q ∈ qs, Good q.1)) (fun _ i _ => parts.length - (intOf i).toNat)
  case atStart =>
    refine ⟨0, [], fun _ => False, by go_num, Nat.zero_le _, rfl, IsProg.empty _ _, (Below.refl _ _).alloc (Nat.le_refl _) _, by show _ ≤ _; rw [alloc_size']; omega, by rw [List.map_map]; exact heap_alloc_new _ _, by show _ = _; simp, fun q hq => by simp at hq⟩
  case round =>
    obtain ⟨k, qs, S, rfl, hk, hqk, hP, hb, hz, hrow, hE, hG⟩ := hrel
    by_cases hlt : k < parts.length
    · have c1 : wr.cell? ⟨w.heap.size, k, none⟩ = some (.string (txtOf parts[k])) := by
        rw [Lib.cell_of_heap hrow.out]
        simp [List.getElem?_eq_getElem hlt, txtOf]
      have hst := procsOf_step (qs.map (·.1)) parts k hlt
      obtain ⟨a, c, hv⟩ := hP.out.form
      rw [hqk] at hv
      subst hv
      have HQK := Lib.hid hqk
      clear hqk
      have hts : (txtOf parts[k]).size ≤ 1073741824 := by
        have := HCl.out _ (List.getElem_mem hlt)
        rw [txtOf_size]; simp at this; omega
      have hMx : MaxCell wr := ⟨m0, by rw [hb.out.cell (p := ⟨0, 0, none⟩) hmz]; exact HM.out⟩
      have HR := Lib.hid (procedure_any (txtOf parts[k]) wr hts hMx)
      rw [show (txtOf parts[k]).data.toList = parts[k] from rfl] at HR
      generalize txtOf parts[k] = t at *
      cases hpo : procOf parts[k] with
      | none =>
        have HN := Lib.hid (by rw [HP0.out, hE.out, hst, hpo]; rfl : progOf s = none)
        rw [hpo] at HR
        clear hst hpo hMx hts
        go_wp2_with fail
        refine HR.out.mono ?_
        rintro e w2 ⟨⟨n2, a2, m2, c2, rfl⟩, hb2⟩
        have HB2 := Lib.hid (hb.out.trans (hb2.mono hb.out.size))
        clear hb2
        go_wp2_with fail
        go_quiet (fail)
        go_wp2_with fail
        go_ret2
        exact readP_none HN.out (below_drewN (HB2.out.alloc HB2.out.size _) _)
      | some x =>
        rw [hpo] at HR
        rw [hpo] at hst
        have HGx := Lib.hid (procOf_good hpo)
        clear hpo hMx hts
        by_cases hk0 : k = 0
        · have g0 : decide (0 < k) = false := by rw [decide_eq_false_iff_not]; omega
          have hnil : qs = [] := List.length_eq_zero_iff.1 (by rw [HQK.out]; exact hk0)
          have hlb : lastBelow (qs.map (·.1)) x.1 = true := by rw [hnil]; rfl
          have HE2 := Lib.hid (by rw [hE.out, hst]; dsimp only; rw [if_pos hlb] : procsOf [] parts = procsOf (qs.map (·.1) ++ [x]) (parts.drop (k + 1)))
          have HK0 := Lib.hid hk0
          clear hst hlb hnil hE hk0
          go_wp2_with fail
          refine HR.out.mono ?_
          rintro e w2 ⟨⟨v2, S2, rfl, hB2, hS2⟩, hb2⟩
          obtain ⟨ba, bn, bc, hbv⟩ := hB2.form
          subst hbv
          have HB2 := Lib.hid hb2
          have HBo := Lib.hid hB2
          have HS2 := Lib.hid hS2
          clear hb2 hB2 hS2
          go_wp2_with fail
          go_quiet (fail)
          have hkp : ∀ j, j < wr.heap.size → w2.heap[j]? = wr.heap[j]? := fun j hj => HB2.out.block j hj
          have hp2 := hP.out.kept hkp
          have hown2 : (((w2.alloc (Obj.cells #[Value.int IntKind.u8 x.1.toNat, Value.slice ba bn bc] 65)).drewN nq)).ownsRow (w.heap.size + 1) 65 2 (.slice a k c) k (qVs qs) := by
            have := hp2.row
            rw [HQK.out] at this
            exact this.alloc _
          have HP2 := Lib.hid hp2
          have hz2' : w.heap.size + 1 ≤ w2.heap.size := Nat.le_trans hz.out HB2.out.size
          have hzz : (((w2.alloc (Obj.cells #[Value.int IntKind.u8 x.1.toNat, Value.slice ba bn bc] 65)).drewN nq)).heap.size = w2.heap.size + 1 := alloc_size' _ _
          clear hp2 hkp
          generalize hw3 : (w2.alloc (Obj.cells #[Value.int IntKind.u8 x.1.toNat, Value.slice ba bn bc] 65)).drewN nq = w3 at *
          have d0 : w3.cell? ⟨w2.heap.size, 0, none⟩ = some (.int .u8 x.1.toNat) := by
            rw [← hw3]; rw [show ((w2.alloc (Obj.cells #[Value.int IntKind.u8 x.1.toNat, Value.slice ba bn bc] 65)).drewN nq).cell? ⟨w2.heap.size, 0, none⟩ = _ from Lib.cell_of_heap (heap_alloc_new w2 _) 0]; rfl
          have d1 : w3.cell? ⟨w2.heap.size, 1, none⟩ = some (.slice ba bn bc) := by
            rw [← hw3]; rw [show ((w2.alloc (Obj.cells #[Value.int IntKind.u8 x.1.toNat, Value.slice ba bn bc] 65)).drewN nq).cell? ⟨w2.heap.size, 1, none⟩ = _ from Lib.cell_of_heap (heap_alloc_new w2 _) 1]; rfl
          have HW3 := Lib.hid (⟨fun j hj => by rw [← hw3]; exact Lib.alloc_old _ _ _ hj, by rw [← hw3]; exact below_drewN ((Below.refl _ _).alloc (Nat.le_refl _) _) _⟩ : (∀ j, j < w2.heap.size → w3.heap[j]? = w2.heap[j]?) ∧ Below w2.heap.size w2 w3)
          have HOw := Lib.hid hown2
          have HZZ := Lib.hid hzz
          clear hw3 hown2 hzz
          go_wp2_with (at_builtin; go_loud (refine wpList_append_lies _ rfl _ _ 54 rfl (w.heap.size + 1) 65 i0 (.agg #[.int .u8 0, .slice none 0 0]) 2 32 Tryz.underlying54 hi hz0 hz1 hz2 rfl (by decide) (.slice a k c) k (qVs qs) rfl (HOw.out.alloc _) ⟨w3.heap.size, 0, none⟩ 1 1 [.int .u8 x.1.toNat, .slice ba bn bc] rfl rfl (World.news_of_block (cs := #[.int .u8 x.1.toNat, .slice ba bn bc]) (heap_alloc_new _ _)) (by intro u hu; simp at hu; rcases hu with rfl | rfl <;> rfl) (by decide) (by unfold maxLen; omega) (by omega) (by rw [alloc_size', HZZ.out]; omega) _ rfl ?_); intro g' cap' w4 hown' hgrow hat hlt')
          have HN4 := Lib.hid (And.intro hown' hgrow)
          clear hown' hgrow hat hlt'
          go_wp2_with fail
          go_roundw
          case rel =>
            obtain ⟨hown', hgrow⟩ := HN4.out
            have hsn := IsProg.snoc (w := w2) (q := (x, .slice ba bn bc)) HP2.out HBo.out (fun j hj => ⟨Nat.le_trans hz.out (HS2.out j hj).1, (HS2.out j hj).2⟩) (w1 := w3.alloc _) (fun j hj => by rw [Lib.alloc_old _ _ _ (by rw [HZZ.out]; omega)]; exact HW3.out.1 j hj) (by rw [alloc_size', HZZ.out]; omega) (by rw [HQK.out]; exact hown') hgrow
            have hrb : ∀ j, (Value.slice a k c).ownBlock = some j → w.heap.size + 1 ≤ j := fun j hj => (HP2.out.row_block hj).1
            have hgz := hgrow.size
            rw [alloc_size', HZZ.out] at hgz
            refine ⟨k + 1, qs ++ [((x, Value.slice ba bn bc) : Qr)], fun j => S j ∨ S2 j, by go_num, by omega, by rw [List.length_append, HQK.out]; rfl, hsn, ?_, by show _ ≤ _; omega, ?_, ?_, ?_⟩
            · exact (((hb.out.trans (HB2.out.mono hb.out.size)).trans (HW3.out.2.mono (by omega))).alloc (by rw [HZZ.out]; omega) _).grown hgrow (by rw [alloc_size', HZZ.out]; omega) (fun j hj => by have := hrb j hj; omega)
            · show _ = _
              rw [hgrow.block _ (by rw [alloc_size', HZZ.out]; omega) (fun e => by have := hrb _ e.symm; omega), Lib.alloc_old _ _ _ (by rw [HZZ.out]; omega), HW3.out.1 _ (by omega), HB2.out.block _ (by have := hz.out; omega)]
              exact hrow.out
            · show _ = _
              rw [HE2.out, List.map_append]; rfl
            · show ∀ q ∈ _, _
              intro q hq
              rcases List.mem_append.1 hq with hq | hq
              · exact hG.out q hq
              · rw [List.mem_singleton.1 hq]; exact HGx.out
          case measure => simp [intOf]; omega
        · obtain ⟨j, hkj⟩ : ∃ j, k = j + 1 := ⟨k - 1, by omega⟩
          have hqj : qs.length = j + 1 := by rw [HQK.out]; exact hkj
          have hlast := last_q qs x.1 j hqj
          have hjq : j < qs.length := by omega
          obtain ⟨g, hga, hgB, c0, _⟩ := IsProg.get (a := a) (n := k) (c := c) hP.out j hjq
          subst hga
          have hgl : g < wr.heap.size := World.block_lt_of_cell? wr _ c0
          generalize hqn : (qs[j]'hjq).1.1.toNat = ln at *
          have hlt8 : ln < 256 := by rw [← hqn]; exact UInt8.toNat_lt _
          clear hqn
          have HQJ := Lib.hid hqj
          have HKJ := Lib.hid hkj
          have g0 : decide (0 < k) = true := by rw [decide_eq_true_iff]; omega
          have hjk : (j : Int) < (k : Int) := by omega
          have hjw : IntKind.i64.wrap ((k : Int) - 1) = (j : Int) := by
            rw [show (k : Int) - 1 = j by omega]
            exact IntWalk.i64_in _ (by omega)
          clear hk0 hkj hqj
          by_cases hle : x.1.toNat ≤ ln
          · have hcb : decide (x.1.toNat ≤ ln) = true := by rw [decide_eq_true_iff]; exact hle
            have hcbI : decide ((x.1.toNat : Int) ≤ (ln : Int)) = true := by rw [decide_eq_true_iff]; omega
            have hlb : lastBelow (qs.map (·.1)) x.1 = false := by rw [hlast, decide_eq_false_iff_not]; omega
            have HN := Lib.hid (by rw [HP0.out, hE.out, hst]; dsimp only; rw [if_neg (by rw [hlb]; decide)]; rfl : progOf s = none)
            clear hst hlb hE hle hlast
            go_wp2_with fail
            refine HR.out.mono ?_
            rintro e w2 ⟨⟨v2, S2, rfl, hB2, hS2⟩, hb2⟩
            obtain ⟨ba, bn, bc, hbv⟩ := hB2.form
            subst hbv
            have HB2 := Lib.hid (hb.out.trans (hb2.mono hb.out.size))
            have c2 : ∀ o, (w2.alloc o).cell? ⟨g, j * 2, none⟩ = some (.int .u8 ln) := fun o => by rw [World.cell?_of_block (a := ⟨g, j * 2, none⟩) (Lib.alloc_old w2 o g (Nat.lt_of_lt_of_le hgl hb2.size)), hb2.cell (p := ⟨g, j * 2, none⟩) hgl]; exact c0
            clear hb2 hB2 hS2 c0
            go_wp2_with fail
            go_quiet (fail)
            go_wp2_with fail
            go_ret2
            exact readP_none HN.out (below_drewN (HB2.out.alloc HB2.out.size _) _)
          · have hcb : decide (x.1.toNat ≤ ln) = false := by rw [decide_eq_false_iff_not]; exact hle
            have hcbI : decide ((x.1.toNat : Int) ≤ (ln : Int)) = false := by rw [decide_eq_false_iff_not]; omega
            have hlb : lastBelow (qs.map (·.1)) x.1 = true := by rw [hlast, decide_eq_true_iff]; omega
            have HE2 := Lib.hid (by rw [hE.out, hst]; dsimp only; rw [if_pos hlb] : procsOf [] parts = procsOf (qs.map (·.1) ++ [x]) (parts.drop (k + 1)))
            clear hst hlb hE hle hlast
            go_wp2_with fail
            refine HR.out.mono ?_
            rintro e w2 ⟨⟨v2, S2, rfl, hB2, hS2⟩, hb2⟩
            obtain ⟨ba, bn, bc, hbv⟩ := hB2.form
            subst hbv
            have c2 : ∀ o, (w2.alloc o).cell? ⟨g, j * 2, none⟩ = some (.int .u8 ln) := fun o => by rw [World.cell?_of_block (a := ⟨g, j * 2, none⟩) (Lib.alloc_old w2 o g (Nat.lt_of_lt_of_le hgl hb2.size)), hb2.cell (p := ⟨g, j * 2, none⟩) hgl]; exact c0
            have HB2 := Lib.hid hb2
            have HBo := Lib.hid hB2
            have HS2 := Lib.hid hS2
            clear hb2 hB2 hS2 c0
            go_wp2_with fail
            go_quiet (fail)
            have hkp : ∀ j, j < wr.heap.size → w2.heap[j]? = wr.heap[j]? := fun j hj => HB2.out.block j hj
            have hp2 := hP.out.kept hkp
            have hown2 : (((w2.alloc (Obj.cells #[Value.int IntKind.u8 x.1.toNat, Value.slice ba bn bc] 65)).drewN nq)).ownsRow (w.heap.size + 1) 65 2 (.slice (some ⟨g, 0, none⟩) k c) k (qVs qs) := by
              have := hp2.row
              rw [HQK.out] at this
              exact this.alloc _
            have HP2 := Lib.hid hp2
            have hz2' : w.heap.size + 1 ≤ w2.heap.size := Nat.le_trans hz.out HB2.out.size
            have hzz : (((w2.alloc (Obj.cells #[Value.int IntKind.u8 x.1.toNat, Value.slice ba bn bc] 65)).drewN nq)).heap.size = w2.heap.size + 1 := alloc_size' _ _
            clear hp2 hkp
            generalize hw3 : (w2.alloc (Obj.cells #[Value.int IntKind.u8 x.1.toNat, Value.slice ba bn bc] 65)).drewN nq = w3 at *
            have d0 : w3.cell? ⟨w2.heap.size, 0, none⟩ = some (.int .u8 x.1.toNat) := by
              rw [← hw3]; rw [show ((w2.alloc (Obj.cells #[Value.int IntKind.u8 x.1.toNat, Value.slice ba bn bc] 65)).drewN nq).cell? ⟨w2.heap.size, 0, none⟩ = _ from Lib.cell_of_heap (heap_alloc_new w2 _) 0]; rfl
            have d1 : w3.cell? ⟨w2.heap.size, 1, none⟩ = some (.slice ba bn bc) := by
              rw [← hw3]; rw [show ((w2.alloc (Obj.cells #[Value.int IntKind.u8 x.1.toNat, Value.slice ba bn bc] 65)).drewN nq).cell? ⟨w2.heap.size, 1, none⟩ = _ from Lib.cell_of_heap (heap_alloc_new w2 _) 1]; rfl
            have HW3 := Lib.hid (⟨fun j hj => by rw [← hw3]; exact Lib.alloc_old _ _ _ hj, by rw [← hw3]; exact below_drewN ((Below.refl _ _).alloc (Nat.le_refl _) _) _⟩ : (∀ j, j < w2.heap.size → w3.heap[j]? = w2.heap[j]?) ∧ Below w2.heap.size w2 w3)
            have HOw := Lib.hid hown2
            have HZZ := Lib.hid hzz
            clear hw3 hown2 hzz
            go_wp2_with (at_builtin; go_loud (refine wpList_append_lies _ rfl _ _ 54 rfl (w.heap.size + 1) 65 i0 (.agg #[.int .u8 0, .slice none 0 0]) 2 32 Tryz.underlying54 hi hz0 hz1 hz2 rfl (by decide) (.slice (some ⟨g, 0, none⟩) k c) k (qVs qs) rfl (HOw.out.alloc _) ⟨w3.heap.size, 0, none⟩ 1 1 [.int .u8 x.1.toNat, .slice ba bn bc] rfl rfl (World.news_of_block (cs := #[.int .u8 x.1.toNat, .slice ba bn bc]) (heap_alloc_new _ _)) (by intro u hu; simp at hu; rcases hu with rfl | rfl <;> rfl) (by decide) (by unfold maxLen; omega) (by omega) (by rw [alloc_size', HZZ.out]; omega) _ rfl ?_); intro g' cap' w4 hown' hgrow hat hlt')
            have HN4 := Lib.hid (And.intro hown' hgrow)
            clear hown' hgrow hat hlt'
            go_wp2_with fail
            go_roundw
            case rel =>
              obtain ⟨hown', hgrow⟩ := HN4.out
              have hsn := IsProg.snoc (w := w2) (q := (x, .slice ba bn bc)) HP2.out HBo.out (fun j hj => ⟨Nat.le_trans hz.out (HS2.out j hj).1, (HS2.out j hj).2⟩) (w1 := w3.alloc _) (fun j hj => by rw [Lib.alloc_old _ _ _ (by rw [HZZ.out]; omega)]; exact HW3.out.1 j hj) (by rw [alloc_size', HZZ.out]; omega) (by rw [HQK.out]; exact hown') hgrow
              have hrb : ∀ j, (Value.slice (some ⟨g, 0, none⟩) k c).ownBlock = some j → w.heap.size + 1 ≤ j := fun j hj => (HP2.out.row_block hj).1
              have hgz := hgrow.size
              rw [alloc_size', HZZ.out] at hgz
              refine ⟨k + 1, qs ++ [((x, Value.slice ba bn bc) : Qr)], fun j => S j ∨ S2 j, by go_num, by omega, by rw [List.length_append, HQK.out]; rfl, hsn, ?_, by show _ ≤ _; omega, ?_, ?_, ?_⟩
              · exact (((hb.out.trans (HB2.out.mono hb.out.size)).trans (HW3.out.2.mono (by omega))).alloc (by rw [HZZ.out]; omega) _).grown hgrow (by rw [alloc_size', HZZ.out]; omega) (fun j hj => by have := hrb j hj; omega)
              · show _ = _
                rw [hgrow.block _ (by rw [alloc_size', HZZ.out]; omega) (fun e => by have := hrb _ e.symm; omega), Lib.alloc_old _ _ _ (by rw [HZZ.out]; omega), HW3.out.1 _ (by omega), HB2.out.block _ (by have := hz.out; omega)]
                exact hrow.out
              · show _ = _
                rw [HE2.out, List.map_append]; rfl
              · show ∀ q ∈ _, _
                intro q hq
                rcases List.mem_append.1 hq with hq | hq
                · exact hG.out q hq
                · rw [List.mem_singleton.1 hq]; exact HGx.out
            case measure => simp [intOf]; omega
    · have hke : k = parts.length := by omega
      have hE2 := hE.out
      rw [hke, List.drop_of_length_le (Nat.le_refl _)] at hE2
      have hps : procsOf [] parts = some (qs.map (·.1)) := hE2
      have HPs := Lib.hid hps
      clear hps
      have HO := Lib.hid (own_any hP.out hG.out (by omega))
      obtain ⟨a, c, hv⟩ := hP.out.form
      rw [hqk] at hv
      subst hv
      clear hE hE2 hke hqk
      cases hoq : ownQ qs with
      | true =>
        have HF := Lib.hid (by rw [HP0.out, HPs.out, Option.bind_some, if_pos (by rw [← ownQ_plain]; exact hoq)] : progOf s = some (qs.map (·.1)))
        rw [hoq] at HO
        clear hoq
        go_wp2_with fail
        refine HO.out.mono ?_
        rintro e w5 ⟨rfl, hb5⟩
        have HB5 := Lib.hid hb5
        clear hb5
        go_wp2_with fail
        go_ret2
        exact readP_some HF.out ((hP.out.kept fun j hj => HB5.out.block j hj).base (Nat.le_succ _)) hG.out (hb.out.trans (HB5.out.mono hb.out.size))
      | false =>
        have HF := Lib.hid (by rw [HP0.out, HPs.out, Option.bind_some, if_neg (by rw [← ownQ_plain, hoq]; decide)] : progOf s = none)
        rw [hoq] at HO
        clear hoq
        go_wp2_with fail
        refine HO.out.mono ?_
        rintro e w5 ⟨rfl, hb5⟩
        have HB5 := Lib.hid hb5
        clear hb5
        go_wp2_with fail
        go_ret2
        exact readP_none HF.out (hb.out.trans (HB5.out.mono hb.out.size))

theorem read_prog (s : ByteArray) (w : World) (hs : s.size ≤ 1073741824) (hm : MaxCell w) :
    Calls Tryz.prog 39 #[.string s] w (ReadPTo s w) := by
  by_cases h : s.size ≤ 400
  · exact readp_short s w h hm
  · exact readp_long s w (by omega) hs
end Go.Proofs.YtfmmpahbjkiomaaGreatDoor
