/- The model's l1Body: the body of a procedure of a row. Condition: a row of procedures in memory. A strings.Builder that a call has made: copyCheck, walked in this translation. No condition. A strings.Builder that a call has made: copyCheck and WriteString, walked in this translation; String by the library's contract. Condition: what is held and written takes at most 2^47 bytes. The texts of the program's statements as they lie in memory, and bodyText. Condition: texts of at most 2^20 bytes. ProgramValid of the program and of the model. Condition: for the program's, the library's own number can be read. text of sets of letters; strings.Builder's WriteByte. Condition: letters. The model's l1Set. Condition: texts of at most 2^40 bytes. Ascending letters. No condition. The law FnExactBodyOf answers true at every pair of texts. Condition: the library's own number can be read. The law FnExactCallsOf answers true at every pair of texts. Condition: the library's own number can be read. What is reached by calls, plainly: closed and least sets of letters, and the steps by which they are found. No condition; no walk. reach: a set that is closed under calls and least. Condition: a program as readProgram lays it. The law FnExactReachOf answers true at every pair of texts. Condition: the library's own number can be read. -/
import Derived.Test.YtfmmpahbjkiomaaGreatDoorBody
import Derived.Test.YtfmmpahbjkiomaaGreatDoorTxt
import Derived.Test.YtfmmpahbjkiomaaGreatDoorShelf
import Derived.Test.YtfmmpahbjkiomaaGreatDoorProg
import Derived.Lib.Builder
import Derived.Lib.AppendStr
import Derived.WalkKit
import Derived.WalkSpells
import Derived.WalkLawsBesides
import Derived.Laws.Externs
import Derived.Lib.Hide
import Derived.Test.YtfmmpahbjkiomaaGreatDoorRead
import Derived.Deep.RegionHeld3
import Derived.Deep.RegionWith
import Derived.Test.YtfmmpahbjkiomaaGreatDoorFacts
import Derived.Test.YtfmmpahbjkiomaaGreatDoorBits
import Derived.Test.YtfmmpahbjkiomaaGreatDoorBut
import Derived.Deep.AppendLies
namespace Go.Proofs.YtfmmpahbjkiomaaGreatDoor
open Go.RowKit Gram

def bodyT (o : Option Pr) : ByteArray := match o with | some p => txtOf (txts p.2) | none => ⟨#[]⟩

theorem bytesA {w : World} {b : Nat} {c : UInt8} {e : TypeId} (hb : w.heap[b]? = some (.cells #[.int .u8 (c.toNat : Int)] e (0, 0))) :
    ∀ j (hj : j < [c].length), w.cell? ((⟨b, 0, none⟩ : Addr).add j) = some (.int .u8 ([c][j].toNat : Int)) := fun j hj => by
  have h0 : j = 0 := by simp at hj; exact hj
  subst h0
  have hadd : (⟨b, 0, none⟩ : Addr).add 0 = ⟨b, 0, none⟩ := by unfold Addr.add; split <;> simp_all
  rw [hadd, Lib.cell_of_heap hb]
  rfl
theorem chrA (c : UInt8) (w : World) (b : Nat) (hb : b = w.heap.size) :
    (convert 22 9 (.slice (some ⟨b, 0, none⟩) 1 1)).run Tryz.prog (w.alloc (Obj.cells #[.int .u8 (c.toNat : Int)] 5)) =
      .ok (.string ⟨#[c]⟩) (w.alloc (Obj.cells #[.int .u8 (c.toNat : Int)] 5)) := by
  subst hb
  exact run_convert_bytes_back (P := Tryz.prog) _ 22 9 5 ⟨w.heap.size, 0, none⟩ 1 [c] Tryz.underlying22 Tryz.underlying5 Tryz.underlying9 (bytesA (e := 5) (heap_alloc_new _ _))

def namedIn (ps : List Pr) (nm : ByteArray) : Option Pr := ps.find? fun p => nm.data.toList == [p.1]
theorem namedIn_look {s nm : ByteArray} {ps : List Pr} (h : progOf s = some ps) : namedIn ps nm = lookP s nm := by
  have hf := prog_facts h
  rw [lookP, h]
  cases hno : nameOf nm.data.toList with
  | some c =>
    have := (nameOf_some hno).1
    dsimp only
    rw [namedIn, this]
    congr 1
    funext p
    rw [Bool.eq_iff_iff]
    simp only [beq_iff_eq, List.cons.injEq, and_true]
    exact eq_comm
  | none =>
    dsimp only
    rw [namedIn, List.find?_eq_none]
    intro p hp he
    have he2 : nm.data.toList = [p.1] := by simpa using he
    rw [he2, nameOf, if_pos (hf.2.1 p hp).2.2.2] at hno
    cases hno

set_option maxHeartbeats 1000000 in
theorem l1body_any {w : World} {B n c : Nat} {a : Option Addr} {ps : List Pr} (ho : w.ownsRow B 75 2 (.slice a ps.length c) ps.length (prVs ps)) (hn : ps.length = n) (hl : n ≤ 9223372036854775807) (nm : ByteArray) :
    Calls Tryz.prog 35 #[.slice a n c, .string nm] w fun e w' => e = .returned (.tuple #[.string (bodyT (namedIn ps nm)), .bool (namedIn ps nm).isSome]) ∧ Below w.heap.size w w' := by
  have HO := Lib.hid ho
  have HN := Lib.hid hn
  clear ho hn
  go_enter Tryz.func35, Tryz.ntmps35
  go_wp2_with fail
  go_loopw [10] (fun i wr => ∃ k : Nat, i = .int .i64 k ∧ k ≤ n ∧ Hid (namedIn ps nm = namedIn (ps.drop k) nm) ∧ Hid (Below w.heap.size w wr)) (fun i _ => n - (intOf i).toNat)
  case atStart => exact ⟨0, by go_num, Nat.zero_le _, rfl, Below.refl _ _⟩
  case round =>
    obtain ⟨k, rfl, hk, hE, hb⟩ := hrel
    by_cases hlt : k < n
    · have hkp : k < ps.length := by rw [HN.out]; exact hlt
      obtain ⟨g, rfl, c0, c1⟩ := pr_get HO.out k hkp
      have hgl : g < w.heap.size := World.block_lt_of_cell? w _ c0
      have d0 : wr.cell? ⟨g, k * 2, none⟩ = some (.int .u8 ps[k].1.toNat) := by rw [hb.out.cell (p := ⟨g, k * 2, none⟩) hgl]; exact c0
      have d1 : wr.cell? ⟨g, k * 2 + 1, none⟩ = some (.string (txtOf (txts ps[k].2))) := by rw [hb.out.cell (p := ⟨g, k * 2 + 1, none⟩) hgl]; exact c1
      have e2 := fun o : Obj => chrA ps[k].1 (wr.alloc o) (wr.heap.size + 1) (by rw [alloc_size'])
      have hst : namedIn (ps.drop k) nm = if (nm.data.toList == [ps[k].1]) = true then some ps[k] else namedIn (ps.drop (k + 1)) nm := by
        rw [List.drop_eq_getElem_cons hkp, namedIn, List.find?_cons]
        split <;> simp_all [namedIn]
      rw [← ByteArray.toList_eq] at hst
      have HE2 := Lib.hid (hE.out.trans hst)
      clear c0 c1 hgl hst hE
      cases hq : (nm.toList == [ps[k].1]) with
      | true =>
        rw [hq] at HE2
        have HF := Lib.hid (HE2.out.trans (if_pos rfl))
        clear HE2
        go_wp2_with fail
        go_ret2
        refine ⟨?_, hb.out.alloc hb.out.size _ |>.alloc (by rw [alloc_size']; exact Nat.le_succ_of_le hb.out.size) _⟩
        rw [HF.out]; rfl
      | false =>
        rw [hq] at HE2
        have HF := Lib.hid (HE2.out.trans (if_neg (by decide)))
        clear HE2
        go_wp2_with fail
        go_roundw
        case rel => exact ⟨k + 1, by go_num, by omega, HF.out, hb.out.alloc hb.out.size _ |>.alloc (by rw [alloc_size']; exact Nat.le_succ_of_le hb.out.size) _⟩
        case measure => simp [intOf]; omega
    · have HF := Lib.hid (by rw [hE.out, List.drop_of_length_le (by rw [HN.out]; omega)]; rfl : namedIn ps nm = none)
      clear hE
      go_wp2_with fail
      go_ret2
      exact ⟨by rw [HF.out]; rfl, hb.out⟩

end Go.Proofs.YtfmmpahbjkiomaaGreatDoor
namespace Go.Proofs.YtfmmpahbjkiomaaGreatDoor
open Go.RowKit

theorem info_builder : (Tryz.prog.info? 129).map (·.size) = some 2 := by kernel_rfl
theorem lies_builder : liesAt Tryz.prog Tryz.prog.depth 129 (2 / Tryz.prog.cellsOf 129) 0 129 1 = true := by kernel_rfl
theorem info_byte : (Tryz.prog.info? 5).map (fun i => (i.zero, i.size, i.bytes)) = some (some (.int .u8 0), 1, 1) := by kernel_rfl

set_option maxHeartbeats 1000000 in
set_option maxRecDepth 100000 in
theorem copyCheck_used (b : Nat) (w : World) (h0 : w.cell? ⟨b, 0, none⟩ = some (.pointer (some ⟨b, 0, none⟩))) :
    Calls Tryz.prog 103 #[.pointer (some ⟨b, 0, none⟩)] w fun e w' => e = .returned (.tuple #[]) ∧ w' = w := by
  obtain ⟨j, hj, _⟩ := Option.map_eq_some_iff.1 info_builder
  go_enter Tryz.func103, Tryz.ntmps103
  go_wp2
  rw [Lib.run_neq_ptr_same w _ Tryz.underlying127 hj]
  go_wp2
  go_end0
  exact ⟨rfl, rfl⟩

set_option maxHeartbeats 1000000 in
set_option maxRecDepth 100000 in
theorem copyCheck_fresh (b : Nat) (w : World) (h0 : w.cell? ⟨b, 0, none⟩ = some (.pointer none)) (hsh : w.shape? b = some (129, 2)) (hfz : w.frozen? ⟨b, 0, none⟩ = false) :
    Calls Tryz.prog 103 #[.pointer (some ⟨b, 0, none⟩)] w fun e w' => e = .returned (.tuple #[]) ∧ w' = w.setCell ⟨b, 0, none⟩ (.pointer (some ⟨b, 0, none⟩)) := by
  obtain ⟨j, hj, hjs⟩ := Option.map_eq_some_iff.1 info_builder
  go_enter Tryz.func103, Tryz.ntmps103
  go_wp2
  rw [Lib.run_to_unsafe w ⟨b, 0, none⟩ Tryz.underlying127 Tryz.underlying185 hj (by rw [hjs]; decide) hsh (Nat.zero_lt_succ 1)]
  simp only [Result.andThen]
  rw [Oper.upon_value]
  go_wp2
  rw [run_callFunc_extern Tryz.func125 (by kernel_rfl) (by kernel_rfl) (by kernel_rfl) (e := Extern.AbiNoEscape.same) (by kernel_rfl)]
  rw [Lib.run_noEscape]
  simp only [Result.andThen]
  rw [Oper.upon_value]
  go_wp2
  rw [Lib.run_from_unsafe w ⟨b, 0, none⟩ Tryz.underlying185 Tryz.underlying127 hj hsh lies_builder]
  simp only [Result.andThen]
  rw [Oper.upon_value]
  go_wp2
  go_end0
  exact ⟨rfl, rfl⟩

theorem copyCheck_any (B b : Nat) (bs : List Value) (w : World) (h : Lib.IsBuilder 129 5 B b bs w) :
    Calls Tryz.prog 103 #[.pointer (some ⟨b, 0, none⟩)] w fun e w' => e = .returned (.tuple #[]) ∧ (Lib.BuilderAt 129 5 B b (.pointer (some ⟨b, 0, none⟩)) bs w' ∧ Below B w w') := by
  rcases h with h | h
  · refine (copyCheck_fresh b w h.cell0 h.shape h.frozen0).mono ?_
    rintro e w' ⟨rfl, rfl⟩
    exact ⟨rfl, h.used _, (Below.refl B w).setCell (p := ⟨b, 0, none⟩) h.1 _⟩
  · refine (copyCheck_used b w h.cell0).mono ?_
    rintro e w' ⟨rfl, rfl⟩
    exact ⟨rfl, h, Below.refl B _⟩
end Go.Proofs.YtfmmpahbjkiomaaGreatDoor
namespace Go.Proofs.YtfmmpahbjkiomaaGreatDoor
open Go.RowKit

set_option maxHeartbeats 2000000 in
set_option maxRecDepth 100000 in
theorem writeString_any (B b : Nat) (bs : List Value) (s : ByteArray) (w : World) (h : Lib.IsBuilder 129 5 B b bs w) (hlen : bs.length + s.size ≤ 140737488355328) (hBw : B ≤ w.heap.size) :
    Calls Tryz.prog 79 #[.pointer (some ⟨b, 0, none⟩), .string s] w fun e w' => e = .returned (.tuple #[.int .i64 s.size, .nilIface]) ∧ (Lib.IsBuilder 129 5 B b (bs ++ Lib.strCells s) w' ∧ Below B w w') := by
  obtain ⟨i0, hi, hz0, hz1, hz2⟩ := info_parts info_byte
  go_enter Tryz.func79, Tryz.ntmps79
  go_wp2_with (go_at_call 103; refine (copyCheck_any B b bs _ h).mono ?_)
  rintro e w1 ⟨rfl, h1, hb1⟩
  obtain ⟨hB, v, hbk, hown, hne⟩ := h1
  have c0 : w1.cell? ⟨b, 0, none⟩ = some (.pointer (some ⟨b, 0, none⟩)) := by rw [Lib.cell_of_heap hbk]; rfl
  have c1 : w1.cell? ⟨b, 1, none⟩ = some v := by rw [Lib.cell_of_heap hbk]; rfl
  go_wp2_with (at_builtin; refine Lib.wpList_append_own_string _ rfl _ _ 22 9 rfl B 5 i0 Tryz.underlying22 Tryz.underlying9 hi hz0 hz1 hz2 _ _ _ rfl hown s rfl ?c3 ?c4 ?c5 ?_)
  case c3 => unfold maxLen; omega
  case c4 => omega
  case c5 => have := hb1.size; omega
  intro v' w2 hown' hgrow _
  have hlt : b < w1.heap.size := (Array.getElem?_eq_some_iff.1 hbk).1
  have hb2 : w2.heap[b]? = some (.cells #[.pointer (some ⟨b, 0, none⟩), v] 129 (0, 0)) := by
    rw [hgrow.block b hlt (fun e => hne e.symm)]
    exact hbk
  have d0 : w2.cell? ⟨b, 0, none⟩ = some (.pointer (some ⟨b, 0, none⟩)) := by rw [Lib.cell_of_heap hb2]; rfl
  have d1 : w2.cell? ⟨b, 1, none⟩ = some v := by rw [Lib.cell_of_heap hb2]; rfl
  have f1 : w2.frozen? ⟨b, 1, none⟩ = false := Lib.frozen_of_heap hb2 1
  obtain ⟨ao, n', cap, rfl⟩ : ∃ ao n' cap, v' = .slice ao n' cap := by
    rcases hown'.2 with ⟨hv, _⟩ | ⟨g, cap, cur, hv, _⟩
    · exact ⟨_, _, _, hv⟩
    · exact ⟨_, _, _, hv⟩
  go_wp2
  go_ret2
  refine ⟨rfl, .inr ?_, ?_⟩
  · exact Lib.BuilderAt.put (T := 129) (e := 5) hB hb2 (bs' := bs ++ Lib.strCells s) (by simpa [Lib.strCells_length] using hown') (by decide)
  · exact (hb1.grown hgrow (by have := hb1.size; omega) (fun k hk => (hown.lt k hk).1)).setCell (p := ⟨b, 1, none⟩) hB _
end Go.Proofs.YtfmmpahbjkiomaaGreatDoor
namespace Go.Proofs.YtfmmpahbjkiomaaGreatDoor
open Go.RowKit Gram

theorem bytes_cells {w : World} {b : Nat} {l : List UInt8} {e : TypeId} (hb : w.heap[b]? = some (.cells (l.map fun c => Value.int .u8 (c.toNat : Int)).toArray e (0, 0))) :
    ∀ j (hj : j < l.length), w.cell? ((⟨b, 0, none⟩ : Addr).add j) = some (.int .u8 (l[j].toNat : Int)) := fun j hj => by
  have hadd : (⟨b, 0, none⟩ : Addr).add j = ⟨b, j, none⟩ := by unfold Addr.add; split <;> simp_all
  rw [hadd, Lib.cell_of_heap hb]
  simp [hj]

theorem str2 (g d : UInt8) (w : World) (b : Nat) (hb : b = w.heap.size) :
    (convert 22 9 (.slice (some ⟨b, 0, none⟩) 2 2)).run Tryz.prog (w.alloc (Obj.cells #[.int .u8 (g.toNat : Int), .int .u8 (d.toNat : Int)] 5)) =
      .ok (strV [g, d]) (w.alloc (Obj.cells #[.int .u8 (g.toNat : Int), .int .u8 (d.toNat : Int)] 5)) := by
  subst hb
  exact run_convert_bytes_back (P := Tryz.prog) _ 22 9 5 ⟨w.heap.size, 0, none⟩ 2 [g, d] Tryz.underlying22 Tryz.underlying5 Tryz.underlying9 (bytes_cells (e := 5) (heap_alloc_new _ _))

set_option maxHeartbeats 400000 in
set_option maxRecDepth 100000 in
theorem text_chg (g d : UInt8) (w : World) :
    Calls Tryz.prog 193 #[.agg #[.int .u8 g.toNat, .int .u8 d.toNat]] w fun e w' => e = .returned (strV [g, d]) ∧ Below w.heap.size w w' := by
  go_enter Tryz.func193, Tryz.ntmps193
  go_wp2_with fail
  rw [str2 g d _ _ (by simp)]
  simp only [Result.andThen]
  rw [Oper.upon_value]
  go_wp2_with fail
  go_ret
  exact ⟨rfl, ((Below.refl _ _).alloc (Nat.le_refl _) _).alloc (by simp) _⟩
set_option maxHeartbeats 400000 in
set_option maxRecDepth 100000 in
theorem text_call (c : UInt8) (w : World) :
    Calls Tryz.prog 190 #[.agg #[.int .u8 c.toNat]] w fun e w' => e = .returned (strV [67, c]) ∧ Below w.heap.size w w' := by
  go_enter Tryz.func190, Tryz.ntmps190
  go_wp2_with fail
  have hs := str2 67 c (w.alloc (Obj.cells #[.int .u8 c.toNat] 114)) (w.heap.size + 1) (by simp)
  simp only [UInt8.reduceToNat, Int.cast_ofNat_Int] at hs
  rw [hs]
  simp only [Result.andThen]
  rw [Oper.upon_value]
  go_wp2_with fail
  go_ret
  exact ⟨rfl, ((Below.refl _ _).alloc (Nat.le_refl _) _).alloc (by simp) _⟩
set_option maxHeartbeats 400000 in
theorem text_prt (w : World) :
    Calls Tryz.prog 194 #[.agg #[]] w fun e w' => e = .returned (strV [80]) ∧ Below w.heap.size w w' := by
  go_enter Tryz.func194, Tryz.ntmps194
  go_wp2_with fail
  go_ret
  exact ⟨rfl, (Below.refl _ _).alloc (Nat.le_refl _) _⟩
set_option maxHeartbeats 400000 in
theorem text_pro (w : World) :
    Calls Tryz.prog 195 #[.agg #[]] w fun e w' => e = .returned (strV [75]) ∧ Below w.heap.size w w' := by
  go_enter Tryz.func195, Tryz.ntmps195
  go_wp2_with fail
  go_ret
  exact ⟨rfl, (Below.refl _ _).alloc (Nat.le_refl _) _⟩

theorem tcho_start (w : World) (x y : Value) : ((w.alloc (Obj.cells #[x, y] 148)).drew).cell? ⟨w.heap.size, 0, none⟩ = some x ∧ ((w.alloc (Obj.cells #[x, y] 148)).drew).cell? ⟨w.heap.size, 1, none⟩ = some y ∧
    Below w.heap.size w ((w.alloc (Obj.cells #[x, y] 148)).drew) ∧ w.heap.size < ((w.alloc (Obj.cells #[x, y] 148)).drew).heap.size := by
  have h : ((w.alloc (Obj.cells #[x, y] 148)).drew).heap[w.heap.size]? = some (Obj.cells #[x, y] 148 (0, 0)) := heap_alloc_new w _
  refine ⟨by rw [Lib.cell_of_heap h]; rfl, by rw [Lib.cell_of_heap h]; rfl, ((Below.refl _ _).alloc (Nat.le_refl _) _).drew, heap_lt h⟩
theorem tcho_later {w w1 w2 : World} {x y : Value} (h : w1.cell? ⟨w.heap.size, 0, none⟩ = some x ∧ w1.cell? ⟨w.heap.size, 1, none⟩ = some y ∧ Below w.heap.size w w1 ∧ w.heap.size < w1.heap.size) (hb : Below w1.heap.size w1 w2) :
    w2.cell? ⟨w.heap.size, 0, none⟩ = some x ∧ w2.cell? ⟨w.heap.size, 1, none⟩ = some y ∧ Below w.heap.size w w2 ∧ w.heap.size < w2.heap.size :=
  ⟨cell_later hb h.1, cell_later hb h.2.1, h.2.2.1.trans (hb.mono (Nat.le_of_lt h.2.2.2)), Nat.lt_of_lt_of_le h.2.2.2 hb.size⟩
theorem tcho_below {w w1 : World} {x y : Value} (h : w1.cell? ⟨w.heap.size, 0, none⟩ = some x ∧ w1.cell? ⟨w.heap.size, 1, none⟩ = some y ∧ Below w.heap.size w w1 ∧ w.heap.size < w1.heap.size) : Below w.heap.size w w1 := h.2.2.1

theorem str_add (x y : ByteArray) (h : x.size + y.size ≤ 9223372036854775807) (w : World) : (Op.stringOp .add x y).run Tryz.prog w = .ok (.string (x ++ y)) w := run_string_add_sum w x y h

set_option maxHeartbeats 400000 in
theorem text_cho (la : Option Addr) (ln lc : Nat) (fa : Option Addr) (fn fc : Nat) (sa sb : ByteArray) (w : World) (hsa : sa.size ≤ 1048576) (hsb : sb.size ≤ 1048576)
    (ha : ∀ w', Below w.heap.size w w' → Calls Tryz.prog 47 #[.slice la ln lc] w' fun e w'' => e = .returned (.string sa) ∧ Below w'.heap.size w' w'')
    (hb : ∀ w', Below w.heap.size w w' → Calls Tryz.prog 47 #[.slice fa fn fc] w' fun e w'' => e = .returned (.string sb) ∧ Below w'.heap.size w' w'') :
    Calls Tryz.prog 192 #[.agg #[.slice la ln lc, .slice fa fn fc]] w fun e w' => e = .returned (.string (⟨#[63, 91]⟩ ++ sa ++ ⟨#[93, 91]⟩ ++ sb ++ ⟨#[93]⟩)) ∧ Below w.heap.size w w' := by
  have HA := Lib.hid ha
  have HB := Lib.hid hb
  clear ha hb
  have z1 : (⟨#[63, 91]⟩ : ByteArray).size = 2 := rfl
  have z2 : (⟨#[93, 91]⟩ : ByteArray).size = 2 := rfl
  have z3 : (⟨#[93]⟩ : ByteArray).size = 1 := rfl
  have e1 := str_add ⟨#[63, 91]⟩ sa (by omega)
  have e2 := str_add (⟨#[63, 91]⟩ ++ sa) ⟨#[93, 91]⟩ (by simp; omega)
  have e3 := str_add (⟨#[63, 91]⟩ ++ sa ++ ⟨#[93, 91]⟩) sb (by simp; omega)
  have e4 := str_add (⟨#[63, 91]⟩ ++ sa ++ ⟨#[93, 91]⟩ ++ sb) ⟨#[93]⟩ (by simp; omega)
  clear z1 z2 z3
  go_enter Tryz.func192, Tryz.ntmps192
  go_wp2_with fail
  go_region_held3 (fun w' => w'.cell? ⟨w.heap.size, 0, none⟩ = some (.slice la ln lc) ∧ w'.cell? ⟨w.heap.size, 1, none⟩ = some (.slice fa fn fc) ∧ Below w.heap.size w w' ∧ w.heap.size < w'.heap.size) ((first | assumption | exact tcho_start _ _ _ | (apply tcho_later; assumption; assumption)))
    ((first | (go_at_call_of 47 (Value.slice la ln lc); refine (HA.out _ (tcho_below (by assumption))).mono ?_; rintro e w' ⟨rfl, hb1⟩) | (go_at_call_of 47 (Value.slice fa fn fc); refine (HB.out _ (tcho_below (by assumption))).mono ?_; rintro e w' ⟨rfl, hb1⟩)))
  all_goals go_wp2_with fail
  all_goals go_ret
  all_goals exact ⟨rfl, tcho_below (by assumption)⟩


theorem meth_chg (x y : Value) (w : World) : (method 343 196 (.agg #[x, y]) "loop.example/wovenprograms/impl.text").run Tryz.prog w = .ok (193, .agg #[x, y]) w := by kernel_rfl
theorem meth_call (x : Value) (w : World) : (method 343 114 (.agg #[x]) "loop.example/wovenprograms/impl.text").run Tryz.prog w = .ok (190, .agg #[x]) w := by kernel_rfl
theorem meth_prt (w : World) : (method 343 209 (.agg #[]) "loop.example/wovenprograms/impl.text").run Tryz.prog w = .ok (194, .agg #[]) w := by kernel_rfl
theorem meth_pro (w : World) : (method 343 219 (.agg #[]) "loop.example/wovenprograms/impl.text").run Tryz.prog w = .ok (195, .agg #[]) w := by kernel_rfl
theorem meth_cho (x y : Value) (w : World) : (method 343 148 (.agg #[x, y]) "loop.example/wovenprograms/impl.text").run Tryz.prog w = .ok (192, .agg #[x, y]) w := by kernel_rfl

theorem isBuilder_later {w w' : World} {T e : TypeId} {B b : Nat} {bs : List Value} (h : Lib.IsBuilder T e B b bs w) (hk : ∀ k, k < w.heap.size → w'.heap[k]? = w.heap[k]?) : Lib.IsBuilder T e B b bs w' := by
  have key : ∀ p, Lib.BuilderAt T e B b p bs w → Lib.BuilderAt T e B b p bs w' := by
    rintro p ⟨h1, v, h2, h3, h4⟩
    exact ⟨h1, v, by rw [hk _ (heap_lt h2)]; exact h2, ownsRow_of h3 fun k hk' => hk k (h3.lt k hk').2, h4⟩
  exact h.imp (key _) (key _)

/-- the function that tells a statement's text -/
def fnOf : Stm → FuncId
  | .chg _ _ => 193
  | .prt => 194
  | .pro => 195
  | .call _ => 190
  | .cho _ _ => 192

def SaidText (n : Nat) : Prop := ∀ (x : Stm) (w : World) (S : Nat → Prop) (ty : TypeId) (pv : Value), x.txt.length ≤ n → n ≤ 1048576 → (∀ k, S k → k < w.heap.size) → IsStm w S x (.iface ty pv) →
  Calls Tryz.prog (fnOf x) #[pv] w fun e w' => e = .returned (strV x.txt) ∧ Below w.heap.size w w'
def SaidBody (n : Nat) : Prop := ∀ (xs : List Stm) (w : World) (S : Nat → Prop) (v : Value), (txts xs).length ≤ n → n ≤ 1048576 → (∀ k, S k → k < w.heap.size) → IsBody w S xs v →
  Calls Tryz.prog 47 #[v] w fun e w' => e = .returned (strV (txts xs)) ∧ Below w.heap.size w w'

theorem text_step (n : Nat) (h : ∀ m, m < n → SaidBody m) : SaidText n := by
  intro x w S ty pv hx hn hS hs
  cases x with
  | chg g d =>
    simp only [IsStm] at hs
    injection hs with h1 h2; subst h1; subst h2
    exact text_chg g d w
  | prt =>
    simp only [IsStm] at hs
    injection hs with h1 h2; subst h1; subst h2
    exact text_prt w
  | pro =>
    simp only [IsStm] at hs
    injection hs with h1 h2; subst h1; subst h2
    exact text_pro w
  | call c =>
    simp only [IsStm] at hs
    injection hs with h1 h2; subst h1; subst h2
    exact text_call c w
  | cho a b =>
    simp only [IsStm] at hs
    obtain ⟨va, vb, vas, vbs, he, r1, s1, r2, s2⟩ := hs
    injection he with h1 h2; subst h1; subst h2
    simp only [Stm.txt, List.length_cons, List.length_append, List.length_nil] at hx
    obtain ⟨la, ln, lc, rfl⟩ := slice_form r1.1
    obtain ⟨fa, fn, fc, rfl⟩ := slice_form r2.1
    have hkeep : ∀ w', Below w.heap.size w w' → ∀ k, S k → w'.heap[k]? = w.heap[k]? := fun w' hb k hk => hb.block k (hS k hk)
    refine (text_cho la ln lc fa fn fc ⟨(txts a).toArray⟩ ⟨(txts b).toArray⟩ w (by simp [ByteArray.size]; omega) (by simp [ByteArray.size]; omega) ?_ ?_).mono ?_
    · intro w' hb
      exact h (txts a).length (by omega) a w' S _ (Nat.le_refl _) (by omega) (fun k hk => Nat.lt_of_lt_of_le (hS k hk) hb.size) (IsBody.kept (hkeep w' hb) (fun _ h => h) ⟨vas, r1, s1⟩)
    · intro w' hb
      exact h (txts b).length (by omega) b w' S _ (Nat.le_refl _) (by omega) (fun k hk => Nat.lt_of_lt_of_le (hS k hk) hb.size) (IsBody.kept (hkeep w' hb) (fun _ h => h) ⟨vbs, r2, s2⟩)
    · rintro e w' ⟨rfl, hb⟩
      refine ⟨?_, hb⟩
      simp only [strV, Stm.txt]
      congr 2
      apply ByteArray.ext
      simp

theorem ttxts_take (xs : List Stm) (k : Nat) (x : Stm) (hx : xs[k]? = some x) : txts (xs.take (k + 1)) = txts (xs.take k) ++ x.txt := by
  obtain ⟨hk, rfl⟩ := List.getElem?_eq_some_iff.1 hx
  rw [List.take_succ_eq_append_getElem hk, txts_snoc]
theorem txts_le (xs : List Stm) (k : Nat) : (txts (xs.take k)).length ≤ (txts xs).length := by
  have := txts_append (xs.take k) (xs.drop k)
  rw [List.take_append_drop] at this
  rw [this]; simp
theorem IsStms.get {w : World} {S : Nat → Prop} : ∀ (xs : List Stm) (vs : List Value), IsStms w S xs vs → ∀ k, k < xs.length → ∃ x v, xs[k]? = some x ∧ vs[k]? = some v ∧ IsStm w S x v
  | [], _, _, k, hk => by simp at hk
  | x :: xs, vs, h, k, hk => by
    simp only [IsStms] at h
    obtain ⟨v, t, rfl, h1, h2⟩ := h
    cases k with
    | zero => exact ⟨x, v, rfl, rfl, h1⟩
    | succ k =>
      obtain ⟨y, u, a, b, c⟩ := IsStms.get xs t h2 k (by simpa using hk)
      exact ⟨y, u, by simpa using a, by simpa using b, c⟩

set_option maxHeartbeats 2000000 in
set_option maxRecDepth 100000 in
theorem body_loop (n : Nat) (h : SaidText n) (xs : List Stm) (w : World) (S : Nat → Prop) (a : Option Addr) (ln c : Nat) (vs : List Value) (hx : (txts xs).length ≤ n) (hn : n ≤ 1048576) (hS : ∀ k, S k → k < w.heap.size)
    (hr : Row w S (.slice a ln c) vs) (hs : IsStms w S xs vs) (hln : ln = xs.length) :
    Calls Tryz.prog 47 #[.slice a ln c] w fun e w' => e = .returned (strV (txts xs)) ∧ Below w.heap.size w w' := by
  have hle := txts_ge xs
  have hlb : ln ≤ 1048576 := by omega
  have H := Lib.hid h
  have HR := Lib.hid hr
  have HS := Lib.hid hs
  have HL := Lib.hid hln
  have hSS := Lib.hid hS
  clear h hr hs hS hln
  go_enter Tryz.func47, Tryz.ntmps47
  go_wp2_with fail
  go_loopw [8] (fun i wr => ∃ k : Nat, k ≤ ln ∧ i = .int .i64 k ∧ Hid (Lib.IsBuilder 129 5 w.heap.size w.heap.size (Lib.byteCells (txts (xs.take k))) wr) ∧ Below w.heap.size w wr) (fun i _ => ln - (intOf i).toNat)
  case atStart =>
    exact ⟨0, Nat.zero_le _, by go_num, Lib.fresh_isBuilder 129 5 w, (Below.refl _ _).alloc (Nat.le_refl _) _⟩
  case round =>
    obtain ⟨k, hk, rfl, hI, hb⟩ := hrel
    have hsz := hb.size
    by_cases hlt : k < ln
    · obtain ⟨x, v, hxk, hvk, hst⟩ := IsStms.get xs vs HS.out k (by rw [← HL.out]; exact hlt)
      obtain ⟨g, hga, hc1⟩ : ∃ g, a = some ⟨g, 0, none⟩ ∧ wr.cell? ⟨g, k, none⟩ = some v := by
        rcases HR.out.1.2 with ⟨h1, h2⟩ | ⟨g, cap, cur, h1, _, _⟩
        · injection h1 with h3 h4; omega
        · injection h1 with h3 h4 h5
          subst h3; subst h4; subst h5
          have hg : g < w.heap.size := hSS.out g (HR.out.2 g rfl)
          have := row_cell HR.out.1 k v hvk
          exact ⟨g, rfl, by rw [← this]; exact World.cell?_of_block (a := ⟨g, k, none⟩) (hb.block g hg)⟩
      subst hga
      have hkeep : ∀ j, S j → wr.heap[j]? = w.heap[j]? := fun j hj => hb.block j (hSS.out j hj)
      have hst2 := IsStm.kept hkeep (fun _ h => h) _ _ hst
      obtain ⟨ty, pv, rfl⟩ := hst2.iface
      have htl := ttxts_take xs k x hxk
      have hlk := txts_le xs (k + 1)
      rw [htl] at hlk
      simp only [List.length_append] at hlk
      have hC := H.out x wr S ty pv (by omega) hn (fun j hj => Nat.lt_of_lt_of_le (hSS.out j hj) hsz) hst2
      have HC := Lib.hid hC
      have HT := Lib.hid htl
      have hW := fun (w2 : World) (hb2 : Below wr.heap.size wr w2) => writeString_any w.heap.size w.heap.size (Lib.byteCells (txts (xs.take k))) ⟨x.txt.toArray⟩ w2 (isBuilder_later hI.out fun j hj => hb2.block j hj) (by rw [Lib.byteCells_length]; simp [ByteArray.size]; omega) (Nat.le_trans hsz hb2.size)
      have HW := Lib.hid hW
      clear hC htl hlk hW hst hkeep hxk hvk
      generalize x.txt = tx at *
      cases x with
      | pro =>
        simp only [IsStm] at hst2
        injection hst2 with h1 h2; subst h1; subst h2
        have hm := meth_pro
        go_wp2_with fail
        refine HC.out.mono ?_
        rintro e w2 ⟨rfl, hb2⟩
        have hsz2 := hb2.size
        have HB2 := Lib.hid hb2
        clear hb2
        unfold strV
        go_wp2_with fail
        refine (HW.out w2 HB2.out).mono ?_
        rintro e w3 ⟨rfl, hI3, hb3⟩
        have HI3 := Lib.hid hI3
        clear hI3
        go_wp2_with fail
        go_roundw
        case rel =>
          refine ⟨k + 1, by omega, by go_num, ?_, (hb.trans (HB2.out.mono hsz)).trans hb3⟩
          show Lib.IsBuilder _ _ _ _ _ _
          rw [HT.out, Lib.byteCells_append]
          exact HI3.out
        case measure => simp [intOf]; omega
      | chg g d =>
        simp only [IsStm] at hst2
        injection hst2 with h1 h2; subst h1; subst h2
        have hm := meth_chg (.int .u8 g.toNat) (.int .u8 d.toNat)
        go_wp2_with fail
        refine HC.out.mono ?_
        rintro e w2 ⟨rfl, hb2⟩
        have hsz2 := hb2.size
        have HB2 := Lib.hid hb2
        clear hb2
        unfold strV
        go_wp2_with fail
        refine (HW.out w2 HB2.out).mono ?_
        rintro e w3 ⟨rfl, hI3, hb3⟩
        have HI3 := Lib.hid hI3
        clear hI3
        go_wp2_with fail
        go_roundw
        case rel =>
          refine ⟨k + 1, by omega, by go_num, ?_, (hb.trans (HB2.out.mono hsz)).trans hb3⟩
          show Lib.IsBuilder _ _ _ _ _ _
          rw [HT.out, Lib.byteCells_append]
          exact HI3.out
        case measure => simp [intOf]; omega
      | prt =>
        simp only [IsStm] at hst2
        injection hst2 with h1 h2; subst h1; subst h2
        have hm := meth_prt
        go_wp2_with fail
        refine HC.out.mono ?_
        rintro e w2 ⟨rfl, hb2⟩
        have hsz2 := hb2.size
        have HB2 := Lib.hid hb2
        clear hb2
        unfold strV
        go_wp2_with fail
        refine (HW.out w2 HB2.out).mono ?_
        rintro e w3 ⟨rfl, hI3, hb3⟩
        have HI3 := Lib.hid hI3
        clear hI3
        go_wp2_with fail
        go_roundw
        case rel =>
          refine ⟨k + 1, by omega, by go_num, ?_, (hb.trans (HB2.out.mono hsz)).trans hb3⟩
          show Lib.IsBuilder _ _ _ _ _ _
          rw [HT.out, Lib.byteCells_append]
          exact HI3.out
        case measure => simp [intOf]; omega
      | call d =>
        simp only [IsStm] at hst2
        injection hst2 with h1 h2; subst h1; subst h2
        have hm := meth_call (.int .u8 d.toNat)
        go_wp2_with fail
        refine HC.out.mono ?_
        rintro e w2 ⟨rfl, hb2⟩
        have hsz2 := hb2.size
        have HB2 := Lib.hid hb2
        clear hb2
        unfold strV
        go_wp2_with fail
        refine (HW.out w2 HB2.out).mono ?_
        rintro e w3 ⟨rfl, hI3, hb3⟩
        have HI3 := Lib.hid hI3
        clear hI3
        go_wp2_with fail
        go_roundw
        case rel =>
          refine ⟨k + 1, by omega, by go_num, ?_, (hb.trans (HB2.out.mono hsz)).trans hb3⟩
          show Lib.IsBuilder _ _ _ _ _ _
          rw [HT.out, Lib.byteCells_append]
          exact HI3.out
        case measure => simp [intOf]; omega
      | cho p q =>
        simp only [IsStm] at hst2
        obtain ⟨va, vb, vas, vbs, he, _⟩ := hst2
        injection he with h1 h2; subst h1; subst h2
        have hm := meth_cho va vb
        go_wp2_with fail
        refine HC.out.mono ?_
        rintro e w2 ⟨rfl, hb2⟩
        have hsz2 := hb2.size
        have HB2 := Lib.hid hb2
        clear hb2
        unfold strV
        go_wp2_with fail
        refine (HW.out w2 HB2.out).mono ?_
        rintro e w3 ⟨rfl, hI3, hb3⟩
        have HI3 := Lib.hid hI3
        clear hI3
        go_wp2_with fail
        go_roundw
        case rel =>
          refine ⟨k + 1, by omega, by go_num, ?_, (hb.trans (HB2.out.mono hsz)).trans hb3⟩
          show Lib.IsBuilder _ _ _ _ _ _
          rw [HT.out, Lib.byteCells_append]
          exact HI3.out
        case measure => simp [intOf]; omega
    · have hkl : k = ln := by omega
      subst hkl
      have hall : xs.take k = xs := List.take_of_length_le (by rw [← HL.out]; exact Nat.le_refl _)
      have hI' := hI.out
      rw [hall] at hI'
      have HI := Lib.hid hI'
      clear hI hI' hall
      go_wp2_with fail
      refine (Tryz.Builder_String_any w.heap.size w.heap.size (txts xs) _ HI.out hsz).mono ?_
      rintro e w2 ⟨rfl, hb2⟩
      go_wp2_with fail
      go_ret
      exact ⟨rfl, hb.trans hb2⟩

theorem body_step (n : Nat) (h : SaidText n) : SaidBody n := by
  intro xs w S v hx hn hS hB
  obtain ⟨vs, hr, hs⟩ := hB
  obtain ⟨a, ln, c, rfl⟩ := slice_form hr.1
  have hl := IsStms.len _ _ hs
  refine body_loop n h xs w S a ln c vs hx hn hS hr hs ?_
  rcases hr.1.2 with ⟨h1, h2⟩ | ⟨g, cap, cur, h1, _⟩
  · injection h1 with _ h3; omega
  · injection h1 with _ h3; omega

theorem text_all (n : Nat) : SaidText n := by
  induction n using Nat.strongRecOn with
  | _ n ih => exact text_step n fun m hm => body_step m (ih m hm)

end Go.Proofs.YtfmmpahbjkiomaaGreatDoor
namespace Go.Proofs.YtfmmpahbjkiomaaGreatDoor
open Go.RowKit Gram

set_option maxHeartbeats 400000 in
theorem impl_valid (s : ByteArray) (w : World) (hs : s.size ≤ 1073741824) (hm : MaxCell w) :
    Calls Tryz.prog 10 #[.string s] w fun e w' => e = .returned (.bool (progOf s).isSome) ∧ Below w.heap.size w w' := by
  have HR := Lib.hid ((read_prog s w hs hm).mono fun _ _ h => h.cases)
  generalize (progOf s).isSome = b at *
  clear hm
  go_enter Tryz.func10, Tryz.ntmps10
  go_wp2_with fail
  refine HR.out.mono ?_
  rintro e w2 ⟨a, n, c, rfl, hb, _⟩
  have HB := Lib.hid hb
  clear hb
  go_wp2_with fail
  go_ret
  exact ⟨rfl, HB.out⟩
end Go.Proofs.YtfmmpahbjkiomaaGreatDoor
namespace Go.Proofs.YtfmmpahbjkiomaaGreatDoor
open Go.RowKit Gram

set_option maxHeartbeats 2000000 in
set_option maxRecDepth 100000 in
theorem writeByte_any (B b : Nat) (bs : List Value) (c : UInt8) (w : World) (h : Lib.IsBuilder 129 5 B b bs w) (hlen : bs.length + 1 ≤ 140737488355328) (hBw : B ≤ w.heap.size) :
    Calls Tryz.prog 71 #[.pointer (some ⟨b, 0, none⟩), .int .u8 c.toNat] w fun e w' => e = .returned .nilIface ∧ (Lib.IsBuilder 129 5 B b (bs ++ [.int .u8 c.toNat]) w' ∧ Below B w w') := by
  obtain ⟨i0, hi, hz0, hz1, hz2⟩ := info_parts info_byte
  go_enter Tryz.func71, Tryz.ntmps71
  go_wp2_with (go_at_call 103; refine (copyCheck_any B b bs _ h).mono ?_)
  rintro e w1 ⟨rfl, h1, hb1⟩
  obtain ⟨hB, v, hbk, hown, hne⟩ := h1
  have c0 : w1.cell? ⟨b, 0, none⟩ = some (.pointer (some ⟨b, 0, none⟩)) := by rw [Lib.cell_of_heap hbk]; rfl
  have c1 : w1.cell? ⟨b, 1, none⟩ = some v := by rw [Lib.cell_of_heap hbk]; rfl
  have HK := Lib.hid hbk
  have HO := Lib.hid hown
  have HNE := Lib.hid hne
  have HB1 := Lib.hid hb1
  have hz1' := hb1.size
  clear hbk hown hne hb1
  go_wp2_with (at_builtin; refine wpList_append_lies _ rfl _ _ 22 rfl B 5 i0 (.int .u8 0) 1 1 Tryz.underlying22 hi hz0 hz1 hz2 rfl (by decide) v bs.length bs rfl (HO.out.alloc _) ⟨w1.heap.size, 0, none⟩ 1 1 [.int .u8 c.toNat] rfl rfl (cell_one_new _ _ _) (by intro u hu; simp at hu; subst hu; rfl) (by decide) (by unfold maxLen; omega) (by omega) (by rw [alloc_size']; omega) _ rfl ?_)
  intro g' cap' w2 hown' hgrow hat _
  have hlt : b < w1.heap.size := (Array.getElem?_eq_some_iff.1 HK.out).1
  have hb2 : w2.heap[b]? = some (.cells #[.pointer (some ⟨b, 0, none⟩), v] 129 (0, 0)) := by
    rw [hgrow.block b (by rw [alloc_size']; omega) (fun e => HNE.out e.symm), Lib.alloc_old _ _ _ hlt]
    exact HK.out
  have d0 : w2.cell? ⟨b, 0, none⟩ = some (.pointer (some ⟨b, 0, none⟩)) := by rw [Lib.cell_of_heap hb2]; rfl
  have d1 : w2.cell? ⟨b, 1, none⟩ = some v := by rw [Lib.cell_of_heap hb2]; rfl
  have f1 : w2.frozen? ⟨b, 1, none⟩ = false := Lib.frozen_of_heap hb2 1
  have HN := Lib.hid (And.intro hown' (And.intro hgrow (And.intro hb2 hat)))
  clear hown' hgrow hb2 hat
  go_wp2
  go_ret
  obtain ⟨hown', hgrow, hb2, hat⟩ := HN.out
  refine ⟨rfl, .inr ?_, ?_⟩
  · exact Lib.BuilderAt.put (T := 129) (e := 5) hB hb2 (bs' := bs ++ [.int .u8 c.toNat]) (by simpa using hown') (by decide)
  · exact (((HB1.out.alloc (by omega) _).grown hgrow (by rw [alloc_size']; omega) (fun k hk => (HO.out.lt k hk).1))).setCell (p := ⟨b, 1, none⟩) hB _

theorem byte_cells {w : World} {b : Nat} {l : List UInt8} {e : TypeId} (hb : w.heap[b]? = some (.cells (l.map fun c => Value.int .u8 (c.toNat : Int)).toArray e (0, 0))) :
    ∀ j (hj : j < l.length), w.cell? ((⟨b, 0, none⟩ : Addr).add j) = some (.int .u8 (l[j].toNat : Int)) := fun j hj => by
  have hadd : (⟨b, 0, none⟩ : Addr).add j = ⟨b, j, none⟩ := by unfold Addr.add; split <;> simp_all
  rw [hadd, Lib.cell_of_heap hb]
  simp [hj]
theorem chr1 (c : UInt8) (w : World) (b : Nat) (hb : b = w.heap.size) :
    (convert 22 9 (.slice (some ⟨b, 0, none⟩) 1 1)).run Tryz.prog (w.alloc (Obj.cells #[.int .u8 (c.toNat : Int)] 5)) =
      .ok (.string ⟨#[c]⟩) (w.alloc (Obj.cells #[.int .u8 (c.toNat : Int)] 5)) := by
  subst hb
  exact run_convert_bytes_back (P := Tryz.prog) _ 22 9 5 ⟨w.heap.size, 0, none⟩ 1 [c] Tryz.underlying22 Tryz.underlying5 Tryz.underlying9 (byte_cells (e := 5) (heap_alloc_new _ _))

/-- the letters of l below n, in ascending order -/
def upTo (l : List UInt8) (n : Nat) : List UInt8 := ((List.range' 97 (n - 97)).map UInt8.ofNat).filter fun c => l.contains c
theorem upTo_step (l : List UInt8) (c : UInt8) (h : 97 ≤ c.toNat) : upTo l (c.toNat + 1) = upTo l c.toNat ++ if l.contains c = true then [c] else [] := by
  have e1 : c.toNat + 1 - 97 = (c.toNat - 97) + 1 := by omega
  have e2 : UInt8.ofNat (97 + 1 * (c.toNat - 97)) = c := by rw [show 97 + 1 * (c.toNat - 97) = c.toNat by omega]; simp
  rw [upTo, upTo, e1, List.range'_concat, List.map_append, List.filter_append]
  simp only [List.map_cons, List.map_nil, e2]
  congr 1
  rw [List.filter_cons]
  rfl
theorem upTo_len (l : List UInt8) (n : Nat) : (upTo l n).length ≤ n := by
  refine Nat.le_trans (List.length_filter_le ..) ?_
  simp
def setText (l : List UInt8) : List UInt8 := upTo l 123

set_option maxHeartbeats 2000000 in
theorem text_set (l : List UInt8) (hl : lets l) (w : World) :
    Calls Tryz.prog 43 #[.int .u32 (setOf l)] w fun e w' => e = .returned (.string ⟨(setText l).toArray⟩) ∧ Below w.heap.size w w' := by
  have HLets := Lib.hid hl
  clear hl
  go_enter Tryz.func43, Tryz.ntmps43
  go_wp2_with fail
  go_loopw [4] (fun i wr => ∃ n : Nat, 97 ≤ n ∧ n ≤ 123 ∧ i = .int .u8 n ∧ Hid (Lib.IsBuilder 129 5 w.heap.size w.heap.size (Lib.byteCells (upTo l n)) wr) ∧ Below w.heap.size w wr) (fun i _ => 123 - (intOf i).toNat)
  case atStart =>
    exact ⟨97, by omega, by omega, by go_num, Lib.fresh_isBuilder 129 5 w, (Below.refl _ _).alloc (Nat.le_refl _) _⟩
  case round =>
    obtain ⟨n, h97, h123, rfl, hI, hb⟩ := hrel
    have hsz := hb.size
    by_cases hlt : n ≤ 122
    · obtain ⟨c, rfl⟩ : ∃ c : UInt8, n = c.toNat := ⟨UInt8.ofNat n, by rw [UInt8.toNat_ofNat']; omega⟩
      have hc : isLet c = true := by rw [isLet_int]; simp; omega
      have HH := Lib.hid (fun w => has_set l c HLets.out hc w)
      have HT := Lib.hid (upTo_step l c h97)
      have e1 : IntKind.u8.wrap ((c.toNat : Int) + 1) = ((c.toNat + 1 : Nat) : Int) := by rw [IntWalk.u8_in _ (by omega)]; omega
      have hlen := upTo_len l c.toNat
      cases hin : l.contains c with
      | true =>
        rw [hin] at HH HT
        have HW := Lib.hid (writeByte_any w.heap.size w.heap.size (Lib.byteCells (upTo l c.toNat)) c wr hI.out (by rw [Lib.byteCells_length]; omega) hsz)
        clear hin hc
        go_wp2_with fail
        refine (HH.out _).mono ?_
        rintro e w2 ⟨rfl, rfl⟩
        go_wp2_with fail
        refine HW.out.mono ?_
        rintro e w3 ⟨rfl, hI3, hb3⟩
        have HI3 := Lib.hid hI3
        clear hI3
        go_wp2_with fail
        go_roundw
        case rel =>
          refine ⟨c.toNat + 1, by omega, by omega, by go_num, ?_, hb.trans hb3⟩
          show Lib.IsBuilder _ _ _ _ _ _
          rw [HT.out, if_pos (by simp), Lib.byteCells_append]
          exact HI3.out
        case measure => simp [intOf]; omega
      | false =>
        rw [hin] at HH HT
        clear hin hc
        go_wp2_with fail
        refine (HH.out _).mono ?_
        rintro e w2 ⟨rfl, rfl⟩
        go_wp2_with fail
        go_roundw
        case rel =>
          refine ⟨c.toNat + 1, by omega, by omega, by go_num, ?_, hb⟩
          show Lib.IsBuilder _ _ _ _ _ _
          rw [HT.out, if_neg (by simp), List.append_nil]
          exact hI.out
        case measure => simp [intOf]; omega
    · have hn : n = 123 := by omega
      subst hn
      go_wp2_with fail
      refine (Tryz.Builder_String_any w.heap.size w.heap.size (upTo l 123) _ hI.out hsz).mono ?_
      rintro e w2 ⟨rfl, hb2⟩
      go_wp2_with fail
      go_ret
      exact ⟨rfl, hb.trans hb2⟩

end Go.Proofs.YtfmmpahbjkiomaaGreatDoor
namespace Go.Proofs.YtfmmpahbjkiomaaGreatDoor
open Go.RowKit Gram

end Go.Proofs.YtfmmpahbjkiomaaGreatDoor
namespace Go.Proofs.YtfmmpahbjkiomaaGreatDoor
open Go.RowKit Gram

theorem filter_step (l : List UInt8) (c : UInt8) (h : asc l) : (l.filter fun d => decide (d.toNat < c.toNat + 1)) = (l.filter fun d => decide (d.toNat < c.toNat)) ++ if l.contains c = true then [c] else [] := by
  induction l with
  | nil => simp
  | cons a t ih =>
    rw [asc, List.pairwise_cons] at h
    have ih' := ih h.2
    rcases Nat.lt_trichotomy a.toNat c.toNat with h1 | h1 | h1
    · have hne : c ≠ a := fun e => by rw [e] at h1; omega
      rw [List.filter_cons_of_pos (by simp; omega), List.filter_cons_of_pos (by simp; omega), ih', List.cons_append]
      simp [hne]
    · have he : a = c := UInt8.toNat.inj h1
      subst he
      have e1 : (t.filter fun d => decide (d.toNat < a.toNat + 1)) = [] := by rw [List.filter_eq_nil_iff]; intro d hd; have := h.1 d hd; simp; omega
      have e2 : (t.filter fun d => decide (d.toNat < a.toNat)) = [] := by rw [List.filter_eq_nil_iff]; intro d hd; have := h.1 d hd; simp; omega
      rw [List.filter_cons_of_pos (by simp), List.filter_cons_of_neg (by simp), e1, e2]
      simp
    · have e1 : (t.filter fun d => decide (d.toNat < c.toNat + 1)) = [] := by rw [List.filter_eq_nil_iff]; intro d hd; have := h.1 d hd; simp; omega
      have e2 : (t.filter fun d => decide (d.toNat < c.toNat)) = [] := by rw [List.filter_eq_nil_iff]; intro d hd; have := h.1 d hd; simp; omega
      have hne : ¬ (a :: t).contains c = true := by
        rw [List.contains_iff_mem, List.mem_cons]
        rintro (e | e)
        · rw [e] at h1; omega
        · have := h.1 c e; omega
      rw [List.filter_cons_of_neg (by simp; omega), List.filter_cons_of_neg (by simp; omega), e1, e2, if_neg hne]; rfl
theorem upTo_asc (l : List UInt8) (h : asc l) (hl : lets l) : setText l = l := by
  have key : ∀ n, n ≤ 26 → upTo l (97 + n) = l.filter fun d => decide (d.toNat < 97 + n) := by
    intro n
    induction n with
    | zero =>
      intro _
      have : (l.filter fun d => decide (d.toNat < 97 + 0)) = [] := by rw [List.filter_eq_nil_iff]; intro d hd; have := let_rng (hl d hd); simp; omega
      rw [this]; rfl
    | succ n ih =>
      intro hn
      have hc : (UInt8.ofNat (97 + n)).toNat = 97 + n := by rw [UInt8.toNat_ofNat']; omega
      have h1 := upTo_step l (UInt8.ofNat (97 + n)) (by omega)
      have h2 := filter_step l (UInt8.ofNat (97 + n)) h
      rw [hc] at h1 h2
      rw [← Nat.add_assoc, h1, h2, ih (by omega)]
  have := key 26 (by omega)
  rw [setText, this, List.filter_eq_self]
  intro d hd
  have := let_rng (hl d hd)
  simp; omega
end Go.Proofs.YtfmmpahbjkiomaaGreatDoor
namespace Go.Proofs.YtfmmpahbjkiomaaGreatDoor
open Go.RowKit Gram


set_option maxHeartbeats 1000000 in
theorem impl_body (s nm : ByteArray) (w : World) (hs : s.size ≤ 1073741824) (hm : MaxCell w) :
    Calls Tryz.prog 17 #[.string s, .string nm] w fun e w' => e = .returned (.tuple #[.string (bodyT (lookP s nm)), .bool (lookP s nm).isSome]) ∧ Below w.heap.size w w' := by
  have hF := find_proc s nm w hs hm
  clear hm
  unfold FindTo at hF
  cases hl : lookP s nm with
  | none =>
    rw [hl] at hF
    have HF := Lib.hid hF
    clear hF hl
    go_enter Tryz.func17, Tryz.ntmps17
    go_wp2_with fail
    refine HF.out.mono ?_
    rintro e w2 ⟨⟨a, n, c, k, rfl⟩, hb⟩
    have HB := Lib.hid hb
    clear hb
    go_wp2_with fail
    go_ret2
    exact ⟨rfl, HB.out⟩
  | some p =>
    rw [hl] at hF
    have HF := Lib.hid hF
    clear hF hl
    go_enter Tryz.func17, Tryz.ntmps17
    go_wp2_with fail
    refine HF.out.mono ?_
    rintro e w2 ⟨⟨a, n, c, k, S, qs, hk, rfl, hpo, hP, hG, hqk, hn, hn4, hnm⟩, hb⟩
    have hkn : k < n := by omega
    obtain ⟨g, rfl, _, c0, c1⟩ := hP.get k hk
    have hbody := prog_body hP k hk
    obtain ⟨ba, bn, bc, hbv⟩ := hbody.form
    rw [hbv] at c1 hbody
    rw [hqk] at hbody
    have hgood := hG qs[k] (List.getElem_mem hk)
    rw [hqk] at hgood
    have HT := Lib.hid (body_step 400 (text_all 400) p.2 w2 S (.slice ba bn bc) hgood.2.2.1 (by decide) hP.lt hbody)
    have HB := Lib.hid hb
    clear hb hbody hbv hP hG hpo hnm hqk hgood
    go_wp2_with fail
    refine HT.out.mono ?_
    rintro e w3 ⟨rfl, hb3⟩
    have HB3 := Lib.hid (HB.out.trans (hb3.mono HB.out.size))
    clear hb3
    unfold strV
    go_wp2_with fail
    go_ret2
    exact ⟨rfl, HB3.out⟩

end Go.Proofs.YtfmmpahbjkiomaaGreatDoor
namespace Go.Proofs.YtfmmpahbjkiomaaGreatDoor
open Go.RowKit Gram

def callsT (o : Option Pr) : ByteArray := match o with | some p => txtOf (setText (callsIn p.2)) | none => ⟨#[]⟩

theorem calls_text (o : Option Pr) (h : ∀ p, o = some p → Good p) : ∃ b : List Stm, bodyT o = txtOf (txts b) ∧ wfs b = true ∧ callsT o = txtOf (setText (callsIn b)) := by
  cases o with
  | none => exact ⟨[], rfl, rfl, rfl⟩
  | some p => exact ⟨p.2, rfl, (h p rfl).1, rfl⟩
theorem look_good {s nm : ByteArray} : ∀ p, lookP s nm = some p → Good p := by
  intro p h
  unfold lookP at h
  split at h
  · rename_i ps c hp _
    exact (prog_facts hp).2.1 p (List.mem_of_find?_eq_some h)
  · cases h

end Go.Proofs.YtfmmpahbjkiomaaGreatDoor
namespace Go.Proofs.YtfmmpahbjkiomaaGreatDoor
open Go.RowKit Gram

/-- x calls y in a program -/
def CallsIn (ps : List Pr) (x y : UInt8) : Prop := ∃ p ∈ ps, p.1 = x ∧ y ∈ callsIn p.2

/-- l has just what is reached from c -/
structure Reached (C : UInt8 → UInt8 → Prop) (c : UInt8) (l : List UInt8) : Prop where
  first : ∀ y, C c y → y ∈ l
  closed : ∀ x ∈ l, ∀ y, C x y → y ∈ l
  least : ∀ T : UInt8 → Prop, (∀ y, C c y → T y) → (∀ x y, T x → C x y → T y) → ∀ y ∈ l, T y
theorem Reached.same {C : UInt8 → UInt8 → Prop} {c : UInt8} {l l' : List UInt8} (h : Reached C c l) (h' : Reached C c l') (y : UInt8) : y ∈ l ↔ y ∈ l' :=
  ⟨fun hy => h.least (· ∈ l') h'.first (fun x y hx hc => h'.closed x hx y hc) y hy, fun hy => h'.least (· ∈ l) h.first (fun x y hx hc => h.closed x hx y hc) y hy⟩
theorem upTo_same {l l' : List UInt8} (h : ∀ y, y ∈ l ↔ y ∈ l') (n : Nat) : upTo l n = upTo l' n := by
  rw [upTo, upTo]
  apply List.filter_congr
  intro y _
  rw [Bool.eq_iff_iff, List.contains_iff_mem, List.contains_iff_mem]
  exact h y
theorem mem_upTo {l : List UInt8} (hl : lets l) (y : UInt8) : y ∈ setText l ↔ y ∈ l := by
  rw [setText, upTo, List.mem_filter, List.contains_iff_mem]
  constructor
  · exact fun h => h.2
  · intro h
    refine ⟨?_, h⟩
    have := let_rng (hl y h)
    rw [List.mem_map]
    exact ⟨y.toNat, by rw [List.mem_range'_1]; omega, by simp⟩
theorem setText_lets (l : List UInt8) : lets (setText l) := by
  intro c hc
  rw [setText, upTo, List.mem_filter, List.mem_map] at hc
  obtain ⟨⟨n, hn, rfl⟩, _⟩ := hc
  rw [List.mem_range'_1] at hn
  rw [isLet_int]
  have : (UInt8.ofNat n).toNat = n := by rw [UInt8.toNat_ofNat']; omega
  simp [this]; omega

/-- how many letters a set has -/
def card (l : List UInt8) : Nat := (setText l).length
theorem card_le (l : List UInt8) : card l ≤ 26 := by
  refine Nat.le_trans (List.length_filter_le ..) ?_
  simp
theorem filter_lt {α : Type} (p q : α → Bool) (h : ∀ x, p x = true → q x = true) : ∀ l : List α, (l.filter p).length ≤ (l.filter q).length ∧ ((∃ x ∈ l, q x = true ∧ p x = false) → (l.filter p).length < (l.filter q).length)
  | [] => ⟨Nat.le_refl _, fun ⟨_, hx, _⟩ => by simp at hx⟩
  | a :: t => by
    obtain ⟨h1, h2⟩ := filter_lt p q h t
    cases hp : p a with
    | true =>
      have hq := h a hp
      simp only [List.filter_cons, hp, hq, if_true, List.length_cons]
      refine ⟨by omega, ?_⟩
      rintro ⟨x, hx, hxq, hxp⟩
      rcases List.mem_cons.1 hx with rfl | hx
      · rw [hp] at hxp; cases hxp
      · have := h2 ⟨x, hx, hxq, hxp⟩; omega
    | false =>
      cases hq : q a with
      | true =>
        simp only [List.filter_cons, hp, hq, if_true, List.length_cons, Bool.false_eq_true, if_false]
        exact ⟨by omega, fun _ => by omega⟩
      | false =>
        simp only [List.filter_cons, hp, hq, Bool.false_eq_true, if_false]
        refine ⟨h1, ?_⟩
        rintro ⟨x, hx, hxq, hxp⟩
        rcases List.mem_cons.1 hx with rfl | hx
        · rw [hq] at hxq; cases hxq
        · exact h2 ⟨x, hx, hxq, hxp⟩
theorem card_lt {l l' : List UInt8} (h : ∀ y ∈ l, y ∈ l') (y : UInt8) (hy : y ∈ l') (hn : y ∉ l) (hl : isLet y = true) : card l < card l' := by
  refine (filter_lt _ _ (fun x hx => ?_) _).2 ⟨y, ?_, ?_, ?_⟩
  · rw [List.contains_iff_mem] at hx ⊢; exact h x hx
  · have := let_rng hl
    rw [List.mem_map]
    exact ⟨y.toNat, by rw [List.mem_range'_1]; omega, by simp⟩
  · rw [List.contains_iff_mem]; exact hy
  · rw [← Bool.not_eq_true, List.contains_iff_mem]; exact hn
theorem card_mono {l l' : List UInt8} (h : ∀ y ∈ l, y ∈ l') : card l ≤ card l' :=
  (filter_lt _ _ (fun x hx => by rw [List.contains_iff_mem] at hx ⊢; exact h x hx) _).1

/-- what the program's loop keeps -/
structure Reaching (C : UInt8 → UInt8 → Prop) (c : UInt8) (re fr : List UInt8) : Prop where
  done : ∀ x, (x = c ∨ x ∈ re) → x ∉ fr → ∀ y, C x y → y ∈ re
  least : ∀ T : UInt8 → Prop, (∀ y, C c y → T y) → (∀ x y, T x → C x y → T y) → (∀ y ∈ re, T y) ∧ ∀ y ∈ fr, y = c ∨ T y
theorem Reaching.start (C : UInt8 → UInt8 → Prop) (c : UInt8) : Reaching C c [] [c] :=
  ⟨fun x h hn => by rcases h with rfl | h; · simp at hn
                    · simp at h, fun T _ _ => ⟨by simp, fun y hy => .inl (by simpa using hy)⟩⟩
theorem Reaching.step {C : UInt8 → UInt8 → Prop} {c : UInt8} {re fr ca : List UInt8} (h : Reaching C c re fr) (hc : ∀ y, y ∈ ca ↔ ∃ x ∈ fr, C x y) :
    Reaching C c (re ++ ca) (ca.filter fun y => !re.contains y) := by
  refine ⟨?_, ?_⟩
  · intro x hx hn y hy
    rw [List.mem_append]
    by_cases hf : x ∈ fr
    · exact .inr ((hc y).2 ⟨x, hf, hy⟩)
    · left
      refine h.done x ?_ hf y hy
      rcases hx with hx | hx
      · exact .inl hx
      · right
        rcases List.mem_append.1 hx with hx | hx
        · exact hx
        · by_cases hr : x ∈ re
          · exact hr
          · exact absurd (List.mem_filter.2 ⟨hx, by simpa using hr⟩) hn
  · intro T h1 h2
    obtain ⟨a, b⟩ := h.least T h1 h2
    have hca : ∀ y ∈ ca, T y := by
      intro y hy
      obtain ⟨x, hx, hxy⟩ := (hc y).1 hy
      rcases b x hx with rfl | ht
      · exact h1 y hxy
      · exact h2 x y ht hxy
    refine ⟨fun y hy => ?_, fun y hy => .inr (hca y (List.mem_filter.1 hy).1)⟩
    rcases List.mem_append.1 hy with hy | hy
    · exact a y hy
    · exact hca y hy
theorem Reaching.finish {C : UInt8 → UInt8 → Prop} {c : UInt8} {re : List UInt8} (h : Reaching C c re []) : Reached C c re :=
  ⟨fun y hy => h.done c (.inl rfl) (by simp) y hy, fun x hx y hy => h.done x (.inr hx) (by simp) y hy, fun T h1 h2 => (h.least T h1 h2).1⟩

/-- sets as numbers -/
theorem lets_append {a b : List UInt8} (ha : lets a) (hb : lets b) : lets (a ++ b) := by
  intro c hc
  rcases List.mem_append.1 hc with h | h
  · exact ha c h
  · exact hb c h
theorem setOf_append (a b : List UInt8) : setOf (a ++ b) = setOf a ||| setOf b := by
  apply Nat.eq_of_testBit_eq
  intro i
  rw [Nat.testBit_or, setOf_bit, setOf_bit, setOf_bit, List.any_append]
theorem setOf_zero {l : List UInt8} (h : l ≠ []) : setOf l ≠ 0 := by
  cases l with
  | nil => exact absurd rfl h
  | cons c t =>
    intro h0
    have h1 := setOf_bit (c :: t) (c.toNat - 97)
    rw [h0, Nat.zero_testBit] at h1
    simp at h1
theorem less_filter (a b : List UInt8) (ha : lets a) (hb : lets b) : lessOf (setOf a) (setOf b) = setOf (a.filter fun y => !b.contains y) := by
  apply Nat.eq_of_testBit_eq
  intro i
  rw [lessOf_bit, setOf_bit, setOf_bit, setOf_bit, Bool.eq_iff_iff]
  simp only [Bool.and_eq_true, decide_eq_true_eq, Bool.not_eq_true', List.any_eq_true, List.any_eq_false, beq_iff_eq, List.mem_filter]
  constructor
  · rintro ⟨⟨_, c, hc, he⟩, hn⟩
    refine ⟨c, ⟨hc, ?_⟩, he⟩
    rw [← Bool.not_eq_true, List.contains_iff_mem]
    intro hm; exact hn c hm he
  · rintro ⟨c, ⟨hc, hn⟩, he⟩
    have h1 := let_rng (ha c hc)
    refine ⟨⟨by omega, c, hc, he⟩, ?_⟩
    intro d hd hde
    have h2 := let_rng (hb d hd)
    have : d = c := UInt8.toNat.inj (by omega)
    rw [this] at hd
    rw [← Bool.not_eq_true, List.contains_iff_mem] at hn
    exact hn hd
end Go.Proofs.YtfmmpahbjkiomaaGreatDoor
namespace Go.Proofs.YtfmmpahbjkiomaaGreatDoor
open Go.RowKit Gram

/-- how many bits of the first 26 are set -/
def nb (m : Nat) : Nat := (((List.range' 97 26).map UInt8.ofNat).filter fun c => m.testBit (c.toNat - 97)).length
theorem nb_set (l : List UInt8) (hl : lets l) : nb (setOf l) = card l := by
  rw [nb, card, setText, upTo]
  congr 1
  apply List.filter_congr
  intro c hc
  rw [List.mem_map] at hc
  obtain ⟨n, hn, rfl⟩ := hc
  rw [List.mem_range'_1] at hn
  refine set_has l _ hl ?_
  have : (UInt8.ofNat n).toNat = n := by rw [UInt8.toNat_ofNat']; omega
  rw [isLet_int, this]
  simp; omega
theorem set_one (t : UInt8) : setOf [t] = bitOf t := by simp [setOf, setFrom]

def callsOfQ (qs : List Qr) (fr : List UInt8) (y : UInt8) : Prop := ∃ q ∈ qs, q.1.1 ∈ fr ∧ y ∈ callsIn q.1.2
theorem callsOfQ_all (qs : List Qr) (fr : List UInt8) (y : UInt8) : callsOfQ qs fr y ↔ ∃ x ∈ fr, CallsIn (qs.map (·.1)) x y := by
  constructor
  · rintro ⟨q, hq, hf, hy⟩
    exact ⟨q.1.1, hf, q.1, List.mem_map.2 ⟨q, hq, rfl⟩, rfl, hy⟩
  · rintro ⟨x, hx, p, hp, rfl, hy⟩
    obtain ⟨q, hq, rfl⟩ := List.mem_map.1 hp
    exact ⟨q, hq, hx, hy⟩
theorem callsOfQ_take (qs : List Qr) (k : Nat) (hk : k < qs.length) (fr : List UInt8) (y : UInt8) : callsOfQ (qs.take (k + 1)) fr y ↔ callsOfQ (qs.take k) fr y ∨ (qs[k].1.1 ∈ fr ∧ y ∈ callsIn qs[k].1.2) := by
  rw [List.take_succ_eq_append_getElem hk]
  constructor
  · rintro ⟨q, hq, h⟩
    rcases List.mem_append.1 hq with hq | hq
    · exact .inl ⟨q, hq, h⟩
    · rw [List.mem_singleton.1 hq] at h; exact .inr h
  · rintro (⟨q, hq, h⟩ | h)
    · exact ⟨q, List.mem_append.2 (.inl hq), h⟩
    · exact ⟨_, List.mem_append.2 (.inr (List.mem_singleton.2 rfl)), h⟩

theorem measure_reach {re ca : List UInt8} {fr : List UInt8} (hre : lets re) (hca : lets ca) (hne : fr ≠ []) :
    2 * (26 - nb (setOf (re ++ ca))) + (if setOf (ca.filter fun y => !re.contains y) = 0 then 0 else 1) < 2 * (26 - nb (setOf re)) + (if setOf fr = 0 then 0 else 1) := by
  rw [nb_set _ (lets_append hre hca), nb_set _ hre, if_neg (setOf_zero hne)]
  have h1 : card re ≤ card (re ++ ca) := card_mono fun y hy => List.mem_append.2 (.inl hy)
  have h3 := card_le (re ++ ca)
  split
  case isTrue => omega
  case isFalse h0 =>
    have hnil : (ca.filter fun y => !re.contains y) ≠ [] := fun e => h0 (by rw [e]; rfl)
    obtain ⟨y, hy⟩ := List.exists_mem_of_ne_nil _ hnil
    obtain ⟨hy1, hy2⟩ := List.mem_filter.1 hy
    have h2 : card re < card (re ++ ca) := card_lt (fun z hz => List.mem_append.2 (.inl hz)) y (List.mem_append.2 (.inr hy1)) (by simpa using hy2) (hca y hy1)
    omega

set_option maxHeartbeats 4000000 in
set_option maxRecDepth 100000 in
theorem reach_any {w : World} {B : Nat} {S : Nat → Prop} {qs : List Qr} {a : Option Addr} {n c : Nat} (h : IsProg w B S qs (.slice a n c)) (hn : qs.length = n) (hl : n ≤ 401) (hg : ∀ q ∈ qs, Good q.1) (t : UInt8) (ht : isLet t = true) :
    Calls Tryz.prog 41 #[.slice a n c, .int .u32 (bitOf t)] w fun e w' => (∃ re, lets re ∧ Reached (CallsIn (qs.map (·.1))) t re ∧ e = .returned (.int .u32 (setOf re))) ∧ Below w.heap.size w w' := by
  have H := Lib.hid h
  have HN := Lib.hid hn
  have HG := Lib.hid hg
  rw [← set_one]
  clear h hn hg
  go_enter Tryz.func41, Tryz.ntmps41
  go_wp2_with fail
  go_loopw [1, 5] (fun x y wr => ∃ fr re : List UInt8, x = .int .u32 (setOf fr) ∧ y = .int .u32 (setOf re) ∧ Hid (lets fr) ∧ Hid (lets re) ∧ Hid (Reaching (CallsIn (qs.map (·.1))) t re fr) ∧ Hid (Below w.heap.size w wr))
    (fun x y _ => 2 * (26 - nb (intOf y).toNat) + (if (intOf x).toNat = 0 then 0 else 1))
  case atStart =>
    refine ⟨[t], [], rfl, rfl, ?_, ?_, Reaching.start _ _, Below.refl _ _⟩
    · show lets _
      intro d hd
      rw [List.mem_singleton.1 hd]; exact ht
    · show lets _
      intro d hd; simp at hd
  case round =>
    obtain ⟨fr, re, rfl, rfl, hfr, hre, hR, hb⟩ := hrel
    obtain ⟨w5, hw5⟩ : ∃ x, x = wr := ⟨_, rfl⟩
    subst hw5
    by_cases hne : fr = []
    · subst hne
      have HF := Lib.hid hR.out.finish
      clear hR
      have e0 : setOf ([] : List UInt8) = 0 := rfl
      go_wp2_with fail
      go_ret
      exact ⟨⟨re, hre.out, HF.out, rfl⟩, hb.out⟩
    · have hnz := setOf_zero hne
      have e1 : (((setOf fr : Nat) : Int) != 0) = true := by rw [bne_iff_ne]; omega
      have HNE := Lib.hid hne
      clear hnz hne
      go_wp2_with fail
      go_loopw [6, 13] (fun x i wr => ∃ (k : Nat) (ca : List UInt8), i = .int .i64 k ∧ k ≤ n ∧ x = .int .u32 (setOf ca) ∧ Hid (lets ca) ∧ Hid (∀ y, y ∈ ca ↔ callsOfQ (qs.take k) fr y) ∧ Hid (Below w.heap.size w wr)) (fun _ i _ => n - (intOf i).toNat)
      case atStart =>
        refine ⟨0, [], by go_num, Nat.zero_le _, rfl, ?_, ?_, hb.out⟩
        · show lets _
          intro d hd; simp at hd
        · show ∀ y, _
          intro y; simp [callsOfQ]
      case round =>
        obtain ⟨k, ca, rfl, hk, rfl, hca, hC, hb2⟩ := hrel
        by_cases hlt : k < n
        · have hkq : k < qs.length := by rw [HN.out]; exact hlt
          obtain ⟨g, rfl, _, c0, c1⟩ := H.out.get k hkq
          have hgl : g < w.heap.size := World.block_lt_of_cell? w _ c0
          have hbody := prog_body H.out k hkq
          obtain ⟨ba, bn, bc, hbv⟩ := hbody.form
          rw [hbv] at c1 hbody
          have d0 : wr.cell? ⟨g, k * 2, none⟩ = some (.int .u8 qs[k].1.1.toNat) := by rw [hb2.out.cell (p := ⟨g, k * 2, none⟩) hgl]; exact c0
          have d1 : wr.cell? ⟨g, k * 2 + 1, none⟩ = some (.slice ba bn bc) := by rw [hb2.out.cell (p := ⟨g, k * 2 + 1, none⟩) hgl]; exact c1
          have hq := HG.out qs[k] (List.getElem_mem hkq)
          have HCa := Lib.hid (fun w2 (hb3 : Below w.heap.size w w2) => calls_any (w := w2) (S := S) (p := qs[k].1) (hbody.kept (w' := w2) (fun j hj => hb3.block j (H.out.lt j hj)) (fun _ h => h)) (fun j hj => Nat.lt_of_lt_of_le (H.out.lt j hj) hb3.size) hq)
          have HH := Lib.hid (fun w => has_set fr qs[k].1.1 hfr.out hq.2.2.2 w)
          have HT := Lib.hid (callsOfQ_take qs k hkq fr)
          have hlc := callsIn_lets _ hq.1
          have h1 := setOf_lt ca hca.out
          have h2 := setOf_lt (callsIn qs[k].1.2) hlc
          have e2 := or32 (setOf ca) (setOf (callsIn qs[k].1.2)) (by omega) (by omega)
          have HLc := Lib.hid hlc
          clear c0 c1 hgl hbv hbody h1 h2 hlc
          cases hin : fr.contains qs[k].1.1 with
          | true =>
            rw [hin] at HH
            have HIn := Lib.hid (List.contains_iff_mem.1 hin)
            clear hin hq
            go_wp2_with fail
            refine (HH.out _).mono ?_
            rintro e w2 ⟨rfl, rfl⟩
            go_wp2_with fail
            refine (HCa.out _ (hb2.out.alloc hb2.out.size _)).mono ?_
            rintro e w3 ⟨rfl, hb3⟩
            have HB3 := Lib.hid ((hb2.out.alloc hb2.out.size _).trans (hb3.mono (Nat.le_trans hb2.out.size (by rw [alloc_size']; omega))))
            clear hb3
            go_wp2_with fail
            go_roundw
            case rel =>
              refine ⟨k + 1, ca ++ callsIn qs[k].1.2, by go_num, by omega, by rw [setOf_append], lets_append hca.out HLc.out, ?_, HB3.out⟩
              show ∀ y, _
              intro y
              rw [List.mem_append, HT.out y, hC.out y]
              constructor
              · rintro (h | h)
                · exact .inl h
                · exact .inr ⟨HIn.out, h⟩
              · rintro (h | h)
                · exact .inl h
                · exact .inr h.2
            case measure => simp [intOf]; omega
          | false =>
            rw [hin] at HH
            have HIn := Lib.hid (show ¬ qs[k].1.1 ∈ fr from fun hm => Bool.noConfusion ((List.contains_iff_mem.2 hm).symm.trans hin))
            clear hin hq
            go_wp2_with fail
            refine (HH.out _).mono ?_
            rintro e w2 ⟨rfl, rfl⟩
            go_wp2_with fail
            go_roundw
            case rel =>
              refine ⟨k + 1, ca, by go_num, by omega, rfl, hca.out, ?_, hb2.out.alloc hb2.out.size _⟩
              show ∀ y, _
              intro y
              rw [HT.out y, hC.out y]
              constructor
              · exact .inl
              · rintro (h | h)
                · exact h
                · exact absurd h.1 HIn.out
            case measure => simp [intOf]; omega
        · have HAll := Lib.hid (fun y => by
            have h1 := hC.out y
            rw [List.take_of_length_le (by rw [HN.out]; omega)] at h1
            exact h1.trans (callsOfQ_all qs fr y) : ∀ y, y ∈ ca ↔ ∃ x ∈ fr, CallsIn (qs.map (·.1)) x y)
          have h1 := setOf_lt ca hca.out
          have h2 := setOf_lt re hre.out
          have e2 := or32 (setOf re) (setOf ca) (by omega) (by omega)
          have e3 := less32 (setOf ca) (setOf re)
          have HLF := Lib.hid (less_filter ca re hca.out hre.out)
          have HMs := Lib.hid (measure_reach hre.out hca.out HNE.out)
          clear hC h1 h2
          go_wp2_with fail
          go_roundw
          case rel =>
            refine ⟨ca.filter fun y => !re.contains y, re ++ ca, by rw [HLF.out], by rw [setOf_append], ?_, lets_append hre.out hca.out, hR.out.step HAll.out, hb2.out⟩
            show lets _
            intro d hd
            exact hca.out d (List.mem_filter.1 hd).1
          case measure =>
            have := HMs.out
            rw [setOf_append, ← HLF.out] at this
            simp only [intOf, Int.toNat_natCast]
            exact this
end Go.Proofs.YtfmmpahbjkiomaaGreatDoor
namespace Go.Proofs.YtfmmpahbjkiomaaGreatDoor
open Go.RowKit Gram

def startOf (s nm : ByteArray) : List UInt8 := match lookP s nm with | some p => callsIn p.2 | none => []
def stepOf (s : ByteArray) (x y : UInt8) : Prop := ∃ p, lookP s (txtOf [x]) = some p ∧ y ∈ callsIn p.2
/-- l has just what is reached from the letters of a list -/
structure ReachF (F : List UInt8) (C : UInt8 → UInt8 → Prop) (l : List UInt8) : Prop where
  first : ∀ y ∈ F, y ∈ l
  closed : ∀ x ∈ l, ∀ y, C x y → y ∈ l
  least : ∀ T : UInt8 → Prop, (∀ y ∈ F, T y) → (∀ x y, T x → C x y → T y) → ∀ y ∈ l, T y
theorem ReachF.same {F : List UInt8} {C : UInt8 → UInt8 → Prop} {l l' : List UInt8} (h : ReachF F C l) (h' : ReachF F C l') (y : UInt8) : y ∈ l ↔ y ∈ l' :=
  ⟨fun hy => h.least (· ∈ l') h'.first (fun x y hx hc => h'.closed x hx y hc) y hy, fun hy => h'.least (· ∈ l) h.first (fun x y hx hc => h.closed x hx y hc) y hy⟩
def RT (s nm : ByteArray) (l : List UInt8) : Prop := ∃ re, lets re ∧ l = setText re ∧ ReachF (startOf s nm) (stepOf s) re
theorem RT.same {s nm : ByteArray} {l l' : List UInt8} (h : RT s nm l) (h' : RT s nm l') : l = l' := by
  obtain ⟨re, _, rfl, h2⟩ := h
  obtain ⟨re', _, rfl, h2'⟩ := h'
  exact upTo_same (fun y => h2.same h2' y) _

theorem asc_unique : ∀ {ps : List Pr}, asc (namesOf ps) → ∀ p ∈ ps, ∀ q ∈ ps, p.1 = q.1 → p = q
  | [], _, p, hp, _, _, _ => by simp at hp
  | a :: t, h, p, hp, q, hq, he => by
    rw [namesOf, List.map_cons, asc, List.pairwise_cons] at h
    rcases List.mem_cons.1 hp with hp | hp <;> rcases List.mem_cons.1 hq with hq | hq
    · rw [hp, hq]
    · have := h.1 q.1 (List.mem_map.2 ⟨q, hq, rfl⟩)
      rw [hp] at he; rw [he] at this; omega
    · have := h.1 p.1 (List.mem_map.2 ⟨p, hp, rfl⟩)
      rw [hq] at he; rw [he] at this; omega
    · exact asc_unique (ps := t) h.2 p hp q hq he
theorem look_in {s : ByteArray} {ps : List Pr} (h : progOf s = some ps) (x y : UInt8) : CallsIn ps x y ↔ stepOf s x y := by
  have hf := prog_facts h
  have hasc : asc (namesOf ps) := procs_asc _ _ _ hf.2.2.2 (by simp [asc, namesOf])
  constructor
  · rintro ⟨p, hp, rfl, hy⟩
    refine ⟨p, ?_, hy⟩
    have hno : nameOf (txtOf [p.1]).data.toList = some p.1 := by rw [txtOf_data, nameOf, if_pos (hf.2.1 p hp).2.2.2]
    rw [lookP, h, hno]
    dsimp only
    cases hq : ps.find? (fun q => q.1 == p.1) with
    | none =>
      rw [List.find?_eq_none] at hq
      exact absurd (by simp) (hq p hp)
    | some q =>
      have h1 := List.find?_some hq
      have h2 := List.mem_of_find?_eq_some hq
      rw [asc_unique hasc q h2 p hp (by simpa using h1)]
  · rintro ⟨p, hl, hy⟩
    unfold lookP at hl
    rw [h] at hl
    split at hl
    · rename_i ps' c hp hno
      injection hp with hp
      subst hp
      have h1 := List.find?_some hl
      have h2 := List.mem_of_find?_eq_some hl
      have h3 := (nameOf_some hno).1
      rw [txtOf_data] at h3
      have h4 : x = c := by injection h3
      exact ⟨p, h2, by rw [h4]; simpa using h1, hy⟩
    · cases hl
theorem look_in_ps {s nm : ByteArray} {ps : List Pr} {p : Pr} (h : progOf s = some ps) (hl : lookP s nm = some p) : p ∈ ps := by
  unfold lookP at hl
  rw [h] at hl
  split at hl
  · rename_i ps' c hp hno
    injection hp with hp
    subst hp
    exact List.mem_of_find?_eq_some hl
  · cases hl
theorem reached_F {s nm : ByteArray} {ps : List Pr} {p : Pr} {re : List UInt8} (h : progOf s = some ps) (hl : lookP s nm = some p) (hr : Reached (CallsIn ps) p.1 re) : ReachF (startOf s nm) (stepOf s) re := by
  have hf := prog_facts h
  have hasc : asc (namesOf ps) := procs_asc _ _ _ hf.2.2.2 (by simp [asc, namesOf])
  have hm := look_in_ps h hl
  have hs : ∀ y, CallsIn ps p.1 y ↔ y ∈ startOf s nm := by
    intro y
    rw [startOf, hl]
    constructor
    · rintro ⟨q, hq, he, hy⟩
      rw [asc_unique hasc q hq p hm he] at hy; exact hy
    · intro hy; exact ⟨p, hm, rfl, hy⟩
  refine ⟨fun y hy => hr.first y ((hs y).2 hy), fun x hx y hy => hr.closed x hx y ((look_in h x y).2 hy), ?_⟩
  intro T h1 h2
  exact hr.least T (fun y hy => h1 y ((hs y).1 hy)) (fun x y hx hy => h2 x y hx ((look_in h x y).1 hy))
theorem reached_none {s nm : ByteArray} (hl : lookP s nm = none) : RT s nm [] := by
  refine ⟨[], fun c hc => by simp at hc, rfl, ?_⟩
  have : startOf s nm = [] := by rw [startOf, hl]
  rw [this]
  exact ⟨by simp, by simp, fun T _ _ => by simp⟩

set_option maxHeartbeats 1000000 in
theorem impl_reach (s nm : ByteArray) (w : World) (hs : s.size ≤ 1073741824) (hm : MaxCell w) :
    Calls Tryz.prog 12 #[.string s, .string nm] w fun e w' => (∃ l, RT s nm l ∧ e = .returned (.string (txtOf l))) ∧ Below w.heap.size w w' := by
  have hF := find_proc s nm w hs hm
  clear hm
  unfold FindTo at hF
  cases hl : lookP s nm with
  | none =>
    have HZ := Lib.hid (reached_none hl)
    rw [hl] at hF
    have HF := Lib.hid hF
    clear hF hl
    go_enter Tryz.func12, Tryz.ntmps12
    go_wp2_with fail
    refine HF.out.mono ?_
    rintro e w2 ⟨⟨a, n, c, k, rfl⟩, hb⟩
    have HB := Lib.hid hb
    clear hb
    go_wp2_with fail
    go_ret
    exact ⟨⟨[], HZ.out, rfl⟩, HB.out⟩
  | some p =>
    have HLk := Lib.hid hl
    rw [hl] at hF
    have HF := Lib.hid hF
    clear hF hl
    go_enter Tryz.func12, Tryz.ntmps12
    go_wp2_with fail
    refine HF.out.mono ?_
    rintro e w2 ⟨⟨a, n, c, k, S, qs, hk, rfl, hpo, hP, hG, hqk, hn, hn4, hnm⟩, hb⟩
    have hkn : k < n := by omega
    have hgood := hG qs[k] (List.getElem_mem hk)
    rw [hqk] at hgood
    have HR := Lib.hid (reach_any hP hn hn4 hG p.1 hgood.2.2.2)
    have HO := Lib.hid (fun w => one_letter p.1 hgood.2.2.2 w)
    obtain ⟨g, rfl, _, c0, c1⟩ := hP.get k hk
    obtain ⟨ba, bn, bc, hbv⟩ := (prog_body hP k hk).form
    rw [hbv] at c1
    rw [hqk] at c0
    have HPo := Lib.hid hpo
    have HB := Lib.hid hb
    clear hb hbv hP hG hpo hnm hqk hgood
    go_wp2_with fail
    refine (HO.out _).mono ?_
    rintro e w3 ⟨rfl, rfl⟩
    go_wp2_with fail
    refine HR.out.mono ?_
    rintro e w3 ⟨⟨re, hlre, hre, rfl⟩, hb3⟩
    have HB3 := Lib.hid (HB.out.trans (hb3.mono HB.out.size))
    have HT := Lib.hid (fun w => text_set re hlre w)
    have HZ := Lib.hid (⟨re, hlre, rfl, reached_F HPo.out HLk.out hre⟩ : RT s nm (setText re))
    clear hb3 hlre hre
    go_wp2_with fail
    refine (HT.out _).mono ?_
    rintro e w4 ⟨rfl, hb4⟩
    have HB4 := Lib.hid (HB3.out.trans (hb4.mono HB3.out.size))
    clear hb4
    go_wp2_with fail
    go_ret
    exact ⟨⟨_, HZ.out, rfl⟩, HB4.out⟩

theorem start_step (s : ByteArray) (x y : UInt8) : y ∈ startOf s (txtOf [x]) ↔ stepOf s x y := by
  rw [startOf, stepOf]
  cases lookP s (txtOf [x]) with
  | none => simp
  | some p => simp
def strLen : Value → Nat | .string b => b.size | _ => 0
theorem setText_len (l : List UInt8) : (setText l).length ≤ 26 := card_le l

end Go.Proofs.YtfmmpahbjkiomaaGreatDoor
