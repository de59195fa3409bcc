/- A strings.Builder that a call has made: copyCheck, walked in this translation. No condition. A strings.Builder that a call has made: copyCheck and WriteString, walked in this translation; String by the library's contract. Condition: what is held and written takes at most 2^47 bytes. The texts of the program's statements as they lie in memory, and bodyText. Condition: texts of at most 2^20 bytes. The model's l1Body: the body of a procedure of a row. Condition: a row of procedures in memory. text of sets of letters; strings.Builder's WriteByte. Condition: letters. The model's l1Set. Condition: texts of at most 2^40 bytes. Ascending letters. No condition. The law FnExactBodyOf answers true at every pair of texts. Condition: the library's own number can be read. The law FnExactCallsOf answers true at every pair of texts. Condition: the library's own number can be read. What is reached by calls, plainly: closed and least sets of letters, and the steps by which they are found. No condition; no walk. reach: a set that is closed under calls and least. Condition: a program as readProgram lays it. The law FnExactReachOf answers true at every pair of texts. Condition: the library's own number can be read. ProgramValid of the program and of the model. Condition: for the program's, the library's own number can be read. The law FnExactProgramValid answers true at every text. Condition: the library's own number can be read. The size of a procedure. Condition: a program as readProgram lays it. The law FnExactSizeOf answers true at every text. Condition: the library's own number can be read. The law FnExactProcsOf answers true at every text. Condition: the library's own number can be read. Ways of calls from a procedure to another one, past some or not, plainly. No condition; no walk. -/
import Derived.Test.YtihjkkoaccmefaaGreatDoorShelf
import Derived.Test.YtihjkkoaccmefaaGreatDoorProg
import Derived.Lib.Builder
import Derived.Lib.AppendStr
import Derived.WalkKit
import Derived.WalkSpells
import Derived.WalkLawsBesides
import Derived.Laws.Externs
import Derived.Lib.Hide
import Derived.Test.YtihjkkoaccmefaaGreatDoorRead
import Derived.Deep.RegionHeld3
import Derived.Deep.RegionWith
import Derived.Test.YtihjkkoaccmefaaGreatDoorBody
import Derived.Test.YtihjkkoaccmefaaGreatDoorTxt
import Derived.Test.YtihjkkoaccmefaaGreatDoorBits
import Derived.Test.YtihjkkoaccmefaaGreatDoorBut
import Derived.Deep.AppendLies
import Derived.Test.YtihjkkoaccmefaaGreatDoorFacts
import Derived.Test.YtihjkkoaccmefaaGreatDoorCalls
import Derived.Test.YtihjkkoaccmefaaGreatDoorAx
namespace Go.Proofs.YtihjkkoaccmefaaGreatDoor
open Go.RowKit

theorem info_builder : (Tryz.prog.info? 108).map (·.size) = some 2 := by kernel_rfl
theorem lies_builder : liesAt Tryz.prog Tryz.prog.depth 108 (2 / Tryz.prog.cellsOf 108) 0 108 1 = true := by kernel_rfl
theorem info_byte : (Tryz.prog.info? 5).map (fun i => (i.zero, i.size, i.bytes)) = some (some (.int .u8 0), 1, 1) := by kernel_rfl

set_option maxHeartbeats 1000000 in
set_option maxRecDepth 100000 in
theorem copyCheck_used (b : Nat) (w : World) (h0 : w.cell? ⟨b, 0, none⟩ = some (.pointer (some ⟨b, 0, none⟩))) :
    Calls Tryz.prog 78 #[.pointer (some ⟨b, 0, none⟩)] w fun e w' => e = .returned (.tuple #[]) ∧ w' = w := by
  obtain ⟨j, hj, _⟩ := Option.map_eq_some_iff.1 info_builder
  go_enter Tryz.func78, Tryz.ntmps78
  go_wp2
  rw [Lib.run_neq_ptr_same w _ Tryz.underlying106 hj]
  go_wp2
  go_end0
  exact ⟨rfl, rfl⟩

set_option maxHeartbeats 1000000 in
set_option maxRecDepth 100000 in
theorem copyCheck_fresh (b : Nat) (w : World) (h0 : w.cell? ⟨b, 0, none⟩ = some (.pointer none)) (hsh : w.shape? b = some (108, 2)) (hfz : w.frozen? ⟨b, 0, none⟩ = false) :
    Calls Tryz.prog 78 #[.pointer (some ⟨b, 0, none⟩)] w fun e w' => e = .returned (.tuple #[]) ∧ w' = w.setCell ⟨b, 0, none⟩ (.pointer (some ⟨b, 0, none⟩)) := by
  obtain ⟨j, hj, hjs⟩ := Option.map_eq_some_iff.1 info_builder
  go_enter Tryz.func78, Tryz.ntmps78
  go_wp2
  rw [Lib.run_to_unsafe w ⟨b, 0, none⟩ Tryz.underlying106 Tryz.underlying151 hj (by rw [hjs]; decide) hsh (Nat.zero_lt_succ 1)]
  simp only [Result.andThen]
  rw [Oper.upon_value]
  go_wp2
  rw [run_callFunc_extern Tryz.func96 (by kernel_rfl) (by kernel_rfl) (by kernel_rfl) (e := Extern.AbiNoEscape.same) (by kernel_rfl)]
  rw [Lib.run_noEscape]
  simp only [Result.andThen]
  rw [Oper.upon_value]
  go_wp2
  rw [Lib.run_from_unsafe w ⟨b, 0, none⟩ Tryz.underlying151 Tryz.underlying106 hj hsh lies_builder]
  simp only [Result.andThen]
  rw [Oper.upon_value]
  go_wp2
  go_end0
  exact ⟨rfl, rfl⟩

theorem copyCheck_any (B b : Nat) (bs : List Value) (w : World) (h : Lib.IsBuilder 108 5 B b bs w) :
    Calls Tryz.prog 78 #[.pointer (some ⟨b, 0, none⟩)] w fun e w' => e = .returned (.tuple #[]) ∧ (Lib.BuilderAt 108 5 B b (.pointer (some ⟨b, 0, none⟩)) bs w' ∧ Below B w w') := by
  rcases h with h | h
  · refine (copyCheck_fresh b w h.cell0 h.shape h.frozen0).mono ?_
    rintro e w' ⟨rfl, rfl⟩
    exact ⟨rfl, h.used _, (Below.refl B w).setCell (p := ⟨b, 0, none⟩) h.1 _⟩
  · refine (copyCheck_used b w h.cell0).mono ?_
    rintro e w' ⟨rfl, rfl⟩
    exact ⟨rfl, h, Below.refl B _⟩
end Go.Proofs.YtihjkkoaccmefaaGreatDoor
namespace Go.Proofs.YtihjkkoaccmefaaGreatDoor
open Go.RowKit

end Go.Proofs.YtihjkkoaccmefaaGreatDoor
namespace Go.Proofs.YtihjkkoaccmefaaGreatDoor
open Go.RowKit Gram

theorem bytes_cells {w : World} {b : Nat} {l : List UInt8} {e : TypeId} (hb : w.heap[b]? = some (.cells (l.map fun c => Value.int .u8 (c.toNat : Int)).toArray e (0, 0))) :
    ∀ j (hj : j < l.length), w.cell? ((⟨b, 0, none⟩ : Addr).add j) = some (.int .u8 (l[j].toNat : Int)) := fun j hj => by
  have hadd : (⟨b, 0, none⟩ : Addr).add j = ⟨b, j, none⟩ := by unfold Addr.add; split <;> simp_all
  rw [hadd, Lib.cell_of_heap hb]
  simp [hj]

theorem str2 (g d : UInt8) (w : World) (b : Nat) (hb : b = w.heap.size) :
    (convert 22 9 (.slice (some ⟨b, 0, none⟩) 2 2)).run Tryz.prog (w.alloc (Obj.cells #[.int .u8 (g.toNat : Int), .int .u8 (d.toNat : Int)] 5)) =
      .ok (strV [g, d]) (w.alloc (Obj.cells #[.int .u8 (g.toNat : Int), .int .u8 (d.toNat : Int)] 5)) := by
  subst hb
  exact run_convert_bytes_back (P := Tryz.prog) _ 22 9 5 ⟨w.heap.size, 0, none⟩ 2 [g, d] Tryz.underlying22 Tryz.underlying5 Tryz.underlying9 (bytes_cells (e := 5) (heap_alloc_new _ _))

theorem str_add (x y : ByteArray) (h : x.size + y.size ≤ 9223372036854775807) (w : World) : (Op.stringOp .add x y).run Tryz.prog w = .ok (.string (x ++ y)) w := run_string_add_sum w x y h
end Go.Proofs.YtihjkkoaccmefaaGreatDoor
namespace Go.Proofs.YtihjkkoaccmefaaGreatDoor
open Go.RowKit Gram

def bodyT (o : Option Pr) : ByteArray := match o with | some p => txtOf (txts p.2) | none => ⟨#[]⟩

theorem bytesA {w : World} {b : Nat} {c : UInt8} {e : TypeId} (hb : w.heap[b]? = some (.cells #[.int .u8 (c.toNat : Int)] e (0, 0))) :
    ∀ j (hj : j < [c].length), w.cell? ((⟨b, 0, none⟩ : Addr).add j) = some (.int .u8 ([c][j].toNat : Int)) := fun j hj => by
  have h0 : j = 0 := by simp at hj; exact hj
  subst h0
  have hadd : (⟨b, 0, none⟩ : Addr).add 0 = ⟨b, 0, none⟩ := by unfold Addr.add; split <;> simp_all
  rw [hadd, Lib.cell_of_heap hb]
  rfl
theorem chrA (c : UInt8) (w : World) (b : Nat) (hb : b = w.heap.size) :
    (convert 22 9 (.slice (some ⟨b, 0, none⟩) 1 1)).run Tryz.prog (w.alloc (Obj.cells #[.int .u8 (c.toNat : Int)] 5)) =
      .ok (.string ⟨#[c]⟩) (w.alloc (Obj.cells #[.int .u8 (c.toNat : Int)] 5)) := by
  subst hb
  exact run_convert_bytes_back (P := Tryz.prog) _ 22 9 5 ⟨w.heap.size, 0, none⟩ 1 [c] Tryz.underlying22 Tryz.underlying5 Tryz.underlying9 (bytesA (e := 5) (heap_alloc_new _ _))

def namedIn (ps : List Pr) (nm : ByteArray) : Option Pr := ps.find? fun p => nm.data.toList == [p.1]
theorem namedIn_look {s nm : ByteArray} {ps : List Pr} (h : progOf s = some ps) : namedIn ps nm = lookP s nm := by
  have hf := prog_facts h
  rw [lookP, h]
  cases hno : nameOf nm.data.toList with
  | some c =>
    have := (nameOf_some hno).1
    dsimp only
    rw [namedIn, this]
    congr 1
    funext p
    rw [Bool.eq_iff_iff]
    simp only [beq_iff_eq, List.cons.injEq, and_true]
    exact eq_comm
  | none =>
    dsimp only
    rw [namedIn, List.find?_eq_none]
    intro p hp he
    have he2 : nm.data.toList = [p.1] := by simpa using he
    rw [he2, nameOf, if_pos (hf.2.1 p hp).2.2.2] at hno
    cases hno

set_option maxHeartbeats 1000000 in
theorem l1body_any {w : World} {B n c : Nat} {a : Option Addr} {ps : List Pr} (ho : w.ownsRow B 53 2 (.slice a ps.length c) ps.length (prVs ps)) (hn : ps.length = n) (hl : n ≤ 9223372036854775807) (nm : ByteArray) :
    Calls Tryz.prog 80 #[.slice a n c, .string nm] w fun e w' => e = .returned (.tuple #[.string (bodyT (namedIn ps nm)), .bool (namedIn ps nm).isSome]) ∧ Below w.heap.size w w' := by
  have HO := Lib.hid ho
  have HN := Lib.hid hn
  clear ho hn
  go_enter Tryz.func80, Tryz.ntmps80
  go_wp2_with fail
  go_loopw [10] (fun i wr => ∃ k : Nat, i = .int .i64 k ∧ k ≤ n ∧ Hid (namedIn ps nm = namedIn (ps.drop k) nm) ∧ Hid (Below w.heap.size w wr)) (fun i _ => n - (intOf i).toNat)
  case atStart => exact ⟨0, by go_num, Nat.zero_le _, rfl, Below.refl _ _⟩
  case round =>
    obtain ⟨k, rfl, hk, hE, hb⟩ := hrel
    by_cases hlt : k < n
    · have hkp : k < ps.length := by rw [HN.out]; exact hlt
      obtain ⟨g, rfl, c0, c1⟩ := pr_get HO.out k hkp
      have hgl : g < w.heap.size := World.block_lt_of_cell? w _ c0
      have d0 : wr.cell? ⟨g, k * 2, none⟩ = some (.int .u8 ps[k].1.toNat) := by rw [hb.out.cell (p := ⟨g, k * 2, none⟩) hgl]; exact c0
      have d1 : wr.cell? ⟨g, k * 2 + 1, none⟩ = some (.string (txtOf (txts ps[k].2))) := by rw [hb.out.cell (p := ⟨g, k * 2 + 1, none⟩) hgl]; exact c1
      have e2 := fun o : Obj => chrA ps[k].1 (wr.alloc o) (wr.heap.size + 1) (by rw [alloc_size'])
      have hst : namedIn (ps.drop k) nm = if (nm.data.toList == [ps[k].1]) = true then some ps[k] else namedIn (ps.drop (k + 1)) nm := by
        rw [List.drop_eq_getElem_cons hkp, namedIn, List.find?_cons]
        split <;> simp_all [namedIn]
      rw [← ByteArray.toList_eq] at hst
      have HE2 := Lib.hid (hE.out.trans hst)
      clear c0 c1 hgl hst hE
      cases hq : (nm.toList == [ps[k].1]) with
      | true =>
        rw [hq] at HE2
        have HF := Lib.hid (HE2.out.trans (if_pos rfl))
        clear HE2
        go_wp2_with fail
        go_ret2
        refine ⟨?_, hb.out.alloc hb.out.size _ |>.alloc (by rw [alloc_size']; exact Nat.le_succ_of_le hb.out.size) _⟩
        rw [HF.out]; rfl
      | false =>
        rw [hq] at HE2
        have HF := Lib.hid (HE2.out.trans (if_neg (by decide)))
        clear HE2
        go_wp2_with fail
        go_roundw
        case rel => exact ⟨k + 1, by go_num, by omega, HF.out, hb.out.alloc hb.out.size _ |>.alloc (by rw [alloc_size']; exact Nat.le_succ_of_le hb.out.size) _⟩
        case measure => simp [intOf]; omega
    · have HF := Lib.hid (by rw [hE.out, List.drop_of_length_le (by rw [HN.out]; omega)]; rfl : namedIn ps nm = none)
      clear hE
      go_wp2_with fail
      go_ret2
      exact ⟨by rw [HF.out]; rfl, hb.out⟩

end Go.Proofs.YtihjkkoaccmefaaGreatDoor
namespace Go.Proofs.YtihjkkoaccmefaaGreatDoor
open Go.RowKit Gram

set_option maxHeartbeats 2000000 in
set_option maxRecDepth 100000 in
theorem writeByte_any (B b : Nat) (bs : List Value) (c : UInt8) (w : World) (h : Lib.IsBuilder 108 5 B b bs w) (hlen : bs.length + 1 ≤ 140737488355328) (hBw : B ≤ w.heap.size) :
    Calls Tryz.prog 56 #[.pointer (some ⟨b, 0, none⟩), .int .u8 c.toNat] w fun e w' => e = .returned .nilIface ∧ (Lib.IsBuilder 108 5 B b (bs ++ [.int .u8 c.toNat]) w' ∧ Below B w w') := by
  obtain ⟨i0, hi, hz0, hz1, hz2⟩ := info_parts info_byte
  go_enter Tryz.func56, Tryz.ntmps56
  go_wp2_with (go_at_call 78; refine (copyCheck_any B b bs _ h).mono ?_)
  rintro e w1 ⟨rfl, h1, hb1⟩
  obtain ⟨hB, v, hbk, hown, hne⟩ := h1
  have c0 : w1.cell? ⟨b, 0, none⟩ = some (.pointer (some ⟨b, 0, none⟩)) := by rw [Lib.cell_of_heap hbk]; rfl
  have c1 : w1.cell? ⟨b, 1, none⟩ = some v := by rw [Lib.cell_of_heap hbk]; rfl
  have HK := Lib.hid hbk
  have HO := Lib.hid hown
  have HNE := Lib.hid hne
  have HB1 := Lib.hid hb1
  have hz1' := hb1.size
  clear hbk hown hne hb1
  go_wp2_with (at_builtin; refine wpList_append_lies _ rfl _ _ 22 rfl B 5 i0 (.int .u8 0) 1 1 Tryz.underlying22 hi hz0 hz1 hz2 rfl (by decide) v bs.length bs rfl (HO.out.alloc _) ⟨w1.heap.size, 0, none⟩ 1 1 [.int .u8 c.toNat] rfl rfl (cell_one_new _ _ _) (by intro u hu; simp at hu; subst hu; rfl) (by decide) (by unfold maxLen; omega) (by omega) (by rw [alloc_size']; omega) _ rfl ?_)
  intro g' cap' w2 hown' hgrow hat _
  have hlt : b < w1.heap.size := (Array.getElem?_eq_some_iff.1 HK.out).1
  have hb2 : w2.heap[b]? = some (.cells #[.pointer (some ⟨b, 0, none⟩), v] 108 (0, 0)) := by
    rw [hgrow.block b (by rw [alloc_size']; omega) (fun e => HNE.out e.symm), Lib.alloc_old _ _ _ hlt]
    exact HK.out
  have d0 : w2.cell? ⟨b, 0, none⟩ = some (.pointer (some ⟨b, 0, none⟩)) := by rw [Lib.cell_of_heap hb2]; rfl
  have d1 : w2.cell? ⟨b, 1, none⟩ = some v := by rw [Lib.cell_of_heap hb2]; rfl
  have f1 : w2.frozen? ⟨b, 1, none⟩ = false := Lib.frozen_of_heap hb2 1
  have HN := Lib.hid (And.intro hown' (And.intro hgrow (And.intro hb2 hat)))
  clear hown' hgrow hb2 hat
  go_wp2
  go_ret
  obtain ⟨hown', hgrow, hb2, hat⟩ := HN.out
  refine ⟨rfl, .inr ?_, ?_⟩
  · exact Lib.BuilderAt.put (T := 108) (e := 5) hB hb2 (bs' := bs ++ [.int .u8 c.toNat]) (by simpa using hown') (by decide)
  · exact (((HB1.out.alloc (by omega) _).grown hgrow (by rw [alloc_size']; omega) (fun k hk => (HO.out.lt k hk).1))).setCell (p := ⟨b, 1, none⟩) hB _

theorem byte_cells {w : World} {b : Nat} {l : List UInt8} {e : TypeId} (hb : w.heap[b]? = some (.cells (l.map fun c => Value.int .u8 (c.toNat : Int)).toArray e (0, 0))) :
    ∀ j (hj : j < l.length), w.cell? ((⟨b, 0, none⟩ : Addr).add j) = some (.int .u8 (l[j].toNat : Int)) := fun j hj => by
  have hadd : (⟨b, 0, none⟩ : Addr).add j = ⟨b, j, none⟩ := by unfold Addr.add; split <;> simp_all
  rw [hadd, Lib.cell_of_heap hb]
  simp [hj]
theorem chr1 (c : UInt8) (w : World) (b : Nat) (hb : b = w.heap.size) :
    (convert 22 9 (.slice (some ⟨b, 0, none⟩) 1 1)).run Tryz.prog (w.alloc (Obj.cells #[.int .u8 (c.toNat : Int)] 5)) =
      .ok (.string ⟨#[c]⟩) (w.alloc (Obj.cells #[.int .u8 (c.toNat : Int)] 5)) := by
  subst hb
  exact run_convert_bytes_back (P := Tryz.prog) _ 22 9 5 ⟨w.heap.size, 0, none⟩ 1 [c] Tryz.underlying22 Tryz.underlying5 Tryz.underlying9 (byte_cells (e := 5) (heap_alloc_new _ _))

/-- the letters of l below n, in ascending order -/
def upTo (l : List UInt8) (n : Nat) : List UInt8 := ((List.range' 97 (n - 97)).map UInt8.ofNat).filter fun c => l.contains c
theorem upTo_step (l : List UInt8) (c : UInt8) (h : 97 ≤ c.toNat) : upTo l (c.toNat + 1) = upTo l c.toNat ++ if l.contains c = true then [c] else [] := by
  have e1 : c.toNat + 1 - 97 = (c.toNat - 97) + 1 := by omega
  have e2 : UInt8.ofNat (97 + 1 * (c.toNat - 97)) = c := by rw [show 97 + 1 * (c.toNat - 97) = c.toNat by omega]; simp
  rw [upTo, upTo, e1, List.range'_concat, List.map_append, List.filter_append]
  simp only [List.map_cons, List.map_nil, e2]
  congr 1
  rw [List.filter_cons]
  rfl
theorem upTo_len (l : List UInt8) (n : Nat) : (upTo l n).length ≤ n := by
  refine Nat.le_trans (List.length_filter_le ..) ?_
  simp
def setText (l : List UInt8) : List UInt8 := upTo l 123

set_option maxHeartbeats 2000000 in
theorem text_set (l : List UInt8) (hl : lets l) (w : World) :
    Calls Tryz.prog 26 #[.int .u32 (setOf l)] w fun e w' => e = .returned (.string ⟨(setText l).toArray⟩) ∧ Below w.heap.size w w' := by
  have HLets := Lib.hid hl
  clear hl
  go_enter Tryz.func26, Tryz.ntmps26
  go_wp2_with fail
  go_loopw [4] (fun i wr => ∃ n : Nat, 97 ≤ n ∧ n ≤ 123 ∧ i = .int .u8 n ∧ Hid (Lib.IsBuilder 108 5 w.heap.size w.heap.size (Lib.byteCells (upTo l n)) wr) ∧ Below w.heap.size w wr) (fun i _ => 123 - (intOf i).toNat)
  case atStart =>
    exact ⟨97, by omega, by omega, by go_num, Lib.fresh_isBuilder 108 5 w, (Below.refl _ _).alloc (Nat.le_refl _) _⟩
  case round =>
    obtain ⟨n, h97, h123, rfl, hI, hb⟩ := hrel
    have hsz := hb.size
    by_cases hlt : n ≤ 122
    · obtain ⟨c, rfl⟩ : ∃ c : UInt8, n = c.toNat := ⟨UInt8.ofNat n, by rw [UInt8.toNat_ofNat']; omega⟩
      have hc : isLet c = true := by rw [isLet_int]; simp; omega
      have HH := Lib.hid (fun w => has_set l c HLets.out hc w)
      have HT := Lib.hid (upTo_step l c h97)
      have e1 : IntKind.u8.wrap ((c.toNat : Int) + 1) = ((c.toNat + 1 : Nat) : Int) := by rw [IntWalk.u8_in _ (by omega)]; omega
      have hlen := upTo_len l c.toNat
      cases hin : l.contains c with
      | true =>
        rw [hin] at HH HT
        have HW := Lib.hid (writeByte_any w.heap.size w.heap.size (Lib.byteCells (upTo l c.toNat)) c wr hI.out (by rw [Lib.byteCells_length]; omega) hsz)
        clear hin hc
        go_wp2_with fail
        refine (HH.out _).mono ?_
        rintro e w2 ⟨rfl, rfl⟩
        go_wp2_with fail
        refine HW.out.mono ?_
        rintro e w3 ⟨rfl, hI3, hb3⟩
        have HI3 := Lib.hid hI3
        clear hI3
        go_wp2_with fail
        go_roundw
        case rel =>
          refine ⟨c.toNat + 1, by omega, by omega, by go_num, ?_, hb.trans hb3⟩
          show Lib.IsBuilder _ _ _ _ _ _
          rw [HT.out, if_pos (by simp), Lib.byteCells_append]
          exact HI3.out
        case measure => simp [intOf]; omega
      | false =>
        rw [hin] at HH HT
        clear hin hc
        go_wp2_with fail
        refine (HH.out _).mono ?_
        rintro e w2 ⟨rfl, rfl⟩
        go_wp2_with fail
        go_roundw
        case rel =>
          refine ⟨c.toNat + 1, by omega, by omega, by go_num, ?_, hb⟩
          show Lib.IsBuilder _ _ _ _ _ _
          rw [HT.out, if_neg (by simp), List.append_nil]
          exact hI.out
        case measure => simp [intOf]; omega
    · have hn : n = 123 := by omega
      subst hn
      go_wp2_with fail
      refine (Tryz.Builder_String_any w.heap.size w.heap.size (upTo l 123) _ hI.out hsz).mono ?_
      rintro e w2 ⟨rfl, hb2⟩
      go_wp2_with fail
      go_ret
      exact ⟨rfl, hb.trans hb2⟩

end Go.Proofs.YtihjkkoaccmefaaGreatDoor
namespace Go.Proofs.YtihjkkoaccmefaaGreatDoor
open Go.RowKit Gram

set_option maxHeartbeats 2000000 in
set_option maxRecDepth 100000 in
theorem l1set_any (s : ByteArray) (w : World) (hs : s.size ≤ 1099511627776) :
    Calls Tryz.prog 81 #[.string s] w fun e w' => e = .returned (.string (txtOf (setText s.data.toList))) ∧ Below w.heap.size w w' := by
  go_enter Tryz.func81, Tryz.ntmps81
  go_wp2_with fail
  go_loopw [3, 4] (fun o i wr => ∃ n : Nat, 97 ≤ n ∧ n ≤ 123 ∧ i = .int .u8 n ∧ o = .string (txtOf (upTo s.data.toList n)) ∧ Hid (Below w.heap.size w wr)) (fun _ i _ => 123 - (intOf i).toNat)
  case atStart => exact ⟨97, by omega, by omega, by go_num, rfl, Below.refl _ _⟩
  case round =>
    obtain ⟨n, h97, h123, rfl, rfl, hb⟩ := hrel
    by_cases hlt : n ≤ 122
    · obtain ⟨c, rfl⟩ : ∃ c : UInt8, n = c.toNat := ⟨UInt8.ofNat n, by rw [UInt8.toNat_ofNat']; omega⟩
      have HH := Lib.hid (fun w => has_any s c hs w)
      have HT := Lib.hid (upTo_step s.data.toList c h97)
      have e1 : IntKind.u8.wrap ((c.toNat : Int) + 1) = ((c.toNat + 1 : Nat) : Int) := by rw [IntWalk.u8_in _ (by omega)]; omega
      have hlen := upTo_len s.data.toList c.toNat
      have e2 := str_sum (txtOf (upTo s.data.toList c.toNat)) ⟨#[c]⟩ (by rw [txtOf_size, show (⟨#[c]⟩ : ByteArray).size = 1 from rfl]; omega)
      have e3 := chr1 c wr wr.heap.size rfl
      cases hin : s.data.toList.contains c with
      | true =>
        rw [hin] at HH HT
        clear hin
        have HT2 := Lib.hid (by rw [HT.out, if_pos rfl]; apply ByteArray.ext; apply Array.ext'; simp [txtOf] : txtOf (upTo s.data.toList (c.toNat + 1)) = txtOf (upTo s.data.toList c.toNat) ++ ⟨#[c]⟩)
        generalize txtOf (upTo s.data.toList c.toNat) = tx at *
        go_wp2_with fail
        refine (HH.out _).mono ?_
        rintro e w2 ⟨rfl, rfl⟩
        go_wp2_with fail
        go_roundw
        case rel => exact ⟨c.toNat + 1, by omega, by omega, by go_num, by rw [HT2.out], hb.out.alloc hb.out.size _⟩
        case measure => simp [intOf]; omega
      | false =>
        rw [hin] at HH HT
        clear hin
        have HT2 := Lib.hid (by rw [HT.out, if_neg (by decide), List.append_nil] : txtOf (upTo s.data.toList (c.toNat + 1)) = txtOf (upTo s.data.toList c.toNat))
        generalize txtOf (upTo s.data.toList c.toNat) = tx at *
        go_wp2_with fail
        refine (HH.out _).mono ?_
        rintro e w2 ⟨rfl, rfl⟩
        go_wp2_with fail
        go_roundw
        case rel => exact ⟨c.toNat + 1, by omega, by omega, by go_num, by rw [HT2.out], hb.out⟩
        case measure => simp [intOf]; omega
    · have hn : n = 123 := by omega
      subst hn
      go_wp2_with fail
      go_ret
      exact ⟨rfl, hb.out⟩
end Go.Proofs.YtihjkkoaccmefaaGreatDoor
namespace Go.Proofs.YtihjkkoaccmefaaGreatDoor
open Go.RowKit Gram

theorem filter_step (l : List UInt8) (c : UInt8) (h : asc l) : (l.filter fun d => decide (d.toNat < c.toNat + 1)) = (l.filter fun d => decide (d.toNat < c.toNat)) ++ if l.contains c = true then [c] else [] := by
  induction l with
  | nil => simp
  | cons a t ih =>
    rw [asc, List.pairwise_cons] at h
    have ih' := ih h.2
    rcases Nat.lt_trichotomy a.toNat c.toNat with h1 | h1 | h1
    · have hne : c ≠ a := fun e => by rw [e] at h1; omega
      rw [List.filter_cons_of_pos (by simp; omega), List.filter_cons_of_pos (by simp; omega), ih', List.cons_append]
      simp [hne]
    · have he : a = c := UInt8.toNat.inj h1
      subst he
      have e1 : (t.filter fun d => decide (d.toNat < a.toNat + 1)) = [] := by rw [List.filter_eq_nil_iff]; intro d hd; have := h.1 d hd; simp; omega
      have e2 : (t.filter fun d => decide (d.toNat < a.toNat)) = [] := by rw [List.filter_eq_nil_iff]; intro d hd; have := h.1 d hd; simp; omega
      rw [List.filter_cons_of_pos (by simp), List.filter_cons_of_neg (by simp), e1, e2]
      simp
    · have e1 : (t.filter fun d => decide (d.toNat < c.toNat + 1)) = [] := by rw [List.filter_eq_nil_iff]; intro d hd; have := h.1 d hd; simp; omega
      have e2 : (t.filter fun d => decide (d.toNat < c.toNat)) = [] := by rw [List.filter_eq_nil_iff]; intro d hd; have := h.1 d hd; simp; omega
      have hne : ¬ (a :: t).contains c = true := by
        rw [List.contains_iff_mem, List.mem_cons]
        rintro (e | e)
        · rw [e] at h1; omega
        · have := h.1 c e; omega
      rw [List.filter_cons_of_neg (by simp; omega), List.filter_cons_of_neg (by simp; omega), e1, e2, if_neg hne]; rfl
theorem upTo_asc (l : List UInt8) (h : asc l) (hl : lets l) : setText l = l := by
  have key : ∀ n, n ≤ 26 → upTo l (97 + n) = l.filter fun d => decide (d.toNat < 97 + n) := by
    intro n
    induction n with
    | zero =>
      intro _
      have : (l.filter fun d => decide (d.toNat < 97 + 0)) = [] := by rw [List.filter_eq_nil_iff]; intro d hd; have := let_rng (hl d hd); simp; omega
      rw [this]; rfl
    | succ n ih =>
      intro hn
      have hc : (UInt8.ofNat (97 + n)).toNat = 97 + n := by rw [UInt8.toNat_ofNat']; omega
      have h1 := upTo_step l (UInt8.ofNat (97 + n)) (by omega)
      have h2 := filter_step l (UInt8.ofNat (97 + n)) h
      rw [hc] at h1 h2
      rw [← Nat.add_assoc, h1, h2, ih (by omega)]
  have := key 26 (by omega)
  rw [setText, this, List.filter_eq_self]
  intro d hd
  have := let_rng (hl d hd)
  simp; omega
end Go.Proofs.YtihjkkoaccmefaaGreatDoor
namespace Go.Proofs.YtihjkkoaccmefaaGreatDoor
open Go.RowKit Gram


set_option maxHeartbeats 1000000 in
theorem spec_body (s nm : ByteArray) (w : World) (hs : s.size ≤ 1073741824) :
    Calls Tryz.prog 59 #[.string s, .string nm] w fun e w' => e = .returned (.tuple #[.string (bodyT (lookP s nm)), .bool (lookP s nm).isSome]) ∧ Below w.heap.size w w' := by
  have HR := Lib.hid ((open_prog s w hs).mono fun _ _ h => h.cases)
  cases hp : progOf s with
  | none =>
    rw [hp] at HR
    have HZ := Lib.hid (by rw [lookP, hp] : lookP s nm = none)
    clear hp
    go_enter Tryz.func59, Tryz.ntmps59
    go_wp2_with fail
    refine HR.out.mono ?_
    rintro e w2 ⟨a, n, c, qs, rfl, hb, _⟩
    have HB := Lib.hid hb
    clear hb
    go_wp2_with fail
    go_ret2
    exact ⟨by rw [HZ.out]; rfl, HB.out⟩
  | some ps =>
    rw [hp] at HR
    have hf := prog_facts hp
    have HZ := Lib.hid (namedIn_look (nm := nm) hp)
    clear hp
    go_enter Tryz.func59, Tryz.ntmps59
    go_wp2_with fail
    refine HR.out.mono ?_
    rintro e w2 ⟨a, n, c, qs, rfl, hb, hnl, ho, hq⟩
    have hqp := hq ps rfl
    subst hqp
    have hln : n ≤ 401 := by rw [← hnl]; exact hf.1
    rw [← hnl] at ho
    have HL := Lib.hid (l1body_any ho hnl (by omega) nm)
    rw [HZ.out] at HL
    have HB := Lib.hid hb
    clear ho hb hf hq hnl
    go_wp2_with fail
    refine HL.out.mono ?_
    rintro e w3 ⟨rfl, hb3⟩
    have HB3 := Lib.hid (HB.out.trans (hb3.mono HB.out.size))
    clear hb3
    go_wp2_with fail
    go_ret2
    exact ⟨rfl, HB3.out⟩

end Go.Proofs.YtihjkkoaccmefaaGreatDoor
namespace Go.Proofs.YtihjkkoaccmefaaGreatDoor
open Go.RowKit Gram

def callsT (o : Option Pr) : ByteArray := match o with | some p => txtOf (setText (callsIn p.2)) | none => ⟨#[]⟩

theorem calls_text (o : Option Pr) (h : ∀ p, o = some p → Good p) : ∃ b : List Stm, bodyT o = txtOf (txts b) ∧ wfs b = true ∧ callsT o = txtOf (setText (callsIn b)) := by
  cases o with
  | none => exact ⟨[], rfl, rfl, rfl⟩
  | some p => exact ⟨p.2, rfl, (h p rfl).1, rfl⟩
theorem look_good {s nm : ByteArray} : ∀ p, lookP s nm = some p → Good p := by
  intro p h
  unfold lookP at h
  split at h
  · rename_i ps c hp _
    exact (prog_facts hp).2.1 p (List.mem_of_find?_eq_some h)
  · cases h

set_option maxHeartbeats 1000000 in
theorem spec_calls (s nm : ByteArray) (w : World) (hs : s.size ≤ 1073741824) :
    Calls Tryz.prog 60 #[.string s, .string nm] w fun e w' => e = .returned (.string (callsT (lookP s nm))) ∧ Below w.heap.size w w' := by
  have hB := spec_body s nm w hs
  have hg : ∀ p, lookP s nm = some p → Good p := look_good
  have hsz : (bodyT (lookP s nm)).size ≤ 400 := by
    cases hl : lookP s nm with
    | none => exact Nat.zero_le _
    | some p => exact (hg p hl).2.2.1
  obtain ⟨b, hb1, hb2, hb3⟩ := calls_text (lookP s nm) hg
  rw [hb1] at hB hsz
  have HB := Lib.hid hB
  have HZ := Lib.hid hb3
  have HN := Lib.hid (fun w => names_any b (txtOf (txts b)) w (by omega) rfl hb2)
  have hcl : (callsIn b).length ≤ 400 := Nat.le_trans (calls_le b) hsz
  have HS := Lib.hid (fun w => l1set_any (txtOf (callsIn b)) w (by rw [txtOf_size]; omega))
  clear hB hg hsz hb1 hb2 hb3 hcl
  generalize txtOf (txts b) = tb at *
  go_enter Tryz.func60, Tryz.ntmps60
  go_wp2_with fail
  refine HB.out.mono ?_
  rintro e w2 ⟨rfl, hb⟩
  have HB2 := Lib.hid hb
  clear hb
  go_wp2_with fail
  refine (HN.out _).mono ?_
  rintro e w3 ⟨rfl, rfl⟩
  go_wp2_with fail
  refine (HS.out _).mono ?_
  rintro e w4 ⟨rfl, hb4⟩
  have HB4 := Lib.hid (HB2.out.trans (hb4.mono HB2.out.size))
  clear hb4
  go_wp2_with fail
  go_ret
  exact ⟨by rw [HZ.out]; rfl, HB4.out⟩

end Go.Proofs.YtihjkkoaccmefaaGreatDoor
namespace Go.Proofs.YtihjkkoaccmefaaGreatDoor
open Go.RowKit Gram

/-- x calls y in a program -/
def CallsIn (ps : List Pr) (x y : UInt8) : Prop := ∃ p ∈ ps, p.1 = x ∧ y ∈ callsIn p.2

/-- l has just what is reached from c -/
structure Reached (C : UInt8 → UInt8 → Prop) (c : UInt8) (l : List UInt8) : Prop where
  first : ∀ y, C c y → y ∈ l
  closed : ∀ x ∈ l, ∀ y, C x y → y ∈ l
  least : ∀ T : UInt8 → Prop, (∀ y, C c y → T y) → (∀ x y, T x → C x y → T y) → ∀ y ∈ l, T y
theorem Reached.same {C : UInt8 → UInt8 → Prop} {c : UInt8} {l l' : List UInt8} (h : Reached C c l) (h' : Reached C c l') (y : UInt8) : y ∈ l ↔ y ∈ l' :=
  ⟨fun hy => h.least (· ∈ l') h'.first (fun x y hx hc => h'.closed x hx y hc) y hy, fun hy => h'.least (· ∈ l) h.first (fun x y hx hc => h.closed x hx y hc) y hy⟩
theorem upTo_same {l l' : List UInt8} (h : ∀ y, y ∈ l ↔ y ∈ l') (n : Nat) : upTo l n = upTo l' n := by
  rw [upTo, upTo]
  apply List.filter_congr
  intro y _
  rw [Bool.eq_iff_iff, List.contains_iff_mem, List.contains_iff_mem]
  exact h y
theorem mem_upTo {l : List UInt8} (hl : lets l) (y : UInt8) : y ∈ setText l ↔ y ∈ l := by
  rw [setText, upTo, List.mem_filter, List.contains_iff_mem]
  constructor
  · exact fun h => h.2
  · intro h
    refine ⟨?_, h⟩
    have := let_rng (hl y h)
    rw [List.mem_map]
    exact ⟨y.toNat, by rw [List.mem_range'_1]; omega, by simp⟩
theorem setText_lets (l : List UInt8) : lets (setText l) := by
  intro c hc
  rw [setText, upTo, List.mem_filter, List.mem_map] at hc
  obtain ⟨⟨n, hn, rfl⟩, _⟩ := hc
  rw [List.mem_range'_1] at hn
  rw [isLet_int]
  have : (UInt8.ofNat n).toNat = n := by rw [UInt8.toNat_ofNat']; omega
  simp [this]; omega

/-- how many letters a set has -/
def card (l : List UInt8) : Nat := (setText l).length
theorem card_le (l : List UInt8) : card l ≤ 26 := by
  refine Nat.le_trans (List.length_filter_le ..) ?_
  simp
theorem filter_lt {α : Type} (p q : α → Bool) (h : ∀ x, p x = true → q x = true) : ∀ l : List α, (l.filter p).length ≤ (l.filter q).length ∧ ((∃ x ∈ l, q x = true ∧ p x = false) → (l.filter p).length < (l.filter q).length)
  | [] => ⟨Nat.le_refl _, fun ⟨_, hx, _⟩ => by simp at hx⟩
  | a :: t => by
    obtain ⟨h1, h2⟩ := filter_lt p q h t
    cases hp : p a with
    | true =>
      have hq := h a hp
      simp only [List.filter_cons, hp, hq, if_true, List.length_cons]
      refine ⟨by omega, ?_⟩
      rintro ⟨x, hx, hxq, hxp⟩
      rcases List.mem_cons.1 hx with rfl | hx
      · rw [hp] at hxp; cases hxp
      · have := h2 ⟨x, hx, hxq, hxp⟩; omega
    | false =>
      cases hq : q a with
      | true =>
        simp only [List.filter_cons, hp, hq, if_true, List.length_cons, Bool.false_eq_true, if_false]
        exact ⟨by omega, fun _ => by omega⟩
      | false =>
        simp only [List.filter_cons, hp, hq, Bool.false_eq_true, if_false]
        refine ⟨h1, ?_⟩
        rintro ⟨x, hx, hxq, hxp⟩
        rcases List.mem_cons.1 hx with rfl | hx
        · rw [hq] at hxq; cases hxq
        · exact h2 ⟨x, hx, hxq, hxp⟩
theorem card_lt {l l' : List UInt8} (h : ∀ y ∈ l, y ∈ l') (y : UInt8) (hy : y ∈ l') (hn : y ∉ l) (hl : isLet y = true) : card l < card l' := by
  refine (filter_lt _ _ (fun x hx => ?_) _).2 ⟨y, ?_, ?_, ?_⟩
  · rw [List.contains_iff_mem] at hx ⊢; exact h x hx
  · have := let_rng hl
    rw [List.mem_map]
    exact ⟨y.toNat, by rw [List.mem_range'_1]; omega, by simp⟩
  · rw [List.contains_iff_mem]; exact hy
  · rw [← Bool.not_eq_true, List.contains_iff_mem]; exact hn
theorem card_mono {l l' : List UInt8} (h : ∀ y ∈ l, y ∈ l') : card l ≤ card l' :=
  (filter_lt _ _ (fun x hx => by rw [List.contains_iff_mem] at hx ⊢; exact h x hx) _).1

/-- what the program's loop keeps -/
structure Reaching (C : UInt8 → UInt8 → Prop) (c : UInt8) (re fr : List UInt8) : Prop where
  done : ∀ x, (x = c ∨ x ∈ re) → x ∉ fr → ∀ y, C x y → y ∈ re
  least : ∀ T : UInt8 → Prop, (∀ y, C c y → T y) → (∀ x y, T x → C x y → T y) → (∀ y ∈ re, T y) ∧ ∀ y ∈ fr, y = c ∨ T y
theorem Reaching.start (C : UInt8 → UInt8 → Prop) (c : UInt8) : Reaching C c [] [c] :=
  ⟨fun x h hn => by rcases h with rfl | h; · simp at hn
                    · simp at h, fun T _ _ => ⟨by simp, fun y hy => .inl (by simpa using hy)⟩⟩
theorem Reaching.step {C : UInt8 → UInt8 → Prop} {c : UInt8} {re fr ca : List UInt8} (h : Reaching C c re fr) (hc : ∀ y, y ∈ ca ↔ ∃ x ∈ fr, C x y) :
    Reaching C c (re ++ ca) (ca.filter fun y => !re.contains y) := by
  refine ⟨?_, ?_⟩
  · intro x hx hn y hy
    rw [List.mem_append]
    by_cases hf : x ∈ fr
    · exact .inr ((hc y).2 ⟨x, hf, hy⟩)
    · left
      refine h.done x ?_ hf y hy
      rcases hx with hx | hx
      · exact .inl hx
      · right
        rcases List.mem_append.1 hx with hx | hx
        · exact hx
        · by_cases hr : x ∈ re
          · exact hr
          · exact absurd (List.mem_filter.2 ⟨hx, by simpa using hr⟩) hn
  · intro T h1 h2
    obtain ⟨a, b⟩ := h.least T h1 h2
    have hca : ∀ y ∈ ca, T y := by
      intro y hy
      obtain ⟨x, hx, hxy⟩ := (hc y).1 hy
      rcases b x hx with rfl | ht
      · exact h1 y hxy
      · exact h2 x y ht hxy
    refine ⟨fun y hy => ?_, fun y hy => .inr (hca y (List.mem_filter.1 hy).1)⟩
    rcases List.mem_append.1 hy with hy | hy
    · exact a y hy
    · exact hca y hy
theorem Reaching.finish {C : UInt8 → UInt8 → Prop} {c : UInt8} {re : List UInt8} (h : Reaching C c re []) : Reached C c re :=
  ⟨fun y hy => h.done c (.inl rfl) (by simp) y hy, fun x hx y hy => h.done x (.inr hx) (by simp) y hy, fun T h1 h2 => (h.least T h1 h2).1⟩

/-- sets as numbers -/
theorem lets_append {a b : List UInt8} (ha : lets a) (hb : lets b) : lets (a ++ b) := by
  intro c hc
  rcases List.mem_append.1 hc with h | h
  · exact ha c h
  · exact hb c h
theorem setOf_append (a b : List UInt8) : setOf (a ++ b) = setOf a ||| setOf b := by
  apply Nat.eq_of_testBit_eq
  intro i
  rw [Nat.testBit_or, setOf_bit, setOf_bit, setOf_bit, List.any_append]
theorem setOf_zero {l : List UInt8} (h : l ≠ []) : setOf l ≠ 0 := by
  cases l with
  | nil => exact absurd rfl h
  | cons c t =>
    intro h0
    have h1 := setOf_bit (c :: t) (c.toNat - 97)
    rw [h0, Nat.zero_testBit] at h1
    simp at h1
theorem less_filter (a b : List UInt8) (ha : lets a) (hb : lets b) : lessOf (setOf a) (setOf b) = setOf (a.filter fun y => !b.contains y) := by
  apply Nat.eq_of_testBit_eq
  intro i
  rw [lessOf_bit, setOf_bit, setOf_bit, setOf_bit, Bool.eq_iff_iff]
  simp only [Bool.and_eq_true, decide_eq_true_eq, Bool.not_eq_true', List.any_eq_true, List.any_eq_false, beq_iff_eq, List.mem_filter]
  constructor
  · rintro ⟨⟨_, c, hc, he⟩, hn⟩
    refine ⟨c, ⟨hc, ?_⟩, he⟩
    rw [← Bool.not_eq_true, List.contains_iff_mem]
    intro hm; exact hn c hm he
  · rintro ⟨c, ⟨hc, hn⟩, he⟩
    have h1 := let_rng (ha c hc)
    refine ⟨⟨by omega, c, hc, he⟩, ?_⟩
    intro d hd hde
    have h2 := let_rng (hb d hd)
    have : d = c := UInt8.toNat.inj (by omega)
    rw [this] at hd
    rw [← Bool.not_eq_true, List.contains_iff_mem] at hn
    exact hn hd
end Go.Proofs.YtihjkkoaccmefaaGreatDoor
namespace Go.Proofs.YtihjkkoaccmefaaGreatDoor
open Go.RowKit Gram

/-- how many bits of the first 26 are set -/
def nb (m : Nat) : Nat := (((List.range' 97 26).map UInt8.ofNat).filter fun c => m.testBit (c.toNat - 97)).length
theorem nb_set (l : List UInt8) (hl : lets l) : nb (setOf l) = card l := by
  rw [nb, card, setText, upTo]
  congr 1
  apply List.filter_congr
  intro c hc
  rw [List.mem_map] at hc
  obtain ⟨n, hn, rfl⟩ := hc
  rw [List.mem_range'_1] at hn
  refine set_has l _ hl ?_
  have : (UInt8.ofNat n).toNat = n := by rw [UInt8.toNat_ofNat']; omega
  rw [isLet_int, this]
  simp; omega
theorem set_one (t : UInt8) : setOf [t] = bitOf t := by simp [setOf, setFrom]

def callsOfQ (qs : List Qr) (fr : List UInt8) (y : UInt8) : Prop := ∃ q ∈ qs, q.1.1 ∈ fr ∧ y ∈ callsIn q.1.2
theorem callsOfQ_all (qs : List Qr) (fr : List UInt8) (y : UInt8) : callsOfQ qs fr y ↔ ∃ x ∈ fr, CallsIn (qs.map (·.1)) x y := by
  constructor
  · rintro ⟨q, hq, hf, hy⟩
    exact ⟨q.1.1, hf, q.1, List.mem_map.2 ⟨q, hq, rfl⟩, rfl, hy⟩
  · rintro ⟨x, hx, p, hp, rfl, hy⟩
    obtain ⟨q, hq, rfl⟩ := List.mem_map.1 hp
    exact ⟨q, hq, hx, hy⟩
theorem callsOfQ_take (qs : List Qr) (k : Nat) (hk : k < qs.length) (fr : List UInt8) (y : UInt8) : callsOfQ (qs.take (k + 1)) fr y ↔ callsOfQ (qs.take k) fr y ∨ (qs[k].1.1 ∈ fr ∧ y ∈ callsIn qs[k].1.2) := by
  rw [List.take_succ_eq_append_getElem hk]
  constructor
  · rintro ⟨q, hq, h⟩
    rcases List.mem_append.1 hq with hq | hq
    · exact .inl ⟨q, hq, h⟩
    · rw [List.mem_singleton.1 hq] at h; exact .inr h
  · rintro (⟨q, hq, h⟩ | h)
    · exact ⟨q, List.mem_append.2 (.inl hq), h⟩
    · exact ⟨_, List.mem_append.2 (.inr (List.mem_singleton.2 rfl)), h⟩

theorem measure_reach {re ca : List UInt8} {fr : List UInt8} (hre : lets re) (hca : lets ca) (hne : fr ≠ []) :
    2 * (26 - nb (setOf (re ++ ca))) + (if setOf (ca.filter fun y => !re.contains y) = 0 then 0 else 1) < 2 * (26 - nb (setOf re)) + (if setOf fr = 0 then 0 else 1) := by
  rw [nb_set _ (lets_append hre hca), nb_set _ hre, if_neg (setOf_zero hne)]
  have h1 : card re ≤ card (re ++ ca) := card_mono fun y hy => List.mem_append.2 (.inl hy)
  have h3 := card_le (re ++ ca)
  split
  case isTrue => omega
  case isFalse h0 =>
    have hnil : (ca.filter fun y => !re.contains y) ≠ [] := fun e => h0 (by rw [e]; rfl)
    obtain ⟨y, hy⟩ := List.exists_mem_of_ne_nil _ hnil
    obtain ⟨hy1, hy2⟩ := List.mem_filter.1 hy
    have h2 : card re < card (re ++ ca) := card_lt (fun z hz => List.mem_append.2 (.inl hz)) y (List.mem_append.2 (.inr hy1)) (by simpa using hy2) (hca y hy1)
    omega

set_option maxHeartbeats 4000000 in
set_option maxRecDepth 100000 in
theorem reach_any {w : World} {B : Nat} {S : Nat → Prop} {qs : List Qr} {a : Option Addr} {n c : Nat} (h : IsProg w B S qs (.slice a n c)) (hn : qs.length = n) (hl : n ≤ 401) (hg : ∀ q ∈ qs, Good q.1) (t : UInt8) (ht : isLet t = true) :
    Calls Tryz.prog 79 #[.slice a n c, .int .u32 (bitOf t)] w fun e w' => (∃ re, lets re ∧ Reached (CallsIn (qs.map (·.1))) t re ∧ e = .returned (.int .u32 (setOf re))) ∧ Below w.heap.size w w' := by
  have H := Lib.hid h
  have HN := Lib.hid hn
  have HG := Lib.hid hg
  rw [← set_one]
  clear h hn hg
  go_enter Tryz.func79, Tryz.ntmps79
  go_wp2_with fail
  go_loopw [1, 5] (fun x y wr => ∃ fr re : List UInt8, x = .int .u32 (setOf fr) ∧ y = .int .u32 (setOf re) ∧ Hid (lets fr) ∧ Hid (lets re) ∧ Hid (Reaching (CallsIn (qs.map (·.1))) t re fr) ∧ Hid (Below w.heap.size w wr))
    (fun x y _ => 2 * (26 - nb (intOf y).toNat) + (if (intOf x).toNat = 0 then 0 else 1))
  case atStart =>
    refine ⟨[t], [], rfl, rfl, ?_, ?_, Reaching.start _ _, Below.refl _ _⟩
    · show lets _
      intro d hd
      rw [List.mem_singleton.1 hd]; exact ht
    · show lets _
      intro d hd; simp at hd
  case round =>
    obtain ⟨fr, re, rfl, rfl, hfr, hre, hR, hb⟩ := hrel
    obtain ⟨w5, hw5⟩ : ∃ x, x = wr := ⟨_, rfl⟩
    subst hw5
    by_cases hne : fr = []
    · subst hne
      have HF := Lib.hid hR.out.finish
      clear hR
      have e0 : setOf ([] : List UInt8) = 0 := rfl
      go_wp2_with fail
      go_ret
      exact ⟨⟨re, hre.out, HF.out, rfl⟩, hb.out⟩
    · have hnz := setOf_zero hne
      have e1 : (((setOf fr : Nat) : Int) != 0) = true := by rw [bne_iff_ne]; omega
      have HNE := Lib.hid hne
      clear hnz hne
      go_wp2_with fail
      go_loopw [6, 13] (fun x i wr => ∃ (k : Nat) (ca : List UInt8), i = .int .i64 k ∧ k ≤ n ∧ x = .int .u32 (setOf ca) ∧ Hid (lets ca) ∧ Hid (∀ y, y ∈ ca ↔ callsOfQ (qs.take k) fr y) ∧ Hid (Below w.heap.size w wr)) (fun _ i _ => n - (intOf i).toNat)
      case atStart =>
        refine ⟨0, [], by go_num, Nat.zero_le _, rfl, ?_, ?_, hb.out⟩
        · show lets _
          intro d hd; simp at hd
        · show ∀ y, _
          intro y; simp [callsOfQ]
      case round =>
        obtain ⟨k, ca, rfl, hk, rfl, hca, hC, hb2⟩ := hrel
        by_cases hlt : k < n
        · have hkq : k < qs.length := by rw [HN.out]; exact hlt
          obtain ⟨g, rfl, _, c0, c1⟩ := H.out.get k hkq
          have hgl : g < w.heap.size := World.block_lt_of_cell? w _ c0
          have hbody := prog_body H.out k hkq
          obtain ⟨ba, bn, bc, hbv⟩ := hbody.form
          rw [hbv] at c1 hbody
          have d0 : wr.cell? ⟨g, k * 2, none⟩ = some (.int .u8 qs[k].1.1.toNat) := by rw [hb2.out.cell (p := ⟨g, k * 2, none⟩) hgl]; exact c0
          have d1 : wr.cell? ⟨g, k * 2 + 1, none⟩ = some (.slice ba bn bc) := by rw [hb2.out.cell (p := ⟨g, k * 2 + 1, none⟩) hgl]; exact c1
          have hq := HG.out qs[k] (List.getElem_mem hkq)
          have HCa := Lib.hid (fun w2 (hb3 : Below w.heap.size w w2) => calls_any (w := w2) (S := S) (p := qs[k].1) (hbody.kept (w' := w2) (fun j hj => hb3.block j (H.out.lt j hj)) (fun _ h => h)) (fun j hj => Nat.lt_of_lt_of_le (H.out.lt j hj) hb3.size) hq)
          have HH := Lib.hid (fun w => has_set fr qs[k].1.1 hfr.out hq.2.2.2 w)
          have HT := Lib.hid (callsOfQ_take qs k hkq fr)
          have hlc := callsIn_lets _ hq.1
          have h1 := setOf_lt ca hca.out
          have h2 := setOf_lt (callsIn qs[k].1.2) hlc
          have e2 := or32 (setOf ca) (setOf (callsIn qs[k].1.2)) (by omega) (by omega)
          have HLc := Lib.hid hlc
          clear c0 c1 hgl hbv hbody h1 h2 hlc
          cases hin : fr.contains qs[k].1.1 with
          | true =>
            rw [hin] at HH
            have HIn := Lib.hid (List.contains_iff_mem.1 hin)
            clear hin hq
            go_wp2_with fail
            refine (HH.out _).mono ?_
            rintro e w2 ⟨rfl, rfl⟩
            go_wp2_with fail
            refine (HCa.out _ (hb2.out.alloc hb2.out.size _)).mono ?_
            rintro e w3 ⟨rfl, hb3⟩
            have HB3 := Lib.hid ((hb2.out.alloc hb2.out.size _).trans (hb3.mono (Nat.le_trans hb2.out.size (by rw [alloc_size']; omega))))
            clear hb3
            go_wp2_with fail
            go_roundw
            case rel =>
              refine ⟨k + 1, ca ++ callsIn qs[k].1.2, by go_num, by omega, by rw [setOf_append], lets_append hca.out HLc.out, ?_, HB3.out⟩
              show ∀ y, _
              intro y
              rw [List.mem_append, HT.out y, hC.out y]
              constructor
              · rintro (h | h)
                · exact .inl h
                · exact .inr ⟨HIn.out, h⟩
              · rintro (h | h)
                · exact .inl h
                · exact .inr h.2
            case measure => simp [intOf]; omega
          | false =>
            rw [hin] at HH
            have HIn := Lib.hid (show ¬ qs[k].1.1 ∈ fr from fun hm => Bool.noConfusion ((List.contains_iff_mem.2 hm).symm.trans hin))
            clear hin hq
            go_wp2_with fail
            refine (HH.out _).mono ?_
            rintro e w2 ⟨rfl, rfl⟩
            go_wp2_with fail
            go_roundw
            case rel =>
              refine ⟨k + 1, ca, by go_num, by omega, rfl, hca.out, ?_, hb2.out.alloc hb2.out.size _⟩
              show ∀ y, _
              intro y
              rw [HT.out y, hC.out y]
              constructor
              · exact .inl
              · rintro (h | h)
                · exact h
                · exact absurd h.1 HIn.out
            case measure => simp [intOf]; omega
        · have HAll := Lib.hid (fun y => by
            have h1 := hC.out y
            rw [List.take_of_length_le (by rw [HN.out]; omega)] at h1
            exact h1.trans (callsOfQ_all qs fr y) : ∀ y, y ∈ ca ↔ ∃ x ∈ fr, CallsIn (qs.map (·.1)) x y)
          have h1 := setOf_lt ca hca.out
          have h2 := setOf_lt re hre.out
          have e2 := or32 (setOf re) (setOf ca) (by omega) (by omega)
          have e3 := less32 (setOf ca) (setOf re)
          have HLF := Lib.hid (less_filter ca re hca.out hre.out)
          have HMs := Lib.hid (measure_reach hre.out hca.out HNE.out)
          clear hC h1 h2
          go_wp2_with fail
          go_roundw
          case rel =>
            refine ⟨ca.filter fun y => !re.contains y, re ++ ca, by rw [HLF.out], by rw [setOf_append], ?_, lets_append hre.out hca.out, hR.out.step HAll.out, hb2.out⟩
            show lets _
            intro d hd
            exact hca.out d (List.mem_filter.1 hd).1
          case measure =>
            have := HMs.out
            rw [setOf_append, ← HLF.out] at this
            simp only [intOf, Int.toNat_natCast]
            exact this
end Go.Proofs.YtihjkkoaccmefaaGreatDoor
namespace Go.Proofs.YtihjkkoaccmefaaGreatDoor
open Go.RowKit Gram

def startOf (s nm : ByteArray) : List UInt8 := match lookP s nm with | some p => callsIn p.2 | none => []
def stepOf (s : ByteArray) (x y : UInt8) : Prop := ∃ p, lookP s (txtOf [x]) = some p ∧ y ∈ callsIn p.2
/-- l has just what is reached from the letters of a list -/
structure ReachF (F : List UInt8) (C : UInt8 → UInt8 → Prop) (l : List UInt8) : Prop where
  first : ∀ y ∈ F, y ∈ l
  closed : ∀ x ∈ l, ∀ y, C x y → y ∈ l
  least : ∀ T : UInt8 → Prop, (∀ y ∈ F, T y) → (∀ x y, T x → C x y → T y) → ∀ y ∈ l, T y
theorem ReachF.same {F : List UInt8} {C : UInt8 → UInt8 → Prop} {l l' : List UInt8} (h : ReachF F C l) (h' : ReachF F C l') (y : UInt8) : y ∈ l ↔ y ∈ l' :=
  ⟨fun hy => h.least (· ∈ l') h'.first (fun x y hx hc => h'.closed x hx y hc) y hy, fun hy => h'.least (· ∈ l) h.first (fun x y hx hc => h.closed x hx y hc) y hy⟩
def RT (s nm : ByteArray) (l : List UInt8) : Prop := ∃ re, lets re ∧ l = setText re ∧ ReachF (startOf s nm) (stepOf s) re
theorem RT.same {s nm : ByteArray} {l l' : List UInt8} (h : RT s nm l) (h' : RT s nm l') : l = l' := by
  obtain ⟨re, _, rfl, h2⟩ := h
  obtain ⟨re', _, rfl, h2'⟩ := h'
  exact upTo_same (fun y => h2.same h2' y) _

theorem asc_unique : ∀ {ps : List Pr}, asc (namesOf ps) → ∀ p ∈ ps, ∀ q ∈ ps, p.1 = q.1 → p = q
  | [], _, p, hp, _, _, _ => by simp at hp
  | a :: t, h, p, hp, q, hq, he => by
    rw [namesOf, List.map_cons, asc, List.pairwise_cons] at h
    rcases List.mem_cons.1 hp with hp | hp <;> rcases List.mem_cons.1 hq with hq | hq
    · rw [hp, hq]
    · have := h.1 q.1 (List.mem_map.2 ⟨q, hq, rfl⟩)
      rw [hp] at he; rw [he] at this; omega
    · have := h.1 p.1 (List.mem_map.2 ⟨p, hp, rfl⟩)
      rw [hq] at he; rw [he] at this; omega
    · exact asc_unique (ps := t) h.2 p hp q hq he
theorem look_in {s : ByteArray} {ps : List Pr} (h : progOf s = some ps) (x y : UInt8) : CallsIn ps x y ↔ stepOf s x y := by
  have hf := prog_facts h
  have hasc : asc (namesOf ps) := procs_asc _ _ _ hf.2.2.2 (by simp [asc, namesOf])
  constructor
  · rintro ⟨p, hp, rfl, hy⟩
    refine ⟨p, ?_, hy⟩
    have hno : nameOf (txtOf [p.1]).data.toList = some p.1 := by rw [txtOf_data, nameOf, if_pos (hf.2.1 p hp).2.2.2]
    rw [lookP, h, hno]
    dsimp only
    cases hq : ps.find? (fun q => q.1 == p.1) with
    | none =>
      rw [List.find?_eq_none] at hq
      exact absurd (by simp) (hq p hp)
    | some q =>
      have h1 := List.find?_some hq
      have h2 := List.mem_of_find?_eq_some hq
      rw [asc_unique hasc q h2 p hp (by simpa using h1)]
  · rintro ⟨p, hl, hy⟩
    unfold lookP at hl
    rw [h] at hl
    split at hl
    · rename_i ps' c hp hno
      injection hp with hp
      subst hp
      have h1 := List.find?_some hl
      have h2 := List.mem_of_find?_eq_some hl
      have h3 := (nameOf_some hno).1
      rw [txtOf_data] at h3
      have h4 : x = c := by injection h3
      exact ⟨p, h2, by rw [h4]; simpa using h1, hy⟩
    · cases hl
theorem look_in_ps {s nm : ByteArray} {ps : List Pr} {p : Pr} (h : progOf s = some ps) (hl : lookP s nm = some p) : p ∈ ps := by
  unfold lookP at hl
  rw [h] at hl
  split at hl
  · rename_i ps' c hp hno
    injection hp with hp
    subst hp
    exact List.mem_of_find?_eq_some hl
  · cases hl
theorem reached_F {s nm : ByteArray} {ps : List Pr} {p : Pr} {re : List UInt8} (h : progOf s = some ps) (hl : lookP s nm = some p) (hr : Reached (CallsIn ps) p.1 re) : ReachF (startOf s nm) (stepOf s) re := by
  have hf := prog_facts h
  have hasc : asc (namesOf ps) := procs_asc _ _ _ hf.2.2.2 (by simp [asc, namesOf])
  have hm := look_in_ps h hl
  have hs : ∀ y, CallsIn ps p.1 y ↔ y ∈ startOf s nm := by
    intro y
    rw [startOf, hl]
    constructor
    · rintro ⟨q, hq, he, hy⟩
      rw [asc_unique hasc q hq p hm he] at hy; exact hy
    · intro hy; exact ⟨p, hm, rfl, hy⟩
  refine ⟨fun y hy => hr.first y ((hs y).2 hy), fun x hx y hy => hr.closed x hx y ((look_in h x y).2 hy), ?_⟩
  intro T h1 h2
  exact hr.least T (fun y hy => h1 y ((hs y).1 hy)) (fun x y hx hy => h2 x y hx ((look_in h x y).1 hy))
theorem reached_none {s nm : ByteArray} (hl : lookP s nm = none) : RT s nm [] := by
  refine ⟨[], fun c hc => by simp at hc, rfl, ?_⟩
  have : startOf s nm = [] := by rw [startOf, hl]
  rw [this]
  exact ⟨by simp, by simp, fun T _ _ => by simp⟩

theorem start_step (s : ByteArray) (x y : UInt8) : y ∈ startOf s (txtOf [x]) ↔ stepOf s x y := by
  rw [startOf, stepOf]
  cases lookP s (txtOf [x]) with
  | none => simp
  | some p => simp
def strLen : Value → Nat | .string b => b.size | _ => 0
theorem setText_len (l : List UInt8) : (setText l).length ≤ 26 := card_le l

end Go.Proofs.YtihjkkoaccmefaaGreatDoor
namespace Go.Proofs.YtihjkkoaccmefaaGreatDoor
open Go.RowKit Gram

end Go.Proofs.YtihjkkoaccmefaaGreatDoor
namespace Go.Proofs.YtihjkkoaccmefaaGreatDoor
open Go.RowKit Gram

end Go.Proofs.YtihjkkoaccmefaaGreatDoor
namespace Go.Proofs.YtihjkkoaccmefaaGreatDoor
open Go.RowKit Gram

def stepN (m : Nat) (_ : Stm) : Nat := m + 1
def okN (m : Nat) (_ : Stm) : Prop := m < 1048576
set_option maxHeartbeats 1000000 in
theorem visits_size : Visits 50 3 (fun n => .int .i64 n) stepN okN := by
  intro w S c a x ty pv ho hx hc
  have hlt := heap_lt hc
  have HC := Lib.hid hc
  have hoo : a < 1048576 := ho
  have q0 : w.cell? ⟨c, 0, none⟩ = some (.int .i64 a) := Lib.cell_of_heap hc 0
  have q1 : w.frozen? ⟨c, 0, none⟩ = false := Lib.frozen_of_heap hc 0
  clear hc ho hx
  go_enter Tryz.func50, Tryz.ntmps50
  go_wp2_with fail
  go_end0
  exact ⟨rfl, heap_set_same (k := 0) HC.out _, (But.refl c w).setCell 0 _⟩
theorem fold_size (l : List Stm) : ∀ m, l.foldl stepN m = m + l.length := by
  induction l with
  | nil => intro m; rfl
  | cons x t ih => intro m; rw [List.foldl_cons, ih, stepN, List.length_cons]; omega
theorem okAll_size (l : List Stm) : ∀ m, m + l.length ≤ 1048576 → okAll okN stepN m l := by
  induction l with
  | nil => intro m _; trivial
  | cons x t ih => intro m h; simp only [List.length_cons] at h; exact ⟨show m < 1048576 by omega, ih (m + 1) (by omega)⟩
theorem enters_size (args : Array Value) (w : World) : (callFunc 50 args).run Tryz.prog w = .ok (.enter 50 args) w :=
  enters_of Tryz.func50 (by kernel_rfl) rfl args w
/-- size: how many statements a body has, those within others too -/
theorem size_any {w : World} {S : Nat → Prop} {p : Pr} {v : Value} (hB : IsBody w S p.2 v) (hS : ∀ k, S k → k < w.heap.size) (hg : Good p) :
    Calls Tryz.prog 23 #[.agg #[.int .u8 p.1.toNat, v]] w fun e w' => e = .returned (.int .i64 (flats p.2).length) ∧ Below w.heap.size w w' := by
  obtain ⟨ba, bn, bc, rfl⟩ := hB.form
  have hfl := flats_le p.2
  have hlen := hg.2.2.1
  have hE : ∀ w2 : World, (∀ k, k < w.heap.size → w2.heap[k]? = w.heap[k]?) → w.heap.size + 1 < w2.heap.size → w2.heap[w.heap.size + 1]? = some (.cells #[.int .i64 ((0 : Nat) : Int)] 3 (0, 0)) → _ :=
    fun w2 hk hz hc => each_all 50 3 (fun n => .int .i64 n) stepN okN enters_size visits_size (flats p.2).length p.2 w2 S (.slice ba bn bc) (w.heap.size + 1) 0 (Nat.le_refl _) (by omega)
      (fun k hk' => by have := hS k hk'; omega) (hB.kept (fun k hk' => hk k (hS k hk')) (fun _ h => h)) hc (okAll_size _ 0 (by omega))
  have HE := Lib.hid hE
  have HF := Lib.hid (fold_size (flats p.2) 0)
  clear hE hfl hlen hB hS hg
  go_enter Tryz.func23, Tryz.ntmps23
  go_wp2_with fail
  refine (HE.out _ (two_old _ _ _) (two_size _ _ _) (two_cell _ _ _)).mono ?_
  rintro e w2 ⟨rfl, hc, hb⟩
  rw [HF.out, Nat.zero_add] at hc
  have q := Lib.cell_of_heap hc 0
  have q0 : w2.cell? ⟨w.heap.size + 1, 0, none⟩ = some (.int .i64 (flats p.2).length) := q
  have HW := Lib.hid (two_below hb)
  clear hc hb q
  go_wp2_with fail
  go_ret
  exact ⟨rfl, HW.out⟩
end Go.Proofs.YtihjkkoaccmefaaGreatDoor
namespace Go.Proofs.YtihjkkoaccmefaaGreatDoor
open Go.RowKit Gram

def isMark (c : UInt8) : Bool := ([43, 45, 42, 80, 67, 75, 63] : List UInt8).contains c
theorem mark_sgn (g : UInt8) (h : isSgn g = true) : isMark g = true := by
  simp only [isSgn, Bool.or_eq_true, beq_iff_eq] at h
  rcases h with (h | h) | h <;> subst h <;> decide
theorem mark_dig (g : UInt8) (h : isDig g = true) : isMark g = false := by
  cases hm : isMark g with
  | false => rfl
  | true =>
    simp only [isMark, List.contains_iff_mem, List.mem_cons, List.not_mem_nil, or_false] at hm
    rcases hm with hm | hm | hm | hm | hm | hm | hm <;> subst hm <;> exact absurd h (by decide)
theorem mark_let (g : UInt8) (h : isLet g = true) : isMark g = false := by
  cases hm : isMark g with
  | false => rfl
  | true =>
    simp only [isMark, List.contains_iff_mem, List.mem_cons, List.not_mem_nil, or_false] at hm
    rcases hm with hm | hm | hm | hm | hm | hm | hm <;> subst hm <;> exact absurd h (by decide)
mutual
theorem count_stm (x : Stm) (h : x.wf = true) : x.txt.countP isMark = x.flat.length := by
  match x with
  | .chg g d =>
    simp only [Stm.wf, Bool.and_eq_true] at h
    simp [Stm.txt, Stm.flat, List.countP_cons, mark_sgn g h.1, mark_dig d h.2]
  | .prt => rfl
  | .pro => rfl
  | .call c =>
    simp only [Stm.wf] at h
    simp [Stm.txt, Stm.flat, List.countP_cons, mark_let c h]; rfl
  | .cho a b =>
    simp only [Stm.wf, Bool.and_eq_true] at h
    have h1 := count_stms a h.1
    have h2 := count_stms b h.2
    have e1 : isMark 63 = true := by decide
    have e2 : isMark 91 = false := by decide
    have e3 : isMark 93 = false := by decide
    simp [Stm.txt, Stm.flat, List.countP_cons, List.countP_append, h1, h2, e1, e2, e3]
theorem count_stms (xs : List Stm) (h : wfs xs = true) : (txts xs).countP isMark = (flats xs).length := by
  match xs with
  | [] => rfl
  | x :: xs =>
    simp only [wfs, Bool.and_eq_true] at h
    simp [txts, flats, List.countP_append, count_stm x h.1, count_stms xs h.2]
end

def sizeSum (ps : List Pr) : Nat := (ps.map fun p => (flats p.2).length).sum
def sizeP (s : ByteArray) : Int := match progOf s with | none => -1 | some ps => (sizeSum ps : Int)
theorem sizeSum_take (ps : List Pr) (k : Nat) (hk : k < ps.length) : sizeSum (ps.take (k + 1)) = sizeSum (ps.take k) + (flats ps[k].2).length := by
  rw [List.take_succ_eq_append_getElem hk, sizeSum, List.map_append, List.sum_append]; simp [sizeSum]
theorem sizeSum_le (ps : List Pr) (hg : ∀ p ∈ ps, Good p) : sizeSum ps ≤ ps.length * 400 := by
  induction ps with
  | nil => simp [sizeSum]
  | cons p t ih =>
    have h1 := ih fun q hq => hg q (List.mem_cons_of_mem _ hq)
    have h2 := flats_le p.2
    have h3 := (hg p (List.mem_cons_self ..)).2.2.1
    simp only [sizeSum, List.map_cons, List.sum_cons, List.length_cons] at h1 ⊢
    omega

set_option maxHeartbeats 1000000 in
theorem impl_size (s : ByteArray) (w : World) (hs : s.size ≤ 1073741824) (hm : MaxCell w) :
    Calls Tryz.prog 9 #[.string s] w fun e w' => e = .returned (.int .i64 (sizeP s)) ∧ Below w.heap.size w w' := by
  have HR := Lib.hid ((read_prog s w hs hm).mono fun _ _ h => h.cases)
  clear hm
  cases hp : progOf s with
  | none =>
    rw [hp] at HR
    have HZ := Lib.hid (by rw [sizeP, hp] : sizeP s = -1)
    clear hp
    go_enter Tryz.func9, Tryz.ntmps9
    go_wp2_with fail
    refine HR.out.mono ?_
    rintro e w2 ⟨a, n, c, rfl, hb, _⟩
    have HB := Lib.hid hb
    clear hb
    go_wp2_with fail
    go_ret
    exact ⟨ret_int HZ.out.symm, HB.out⟩
  | some ps =>
    rw [hp] at HR
    have hf := prog_facts hp
    have HZ := Lib.hid (by rw [sizeP, hp] : sizeP s = (sizeSum ps : Int))
    clear hp
    go_enter Tryz.func9, Tryz.ntmps9
    go_wp2_with fail
    refine HR.out.mono ?_
    rintro e w2 ⟨a, n, c, rfl, hb, hq⟩
    obtain ⟨S, qs, hqp, hP, hG⟩ := hq ps rfl
    have hnq : n = qs.length := by
      obtain ⟨a', c', h⟩ := hP.form
      injection h
    have hln : n ≤ 401 := by rw [hnq, ← List.length_map (f := fun q : Qr => q.1), hqp]; exact hf.1
    have HQ := Lib.hid hqp
    have HP := Lib.hid hP
    have HG := Lib.hid hG
    have HN := Lib.hid hnq
    have HB := Lib.hid hb
    have HF := Lib.hid hf
    clear hqp hP hG hnq hb hf hq
    go_wp2_with fail
    go_loopw [5, 17] (fun m i wr => ∃ (k z : Nat), i = .int .i64 k ∧ k ≤ n ∧ m = .int .i64 z ∧ z ≤ 400 * k ∧ Hid (z = sizeSum (ps.take k)) ∧ Hid (Below w2.heap.size w2 wr)) (fun _ i _ => n - (intOf i).toNat)
    case atStart => exact ⟨0, 0, by go_num, Nat.zero_le _, by go_num, by omega, by show _ = _; simp [sizeSum], Below.refl _ _⟩
    case round =>
      obtain ⟨k, z, rfl, hk, rfl, hz, hZ, hb⟩ := hrel
      by_cases hlt : k < n
      · have hkq : k < qs.length := by rw [← HN.out]; exact hlt
        have hkp : k < ps.length := by rw [← HQ.out]; simpa using hkq
        obtain ⟨g, rfl, _, c0, c1⟩ := HP.out.get k hkq
        have hgl : g < w2.heap.size := World.block_lt_of_cell? w2 _ c0
        have d0 : wr.cell? ⟨g, k * 2, none⟩ = some (.int .u8 qs[k].1.1.toNat) := by rw [hb.out.cell (p := ⟨g, k * 2, none⟩) hgl]; exact c0
        have d1 : wr.cell? ⟨g, k * 2 + 1, none⟩ = some qs[k].2 := by rw [hb.out.cell (p := ⟨g, k * 2 + 1, none⟩) hgl]; exact c1
        have hq := HG.out qs[k] (List.getElem_mem hkq)
        have hbody := prog_body HP.out k hkq
        obtain ⟨ba, bn, bc, hbv⟩ := hbody.form
        have hC : ∀ w3, Below w2.heap.size w2 w3 → _ := fun w3 hb3 => size_any (w := w3) (S := S) (p := qs[k].1) (hbody.kept (w' := w3) (fun j hj => hb3.block j (HP.out.lt j hj)) (fun _ h => h)) (fun j hj => Nat.lt_of_lt_of_le (HP.out.lt j hj) hb3.size) hq
        rw [hbv] at d1 hC
        have HC := Lib.hid hC
        have hpk : ps[k] = qs[k].1 := by
          have : (qs.map (·.1))[k]? = some qs[k].1 := by rw [List.getElem?_map, List.getElem?_eq_getElem hkq]; rfl
          rw [HQ.out, List.getElem?_eq_getElem hkp] at this
          injection this
        have HT := Lib.hid (sizeSum_take ps k hkp)
        rw [hpk] at HT
        have hfl : (flats qs[k].1.2).length ≤ 400 := Nat.le_trans (flats_le _) hq.2.2.1
        clear hC c0 c1 hgl hq hbv hbody hpk hkp
        generalize (flats qs[k].1.2).length = fl at *
        go_wp2_with fail
        refine (HC.out _ (hb.out.alloc hb.out.size _)).mono ?_
        rintro e w3 ⟨rfl, hb3⟩
        have HB3 := Lib.hid (((hb.out.alloc hb.out.size _)).trans (hb3.mono (Nat.le_trans hb.out.size (by rw [alloc_size']; omega))))
        clear hb3
        go_wp2_with fail
        go_roundw
        case rel => exact ⟨k + 1, z + fl, by go_num, by omega, by go_num, by omega, by show _ = _; rw [HT.out, hZ.out], HB3.out⟩
        case measure => simp [intOf]; omega
      · have hlen : ps.length = n := by rw [← HQ.out, List.length_map]; exact HN.out.symm
        have HZ2 := Lib.hid (by rw [hZ.out, List.take_of_length_le (by omega)] : z = sizeSum ps)
        clear hZ hlen
        go_wp2_with fail
        go_ret
        exact ⟨ret_int (by rw [HZ.out, HZ2.out]), HB.out.trans (hb.out.mono HB.out.size)⟩

end Go.Proofs.YtihjkkoaccmefaaGreatDoor
namespace Go.Proofs.YtihjkkoaccmefaaGreatDoor
open Go.RowKit Gram

def procsP (s : ByteArray) : ByteArray := match progOf s with | none => ⟨#[]⟩ | some ps => txtOf (namesOf ps)

theorem names_take (ps : List Pr) (k : Nat) (hk : k < ps.length) : txtOf (namesOf (ps.take (k + 1))) = txtOf (namesOf (ps.take k)) ++ ⟨#[ps[k].1]⟩ := by
  have h1 : namesOf (ps.take (k + 1)) = namesOf (ps.take k) ++ [ps[k].1] := by rw [List.take_succ_eq_append_getElem hk, namesOf, List.map_append]; rfl
  rw [h1]
  apply ByteArray.ext
  apply Array.ext'
  simp [txtOf]
theorem row_max {w : World} {B n c : Nat} {a : Option Addr} {e : TypeId} {xs : List Value} (h : w.ownsRow B e 2 (.slice a n c) n xs) : n ≤ 9223372036854775807 := by
  rcases h.2 with ⟨h1, h2⟩ | ⟨g, cap, cur, h1, _, _, h3, h4, _⟩
  · omega
  · unfold maxLen at h4; omega

set_option maxHeartbeats 1000000 in
theorem spec_procs (s : ByteArray) (w : World) (hs : s.size ≤ 1048576) :
    Calls Tryz.prog 29 #[.string s] w fun e w' => e = .returned (.string (procsP s)) ∧ Below w.heap.size w w' := by
  have HR := Lib.hid ((open_prog s w (by omega)).mono fun _ _ h => h.cases)
  cases hp : progOf s with
  | none =>
    rw [hp] at HR
    have HZ := Lib.hid (by rw [procsP, hp] : procsP s = ⟨#[]⟩)
    clear hp
    go_enter Tryz.func29, Tryz.ntmps29
    go_wp2_with fail
    refine HR.out.mono ?_
    rintro e w2 ⟨a, n, c, qs, rfl, hb, hnl, ho, _⟩
    have HB := Lib.hid hb
    rw [← hnl] at ho
    have HO := Lib.hid ho
    have HN := Lib.hid hnl
    clear hb ho hnl
    have hn63 := row_max HO.out
    rw [HN.out] at hn63
    go_wp2_with fail
    go_loopw [3, 15] (fun o i wr => ∃ k : Nat, i = .int .i64 k ∧ k ≤ n ∧ o = .string ⟨#[]⟩ ∧ Hid (Below w2.heap.size w2 wr)) (fun _ i _ => n - (intOf i).toNat)
    case atStart => exact ⟨0, by go_num, Nat.zero_le _, rfl, Below.refl _ _⟩
    case round =>
      obtain ⟨k, rfl, hk, rfl, hb⟩ := hrel
      by_cases hlt : k < n
      · have hkp : k < qs.length := by rw [HN.out]; exact hlt
        obtain ⟨g, rfl, c0, c1⟩ := pr_get HO.out k hkp
        have hgl : g < w2.heap.size := World.block_lt_of_cell? w2 _ c0
        have d0 : wr.cell? ⟨g, k * 2, none⟩ = some (.int .u8 qs[k].1.toNat) := by rw [hb.out.cell (p := ⟨g, k * 2, none⟩) hgl]; exact c0
        have d1 : wr.cell? ⟨g, k * 2 + 1, none⟩ = some (.string (txtOf (txts qs[k].2))) := by rw [hb.out.cell (p := ⟨g, k * 2 + 1, none⟩) hgl]; exact c1
        clear c0 c1 hgl
        generalize txtOf (txts qs[k].2) = tx at *
        go_wp2_with fail
        go_roundw
        case rel => exact ⟨k + 1, by go_num, by omega, rfl, hb.out.alloc hb.out.size _⟩
        case measure => simp [intOf]; omega
      · go_wp2_with fail
        go_ret
        exact ⟨by rw [HZ.out]; rfl, HB.out.trans (hb.out.mono HB.out.size)⟩
  | some ps =>
    rw [hp] at HR
    have hf := prog_facts hp
    have HZ := Lib.hid (by rw [procsP, hp] : procsP s = txtOf (namesOf ps))
    clear hp
    go_enter Tryz.func29, Tryz.ntmps29
    go_wp2_with fail
    refine HR.out.mono ?_
    rintro e w2 ⟨a, n, c, qs, rfl, hb, hnl, ho, hq⟩
    have hqp := hq ps rfl
    subst hqp
    have hln : n ≤ 401 := by rw [← hnl]; exact hf.1
    have HN := Lib.hid hnl
    rw [← hnl] at ho
    have HO := Lib.hid ho
    have HB := Lib.hid hb
    clear ho hb hf hq hnl
    go_wp2_with fail
    go_loopw [3, 15] (fun o i wr => ∃ k : Nat, i = .int .i64 k ∧ k ≤ n ∧ o = .string (txtOf (namesOf (qs.take k))) ∧ Hid (Below w2.heap.size w2 wr)) (fun _ i _ => n - (intOf i).toNat)
    case atStart => exact ⟨0, by go_num, Nat.zero_le _, rfl, Below.refl _ _⟩
    case round =>
      obtain ⟨k, rfl, hk, rfl, hb⟩ := hrel
      by_cases hlt : k < n
      · have hkp : k < qs.length := by rw [HN.out]; exact hlt
        obtain ⟨g, rfl, c0, c1⟩ := pr_get HO.out k hkp
        have hgl : g < w2.heap.size := World.block_lt_of_cell? w2 _ c0
        have d0 : wr.cell? ⟨g, k * 2, none⟩ = some (.int .u8 qs[k].1.toNat) := by rw [hb.out.cell (p := ⟨g, k * 2, none⟩) hgl]; exact c0
        have d1 : wr.cell? ⟨g, k * 2 + 1, none⟩ = some (.string (txtOf (txts qs[k].2))) := by rw [hb.out.cell (p := ⟨g, k * 2 + 1, none⟩) hgl]; exact c1
        have HT := Lib.hid (names_take qs k hkp)
        have e1 := str_sum (txtOf (namesOf (qs.take k))) ⟨#[qs[k].1]⟩ (by rw [txtOf_size, show (⟨#[qs[k].1]⟩ : ByteArray).size = 1 from rfl]; simp [namesOf]; omega)
        have e2 := fun o : Obj => chr1 qs[k].1 (wr.alloc o) (wr.heap.size + 1) (by rw [alloc_size'])
        clear c0 c1 hgl
        generalize txtOf (txts qs[k].2) = tx at *
        generalize txtOf (namesOf (qs.take k)) = nm at *
        generalize qs[k].1 = ch at *
        go_wp2_with fail
        go_roundw
        case rel => exact ⟨k + 1, by go_num, by omega, by rw [HT.out], (hb.out.alloc hb.out.size _).alloc (by rw [alloc_size']; exact Nat.le_succ_of_le hb.out.size) _⟩
        case measure => simp [intOf]; omega
      · have hall : qs.take k = qs := List.take_of_length_le (by rw [HN.out]; omega)
        rw [hall]
        go_wp2_with fail
        go_ret
        exact ⟨by rw [HZ.out]; rfl, HB.out.trans (hb.out.mono HB.out.size)⟩

end Go.Proofs.YtihjkkoaccmefaaGreatDoor
namespace Go.Proofs.YtihjkkoaccmefaaGreatDoor
open Go.RowKit Gram

/-- there is a way of calls -/
inductive Way (C : UInt8 → UInt8 → Prop) (c : UInt8) : UInt8 → Prop
  | here : Way C c c
  | next {x y : UInt8} : Way C c x → C x y → Way C c y
theorem Way.trans {C : UInt8 → UInt8 → Prop} {a b d : UInt8} (h : Way C a b) (h' : Way C b d) : Way C a d := by
  induction h' with
  | here => exact h
  | next _ hc ih => exact .next ih hc
theorem way_reached {C : UInt8 → UInt8 → Prop} {c : UInt8} {re : List UInt8} (h : Reached C c re) (y : UInt8) : y ∈ c :: re ↔ Way C c y := by
  constructor
  · intro hy
    rcases List.mem_cons.1 hy with rfl | hy
    · exact .here
    · exact h.least (Way C c) (fun y hy => .next .here hy) (fun x y hx hc => .next hx hc) y hy
  · intro hw
    induction hw with
    | here => exact List.mem_cons.2 (.inl rfl)
    | next _ hc ih =>
      rcases List.mem_cons.1 ih with rfl | ih
      · exact List.mem_cons.2 (.inr (h.first _ hc))
      · exact List.mem_cons.2 (.inr (h.closed _ ih _ hc))
/-- a call of one that isn't passed by -/
def Past (W : List UInt8) (C : UInt8 → UInt8 → Prop) (u v : UInt8) : Prop := u ∉ W ∧ C u v
/-- there is a way past those of a list -/
def LeadTo (C : UInt8 → UInt8 → Prop) (W : List UInt8) (c d : UInt8) : Prop := d ∉ W ∧ Way (Past W C) c d
theorem Way.free {C : UInt8 → UInt8 → Prop} {W : List UInt8} {c d : UInt8} (h : Way (Past W C) c d) : Way C c d := by
  induction h with
  | here => exact .here
  | next _ hc ih => exact .next ih hc.2
theorem leads_all {C : UInt8 → UInt8 → Prop} {c d : UInt8} : LeadTo C [] c d ↔ Way C c d := by
  constructor
  · exact fun h => h.2.free
  · intro h
    refine ⟨by simp, ?_⟩
    induction h with
    | here => exact .here
    | next _ hc ih => exact .next ih ⟨by simp, hc⟩
theorem way_parts {C : UInt8 → UInt8 → Prop} {c d : UInt8} (x : UInt8) (h : Way C c d) : LeadTo C [x] c d ∨ (Way C c x ∧ Way C x d) := by
  induction h with
  | here =>
    by_cases hx : c = x
    · subst hx; exact .inr ⟨.here, .here⟩
    · exact .inl ⟨by simpa using hx, .here⟩
  | @next u v h hc ih =>
    rcases ih with ih | ⟨h1, h2⟩
    · by_cases hx : v = x
      · subst hx; exact .inr ⟨.next ih.2.free hc, .here⟩
      · exact .inl ⟨by simpa using hx, .next ih.2 ⟨ih.1, hc⟩⟩
    · exact .inr ⟨h1, h2.next hc⟩

/-- a list of letters without repeats has no more than 26 -/
theorem length_card : ∀ (l : List UInt8), l.Nodup → lets l → l.length ≤ card l
  | [], _, _ => Nat.zero_le _
  | a :: t, hn, hl => by
    rw [List.nodup_cons] at hn
    have h1 := length_card t hn.2 fun c hc => hl c (List.mem_cons.2 (.inr hc))
    have h2 : card t < card (a :: t) := card_lt (fun y hy => List.mem_cons.2 (.inr hy)) a (List.mem_cons.2 (.inl rfl)) hn.1 (hl a (List.mem_cons.2 (.inl rfl)))
    simp only [List.length_cons]; omega
theorem nodup_26 {l : List UInt8} (hn : l.Nodup) (hl : lets l) : l.length ≤ 26 := Nat.le_trans (length_card l hn hl) (card_le l)
theorem nodup_snoc {l : List UInt8} (hn : l.Nodup) {y : UInt8} (hy : y ∉ l) : (l ++ [y]).Nodup := by
  rw [List.nodup_append]
  exact ⟨hn, by simp, by intro a ha b hb; rw [List.mem_singleton.1 hb]; intro e; exact hy (e ▸ ha)⟩

/-- the names of the procedures of a text -/
def namesT (s : ByteArray) : List UInt8 := match progOf s with | none => [] | some ps => namesOf ps
theorem procs_names (s : ByteArray) : procsP s = txtOf (namesT s) := by
  rw [procsP, namesT]; cases progOf s <;> rfl
theorem namesT_asc (s : ByteArray) : asc (namesT s) := by
  rw [namesT]
  cases h : progOf s with
  | none => simp [asc]
  | some ps => exact procs_asc _ _ _ (prog_facts h).2.2.2 (by simp [asc, namesOf])
theorem namesT_lets (s : ByteArray) : lets (namesT s) := by
  rw [namesT]
  cases h : progOf s with
  | none => intro c hc; simp at hc
  | some ps =>
    intro c hc
    obtain ⟨p, hp, rfl⟩ := List.mem_map.1 hc
    exact ((prog_facts h).2.1 p hp).2.2.2
theorem asc_nodup {l : List UInt8} (h : asc l) : l.Nodup := by
  rw [asc] at h
  exact h.imp fun {a b} hab e => by rw [e] at hab; omega
theorem namesT_len (s : ByteArray) : (namesT s).length ≤ 26 := nodup_26 (asc_nodup (namesT_asc s)) (namesT_lets s)

/-- what a name says of a program -/
theorem look_nm {s nm : ByteArray} {p : Pr} (h : lookP s nm = some p) : nm = txtOf [p.1] ∧ isLet p.1 = true ∧ p.1 ∈ namesT s := by
  have h0 := h
  unfold lookP at h
  split at h
  · rename_i ps c hp hno
    have h1 := List.find?_some h
    have h2 : p.1 = c := by simpa using h1
    obtain ⟨h3, h4⟩ := nameOf_some hno
    refine ⟨?_, h2 ▸ h4, ?_⟩
    · apply ByteArray.ext
      apply Array.ext'
      rw [h3, h2]; rfl
    · rw [namesT, hp]
      exact List.mem_map.2 ⟨p, List.mem_of_find?_eq_some h, rfl⟩
  · cases h
theorem name_look {s : ByteArray} {x : UInt8} (h : x ∈ namesT s) : ∃ p, lookP s (txtOf [x]) = some p ∧ p.1 = x := by
  have hl := namesT_lets s x h
  rw [namesT] at h
  cases hp : progOf s with
  | none => rw [hp] at h; simp at h
  | some ps =>
    rw [hp] at h
    obtain ⟨p, hm, rfl⟩ := List.mem_map.1 h
    have hno : nameOf (txtOf [p.1]).data.toList = some p.1 := by rw [txtOf_data, nameOf, if_pos hl]
    rw [lookP, hp, hno]
    dsimp only
    cases hq : ps.find? (fun q => q.1 == p.1) with
    | none =>
      rw [List.find?_eq_none] at hq
      exact absurd (by simp) (hq p hm)
    | some q => exact ⟨q, rfl, by simpa using List.find?_some hq⟩
theorem own_of {s : ByteArray} {ps : List Pr} (h : progOf s = some ps) : ownCalls ps = true := by
  unfold progOf at h
  split at h
  · cases hp : procsOf [] (cuts s.data.toList) with
    | none => rw [hp] at h; cases h
    | some qs =>
      rw [hp, Option.bind_some] at h
      split at h
      · injection h with h; subst h; assumption
      · cases h
  · cases h
theorem step_name {s : ByteArray} {x y : UInt8} (h : stepOf s x y) : y ∈ namesT s := by
  obtain ⟨p, hl, hy⟩ := h
  have h0 := hl
  unfold lookP at hl
  split at hl
  · rename_i ps c hp hno
    have h1 := own_of hp
    rw [ownCalls, List.all_eq_true] at h1
    have h2 := h1 p (List.mem_of_find?_eq_some hl)
    rw [List.all_eq_true] at h2
    have h3 := h2 y hy
    rw [namesT, hp]
    exact List.contains_iff_mem.1 h3
  · cases hl
theorem way_name {s : ByteArray} {x y : UInt8} (hx : x ∈ namesT s) (h : Way (stepOf s) x y) : y ∈ namesT s := by
  cases h with
  | here => exact hx
  | next _ hc => exact step_name hc
theorem callsT_of (s : ByteArray) (x : UInt8) : callsT (lookP s (txtOf [x])) = txtOf (setText (startOf s (txtOf [x]))) := by
  unfold callsT startOf
  cases lookP s (txtOf [x]) <;> rfl
theorem startOf_lets (s nm : ByteArray) : lets (startOf s nm) := by
  rw [startOf]
  cases h : lookP s nm with
  | none => intro c hc; simp at hc
  | some p => exact callsIn_lets _ (look_good p h).1

/-- within may run when start was begun -/
def RunOf (s st wi : ByteArray) : Prop := ∃ p q, lookP s st = some p ∧ lookP s wi = some q ∧ Way (stepOf s) p.1 q.1
/-- y may be active then -/
def MayOf (s st wi : ByteArray) (y : UInt8) : Prop := y ∈ namesT s ∧ ∃ p q, lookP s st = some p ∧ lookP s wi = some q ∧ Way (stepOf s) p.1 y ∧ Way (stepOf s) y q.1
/-- y must be active then -/
def MustOf (s st wi : ByteArray) (y : UInt8) : Prop := y ∈ namesT s ∧ ∃ p q, lookP s st = some p ∧ lookP s wi = some q ∧ Way (stepOf s) p.1 q.1 ∧ ¬ LeadTo (stepOf s) [y] p.1 q.1
theorem MayOf.run {s st wi : ByteArray} {y : UInt8} (h : MayOf s st wi y) : RunOf s st wi := by
  obtain ⟨_, p, q, h1, h2, h3, h4⟩ := h
  exact ⟨p, q, h1, h2, h3.trans h4⟩
theorem MustOf.may {s st wi : ByteArray} {y : UInt8} (h : MustOf s st wi y) : MayOf s st wi y := by
  obtain ⟨hy, p, q, h1, h2, h3, h4⟩ := h
  rcases way_parts y h3 with h | h
  · exact absurd h h4
  · exact ⟨hy, p, q, h1, h2, h⟩
/-- the text of the letters of which something is true -/
def AT (P : UInt8 → Prop) (l : List UInt8) : Prop := ∃ re, lets re ∧ l = setText re ∧ ∀ y, y ∈ re ↔ P y
theorem AT.same {P : UInt8 → Prop} {l l' : List UInt8} (h : AT P l) (h' : AT P l') : l = l' := by
  obtain ⟨re, _, rfl, h2⟩ := h
  obtain ⟨re', _, rfl, h2'⟩ := h'
  exact upTo_same (fun y => (h2 y).trans (h2' y).symm) _
theorem at_asc {P : UInt8 → Prop} {s : ByteArray} {l : List UInt8} (h : l.Sublist (namesT s)) (hp : ∀ y, y ∈ l ↔ P y) : AT P l := by
  have h1 : asc l := by
    have := namesT_asc s
    rw [asc] at this ⊢
    exact this.sublist h
  have h2 : lets l := fun c hc => namesT_lets s c (h.subset hc)
  exact ⟨l, h2, (upTo_asc l h1 h2).symm, hp⟩
end Go.Proofs.YtihjkkoaccmefaaGreatDoor
