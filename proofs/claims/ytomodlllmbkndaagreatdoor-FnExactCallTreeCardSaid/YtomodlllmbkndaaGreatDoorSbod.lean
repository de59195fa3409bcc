/- The model's l1Body: the body of a procedure of a row. Condition: a row of procedures in memory. -/
import Derived.Test.YtomodlllmbkndaaGreatDoorA5
import Derived.Test.YtomodlllmbkndaaGreatDoorA3
namespace Go.Proofs.YtomodlllmbkndaaGreatDoor
open Go.RowKit Gram

def bodyT (o : Option Pr) : ByteArray := match o with | some p => txtOf (txts p.2) | none => ⟨#[]⟩

theorem bytesA {w : World} {b : Nat} {c : UInt8} {e : TypeId} (hb : w.heap[b]? = some (.cells #[.int .u8 (c.toNat : Int)] e (0, 0))) :
    ∀ j (hj : j < [c].length), w.cell? ((⟨b, 0, none⟩ : Addr).add j) = some (.int .u8 ([c][j].toNat : Int)) := fun j hj => by
  have h0 : j = 0 := by simp at hj; exact hj
  subst h0
  have hadd : (⟨b, 0, none⟩ : Addr).add 0 = ⟨b, 0, none⟩ := by unfold Addr.add; split <;> simp_all
  rw [hadd, Lib.cell_of_heap hb]
  rfl
theorem chrA (c : UInt8) (w : World) (b : Nat) (hb : b = w.heap.size) :
    (convert 22 9 (.slice (some ⟨b, 0, none⟩) 1 1)).run Tryz.prog (w.alloc (Obj.cells #[.int .u8 (c.toNat : Int)] 5)) =
      .ok (.string ⟨#[c]⟩) (w.alloc (Obj.cells #[.int .u8 (c.toNat : Int)] 5)) := by
  subst hb
  exact run_convert_bytes_back (P := Tryz.prog) _ 22 9 5 ⟨w.heap.size, 0, none⟩ 1 [c] Tryz.underlying22 Tryz.underlying5 Tryz.underlying9 (bytesA (e := 5) (heap_alloc_new _ _))

def namedIn (ps : List Pr) (nm : ByteArray) : Option Pr := ps.find? fun p => nm.data.toList == [p.1]
theorem namedIn_look {s nm : ByteArray} {ps : List Pr} (h : progOf s = some ps) : namedIn ps nm = lookP s nm := by
  have hf := prog_facts h
  rw [lookP, h]
  cases hno : nameOf nm.data.toList with
  | some c =>
    have := (nameOf_some hno).1
    dsimp only
    rw [namedIn, this]
    congr 1
    funext p
    rw [Bool.eq_iff_iff]
    simp only [beq_iff_eq, List.cons.injEq, and_true]
    exact eq_comm
  | none =>
    dsimp only
    rw [namedIn, List.find?_eq_none]
    intro p hp he
    have he2 : nm.data.toList = [p.1] := by simpa using he
    rw [he2, nameOf, if_pos (hf.2.1 p hp).2.2.2] at hno
    cases hno

set_option maxHeartbeats 1000000 in
theorem l1body_any {w : World} {B n c : Nat} {a : Option Addr} {ps : List Pr} (ho : w.ownsRow B 108 2 (.slice a ps.length c) ps.length (prVs ps)) (hn : ps.length = n) (hl : n ≤ 9223372036854775807) (nm : ByteArray) :
    Calls Tryz.prog 70 #[.slice a n c, .string nm] w fun e w' => e = .returned (.tuple #[.string (bodyT (namedIn ps nm)), .bool (namedIn ps nm).isSome]) ∧ Below w.heap.size w w' := by
  have HO := Lib.hid ho
  have HN := Lib.hid hn
  clear ho hn
  go_enter Tryz.func70, Tryz.ntmps70
  go_wp2_with fail
  go_loopw [10] (fun i wr => ∃ k : Nat, i = .int .i64 k ∧ k ≤ n ∧ Hid (namedIn ps nm = namedIn (ps.drop k) nm) ∧ Hid (Below w.heap.size w wr)) (fun i _ => n - (intOf i).toNat)
  case atStart => exact ⟨0, by go_num, Nat.zero_le _, rfl, Below.refl _ _⟩
  case round =>
    obtain ⟨k, rfl, hk, hE, hb⟩ := hrel
    by_cases hlt : k < n
    · have hkp : k < ps.length := by rw [HN.out]; exact hlt
      obtain ⟨g, rfl, c0, c1⟩ := pr_get HO.out k hkp
      have hgl : g < w.heap.size := World.block_lt_of_cell? w _ c0
      have d0 : wr.cell? ⟨g, k * 2, none⟩ = some (.int .u8 ps[k].1.toNat) := by rw [hb.out.cell (p := ⟨g, k * 2, none⟩) hgl]; exact c0
      have d1 : wr.cell? ⟨g, k * 2 + 1, none⟩ = some (.string (txtOf (txts ps[k].2))) := by rw [hb.out.cell (p := ⟨g, k * 2 + 1, none⟩) hgl]; exact c1
      have e2 := fun o : Obj => chrA ps[k].1 (wr.alloc o) (wr.heap.size + 1) (by rw [alloc_size'])
      have hst : namedIn (ps.drop k) nm = if (nm.data.toList == [ps[k].1]) = true then some ps[k] else namedIn (ps.drop (k + 1)) nm := by
        rw [List.drop_eq_getElem_cons hkp, namedIn, List.find?_cons]
        split <;> simp_all [namedIn]
      rw [← ByteArray.toList_eq] at hst
      have HE2 := Lib.hid (hE.out.trans hst)
      clear c0 c1 hgl hst hE
      cases hq : (nm.toList == [ps[k].1]) with
      | true =>
        rw [hq] at HE2
        have HF := Lib.hid (HE2.out.trans (if_pos rfl))
        clear HE2
        go_wp2_with fail
        go_ret2
        refine ⟨?_, hb.out.alloc hb.out.size _ |>.alloc (by rw [alloc_size']; exact Nat.le_succ_of_le hb.out.size) _⟩
        rw [HF.out]; rfl
      | false =>
        rw [hq] at HE2
        have HF := Lib.hid (HE2.out.trans (if_neg (by decide)))
        clear HE2
        go_wp2_with fail
        go_roundw
        case rel => exact ⟨k + 1, by go_num, by omega, HF.out, hb.out.alloc hb.out.size _ |>.alloc (by rw [alloc_size']; exact Nat.le_succ_of_le hb.out.size) _⟩
        case measure => simp [intOf]; omega
    · have HF := Lib.hid (by rw [hE.out, List.drop_of_length_le (by rw [HN.out]; omega)]; rfl : namedIn ps nm = none)
      clear hE
      go_wp2_with fail
      go_ret2
      exact ⟨by rw [HF.out]; rfl, hb.out⟩

end Go.Proofs.YtomodlllmbkndaaGreatDoor
