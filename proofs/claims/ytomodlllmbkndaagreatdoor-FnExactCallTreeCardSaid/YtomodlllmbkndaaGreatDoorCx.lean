/- text of sets of letters; strings.Builder's WriteByte. Condition: letters. The model's l1Set. Condition: texts of at most 2^40 bytes. Ascending letters. No condition. -/
import Derived.Test.YtomodlllmbkndaaGreatDoorA4
import Derived.Test.YtomodlllmbkndaaGreatDoorA1
import Derived.Test.YtomodlllmbkndaaGreatDoorA3
import Derived.Test.YtomodlllmbkndaaGreatDoorBx
import Derived.Deep.AppendLies
namespace Go.Proofs.YtomodlllmbkndaaGreatDoor
open Go.RowKit Gram

set_option maxHeartbeats 2000000 in
set_option maxRecDepth 100000 in
theorem writeByte_any (B b : Nat) (bs : List Value) (c : UInt8) (w : World) (h : Lib.IsBuilder 82 5 B b bs w) (hlen : bs.length + 1 ≤ 140737488355328) (hBw : B ≤ w.heap.size) :
    Calls Tryz.prog 49 #[.pointer (some ⟨b, 0, none⟩), .int .u8 c.toNat] w fun e w' => e = .returned .nilIface ∧ (Lib.IsBuilder 82 5 B b (bs ++ [.int .u8 c.toNat]) w' ∧ Below B w w') := by
  obtain ⟨i0, hi, hz0, hz1, hz2⟩ := info_parts info_byte
  go_enter Tryz.func49, Tryz.ntmps49
  go_wp2_with (go_at_call 69; refine (copyCheck_any B b bs _ h).mono ?_)
  rintro e w1 ⟨rfl, h1, hb1⟩
  obtain ⟨hB, v, hbk, hown, hne⟩ := h1
  have c0 : w1.cell? ⟨b, 0, none⟩ = some (.pointer (some ⟨b, 0, none⟩)) := by rw [Lib.cell_of_heap hbk]; rfl
  have c1 : w1.cell? ⟨b, 1, none⟩ = some v := by rw [Lib.cell_of_heap hbk]; rfl
  have HK := Lib.hid hbk
  have HO := Lib.hid hown
  have HNE := Lib.hid hne
  have HB1 := Lib.hid hb1
  have hz1' := hb1.size
  clear hbk hown hne hb1
  go_wp2_with (at_builtin; refine wpList_append_lies _ rfl _ _ 22 rfl B 5 i0 (.int .u8 0) 1 1 Tryz.underlying22 hi hz0 hz1 hz2 rfl (by decide) v bs.length bs rfl (HO.out.alloc _) ⟨w1.heap.size, 0, none⟩ 1 1 [.int .u8 c.toNat] rfl rfl (cell_one_new _ _ _) (by intro u hu; simp at hu; subst hu; rfl) (by decide) (by unfold maxLen; omega) (by omega) (by rw [alloc_size']; omega) _ rfl ?_)
  intro g' cap' w2 hown' hgrow hat _
  have hlt : b < w1.heap.size := (Array.getElem?_eq_some_iff.1 HK.out).1
  have hb2 : w2.heap[b]? = some (.cells #[.pointer (some ⟨b, 0, none⟩), v] 82 (0, 0)) := by
    rw [hgrow.block b (by rw [alloc_size']; omega) (fun e => HNE.out e.symm), Lib.alloc_old _ _ _ hlt]
    exact HK.out
  have d0 : w2.cell? ⟨b, 0, none⟩ = some (.pointer (some ⟨b, 0, none⟩)) := by rw [Lib.cell_of_heap hb2]; rfl
  have d1 : w2.cell? ⟨b, 1, none⟩ = some v := by rw [Lib.cell_of_heap hb2]; rfl
  have f1 : w2.frozen? ⟨b, 1, none⟩ = false := Lib.frozen_of_heap hb2 1
  have HN := Lib.hid (And.intro hown' (And.intro hgrow (And.intro hb2 hat)))
  clear hown' hgrow hb2 hat
  go_wp2
  go_ret
  obtain ⟨hown', hgrow, hb2, hat⟩ := HN.out
  refine ⟨rfl, .inr ?_, ?_⟩
  · exact Lib.BuilderAt.put (T := 82) (e := 5) hB hb2 (bs' := bs ++ [.int .u8 c.toNat]) (by simpa using hown') (by decide)
  · exact (((HB1.out.alloc (by omega) _).grown hgrow (by rw [alloc_size']; omega) (fun k hk => (HO.out.lt k hk).1))).setCell (p := ⟨b, 1, none⟩) hB _

theorem byte_cells {w : World} {b : Nat} {l : List UInt8} {e : TypeId} (hb : w.heap[b]? = some (.cells (l.map fun c => Value.int .u8 (c.toNat : Int)).toArray e (0, 0))) :
    ∀ j (hj : j < l.length), w.cell? ((⟨b, 0, none⟩ : Addr).add j) = some (.int .u8 (l[j].toNat : Int)) := fun j hj => by
  have hadd : (⟨b, 0, none⟩ : Addr).add j = ⟨b, j, none⟩ := by unfold Addr.add; split <;> simp_all
  rw [hadd, Lib.cell_of_heap hb]
  simp [hj]
theorem chr1 (c : UInt8) (w : World) (b : Nat) (hb : b = w.heap.size) :
    (convert 22 9 (.slice (some ⟨b, 0, none⟩) 1 1)).run Tryz.prog (w.alloc (Obj.cells #[.int .u8 (c.toNat : Int)] 5)) =
      .ok (.string ⟨#[c]⟩) (w.alloc (Obj.cells #[.int .u8 (c.toNat : Int)] 5)) := by
  subst hb
  exact run_convert_bytes_back (P := Tryz.prog) _ 22 9 5 ⟨w.heap.size, 0, none⟩ 1 [c] Tryz.underlying22 Tryz.underlying5 Tryz.underlying9 (byte_cells (e := 5) (heap_alloc_new _ _))

/-- the letters of l below n, in ascending order -/
def upTo (l : List UInt8) (n : Nat) : List UInt8 := ((List.range' 97 (n - 97)).map UInt8.ofNat).filter fun c => l.contains c
theorem upTo_step (l : List UInt8) (c : UInt8) (h : 97 ≤ c.toNat) : upTo l (c.toNat + 1) = upTo l c.toNat ++ if l.contains c = true then [c] else [] := by
  have e1 : c.toNat + 1 - 97 = (c.toNat - 97) + 1 := by omega
  have e2 : UInt8.ofNat (97 + 1 * (c.toNat - 97)) = c := by rw [show 97 + 1 * (c.toNat - 97) = c.toNat by omega]; simp
  rw [upTo, upTo, e1, List.range'_concat, List.map_append, List.filter_append]
  simp only [List.map_cons, List.map_nil, e2]
  congr 1
  rw [List.filter_cons]
  rfl
theorem upTo_len (l : List UInt8) (n : Nat) : (upTo l n).length ≤ n := by
  refine Nat.le_trans (List.length_filter_le ..) ?_
  simp
def setText (l : List UInt8) : List UInt8 := upTo l 123

set_option maxHeartbeats 2000000 in
theorem text_set (l : List UInt8) (hl : lets l) (w : World) :
    Calls Tryz.prog 34 #[.int .u32 (setOf l)] w fun e w' => e = .returned (.string ⟨(setText l).toArray⟩) ∧ Below w.heap.size w w' := by
  have HLets := Lib.hid hl
  clear hl
  go_enter Tryz.func34, Tryz.ntmps34
  go_wp2_with fail
  go_loopw [4] (fun i wr => ∃ n : Nat, 97 ≤ n ∧ n ≤ 123 ∧ i = .int .u8 n ∧ Hid (Lib.IsBuilder 82 5 w.heap.size w.heap.size (Lib.byteCells (upTo l n)) wr) ∧ Below w.heap.size w wr) (fun i _ => 123 - (intOf i).toNat)
  case atStart =>
    exact ⟨97, by omega, by omega, by go_num, Lib.fresh_isBuilder 82 5 w, (Below.refl _ _).alloc (Nat.le_refl _) _⟩
  case round =>
    obtain ⟨n, h97, h123, rfl, hI, hb⟩ := hrel
    have hsz := hb.size
    by_cases hlt : n ≤ 122
    · obtain ⟨c, rfl⟩ : ∃ c : UInt8, n = c.toNat := ⟨UInt8.ofNat n, by rw [UInt8.toNat_ofNat']; omega⟩
      have hc : isLet c = true := by rw [isLet_int]; simp; omega
      have HH := Lib.hid (fun w => has_set l c HLets.out hc w)
      have HT := Lib.hid (upTo_step l c h97)
      have e1 : IntKind.u8.wrap ((c.toNat : Int) + 1) = ((c.toNat + 1 : Nat) : Int) := by rw [IntWalk.u8_in _ (by omega)]; omega
      have hlen := upTo_len l c.toNat
      cases hin : l.contains c with
      | true =>
        rw [hin] at HH HT
        have HW := Lib.hid (writeByte_any w.heap.size w.heap.size (Lib.byteCells (upTo l c.toNat)) c wr hI.out (by rw [Lib.byteCells_length]; omega) hsz)
        clear hin hc
        go_wp2_with fail
        refine (HH.out _).mono ?_
        rintro e w2 ⟨rfl, rfl⟩
        go_wp2_with fail
        refine HW.out.mono ?_
        rintro e w3 ⟨rfl, hI3, hb3⟩
        have HI3 := Lib.hid hI3
        clear hI3
        go_wp2_with fail
        go_roundw
        case rel =>
          refine ⟨c.toNat + 1, by omega, by omega, by go_num, ?_, hb.trans hb3⟩
          show Lib.IsBuilder _ _ _ _ _ _
          rw [HT.out, if_pos (by simp), Lib.byteCells_append]
          exact HI3.out
        case measure => simp [intOf]; omega
      | false =>
        rw [hin] at HH HT
        clear hin hc
        go_wp2_with fail
        refine (HH.out _).mono ?_
        rintro e w2 ⟨rfl, rfl⟩
        go_wp2_with fail
        go_roundw
        case rel =>
          refine ⟨c.toNat + 1, by omega, by omega, by go_num, ?_, hb⟩
          show Lib.IsBuilder _ _ _ _ _ _
          rw [HT.out, if_neg (by simp), List.append_nil]
          exact hI.out
        case measure => simp [intOf]; omega
    · have hn : n = 123 := by omega
      subst hn
      go_wp2_with fail
      refine (Tryz.Builder_String_any w.heap.size w.heap.size (upTo l 123) _ hI.out hsz).mono ?_
      rintro e w2 ⟨rfl, hb2⟩
      go_wp2_with fail
      go_ret
      exact ⟨rfl, hb.trans hb2⟩

end Go.Proofs.YtomodlllmbkndaaGreatDoor
namespace Go.Proofs.YtomodlllmbkndaaGreatDoor
open Go.RowKit Gram

end Go.Proofs.YtomodlllmbkndaaGreatDoor
namespace Go.Proofs.YtomodlllmbkndaaGreatDoor
open Go.RowKit Gram

theorem filter_step (l : List UInt8) (c : UInt8) (h : asc l) : (l.filter fun d => decide (d.toNat < c.toNat + 1)) = (l.filter fun d => decide (d.toNat < c.toNat)) ++ if l.contains c = true then [c] else [] := by
  induction l with
  | nil => simp
  | cons a t ih =>
    rw [asc, List.pairwise_cons] at h
    have ih' := ih h.2
    rcases Nat.lt_trichotomy a.toNat c.toNat with h1 | h1 | h1
    · have hne : c ≠ a := fun e => by rw [e] at h1; omega
      rw [List.filter_cons_of_pos (by simp; omega), List.filter_cons_of_pos (by simp; omega), ih', List.cons_append]
      simp [hne]
    · have he : a = c := UInt8.toNat.inj h1
      subst he
      have e1 : (t.filter fun d => decide (d.toNat < a.toNat + 1)) = [] := by rw [List.filter_eq_nil_iff]; intro d hd; have := h.1 d hd; simp; omega
      have e2 : (t.filter fun d => decide (d.toNat < a.toNat)) = [] := by rw [List.filter_eq_nil_iff]; intro d hd; have := h.1 d hd; simp; omega
      rw [List.filter_cons_of_pos (by simp), List.filter_cons_of_neg (by simp), e1, e2]
      simp
    · have e1 : (t.filter fun d => decide (d.toNat < c.toNat + 1)) = [] := by rw [List.filter_eq_nil_iff]; intro d hd; have := h.1 d hd; simp; omega
      have e2 : (t.filter fun d => decide (d.toNat < c.toNat)) = [] := by rw [List.filter_eq_nil_iff]; intro d hd; have := h.1 d hd; simp; omega
      have hne : ¬ (a :: t).contains c = true := by
        rw [List.contains_iff_mem, List.mem_cons]
        rintro (e | e)
        · rw [e] at h1; omega
        · have := h.1 c e; omega
      rw [List.filter_cons_of_neg (by simp; omega), List.filter_cons_of_neg (by simp; omega), e1, e2, if_neg hne]; rfl
theorem upTo_asc (l : List UInt8) (h : asc l) (hl : lets l) : setText l = l := by
  have key : ∀ n, n ≤ 26 → upTo l (97 + n) = l.filter fun d => decide (d.toNat < 97 + n) := by
    intro n
    induction n with
    | zero =>
      intro _
      have : (l.filter fun d => decide (d.toNat < 97 + 0)) = [] := by rw [List.filter_eq_nil_iff]; intro d hd; have := let_rng (hl d hd); simp; omega
      rw [this]; rfl
    | succ n ih =>
      intro hn
      have hc : (UInt8.ofNat (97 + n)).toNat = 97 + n := by rw [UInt8.toNat_ofNat']; omega
      have h1 := upTo_step l (UInt8.ofNat (97 + n)) (by omega)
      have h2 := filter_step l (UInt8.ofNat (97 + n)) h
      rw [hc] at h1 h2
      rw [← Nat.add_assoc, h1, h2, ih (by omega)]
  have := key 26 (by omega)
  rw [setText, this, List.filter_eq_self]
  intro d hd
  have := let_rng (hl d hd)
  simp; omega
end Go.Proofs.YtomodlllmbkndaaGreatDoor
