/- A strings.Builder that is written byte by byte: WriteByte, walked in this translation, as a call and as a deferred one; what stays. Condition: what is held takes at most 2^40 bytes. -/
import Derived.Test.YtomodlllmbkndaaGreatDoorBx
import Derived.Test.YtomodlllmbkndaaGreatDoorA3
import Derived.Deep.AppendLies
import Derived.Defers
import Derived.Tactics
namespace Go.Proofs.YtomodlllmbkndaaGreatDoor
open Go.RowKit

/-- blocks that hold neither builders nor bytes stay -/
def Rest (w w' : World) : Prop := ∀ (k : Nat) (cur : Array Value) (e : TypeId) (fz : Nat × Nat), w.heap[k]? = some (.cells cur e fz) → e ≠ 82 → e ≠ 5 → w'.heap[k]? = some (.cells cur e fz)
theorem Rest.refl (w : World) : Rest w w := fun _ _ _ _ h _ _ => h
theorem Rest.trans {a b c : World} (h : Rest a b) (h' : Rest b c) : Rest a c := fun k cur e fz hk h1 h2 => h' k cur e fz (h k cur e fz hk h1 h2) h1 h2
theorem Rest.of_below {w w' : World} (h : Below w.heap.size w w') : Rest w w' := fun k cur e fz hk _ _ => by rw [h.block k (heap_lt hk)]; exact hk
theorem Rest.set {w : World} {b i : Nat} {cur : Array Value} {fz : Nat × Nat} (h : w.heap[b]? = some (.cells cur 82 fz)) (u : Value) : Rest w (w.setCell ⟨b, i, none⟩ u) := fun k cur' e fz' hk h1 _ => by
  rw [heap_set_other]
  · exact hk
  · rintro rfl
    rw [h] at hk
    injection hk with hk
    injection hk with _ ht _
    exact h1 ht.symm
theorem Rest.grown {w w' : World} {B n : Nat} {v : Value} {xs : List Value} (hr : w.ownsRow B 5 1 v n xs) (h : w.grownBy w' v.ownBlock) : Rest w w' := fun k cur e fz hk _ h2 => by
  rw [h.block k (heap_lt hk)]
  · exact hk
  · intro he
    rcases hr.2 with ⟨h1, _⟩ | ⟨g', cap, cur', h1, _, hc, _⟩
    · rw [h1] at he; cases he
    · rw [h1] at he
      have : k = g' := by simpa [Value.ownBlock] using he
      subst this
      rw [hk] at hc
      injection hc with hc
      injection hc with _ ht _
      exact h2 ht

theorem copyCheck_rest (B b : Nat) (bs : List Value) (w : World) (h : Lib.IsBuilder 82 5 B b bs w) :
    Calls Tryz.prog 69 #[.pointer (some ⟨b, 0, none⟩)] w fun e w' => e = .returned (.tuple #[]) ∧ (Lib.BuilderAt 82 5 B b (.pointer (some ⟨b, 0, none⟩)) bs w' ∧ Below B w w') ∧ Rest w w' := by
  rcases h with h | h
  · refine (copyCheck_fresh b w h.cell0 h.shape h.frozen0).mono ?_
    rintro e w' ⟨rfl, rfl⟩
    obtain ⟨_, v, hb, _⟩ := id h
    exact ⟨rfl, ⟨h.used _, (Below.refl B w).setCell (p := ⟨b, 0, none⟩) h.1 _⟩, Rest.set hb _⟩
  · refine (copyCheck_used b w h.cell0).mono ?_
    rintro e w' ⟨rfl, rfl⟩
    exact ⟨rfl, ⟨h, Below.refl _ _⟩, Rest.refl _⟩

/-- what WriteByte does -/
def WbTo (B b : Nat) (l : List UInt8) (c : UInt8) (w : World) (e : Ending) (w' : World) : Prop :=
  e = .returned .nilIface ∧ Lib.IsBuilder 82 5 B b (Lib.byteCells (l ++ [c])) w' ∧ Below B w w' ∧ Rest w w'
theorem byteCells_snoc (l : List UInt8) (c : UInt8) : Lib.byteCells (l ++ [c]) = Lib.byteCells l ++ [.int .u8 (c.toNat : Int)] := by simp [Lib.byteCells]

set_option maxHeartbeats 2000000 in
set_option maxRecDepth 100000 in
theorem wb_code (B b : Nat) (l : List UInt8) (c : UInt8) (w : World) (h : Lib.IsBuilder 82 5 B b (Lib.byteCells l) w) (hl : l.length ≤ 1099511627776) (hBw : B ≤ w.heap.size) :
    ∃ cd, Tryz.f49.body = some cd ∧ cd.wp Tryz.prog (bodyPost Tryz.prog Tryz.f49 (WbTo B b l c w))
      { tmps := #[Value.pointer (some ⟨b, 0, none⟩), .int .u8 (c.toNat : Int)] ++ Array.replicate (Tryz.f49.ntmps - (#[Value.pointer (some ⟨b, 0, none⟩), .int .u8 (c.toNat : Int)]).size) undef, defers := [] } w := by
  obtain ⟨i0, hi, hz0, hz1, hz2⟩ := info_parts info_byte
  have HC := Lib.hid (copyCheck_rest B b _ w h)
  have hbl : (Lib.byteCells l).length ≤ 1099511627776 := by rw [Lib.byteCells_length]; exact hl
  have HG := Lib.hid (show ∀ e w', (e = .returned .nilIface ∧ Lib.IsBuilder 82 5 B b (Lib.byteCells l ++ [.int .u8 (c.toNat : Int)]) w' ∧ Below B w w' ∧ Rest w w') → WbTo B b l c w e w' from fun e w' hh => by unfold WbTo; rw [byteCells_snoc]; exact hh)
  clear h
  generalize Lib.byteCells l = bs at *
  refine ⟨_, rfl, ?_⟩
  simp only [Tryz.ntmps49, List.size_toArray, List.length_cons, List.length_nil, Nat.reduceAdd, Nat.reduceSub, Array.replicate_succ, Array.replicate_zero, List.push_toArray, List.append_toArray, List.nil_append, List.cons_append]
  go_wp2_with fail
  refine HC.out.mono ?_
  rintro e w1 ⟨rfl, ⟨h1, hb1⟩, hr1⟩
  obtain ⟨hB, v, hbk, hown, hne⟩ := h1
  have hs1 := hb1.size
  have hblt := heap_lt hbk
  have HBK := Lib.hid hbk
  have HOW := Lib.hid hown
  have HB1 := Lib.hid hb1
  have HR1 := Lib.hid hr1
  have c0 : w1.cell? ⟨b, 0, none⟩ = some (.pointer (some ⟨b, 0, none⟩)) := by rw [Lib.cell_of_heap hbk]; rfl
  have c1 : w1.cell? ⟨b, 1, none⟩ = some v := by rw [Lib.cell_of_heap hbk]; rfl
  have HOW2 := Lib.hid (ownsRow_of (w' := w1.alloc (Obj.cells #[.int .u8 (c.toNat : Int)] 5)) hown (fun j hj => Lib.alloc_old _ _ _ (hown.lt j hj).2))
  have HNw := Lib.hid (show ∀ (j : Nat) (u : Value), [Value.int .u8 (c.toNat : Int)][j]? = some u → (w1.alloc (Obj.cells #[.int .u8 (c.toNat : Int)] 5)).cell? ((⟨w1.heap.size, 0, none⟩ : Addr).add j) = some u from World.news_of_block (cs := #[.int .u8 (c.toNat : Int)]) (heap_alloc_new _ _))
  have HNE := Lib.hid hne
  clear hbk hown hb1 hr1 hne
  go_wp2_with (at_builtin; go_loud (refine wpList_append_lies _ rfl _ _ 22 rfl B 5 i0 (.int .u8 0) 1 1 Tryz.underlying22 hi hz0 hz1 hz2 rfl (by decide) v bs.length bs rfl HOW2.out ⟨w1.heap.size, 0, none⟩ 1 1 [.int .u8 (c.toNat : Int)] rfl rfl HNw.out (by intro u hu; simp at hu; subst hu; rfl) (by decide) (by unfold maxLen; omega) (by omega) (by rw [alloc_size']; omega) _ rfl ?_))
  intro g' cap' w2 hown' hgrow hat hlt'
  have hb2 : w2.heap[b]? = some (.cells #[.pointer (some ⟨b, 0, none⟩), v] 82 (0, 0)) := by
    rw [hgrow.block b (by rw [alloc_size']; omega) (fun e => HNE.out e.symm), Lib.alloc_old _ _ _ hblt]
    exact HBK.out
  have d0 : w2.cell? ⟨b, 0, none⟩ = some (.pointer (some ⟨b, 0, none⟩)) := by rw [Lib.cell_of_heap hb2]; rfl
  have d1 : w2.cell? ⟨b, 1, none⟩ = some v := by rw [Lib.cell_of_heap hb2]; rfl
  have f1 : w2.frozen? ⟨b, 1, none⟩ = false := Lib.frozen_of_heap hb2 1
  have HPUT := Lib.hid (Lib.BuilderAt.put (T := 82) (e := 5) hB hb2 (bs' := bs ++ [.int .u8 (c.toNat : Int)]) (by simpa using hown') (by decide))
  have hba : Below w1.heap.size w1 (w1.alloc (Obj.cells #[.int .u8 (c.toNat : Int)] 5)) := (Below.refl _ _).alloc (Nat.le_refl _) _
  have HBe := Lib.hid ((((HB1.out.trans (hba.mono (by omega))).grown hgrow (by rw [alloc_size']; omega) (fun k hk => (HOW.out.lt k hk).1))).setCell (p := ⟨b, 1, none⟩) hB (.slice (some ⟨g', 0, none⟩) (bs.length + 1) cap'))
  have HRe := Lib.hid (((HR1.out.trans (Rest.of_below hba)).trans (Rest.grown HOW2.out hgrow)).trans (Rest.set (i := 1) hb2 (.slice (some ⟨g', 0, none⟩) (bs.length + 1) cap')))
  clear hb2 hgrow hown' hat hlt' hba
  go_wp2
  go_ret
  exact HG.out _ _ ⟨rfl, .inr HPUT.out, HBe.out, HRe.out⟩
theorem wb_any (B b : Nat) (l : List UInt8) (c : UInt8) (w : World) (h : Lib.IsBuilder 82 5 B b (Lib.byteCells l) w) (hl : l.length ≤ 1099511627776) (hBw : B ≤ w.heap.size) :
    Calls Tryz.prog 49 #[.pointer (some ⟨b, 0, none⟩), .int .u8 (c.toNat : Int)] w (WbTo B b l c w) := by
  obtain ⟨cd, h1, h2⟩ := wb_code B b l c w h hl hBw
  exact calls_of_wp Tryz.func49 h1 h2
theorem wb_late (B b : Nat) (l : List UInt8) (c : UInt8) (u : FrameMode) (w : World) (h : Lib.IsBuilder 82 5 B b (Lib.byteCells l) w) (hl : l.length ≤ 1099511627776) (hBw : B ≤ w.heap.size) :
    CallsD Tryz.prog 49 #[.pointer (some ⟨b, 0, none⟩), .int .u8 (c.toNat : Int)] u w fun e u' w' => u' = u ∧ WbTo B b l c w e w' := by
  obtain ⟨cd, h1, h2⟩ := wb_code B b l c w h hl hBw
  exact callsD_of_wp Tryz.func49 h1 h2
end Go.Proofs.YtomodlllmbkndaaGreatDoor
