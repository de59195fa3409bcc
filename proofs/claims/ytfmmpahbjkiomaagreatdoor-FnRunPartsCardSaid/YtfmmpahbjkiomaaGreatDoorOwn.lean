/- oneLetter, names, calls and size of procedures, callsOwn. Condition: a program as readProgram lays it. -/
import Derived.Test.YtfmmpahbjkiomaaGreatDoorPRow
import Derived.Test.YtfmmpahbjkiomaaGreatDoorBits
import Derived.Test.YtfmmpahbjkiomaaGreatDoorOpen2
import Derived.Test.YtfmmpahbjkiomaaGreatDoorEach
import Derived.Shelf.Abstract
namespace Go.Proofs.YtfmmpahbjkiomaaGreatDoor
open Go.RowKit Gram

theorem setFrom_snoc (l : List UInt8) (c : UInt8) (m : Nat) : setFrom m (l ++ [c]) = setFrom m l ||| bitOf c := by simp [setFrom]
theorem setOf_snoc (l : List UInt8) (c : UInt8) : setOf (l ++ [c]) = setOf l ||| bitOf c := setFrom_snoc l c 0

def namesQ (qs : List Qr) : List UInt8 := qs.map fun q => q.1.1
theorem namesQ_take (qs : List Qr) (k : Nat) (hk : k < qs.length) : namesQ (qs.take (k + 1)) = namesQ (qs.take k) ++ [qs[k].1.1] := by
  rw [List.take_succ_eq_append_getElem hk, namesQ, List.map_append]; rfl
theorem namesQ_lets {qs : List Qr} (hg : ∀ q ∈ qs, Good q.1) : lets (namesQ qs) := by
  intro c hc
  obtain ⟨q, hq, rfl⟩ := List.mem_map.1 hc
  exact (hg q hq).2.2.2

set_option maxHeartbeats 1000000 in
theorem names_set {w : World} {B : Nat} {S : Nat → Prop} {qs : List Qr} {v : Value} (h : IsProg w B S qs v) (hg : ∀ q ∈ qs, Good q.1) (hn : qs.length ≤ 1048576) :
    Calls Tryz.prog 28 #[v] w fun e w' => e = .returned (.int .u32 (setOf (namesQ qs))) ∧ Below w.heap.size w w' := by
  obtain ⟨a, c, rfl⟩ := h.form
  have H := Lib.hid h
  have HG := Lib.hid hg
  generalize hln : qs.length = ln at *
  have HL := Lib.hid hln
  clear h hg hln
  go_enter Tryz.func28, Tryz.ntmps28
  go_wp2_with fail
  go_loopw [3, 8] (fun m i wr => ∃ k : Nat, k ≤ ln ∧ i = .int .i64 k ∧ m = .int .u32 (setOf (namesQ (qs.take k))) ∧ Hid (Below w.heap.size w wr)) (fun _ i _ => ln - (intOf i).toNat)
  case atStart => exact ⟨0, Nat.zero_le _, by go_num, rfl, Below.refl _ _⟩
  case round =>
    obtain ⟨k, hk, rfl, rfl, hb⟩ := hrel
    by_cases hlt : k < ln
    · have hkq : k < qs.length := by rw [HL.out]; exact hlt
      obtain ⟨g, rfl, _, c0, c1⟩ := (H.out).get k hkq
      have hgl : g < w.heap.size := World.block_lt_of_cell? w _ c0
      have d0 : wr.cell? ⟨g, k * 2, none⟩ = some (.int .u8 qs[k].1.1.toNat) := by rw [hb.out.cell (p := ⟨g, k * 2, none⟩) hgl]; exact c0
      have d1 : wr.cell? ⟨g, k * 2 + 1, none⟩ = some qs[k].2 := by rw [hb.out.cell (p := ⟨g, k * 2 + 1, none⟩) hgl]; exact c1
      have hq := HG.out qs[k] (List.getElem_mem hkq)
      obtain ⟨ba, bn, bc, hbv⟩ := (H.out.body qs[k] (List.getElem_mem hkq)).form
      rw [hbv] at d1
      have h1 := bit_lt hq.2.2.2
      have h2 := setOf_lt _ (namesQ_lets (qs := qs.take k) fun q hq => HG.out q (List.mem_of_mem_take hq))
      have e1 := or32 (setOf (namesQ (qs.take k))) (bitOf qs[k].1.1) (by omega) (by omega)
      have HT := Lib.hid (namesQ_take qs k hkq)
      have HO := Lib.hid (fun w => one_letter qs[k].1.1 hq.2.2.2 w)
      clear c0 c1 hgl hq hbv h1 h2
      go_wp2_with fail
      refine (HO.out _).mono ?_
      rintro e w2 ⟨rfl, rfl⟩
      go_wp2_with fail
      go_roundw
      case rel =>
        refine ⟨k + 1, by omega, by go_num, ?_, hb.out.alloc hb.out.size _⟩
        rw [HT.out, setOf_snoc]
      case measure => simp [intOf]; omega
    · have hall : qs.take k = qs := List.take_of_length_le (by rw [HL.out]; omega)
      rw [hall]
      go_wp2_with fail
      go_ret
      exact ⟨rfl, hb.out⟩

/-- the visitor of calls -/
def stepC (m : Nat) : Stm → Nat
  | .call c => m ||| bitOf c
  | _ => m
def okC (m : Nat) (x : Stm) : Prop := m < 67108864 ∧ ∀ c, x = .call c → isLet c = true

theorem tc_chg (pv : Value) (w : World) : (Instr.typeAssert (.iface 196 pv) 103 114 true).run Tryz.prog w = .ok (.tuple #[.agg #[.int .u8 0], .bool false]) w := by kernel_rfl
theorem tc_prt (pv : Value) (w : World) : (Instr.typeAssert (.iface 209 pv) 103 114 true).run Tryz.prog w = .ok (.tuple #[.agg #[.int .u8 0], .bool false]) w := by kernel_rfl
theorem tc_pro (pv : Value) (w : World) : (Instr.typeAssert (.iface 219 pv) 103 114 true).run Tryz.prog w = .ok (.tuple #[.agg #[.int .u8 0], .bool false]) w := by kernel_rfl
theorem tc_cho (pv : Value) (w : World) : (Instr.typeAssert (.iface 148 pv) 103 114 true).run Tryz.prog w = .ok (.tuple #[.agg #[.int .u8 0], .bool false]) w := by kernel_rfl
theorem tc_call (pv : Value) (w : World) : (Instr.typeAssert (.iface 114 pv) 103 114 true).run Tryz.prog w = .ok (.tuple #[pv, .bool true]) w := by kernel_rfl

set_option maxHeartbeats 1000000 in
theorem visits_calls : Visits 102 60 (fun n => .int .u32 n) stepC okC := by
  intro w S c a x ty pv ho hx hc
  have hlt := heap_lt hc
  have HC := Lib.hid hc
  have keep : ∀ o, (w.alloc o).heap[c]? = w.heap[c]? := fun o => Lib.alloc_old w o c hlt
  cases x with
  | pro =>
    simp only [IsStm] at hx
    injection hx with h1 h2; subst h1; subst h2
    have ht := tc_pro
    clear hc keep
    go_enter Tryz.func102, Tryz.ntmps102
    go_wp2_with fail
    go_end0
    exact ⟨rfl, by rw [Lib.alloc_old w _ c hlt]; exact HC.out, but_alloc _ _ _⟩
  | chg g d =>
    simp only [IsStm] at hx
    injection hx with h1 h2; subst h1; subst h2
    have ht := tc_chg
    clear hc keep
    go_enter Tryz.func102, Tryz.ntmps102
    go_wp2_with fail
    go_end0
    exact ⟨rfl, by rw [Lib.alloc_old w _ c hlt]; exact HC.out, but_alloc _ _ _⟩
  | prt =>
    simp only [IsStm] at hx
    injection hx with h1 h2; subst h1; subst h2
    have ht := tc_prt
    clear hc keep
    go_enter Tryz.func102, Tryz.ntmps102
    go_wp2_with fail
    go_end0
    exact ⟨rfl, by rw [Lib.alloc_old w _ c hlt]; exact HC.out, but_alloc _ _ _⟩
  | cho p q =>
    simp only [IsStm] at hx
    obtain ⟨va, vb, vas, vbs, he, _⟩ := hx
    injection he with h1 h2; subst h1; subst h2
    have ht := tc_cho
    clear hc keep
    go_enter Tryz.func102, Tryz.ntmps102
    go_wp2_with fail
    go_end0
    exact ⟨rfl, by rw [Lib.alloc_old w _ c hlt]; exact HC.out, but_alloc _ _ _⟩
  | call d =>
    have hl := ho.2 d rfl
    have hlo := ho.1
    simp only [IsStm] at hx
    injection hx with h1 h2; subst h1; subst h2
    have ht := tc_call
    have hb := bit_lt hl
    have e1 := or32 a (bitOf d) (by omega) (by omega)
    have HO := Lib.hid (fun w => one_letter d hl w)
    have q0 : ∀ o, (w.alloc o).cell? ⟨c, 0, none⟩ = some (.int .u32 a) := fun o => by rw [cell_get (by rw [keep]; exact hc)]; rfl
    have q1 : ∀ o, (w.alloc o).frozen? ⟨c, 0, none⟩ = false := fun o => Lib.frozen_of_heap (by rw [keep]; exact hc) 0
    have HK := Lib.hid keep
    clear hc keep hl hb ho hlo
    go_enter Tryz.func102, Tryz.ntmps102
    go_wp2_with fail
    go_region_with ((first | (go_at_call 42; refine (HO.out _).mono ?_; rintro e w2 ⟨rfl, rfl⟩)))
    all_goals
      go_end0
      exact ⟨rfl, call_end HC.out _ _⟩
end Go.Proofs.YtfmmpahbjkiomaaGreatDoor
