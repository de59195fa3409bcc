/- namesBehind: the set of the letters behind some of a cut's signs. Condition: cuts of at most 2^20 bytes. -/
import Derived.Test.YtfmbfbbmhnplcaaEcut
import Derived.Test.YtfmbfbbmhnplcaaIdx
namespace Go.Proofs.Ytfmbfbbmhnplcaa
open Go.RowKit Gram

/-- the letters behind some signs -/
def behind (sg : List UInt8) : Ct → List UInt8
  | .lt g c => if sg.contains g = true then [c] else []
  | .opp x => behind sg x
  | .two _ x y => behind sg x ++ behind sg y
  | _ => []
def stepN (sg : List UInt8) (m : Nat) : Ct → Nat
  | .lt g c => if sg.contains g = true then m ||| bitOf c else m
  | _ => m
def okN (m : Nat) (x : Ct) : Prop := m < 67108864 ∧ x.wf = true

theorem fold_behind (sg : List UInt8) : ∀ (x : Ct) (m : Nat), x.flat.foldl (stepN sg) m = setFrom m (behind sg x)
  | .prt, m => rfl
  | .fix b, m => rfl
  | .lt g c, m => by
    simp only [Ct.flat, List.foldl_cons, List.foldl_nil, stepN, behind]
    split <;> rfl
  | .opp x, m => by
    simp only [Ct.flat, List.foldl_cons, stepN, behind]
    exact fold_behind sg x m
  | .two g x y, m => by
    simp only [Ct.flat, List.foldl_cons, stepN, behind, List.foldl_append]
    rw [fold_behind sg x m, fold_behind sg y]
    simp [setFrom]
theorem behind_lets (sg : List UInt8) : ∀ (x : Ct), x.wf = true → lets (behind sg x)
  | .prt, _ => by intro c hc; cases hc
  | .fix b, _ => by intro c hc; cases hc
  | .lt g c, h => by
    simp only [Ct.wf, Bool.and_eq_true] at h
    intro d hd
    simp only [behind] at hd
    split at hd
    · simp at hd; rw [hd]; exact h.2
    · cases hd
  | .opp x, h => behind_lets sg x h
  | .two g x y, h => by
    simp only [Ct.wf, Bool.and_eq_true] at h
    intro d hd
    simp only [behind, List.mem_append] at hd
    rcases hd with hd | hd
    · exact behind_lets sg x h.2.1 d hd
    · exact behind_lets sg y h.2.2 d hd
theorem flat_wf : ∀ (x : Ct), x.wf = true → ∀ y ∈ x.flat, y.wf = true
  | .prt, h, y, hy => by simp [Ct.flat] at hy; rw [hy]; rfl
  | .fix b, h, y, hy => by simp [Ct.flat] at hy; rw [hy]; rfl
  | .lt g c, h, y, hy => by simp [Ct.flat] at hy; rw [hy]; exact h
  | .opp x, h, y, hy => by
    simp only [Ct.flat, List.mem_cons] at hy
    rcases hy with rfl | hy
    · exact h
    · exact flat_wf x h y hy
  | .two g a b, h, y, hy => by
    have h' := h
    simp only [Ct.wf, Bool.and_eq_true] at h'
    simp only [Ct.flat, List.mem_cons, List.mem_append] at hy
    rcases hy with rfl | hy | hy
    · exact h
    · exact flat_wf a h'.2.1 y hy
    · exact flat_wf b h'.2.2 y hy
theorem stepN_lt (sg : List UInt8) (m : Nat) (x : Ct) (h : okN m x) : stepN sg m x < 67108864 := by
  cases x with
  | lt g c =>
    have hw := h.2
    simp only [Ct.wf, Bool.and_eq_true] at hw
    simp only [stepN]
    split
    · exact Nat.or_lt_two_pow (n := 26) h.1 (bit_lt hw.2)
    · exact h.1
  | prt => exact h.1
  | fix b => exact h.1
  | opp x => exact h.1
  | two g x y => exact h.1
theorem okAllN (sg : List UInt8) (l : List Ct) : ∀ m, m < 67108864 → (∀ y ∈ l, y.wf = true) → okAllC (stepN sg) okN m l := by
  induction l with
  | nil => intros; trivial
  | cons x t ih =>
    intro m hm hl
    have hx := hl x List.mem_cons_self
    exact ⟨⟨hm, hx⟩, ih _ (stepN_lt sg m x ⟨hm, hx⟩) (fun y hy => hl y (List.mem_cons_of_mem _ hy))⟩

theorem tl_prt (pv : Value) (w : World) : (Instr.typeAssert (.iface 82 pv) 29 66 true).run Try.prog w = .ok (.tuple #[.agg #[.int .u8 0, .int .u8 0], .bool false]) w := by kernel_rfl
theorem tl_fix (pv : Value) (w : World) : (Instr.typeAssert (.iface 85 pv) 29 66 true).run Try.prog w = .ok (.tuple #[.agg #[.int .u8 0, .int .u8 0], .bool false]) w := by kernel_rfl
theorem tl_opp (pv : Value) (w : World) : (Instr.typeAssert (.iface 60 pv) 29 66 true).run Try.prog w = .ok (.tuple #[.agg #[.int .u8 0, .int .u8 0], .bool false]) w := by kernel_rfl
theorem tl_two (pv : Value) (w : World) : (Instr.typeAssert (.iface 31 pv) 29 66 true).run Try.prog w = .ok (.tuple #[.agg #[.int .u8 0, .int .u8 0], .bool false]) w := by kernel_rfl
theorem tl_lt (pv : Value) (w : World) : (Instr.typeAssert (.iface 66 pv) 29 66 true).run Try.prog w = .ok (.tuple #[pv, .bool true]) w := by kernel_rfl

theorem Caught.alloc {d c : Nat} {sg : ByteArray} {w : World} {a : Nat} (h : Caught d c sg w a) (o : Obj) : Caught d c sg (w.alloc o) a :=
  ⟨by rw [Lib.alloc_old _ _ _ (heap_lt h.text)]; exact h.text, by rw [Lib.alloc_old _ _ _ (heap_lt h.set)]; exact h.set⟩
theorem Caught.read {d c : Nat} {sg : ByteArray} {w : World} {a : Nat} (h : Caught d c sg w a) : w.cell? ⟨d, 0, none⟩ = some (.string sg) ∧ w.cell? ⟨c, 0, none⟩ = some (.int .u32 a) ∧ w.frozen? ⟨c, 0, none⟩ = false :=
  ⟨by rw [Lib.cell_of_heap h.text]; rfl, by rw [Lib.cell_of_heap h.set]; rfl, Lib.frozen_of_heap h.set 0⟩
theorem Caught.put {d c : Nat} {sg : ByteArray} {w : World} {a : Nat} (h : Caught d c sg w a) (b : Nat) : Caught d c sg (w.setCell ⟨c, 0, none⟩ (.int .u32 b)) b := by
  have hne : d ≠ c := by
    rintro rfl
    have := h.text.symm.trans h.set
    simp at this
  exact ⟨by rw [heap_set_other hne]; exact h.text, heap_set_same (k := 0) h.set _⟩

section
variable (d c : Nat) (sg : ByteArray)

set_option maxHeartbeats 400000 in
theorem visit_none (w : World) (a : Nat) (ty : TypeId) (pv : Value) (ht : ∀ w, (Instr.typeAssert (.iface ty pv) 29 66 true).run Try.prog w = .ok (.tuple #[.agg #[.int .u8 0, .int .u8 0], .bool false]) w) (h : Caught d c sg w a) :
    Calls Try.prog 34 #[.iface ty pv, .pointer (some ⟨d, 0, none⟩), .pointer (some ⟨c, 0, none⟩)] w fun e w' => e = .returned (.tuple #[]) ∧ Caught d c sg w' a ∧ But c w w' := by
  have HC := Lib.hid h
  clear h
  go_enter Try.func34, Try.ntmps34
  go_wp2_with fail
  go_end0
  exact ⟨rfl, HC.out.alloc _, but_alloc _ _ _⟩

theorem byte_back (g : UInt8) : ((g.toNat : Int)).toNat.toUInt8 = g := by simp

set_option maxHeartbeats 1000000 in
theorem visit_lit (w : World) (a : Nat) (g l : UInt8) (hw : isLet l = true) (ha : a < 67108864) (h : Caught d c sg w a) :
    Calls Try.prog 34 #[.iface 66 (.agg #[.int .u8 g.toNat, .int .u8 l.toNat]), .pointer (some ⟨d, 0, none⟩), .pointer (some ⟨c, 0, none⟩)] w fun e w' => e = .returned (.tuple #[]) ∧ Caught d c sg w' (if sg.data.toList.contains g = true then a ||| bitOf l else a) ∧ But c w w' := by
  have HC := Lib.hid h
  have HA := Lib.hid (h.alloc (Obj.cells #[.int .u8 g.toNat, .int .u8 l.toNat] 66))
  obtain ⟨q1, q2, q3⟩ := (h.alloc (Obj.cells #[.int .u8 g.toNat, .int .u8 l.toNat] 66)).read
  have ht := tl_lt
  have HI := Lib.hid (fun w => Try.strings_IndexByte sg g.toNat w)
  rw [byte_back] at HI
  have hi := index_has sg.data.toList g
  have hbl := bit_lt hw
  have e1 := or32 a (bitOf l) (by omega) (by omega)
  have HO := Lib.hid (fun w => one_letter l hw w)
  generalize Lib.indexByte sg.data.toList g = i at *
  clear h hbl
  cases hb : sg.data.toList.contains g with
  | false =>
    rw [hb] at hi
    rw [decide_eq_false_iff_not] at hi
    rw [if_neg (by decide)]
    clear hb
    go_enter Try.func34, Try.ntmps34
    go_wp2_with fail
    refine (HI.out _).mono ?_
    rintro e w2 ⟨rfl, rfl⟩
    go_wp2_with fail
    go_end0
    exact ⟨rfl, HA.out, but_alloc _ _ _⟩
  | true =>
    rw [hb] at hi
    rw [decide_eq_true_eq] at hi
    rw [if_pos rfl]
    clear hb
    go_enter Try.func34, Try.ntmps34
    go_wp2_with fail
    refine (HI.out _).mono ?_
    rintro e w2 ⟨rfl, rfl⟩
    go_wp2_with fail
    go_region_with ((first | (go_at_call 36; refine (HO.out _).mono ?_; rintro e w2 ⟨rfl, rfl⟩)))
    all_goals
      go_end0
      refine ⟨rfl, ?_, ?_⟩
      · have := HA.out.put (a ||| bitOf l)
        exact ⟨this.text, this.set⟩
      · have := (but_alloc c w (Obj.cells #[.int .u8 g.toNat, .int .u8 l.toNat] 66)).setCell 0 (.int .u32 ((a ||| bitOf l : Nat) : Int))
        exact ⟨this.os, this.tape, this.output, this.size, this.block⟩

theorem visits_names : VisitsC 34 d c sg (stepN sg.data.toList) okN := by
  intro w a x ho hc
  cases x with
  | prt => exact visit_none d c sg w a _ _ (tl_prt _) hc
  | fix b => exact visit_none d c sg w a _ _ (tl_fix _) hc
  | opp x => exact visit_none d c sg w a _ _ (tl_opp _) hc
  | two g x y => exact visit_none d c sg w a _ _ (tl_two _) hc
  | lt g l =>
    have hw := ho.2
    simp only [Ct.wf, Bool.and_eq_true] at hw
    exact visit_lit d c sg w a g l hw.2 ho.1 hc
end

theorem enters_names (args : Array Value) (w : World) : (callFunc 34 args).run Try.prog w = .ok (.enter 34 args) w :=
  enters_of Try.func34 (by kernel_rfl) rfl args w

set_option maxHeartbeats 400000 in
theorem names_behind (x : Ct) (sg : ByteArray) (hw : x.wf = true) (w : World) :
    Calls Try.prog 21 #[x.val, .string sg] w fun e w' => e = .returned (.int .u32 (setOf (behind sg.data.toList x))) ∧ Below w.heap.size w w' := by
  have hmf : ∀ (fn : Fn) (first cap : Array Value) (w : World), (Instr.makeFunc fn first cap).run Try.prog w = .ok (.func fn first cap) w := fun _ _ _ _ => rfl
  have HE := Lib.hid (fun w2 (hc : Caught w.heap.size (w.heap.size + 1) sg w2 0) => each_cut_all 34 w.heap.size (w.heap.size + 1) sg (stepN sg.data.toList) okN enters_names (visits_names _ _ sg) x.txt.length x w2 0 (Nat.le_refl _) (okAllN _ _ 0 (by decide) (flat_wf x hw)) hc)
  have HF := Lib.hid (fold_behind sg.data.toList x 0)
  unfold Ct.val at *
  generalize x.arg = ax at *
  go_enter Try.func21, Try.ntmps21
  go_wp2_with fail
  have h0 := heap_alloc_new w (Obj.cells #[.string sg] 9)
  have h1 := heap_alloc_new (w.alloc (Obj.cells #[.string sg] 9)) (Obj.cells #[.int .u32 0] 44)
  rw [alloc_size'] at h1
  refine (HE.out _ ⟨?_, h1⟩).mono ?_
  · rw [Lib.alloc_old _ _ _ (by rw [alloc_size']; omega)]; exact h0
  rintro e w2 ⟨rfl, hc, hb⟩
  obtain ⟨q1, q2, q3⟩ := hc.read
  rw [HF.out] at q2
  have HB := Lib.hid ((((Below.refl _ w).alloc (Nat.le_refl _) (Obj.cells #[.string sg] 9)).alloc (by simp) (Obj.cells #[.int .u32 0] 44)).trans (hb.below (B := w.heap.size) (by simp; omega) (by omega)))
  clear hc hb h0 h1
  go_wp2_with fail
  go_ret
  exact ⟨rfl, HB.out⟩
end Go.Proofs.Ytfmbfbbmhnplcaa
