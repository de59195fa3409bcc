/- oneLetter, names, calls and size of procedures, callsOwn. Condition: a program as readProgram lays it. The calls of a procedure. Condition: a program as readProgram lays it. callsOwn and readProgram: the program of a text, or none, as its plain reading tells. Condition: a text of at most 2^30 bytes, and the library's own number can be read. readProgram: the program of a text, or none, as its plain reading tells. Condition: a text of at most 2^30 bytes, and the library's own number can be read. -/
import Derived.Test.YthkokokeppoieaaGreatDoorPRow
import Derived.Test.YthkokokeppoieaaGreatDoorBits
import Derived.Test.YthkokokeppoieaaGreatDoorOpen2
import Derived.Test.YthkokokeppoieaaGreatDoorEach
import Derived.Shelf.Abstract
namespace Go.Proofs.YthkokokeppoieaaGreatDoor
open Go.RowKit Gram

theorem setFrom_snoc (l : List UInt8) (c : UInt8) (m : Nat) : setFrom m (l ++ [c]) = setFrom m l ||| bitOf c := by simp [setFrom]
theorem setOf_snoc (l : List UInt8) (c : UInt8) : setOf (l ++ [c]) = setOf l ||| bitOf c := setFrom_snoc l c 0

def namesQ (qs : List Qr) : List UInt8 := qs.map fun q => q.1.1
theorem namesQ_take (qs : List Qr) (k : Nat) (hk : k < qs.length) : namesQ (qs.take (k + 1)) = namesQ (qs.take k) ++ [qs[k].1.1] := by
  rw [List.take_succ_eq_append_getElem hk, namesQ, List.map_append]; rfl
theorem namesQ_lets {qs : List Qr} (hg : ∀ q ∈ qs, Good q.1) : lets (namesQ qs) := by
  intro c hc
  obtain ⟨q, hq, rfl⟩ := List.mem_map.1 hc
  exact (hg q hq).2.2.2

set_option maxHeartbeats 1000000 in
theorem names_set {w : World} {B : Nat} {S : Nat → Prop} {qs : List Qr} {v : Value} (h : IsProg w B S qs v) (hg : ∀ q ∈ qs, Good q.1) (hn : qs.length ≤ 1048576) :
    Calls Tryz.prog 35 #[v] w fun e w' => e = .returned (.int .u32 (setOf (namesQ qs))) ∧ Below w.heap.size w w' := by
  obtain ⟨a, c, rfl⟩ := h.form
  have H := Lib.hid h
  have HG := Lib.hid hg
  generalize hln : qs.length = ln at *
  have HL := Lib.hid hln
  clear h hg hln
  go_enter Tryz.func35, Tryz.ntmps35
  go_wp2_with fail
  go_loopw [3, 8] (fun m i wr => ∃ k : Nat, k ≤ ln ∧ i = .int .i64 k ∧ m = .int .u32 (setOf (namesQ (qs.take k))) ∧ Hid (Below w.heap.size w wr)) (fun _ i _ => ln - (intOf i).toNat)
  case atStart => exact ⟨0, Nat.zero_le _, by go_num, rfl, Below.refl _ _⟩
  case round =>
    obtain ⟨k, hk, rfl, rfl, hb⟩ := hrel
    by_cases hlt : k < ln
    · have hkq : k < qs.length := by rw [HL.out]; exact hlt
      obtain ⟨g, rfl, _, c0, c1⟩ := (H.out).get k hkq
      have hgl : g < w.heap.size := World.block_lt_of_cell? w _ c0
      have d0 : wr.cell? ⟨g, k * 2, none⟩ = some (.int .u8 qs[k].1.1.toNat) := by rw [hb.out.cell (p := ⟨g, k * 2, none⟩) hgl]; exact c0
      have d1 : wr.cell? ⟨g, k * 2 + 1, none⟩ = some qs[k].2 := by rw [hb.out.cell (p := ⟨g, k * 2 + 1, none⟩) hgl]; exact c1
      have hq := HG.out qs[k] (List.getElem_mem hkq)
      obtain ⟨ba, bn, bc, hbv⟩ := (H.out.body qs[k] (List.getElem_mem hkq)).form
      rw [hbv] at d1
      have h1 := bit_lt hq.2.2.2
      have h2 := setOf_lt _ (namesQ_lets (qs := qs.take k) fun q hq => HG.out q (List.mem_of_mem_take hq))
      have e1 := or32 (setOf (namesQ (qs.take k))) (bitOf qs[k].1.1) (by omega) (by omega)
      have HT := Lib.hid (namesQ_take qs k hkq)
      have HO := Lib.hid (fun w => one_letter qs[k].1.1 hq.2.2.2 w)
      clear c0 c1 hgl hq hbv h1 h2
      go_wp2_with fail
      refine (HO.out _).mono ?_
      rintro e w2 ⟨rfl, rfl⟩
      go_wp2_with fail
      go_roundw
      case rel =>
        refine ⟨k + 1, by omega, by go_num, ?_, hb.out.alloc hb.out.size _⟩
        rw [HT.out, setOf_snoc]
      case measure => simp [intOf]; omega
    · have hall : qs.take k = qs := List.take_of_length_le (by rw [HL.out]; omega)
      rw [hall]
      go_wp2_with fail
      go_ret
      exact ⟨rfl, hb.out⟩

/-- the visitor of calls -/
def stepC (m : Nat) : Stm → Nat
  | .call c => m ||| bitOf c
  | _ => m
def okC (m : Nat) (x : Stm) : Prop := m < 67108864 ∧ ∀ c, x = .call c → isLet c = true

theorem tc_chg (pv : Value) (w : World) : (Instr.typeAssert (.iface 159 pv) 110 154 true).run Tryz.prog w = .ok (.tuple #[.agg #[.int .u8 0], .bool false]) w := by kernel_rfl
theorem tc_prt (pv : Value) (w : World) : (Instr.typeAssert (.iface 168 pv) 110 154 true).run Tryz.prog w = .ok (.tuple #[.agg #[.int .u8 0], .bool false]) w := by kernel_rfl
theorem tc_pro (pv : Value) (w : World) : (Instr.typeAssert (.iface 125 pv) 110 154 true).run Tryz.prog w = .ok (.tuple #[.agg #[.int .u8 0], .bool false]) w := by kernel_rfl
theorem tc_cho (pv : Value) (w : World) : (Instr.typeAssert (.iface 170 pv) 110 154 true).run Tryz.prog w = .ok (.tuple #[.agg #[.int .u8 0], .bool false]) w := by kernel_rfl
theorem tc_call (pv : Value) (w : World) : (Instr.typeAssert (.iface 154 pv) 110 154 true).run Tryz.prog w = .ok (.tuple #[pv, .bool true]) w := by kernel_rfl

set_option maxHeartbeats 1000000 in
theorem visits_calls : Visits 99 77 (fun n => .int .u32 n) stepC okC := by
  intro w S c a x ty pv ho hx hc
  have hlt := heap_lt hc
  have HC := Lib.hid hc
  have keep : ∀ o, (w.alloc o).heap[c]? = w.heap[c]? := fun o => Lib.alloc_old w o c hlt
  cases x with
  | pro =>
    simp only [IsStm] at hx
    injection hx with h1 h2; subst h1; subst h2
    have ht := tc_pro
    clear hc keep
    go_enter Tryz.func99, Tryz.ntmps99
    go_wp2_with fail
    go_end0
    exact ⟨rfl, by rw [Lib.alloc_old w _ c hlt]; exact HC.out, but_alloc _ _ _⟩
  | chg g d =>
    simp only [IsStm] at hx
    injection hx with h1 h2; subst h1; subst h2
    have ht := tc_chg
    clear hc keep
    go_enter Tryz.func99, Tryz.ntmps99
    go_wp2_with fail
    go_end0
    exact ⟨rfl, by rw [Lib.alloc_old w _ c hlt]; exact HC.out, but_alloc _ _ _⟩
  | prt =>
    simp only [IsStm] at hx
    injection hx with h1 h2; subst h1; subst h2
    have ht := tc_prt
    clear hc keep
    go_enter Tryz.func99, Tryz.ntmps99
    go_wp2_with fail
    go_end0
    exact ⟨rfl, by rw [Lib.alloc_old w _ c hlt]; exact HC.out, but_alloc _ _ _⟩
  | cho p q =>
    simp only [IsStm] at hx
    obtain ⟨va, vb, vas, vbs, he, _⟩ := hx
    injection he with h1 h2; subst h1; subst h2
    have ht := tc_cho
    clear hc keep
    go_enter Tryz.func99, Tryz.ntmps99
    go_wp2_with fail
    go_end0
    exact ⟨rfl, by rw [Lib.alloc_old w _ c hlt]; exact HC.out, but_alloc _ _ _⟩
  | call d =>
    have hl := ho.2 d rfl
    have hlo := ho.1
    simp only [IsStm] at hx
    injection hx with h1 h2; subst h1; subst h2
    have ht := tc_call
    have hb := bit_lt hl
    have e1 := or32 a (bitOf d) (by omega) (by omega)
    have HO := Lib.hid (fun w => one_letter d hl w)
    have q0 : ∀ o, (w.alloc o).cell? ⟨c, 0, none⟩ = some (.int .u32 a) := fun o => by rw [cell_get (by rw [keep]; exact hc)]; rfl
    have q1 : ∀ o, (w.alloc o).frozen? ⟨c, 0, none⟩ = false := fun o => Lib.frozen_of_heap (by rw [keep]; exact hc) 0
    have HK := Lib.hid keep
    clear hc keep hl hb ho hlo
    go_enter Tryz.func99, Tryz.ntmps99
    go_wp2_with fail
    go_region_with ((first | (go_at_call 63; refine (HO.out _).mono ?_; rintro e w2 ⟨rfl, rfl⟩)))
    all_goals
      go_end0
      exact ⟨rfl, call_end HC.out _ _⟩
end Go.Proofs.YthkokokeppoieaaGreatDoor
namespace Go.Proofs.YthkokokeppoieaaGreatDoor
open Go.RowKit Gram

theorem setFrom_append (a b : List UInt8) (m : Nat) : setFrom m (a ++ b) = setFrom (setFrom m a) b := by simp [setFrom]
mutual
theorem fold_stm (x : Stm) (m : Nat) : x.flat.foldl stepC m = setFrom m x.calls := by
  match x with
  | .chg _ _ => rfl
  | .prt => rfl
  | .pro => rfl
  | .call c => rfl
  | .cho a b =>
    simp only [Stm.flat, Stm.calls, List.foldl_cons, List.foldl_append, setFrom_append, stepC]
    rw [fold_calls a, fold_calls b]
theorem fold_calls (xs : List Stm) (m : Nat) : (flats xs).foldl stepC m = setFrom m (callsIn xs) := by
  match xs with
  | [] => rfl
  | x :: xs =>
    simp only [flats, callsIn, List.foldl_append, setFrom_append]
    rw [fold_stm x, fold_calls xs]
end
mutual
theorem flat_lets (x : Stm) (h : x.wf = true) : ∀ y ∈ x.flat, ∀ c, y = .call c → isLet c = true := by
  match x with
  | .chg _ _ => intro y hy c e; simp [Stm.flat] at hy; rw [hy] at e; cases e
  | .prt => intro y hy c e; simp [Stm.flat] at hy; rw [hy] at e; cases e
  | .pro => intro y hy c e; simp [Stm.flat] at hy; rw [hy] at e; cases e
  | .call d => intro y hy c e; simp [Stm.flat] at hy; rw [hy] at e; injection e with e; subst e; simpa [Stm.wf] using h
  | .cho a b =>
    simp only [Stm.wf, Bool.and_eq_true] at h
    intro y hy c e
    simp only [Stm.flat, List.mem_cons, List.mem_append] at hy
    rcases hy with hy | hy | hy
    · rw [hy] at e; cases e
    · exact flats_lets a h.1 y hy c e
    · exact flats_lets b h.2 y hy c e
theorem flats_lets (xs : List Stm) (h : wfs xs = true) : ∀ y ∈ flats xs, ∀ c, y = .call c → isLet c = true := by
  match xs with
  | [] => intro y hy; simp [flats] at hy
  | x :: xs =>
    simp only [wfs, Bool.and_eq_true] at h
    intro y hy c e
    simp only [flats, List.mem_append] at hy
    rcases hy with hy | hy
    · exact flat_lets x h.1 y hy c e
    · exact flats_lets xs h.2 y hy c e
end
mutual
theorem calls_let (x : Stm) (h : x.wf = true) : lets x.calls := by
  match x with
  | .chg _ _ => intro c hc; simp [Stm.calls] at hc
  | .prt => intro c hc; simp [Stm.calls] at hc
  | .pro => intro c hc; simp [Stm.calls] at hc
  | .call d => intro c hc; simp [Stm.calls] at hc; subst hc; simpa [Stm.wf] using h
  | .cho a b =>
    simp only [Stm.wf, Bool.and_eq_true] at h
    intro c hc
    simp only [Stm.calls, List.mem_append] at hc
    rcases hc with hc | hc
    · exact callsIn_lets a h.1 c hc
    · exact callsIn_lets b h.2 c hc
theorem callsIn_lets (xs : List Stm) (h : wfs xs = true) : lets (callsIn xs) := by
  match xs with
  | [] => intro c hc; simp [callsIn] at hc
  | x :: xs =>
    simp only [wfs, Bool.and_eq_true] at h
    intro c hc
    simp only [callsIn, List.mem_append] at hc
    rcases hc with hc | hc
    · exact calls_let x h.1 c hc
    · exact callsIn_lets xs h.2 c hc
end
mutual
theorem flat_le (x : Stm) : x.flat.length ≤ x.txt.length := by
  match x with
  | .chg _ _ => simp [Stm.flat, Stm.txt]
  | .prt => simp [Stm.flat, Stm.txt]
  | .pro => simp [Stm.flat, Stm.txt]
  | .call _ => simp [Stm.flat, Stm.txt]
  | .cho a b =>
    have h1 := flats_le a
    have h2 := flats_le b
    simp [Stm.flat, Stm.txt]; omega
theorem flats_le (xs : List Stm) : (flats xs).length ≤ (txts xs).length := by
  match xs with
  | [] => simp [flats]
  | x :: xs =>
    have h1 := flat_le x
    have h2 := flats_le xs
    simp [flats, txts]; omega
end
theorem stepC_lt (m : Nat) (x : Stm) (h : okC m x) : stepC m x < 67108864 := by
  cases x with
  | call c => exact Nat.or_lt_two_pow (n := 26) h.1 (bit_lt (h.2 c rfl))
  | chg _ _ => exact h.1
  | prt => exact h.1
  | pro => exact h.1
  | cho _ _ => exact h.1
theorem okAll_calls (l : List Stm) : ∀ m, m < 67108864 → (∀ x ∈ l, ∀ c, x = .call c → isLet c = true) → okAll okC stepC m l := by
  induction l with
  | nil => intro m _ _; trivial
  | cons x t ih =>
    intro m hm h
    have hx : okC m x := ⟨hm, h x (List.mem_cons_self ..)⟩
    exact ⟨hx, ih _ (stepC_lt m x hx) fun y hy => h y (List.mem_cons_of_mem _ hy)⟩

theorem enters_calls (args : Array Value) (w : World) : (callFunc 99 args).run Tryz.prog w = .ok (.enter 99 args) w :=
  enters_of Tryz.func99 (by kernel_rfl) rfl args w

theorem two_old (w : World) (a b : Obj) : ∀ k, k < w.heap.size → ((w.alloc a).alloc b).heap[k]? = w.heap[k]? := by
  intro k hk
  rw [Lib.alloc_old _ _ _ (by rw [alloc_size']; omega), Lib.alloc_old _ _ _ hk]
theorem two_size (w : World) (a b : Obj) : w.heap.size + 1 < ((w.alloc a).alloc b).heap.size := by rw [alloc_size', alloc_size']; omega
theorem two_cell (w : World) (a b : Obj) : ((w.alloc a).alloc b).heap[w.heap.size + 1]? = some b := by
  have := heap_alloc_new (w.alloc a) b
  rwa [alloc_size'] at this
theorem two_below {w w2 : World} {a b : Obj} (h : But (w.heap.size + 1) ((w.alloc a).alloc b) w2) : Below w.heap.size w w2 :=
  (((Below.refl _ _).alloc (Nat.le_refl _) _).alloc (by rw [alloc_size']; omega) _).trans (h.below (by rw [alloc_size', alloc_size']; omega) (by omega))
/-- calls: the letters that a body calls -/
theorem calls_any {w : World} {S : Nat → Prop} {p : Pr} {v : Value} (hB : IsBody w S p.2 v) (hS : ∀ k, S k → k < w.heap.size) (hg : Good p) :
    Calls Tryz.prog 79 #[.agg #[.int .u8 p.1.toNat, v]] w fun e w' => e = .returned (.int .u32 (setOf (callsIn p.2))) ∧ Below w.heap.size w w' := by
  obtain ⟨ba, bn, bc, rfl⟩ := hB.form
  have hfl := flats_le p.2
  have hlen := hg.2.2.1
  have hE : ∀ w2 : World, (∀ k, k < w.heap.size → w2.heap[k]? = w.heap[k]?) → w.heap.size + 1 < w2.heap.size → w2.heap[w.heap.size + 1]? = some (.cells #[.int .u32 ((0 : Nat) : Int)] 77 (0, 0)) → _ :=
    fun w2 hk hz hc => each_all 99 77 (fun n => .int .u32 n) stepC okC enters_calls visits_calls (flats p.2).length p.2 w2 S (.slice ba bn bc) (w.heap.size + 1) 0 (Nat.le_refl _) (by omega)
      (fun k hk' => by have := hS k hk'; omega) (hB.kept (fun k hk' => hk k (hS k hk')) (fun _ h => h)) hc (okAll_calls _ 0 (by decide) (flats_lets _ hg.1))
  have HE := Lib.hid hE
  have HF := Lib.hid (fold_calls p.2 0)
  clear hE hfl hlen hB hS hg
  go_enter Tryz.func79, Tryz.ntmps79
  go_wp2_with fail
  refine (HE.out _ (two_old _ _ _) (two_size _ _ _) (two_cell _ _ _)).mono ?_
  rintro e w2 ⟨rfl, hc, hb⟩
  rw [HF.out] at hc
  have q := Lib.cell_of_heap hc 0
  have q0 : w2.cell? ⟨w.heap.size + 1, 0, none⟩ = some (.int .u32 (setOf (callsIn p.2))) := q
  have HW := Lib.hid (two_below hb)
  clear hc hb q
  go_wp2_with fail
  go_ret
  exact ⟨rfl, HW.out⟩
end Go.Proofs.YthkokokeppoieaaGreatDoor
namespace Go.Proofs.YthkokokeppoieaaGreatDoor
open Go.RowKit Gram

theorem prog_body {w : World} {B : Nat} {S : Nat → Prop} {qs : List Qr} {v : Value} (h : IsProg w B S qs v) (k : Nat) (hk : k < qs.length) : IsBody w S qs[k].1.2 qs[k].2 := h.body _ (List.getElem_mem hk)

def ownQ (qs : List Qr) : Bool := qs.all fun q => (callsIn q.1.2).all fun c => (namesQ qs).contains c
theorem own_less {a b : List UInt8} (ha : lets a) (hb : lets b) : ((lessOf (setOf a) (setOf b) : Int) != 0) = !(a.all fun c => b.contains c) := by
  have h := lessOf_zero a b ha hb
  cases hc : a.all fun c => b.contains c with
  | true =>
    have : lessOf (setOf a) (setOf b) = 0 := h.2 (by simpa using hc)
    rw [this]; rfl
  | false =>
    have : lessOf (setOf a) (setOf b) ≠ 0 := by
      intro h0
      have := h.1 h0
      have h2 : (a.all fun c => b.contains c) = true := by simpa using this
      rw [hc] at h2; cases h2
    simp only [Bool.not_false, bne_iff_ne, ne_eq]
    omega

set_option maxHeartbeats 1000000 in
theorem own_any {w : World} {B : Nat} {S : Nat → Prop} {qs : List Qr} {v : Value} (h : IsProg w B S qs v) (hg : ∀ q ∈ qs, Good q.1) (hn : qs.length ≤ 1048576) :
    Calls Tryz.prog 49 #[v] w fun e w' => e = .returned (.bool (ownQ qs)) ∧ Below w.heap.size w w' := by
  obtain ⟨a, c, rfl⟩ := h.form
  have H := Lib.hid h
  have HG := Lib.hid hg
  have HN := Lib.hid (names_set h hg hn)
  generalize hln : qs.length = ln at *
  have HL := Lib.hid hln
  clear h hg hln
  go_enter Tryz.func49, Tryz.ntmps49
  go_wp2_with fail
  refine HN.out.mono ?_
  rintro e w1 ⟨rfl, hb1⟩
  have HB1 := Lib.hid hb1
  clear hb1
  go_wp2_with fail
  go_loopw [10] (fun i wr => ∃ k : Nat, k ≤ ln ∧ i = .int .i64 k ∧ Hid ((qs.take k).all (fun q => (callsIn q.1.2).all fun c => (namesQ qs).contains c) = true) ∧ Hid (Below w.heap.size w wr)) (fun i _ => ln - (intOf i).toNat)
  case atStart => exact ⟨0, Nat.zero_le _, by go_num, by show _ = _; simp, HB1.out⟩
  case round =>
    obtain ⟨k, hk, rfl, hA, hb⟩ := hrel
    by_cases hlt : k < ln
    · have hkq : k < qs.length := by rw [HL.out]; exact hlt
      obtain ⟨g, rfl, _, c0, c1⟩ := (H.out).get k hkq
      have hgl : g < w.heap.size := World.block_lt_of_cell? w _ c0
      have d0 : wr.cell? ⟨g, k * 2, none⟩ = some (.int .u8 qs[k].1.1.toNat) := by rw [hb.out.cell (p := ⟨g, k * 2, none⟩) hgl]; exact c0
      have d1 : wr.cell? ⟨g, k * 2 + 1, none⟩ = some qs[k].2 := by rw [hb.out.cell (p := ⟨g, k * 2 + 1, none⟩) hgl]; exact c1
      have hq := HG.out qs[k] (List.getElem_mem hkq)
      have hbody := prog_body H.out k hkq
      obtain ⟨ba, bn, bc, hbv⟩ := hbody.form
      have hC : ∀ w2, Below w.heap.size w w2 → _ := fun w2 hb2 => calls_any (w := w2) (S := S) (p := qs[k].1) (hbody.kept (w' := w2) (fun j hj => hb2.block j (H.out.lt j hj)) (fun _ h => h)) (fun j hj => Nat.lt_of_lt_of_le (H.out.lt j hj) hb2.size) hq
      rw [hbv] at d1 hC
      have HC := Lib.hid hC
      have e1 := less32 (setOf (callsIn qs[k].1.2)) (setOf (namesQ qs))
      have e2 := own_less (callsIn_lets _ hq.1) (namesQ_lets (qs := qs) HG.out)
      have HA2 := Lib.hid (by rw [List.take_succ_eq_append_getElem hkq, List.all_append, hA.out]; simp : (qs.take (k + 1)).all (fun q => (callsIn q.1.2).all fun c => (namesQ qs).contains c) = ((callsIn qs[k].1.2).all fun c => (namesQ qs).contains c))
      have HNo := Lib.hid (fun (h0 : ((callsIn qs[k].1.2).all fun c => (namesQ qs).contains c) = false) => by
        rw [ownQ, List.all_eq_false]
        exact ⟨qs[k], List.getElem_mem hkq, by rw [h0]; decide⟩ : _ → ownQ qs = false)
      clear hC c0 c1 hgl hq hbv hbody hA
      generalize ((callsIn qs[k].1.2).all fun c => (namesQ qs).contains c) = bb at *
      generalize lessOf (setOf (callsIn qs[k].1.2)) (setOf (namesQ qs)) = le at *
      cases bb
      all_goals
        simp only [Bool.not_true, Bool.not_false] at e2
        go_wp2_with fail
        refine (HC.out _ (hb.out.alloc hb.out.size _)).mono ?_
        rintro e w2 ⟨rfl, hb2⟩
        have HB2 := Lib.hid (((hb.out.alloc hb.out.size _)).trans (hb2.mono (Nat.le_trans hb.out.size (by rw [alloc_size']; omega))))
        clear hb2
        go_wp2_with fail
      · go_ret
        exact ⟨ret_bool (HNo.out (by simp)).symm, HB2.out⟩
      · go_roundw
        case rel => exact ⟨k + 1, by omega, by go_num, HA2.out, HB2.out⟩
        case measure => simp [intOf]; omega
    · have hall : qs.take k = qs := List.take_of_length_le (by rw [HL.out]; omega)
      rw [hall] at hA
      go_wp2_with fail
      go_ret
      exact ⟨ret_bool (show true = ownQ qs from hA.out.symm), hb.out⟩
end Go.Proofs.YthkokokeppoieaaGreatDoor
namespace Go.Proofs.YthkokokeppoieaaGreatDoor
open Go.RowKit Gram

theorem IsProg.base {w : World} {B B' : Nat} {S : Nat → Prop} {qs : List Qr} {v : Value} (h : IsProg w B S qs v) (hB : B' ≤ B) : IsProg w B' S qs v :=
  ⟨ownsRow_base h.row fun _ hg => Nat.le_trans hB (h.row_block hg).1, h.body, fun k hk => ⟨Nat.le_trans hB (h.set k hk).1, (h.set k hk).2⟩⟩

/-- what readProgram hands back -/
def ReadPTo (s : ByteArray) (w : World) (e : Ending) (w' : World) : Prop :=
  (match progOf s with
    | some ps => ∃ v S qs, e = .returned (.tuple #[v, .bool true]) ∧ qs.map (·.1) = ps ∧ IsProg w' w.heap.size S qs v ∧ (∀ q ∈ qs, Good q.1)
    | none => ∃ (a : Option Addr) (n c : Nat), e = .returned (.tuple #[.slice a n c, .bool false])) ∧ Below w.heap.size w w'
theorem readP_none {s : ByteArray} {w w' : World} {a : Option Addr} {n c : Nat} (h : progOf s = none) (hb : Below w.heap.size w w') : ReadPTo s w (.returned (.tuple #[.slice a n c, .bool false])) w' := by
  refine ⟨?_, hb⟩
  rw [h]; exact ⟨_, _, _, rfl⟩
theorem readP_some {s : ByteArray} {w w' : World} {v : Value} {S : Nat → Prop} {qs : List Qr} (h : progOf s = some (qs.map (·.1))) (hP : IsProg w' w.heap.size S qs v) (hg : ∀ q ∈ qs, Good q.1) (hb : Below w.heap.size w w') : ReadPTo s w (.returned (.tuple #[v, .bool true])) w' := by
  refine ⟨?_, hb⟩
  rw [h]; exact ⟨_, _, _, rfl, rfl, hP, hg⟩
theorem ownQ_plain (qs : List Qr) : ownQ qs = ownCalls (qs.map (·.1)) := by
  simp only [ownQ, ownCalls, namesQ, namesOf, List.all_map, List.map_map]
  rfl
theorem last_q (qs : List Qr) (n : UInt8) (j : Nat) (hj : qs.length = j + 1) : lastBelow (qs.map (·.1)) n = decide ((qs[j]'(by omega)).1.1.toNat < n.toNat) := by
  have : (qs.map (·.1)).getLast? = some (qs[j]'(by omega)).1 := by
    have h2 : qs.length - 1 = j := by omega
    rw [List.getLast?_map, List.getLast?_eq_getElem?, h2, List.getElem?_eq_getElem (show j < qs.length by omega)]; rfl
  rw [lastBelow, this]
  simp [UInt8.lt_iff_toNat_lt]

theorem below_drewN {B : Nat} {a w : World} (h : Below B a w) (n : Nat) : Below B a (w.drewN n) := h.trans ⟨rfl, rfl, rfl, Nat.le_refl _, fun _ _ => rfl⟩

theorem info_proc : (Tryz.prog.info? 58).map (fun i => (i.zero, i.size, i.bytes)) = some (some (.agg #[.int .u8 0, .slice none 0 0]), 2, 32) := by kernel_rfl

theorem readp_long (s : ByteArray) (w : World) (h : 400 < s.size) (hs : s.size ≤ 1073741824) :
    Calls Tryz.prog 21 #[.string s] w (ReadPTo s w) := by
  have HN := Lib.hid (by rw [progOf, if_neg (by omega)] : progOf s = none)
  go_enter Tryz.func21, Tryz.ntmps21
  go_wp2_with fail
  go_ret2
  exact readP_none HN.out (Below.refl _ _)

set_option maxHeartbeats 4000000 in
set_option maxRecDepth 100000 in
theorem readp_short (s : ByteArray) (w : World) (h : s.size ≤ 400) (hm : MaxCell w) :
    Calls Tryz.prog 21 #[.string s] w (ReadPTo s w) := by
  obtain ⟨m0, hm0⟩ := hm
  have hmz := World.block_lt_of_cell? w _ hm0
  obtain ⟨i0, hi, hz0, hz1, hz2⟩ := info_parts info_proc
  have hSp := fun w1 h1 => Tryz.strings_Split s ⟨#[59]⟩ m0 w1 (by omega) h1 (by decide)
  rw [splitB_cuts, ← splitB_len] at hSp
  have hcl := cuts_le s.data.toList []
  rw [show s.data.toList.length = s.size from by simp] at hcl
  generalize hparts : cuts s.data.toList = parts at *
  rw [show cutsP [] s.data.toList = parts from hparts] at hcl
  have hpl : parts.length ≤ 401 := by have := hcl.1; omega
  have HCl := Lib.hid hcl.2
  have HPa := Lib.hid hparts
  have HSp := Lib.hid hSp
  have HM := Lib.hid hm0
  clear hcl hparts hSp hm0
  have HP0 := Lib.hid (by rw [progOf, if_pos h, HPa.out] : progOf s = (procsOf [] parts).bind fun ps => if ownCalls ps then some ps else none)
  go_enter Tryz.func21, Tryz.ntmps21
  go_wp2_with fail
  refine (HSp.out _ HM.out).mono ?_
  rintro e w1 ⟨rfl, rfl⟩
  go_wp2_with fail
  go_loopw [4, 15] (fun v i wr => ∃ (k : Nat) (qs : List Qr) (S : Nat → Prop), i = .int .i64 k ∧ k ≤ parts.length ∧ qs.length = k ∧ Hid (IsProg wr (w.heap.size + 1) S qs v) ∧ Hid (Below w.heap.size w wr) ∧ Hid (w.heap.size + 1 ≤ wr.heap.size) ∧
      Hid (wr.heap[w.heap.size]? = some (.cells (((parts.map fun l => (⟨l.toArray⟩ : ByteArray)).map Value.string).toArray) 9 (0, 0))) ∧ Hid (procsOf [] parts = procsOf (qs.map (·.1)) (parts.drop k)) ∧ Hid (∀ q ∈ qs, Good q.1)) (fun _ i _ => parts.length - (intOf i).toNat)
  case atStart =>
    refine ⟨0, [], fun _ => False, by go_num, Nat.zero_le _, rfl, IsProg.empty _ _, (Below.refl _ _).alloc (Nat.le_refl _) _, by show _ ≤ _; rw [alloc_size']; omega, by rw [List.map_map]; exact heap_alloc_new _ _, by show _ = _; simp, fun q hq => by simp at hq⟩
  case round =>
    obtain ⟨k, qs, S, rfl, hk, hqk, hP, hb, hz, hrow, hE, hG⟩ := hrel
    by_cases hlt : k < parts.length
    · have c1 : wr.cell? ⟨w.heap.size, k, none⟩ = some (.string (txtOf parts[k])) := by
        rw [Lib.cell_of_heap hrow.out]
        simp [List.getElem?_eq_getElem hlt, txtOf]
      have hst := procsOf_step (qs.map (·.1)) parts k hlt
      obtain ⟨a, c, hv⟩ := hP.out.form
      rw [hqk] at hv
      subst hv
      have HQK := Lib.hid hqk
      clear hqk
      have hts : (txtOf parts[k]).size ≤ 1073741824 := by
        have := HCl.out _ (List.getElem_mem hlt)
        rw [txtOf_size]; simp at this; omega
      have hMx : MaxCell wr := ⟨m0, by rw [hb.out.cell (p := ⟨5, 0, none⟩) hmz]; exact HM.out⟩
      have HR := Lib.hid (procedure_any (txtOf parts[k]) wr hts hMx)
      rw [show (txtOf parts[k]).data.toList = parts[k] from rfl] at HR
      generalize txtOf parts[k] = t at *
      cases hpo : procOf parts[k] with
      | none =>
        have HN := Lib.hid (by rw [HP0.out, hE.out, hst, hpo]; rfl : progOf s = none)
        rw [hpo] at HR
        clear hst hpo hMx hts
        go_wp2_with fail
        refine HR.out.mono ?_
        rintro e w2 ⟨⟨n2, a2, m2, c2, rfl⟩, hb2⟩
        have HB2 := Lib.hid (hb.out.trans (hb2.mono hb.out.size))
        clear hb2
        go_wp2_with fail
        go_quiet (fail)
        go_wp2_with fail
        go_ret2
        exact readP_none HN.out (below_drewN (HB2.out.alloc HB2.out.size _) _)
      | some x =>
        rw [hpo] at HR
        rw [hpo] at hst
        have HGx := Lib.hid (procOf_good hpo)
        clear hpo hMx hts
        by_cases hk0 : k = 0
        · have g0 : decide (0 < k) = false := by rw [decide_eq_false_iff_not]; omega
          have hnil : qs = [] := List.length_eq_zero_iff.1 (by rw [HQK.out]; exact hk0)
          have hlb : lastBelow (qs.map (·.1)) x.1 = true := by rw [hnil]; rfl
          have HE2 := Lib.hid (by rw [hE.out, hst]; dsimp only; rw [if_pos hlb] : procsOf [] parts = procsOf (qs.map (·.1) ++ [x]) (parts.drop (k + 1)))
          have HK0 := Lib.hid hk0
          clear hst hlb hnil hE hk0
          go_wp2_with fail
          refine HR.out.mono ?_
          rintro e w2 ⟨⟨v2, S2, rfl, hB2, hS2⟩, hb2⟩
          obtain ⟨ba, bn, bc, hbv⟩ := hB2.form
          subst hbv
          have HB2 := Lib.hid hb2
          have HBo := Lib.hid hB2
          have HS2 := Lib.hid hS2
          clear hb2 hB2 hS2
          go_wp2_with fail
          go_quiet (fail)
          have hkp : ∀ j, j < wr.heap.size → w2.heap[j]? = wr.heap[j]? := fun j hj => HB2.out.block j hj
          have hp2 := hP.out.kept hkp
          have hown2 : (((w2.alloc (Obj.cells #[Value.int IntKind.u8 x.1.toNat, Value.slice ba bn bc] 58)).drewN nq)).ownsRow (w.heap.size + 1) 58 2 (.slice a k c) k (qVs qs) := by
            have := hp2.row
            rw [HQK.out] at this
            exact this.alloc _
          have HP2 := Lib.hid hp2
          have hz2' : w.heap.size + 1 ≤ w2.heap.size := Nat.le_trans hz.out HB2.out.size
          have hzz : (((w2.alloc (Obj.cells #[Value.int IntKind.u8 x.1.toNat, Value.slice ba bn bc] 58)).drewN nq)).heap.size = w2.heap.size + 1 := alloc_size' _ _
          clear hp2 hkp
          generalize hw3 : (w2.alloc (Obj.cells #[Value.int IntKind.u8 x.1.toNat, Value.slice ba bn bc] 58)).drewN nq = w3 at *
          have d0 : w3.cell? ⟨w2.heap.size, 0, none⟩ = some (.int .u8 x.1.toNat) := by
            rw [← hw3]; rw [show ((w2.alloc (Obj.cells #[Value.int IntKind.u8 x.1.toNat, Value.slice ba bn bc] 58)).drewN nq).cell? ⟨w2.heap.size, 0, none⟩ = _ from Lib.cell_of_heap (heap_alloc_new w2 _) 0]; rfl
          have d1 : w3.cell? ⟨w2.heap.size, 1, none⟩ = some (.slice ba bn bc) := by
            rw [← hw3]; rw [show ((w2.alloc (Obj.cells #[Value.int IntKind.u8 x.1.toNat, Value.slice ba bn bc] 58)).drewN nq).cell? ⟨w2.heap.size, 1, none⟩ = _ from Lib.cell_of_heap (heap_alloc_new w2 _) 1]; rfl
          have HW3 := Lib.hid (⟨fun j hj => by rw [← hw3]; exact Lib.alloc_old _ _ _ hj, by rw [← hw3]; exact below_drewN ((Below.refl _ _).alloc (Nat.le_refl _) _) _⟩ : (∀ j, j < w2.heap.size → w3.heap[j]? = w2.heap[j]?) ∧ Below w2.heap.size w2 w3)
          have HOw := Lib.hid hown2
          have HZZ := Lib.hid hzz
          clear hw3 hown2 hzz
          go_wp2_with (at_builtin; go_loud (refine wpList_append_lies _ rfl _ _ 47 rfl (w.heap.size + 1) 58 i0 (.agg #[.int .u8 0, .slice none 0 0]) 2 32 Tryz.underlying47 hi hz0 hz1 hz2 rfl (by decide) (.slice a k c) k (qVs qs) rfl (HOw.out.alloc _) ⟨w3.heap.size, 0, none⟩ 1 1 [.int .u8 x.1.toNat, .slice ba bn bc] rfl rfl (World.news_of_block (cs := #[.int .u8 x.1.toNat, .slice ba bn bc]) (heap_alloc_new _ _)) (by intro u hu; simp at hu; rcases hu with rfl | rfl <;> rfl) (by decide) (by unfold maxLen; omega) (by omega) (by rw [alloc_size', HZZ.out]; omega) _ rfl ?_); intro g' cap' w4 hown' hgrow hat hlt')
          have HN4 := Lib.hid (And.intro hown' hgrow)
          clear hown' hgrow hat hlt'
          go_wp2_with fail
          go_roundw
          case rel =>
            obtain ⟨hown', hgrow⟩ := HN4.out
            have hsn := IsProg.snoc (w := w2) (q := (x, .slice ba bn bc)) HP2.out HBo.out (fun j hj => ⟨Nat.le_trans hz.out (HS2.out j hj).1, (HS2.out j hj).2⟩) (w1 := w3.alloc _) (fun j hj => by rw [Lib.alloc_old _ _ _ (by rw [HZZ.out]; omega)]; exact HW3.out.1 j hj) (by rw [alloc_size', HZZ.out]; omega) (by rw [HQK.out]; exact hown') hgrow
            have hrb : ∀ j, (Value.slice a k c).ownBlock = some j → w.heap.size + 1 ≤ j := fun j hj => (HP2.out.row_block hj).1
            have hgz := hgrow.size
            rw [alloc_size', HZZ.out] at hgz
            refine ⟨k + 1, qs ++ [((x, Value.slice ba bn bc) : Qr)], fun j => S j ∨ S2 j, by go_num, by omega, by rw [List.length_append, HQK.out]; rfl, hsn, ?_, by show _ ≤ _; omega, ?_, ?_, ?_⟩
            · exact (((hb.out.trans (HB2.out.mono hb.out.size)).trans (HW3.out.2.mono (by omega))).alloc (by rw [HZZ.out]; omega) _).grown hgrow (by rw [alloc_size', HZZ.out]; omega) (fun j hj => by have := hrb j hj; omega)
            · show _ = _
              rw [hgrow.block _ (by rw [alloc_size', HZZ.out]; omega) (fun e => by have := hrb _ e.symm; omega), Lib.alloc_old _ _ _ (by rw [HZZ.out]; omega), HW3.out.1 _ (by omega), HB2.out.block _ (by have := hz.out; omega)]
              exact hrow.out
            · show _ = _
              rw [HE2.out, List.map_append]; rfl
            · show ∀ q ∈ _, _
              intro q hq
              rcases List.mem_append.1 hq with hq | hq
              · exact hG.out q hq
              · rw [List.mem_singleton.1 hq]; exact HGx.out
          case measure => simp [intOf]; omega
        · obtain ⟨j, hkj⟩ : ∃ j, k = j + 1 := ⟨k - 1, by omega⟩
          have hqj : qs.length = j + 1 := by rw [HQK.out]; exact hkj
          have hlast := last_q qs x.1 j hqj
          have hjq : j < qs.length := by omega
          obtain ⟨g, hga, hgB, c0, _⟩ := IsProg.get (a := a) (n := k) (c := c) hP.out j hjq
          subst hga
          have hgl : g < wr.heap.size := World.block_lt_of_cell? wr _ c0
          generalize hqn : (qs[j]'hjq).1.1.toNat = ln at *
          have hlt8 : ln < 256 := by rw [← hqn]; exact UInt8.toNat_lt _
          clear hqn
          have HQJ := Lib.hid hqj
          have HKJ := Lib.hid hkj
          have g0 : decide (0 < k) = true := by rw [decide_eq_true_iff]; omega
          have hjk : (j : Int) < (k : Int) := by omega
          have hjw : IntKind.i64.wrap ((k : Int) - 1) = (j : Int) := by
            rw [show (k : Int) - 1 = j by omega]
            exact IntWalk.i64_in _ (by omega)
          clear hk0 hkj hqj
          by_cases hle : x.1.toNat ≤ ln
          · have hcb : decide (x.1.toNat ≤ ln) = true := by rw [decide_eq_true_iff]; exact hle
            have hcbI : decide ((x.1.toNat : Int) ≤ (ln : Int)) = true := by rw [decide_eq_true_iff]; omega
            have hlb : lastBelow (qs.map (·.1)) x.1 = false := by rw [hlast, decide_eq_false_iff_not]; omega
            have HN := Lib.hid (by rw [HP0.out, hE.out, hst]; dsimp only; rw [if_neg (by rw [hlb]; decide)]; rfl : progOf s = none)
            clear hst hlb hE hle hlast
            go_wp2_with fail
            refine HR.out.mono ?_
            rintro e w2 ⟨⟨v2, S2, rfl, hB2, hS2⟩, hb2⟩
            obtain ⟨ba, bn, bc, hbv⟩ := hB2.form
            subst hbv
            have HB2 := Lib.hid (hb.out.trans (hb2.mono hb.out.size))
            have c2 : ∀ o, (w2.alloc o).cell? ⟨g, j * 2, none⟩ = some (.int .u8 ln) := fun o => by rw [World.cell?_of_block (a := ⟨g, j * 2, none⟩) (Lib.alloc_old w2 o g (Nat.lt_of_lt_of_le hgl hb2.size)), hb2.cell (p := ⟨g, j * 2, none⟩) hgl]; exact c0
            clear hb2 hB2 hS2 c0
            go_wp2_with fail
            go_quiet (fail)
            go_wp2_with fail
            go_ret2
            exact readP_none HN.out (below_drewN (HB2.out.alloc HB2.out.size _) _)
          · have hcb : decide (x.1.toNat ≤ ln) = false := by rw [decide_eq_false_iff_not]; exact hle
            have hcbI : decide ((x.1.toNat : Int) ≤ (ln : Int)) = false := by rw [decide_eq_false_iff_not]; omega
            have hlb : lastBelow (qs.map (·.1)) x.1 = true := by rw [hlast, decide_eq_true_iff]; omega
            have HE2 := Lib.hid (by rw [hE.out, hst]; dsimp only; rw [if_pos hlb] : procsOf [] parts = procsOf (qs.map (·.1) ++ [x]) (parts.drop (k + 1)))
            clear hst hlb hE hle hlast
            go_wp2_with fail
            refine HR.out.mono ?_
            rintro e w2 ⟨⟨v2, S2, rfl, hB2, hS2⟩, hb2⟩
            obtain ⟨ba, bn, bc, hbv⟩ := hB2.form
            subst hbv
            have c2 : ∀ o, (w2.alloc o).cell? ⟨g, j * 2, none⟩ = some (.int .u8 ln) := fun o => by rw [World.cell?_of_block (a := ⟨g, j * 2, none⟩) (Lib.alloc_old w2 o g (Nat.lt_of_lt_of_le hgl hb2.size)), hb2.cell (p := ⟨g, j * 2, none⟩) hgl]; exact c0
            have HB2 := Lib.hid hb2
            have HBo := Lib.hid hB2
            have HS2 := Lib.hid hS2
            clear hb2 hB2 hS2 c0
            go_wp2_with fail
            go_quiet (fail)
            have hkp : ∀ j, j < wr.heap.size → w2.heap[j]? = wr.heap[j]? := fun j hj => HB2.out.block j hj
            have hp2 := hP.out.kept hkp
            have hown2 : (((w2.alloc (Obj.cells #[Value.int IntKind.u8 x.1.toNat, Value.slice ba bn bc] 58)).drewN nq)).ownsRow (w.heap.size + 1) 58 2 (.slice (some ⟨g, 0, none⟩) k c) k (qVs qs) := by
              have := hp2.row
              rw [HQK.out] at this
              exact this.alloc _
            have HP2 := Lib.hid hp2
            have hz2' : w.heap.size + 1 ≤ w2.heap.size := Nat.le_trans hz.out HB2.out.size
            have hzz : (((w2.alloc (Obj.cells #[Value.int IntKind.u8 x.1.toNat, Value.slice ba bn bc] 58)).drewN nq)).heap.size = w2.heap.size + 1 := alloc_size' _ _
            clear hp2 hkp
            generalize hw3 : (w2.alloc (Obj.cells #[Value.int IntKind.u8 x.1.toNat, Value.slice ba bn bc] 58)).drewN nq = w3 at *
            have d0 : w3.cell? ⟨w2.heap.size, 0, none⟩ = some (.int .u8 x.1.toNat) := by
              rw [← hw3]; rw [show ((w2.alloc (Obj.cells #[Value.int IntKind.u8 x.1.toNat, Value.slice ba bn bc] 58)).drewN nq).cell? ⟨w2.heap.size, 0, none⟩ = _ from Lib.cell_of_heap (heap_alloc_new w2 _) 0]; rfl
            have d1 : w3.cell? ⟨w2.heap.size, 1, none⟩ = some (.slice ba bn bc) := by
              rw [← hw3]; rw [show ((w2.alloc (Obj.cells #[Value.int IntKind.u8 x.1.toNat, Value.slice ba bn bc] 58)).drewN nq).cell? ⟨w2.heap.size, 1, none⟩ = _ from Lib.cell_of_heap (heap_alloc_new w2 _) 1]; rfl
            have HW3 := Lib.hid (⟨fun j hj => by rw [← hw3]; exact Lib.alloc_old _ _ _ hj, by rw [← hw3]; exact below_drewN ((Below.refl _ _).alloc (Nat.le_refl _) _) _⟩ : (∀ j, j < w2.heap.size → w3.heap[j]? = w2.heap[j]?) ∧ Below w2.heap.size w2 w3)
            have HOw := Lib.hid hown2
            have HZZ := Lib.hid hzz
            clear hw3 hown2 hzz
            go_wp2_with (at_builtin; go_loud (refine wpList_append_lies _ rfl _ _ 47 rfl (w.heap.size + 1) 58 i0 (.agg #[.int .u8 0, .slice none 0 0]) 2 32 Tryz.underlying47 hi hz0 hz1 hz2 rfl (by decide) (.slice (some ⟨g, 0, none⟩) k c) k (qVs qs) rfl (HOw.out.alloc _) ⟨w3.heap.size, 0, none⟩ 1 1 [.int .u8 x.1.toNat, .slice ba bn bc] rfl rfl (World.news_of_block (cs := #[.int .u8 x.1.toNat, .slice ba bn bc]) (heap_alloc_new _ _)) (by intro u hu; simp at hu; rcases hu with rfl | rfl <;> rfl) (by decide) (by unfold maxLen; omega) (by omega) (by rw [alloc_size', HZZ.out]; omega) _ rfl ?_); intro g' cap' w4 hown' hgrow hat hlt')
            have HN4 := Lib.hid (And.intro hown' hgrow)
            clear hown' hgrow hat hlt'
            go_wp2_with fail
            go_roundw
            case rel =>
              obtain ⟨hown', hgrow⟩ := HN4.out
              have hsn := IsProg.snoc (w := w2) (q := (x, .slice ba bn bc)) HP2.out HBo.out (fun j hj => ⟨Nat.le_trans hz.out (HS2.out j hj).1, (HS2.out j hj).2⟩) (w1 := w3.alloc _) (fun j hj => by rw [Lib.alloc_old _ _ _ (by rw [HZZ.out]; omega)]; exact HW3.out.1 j hj) (by rw [alloc_size', HZZ.out]; omega) (by rw [HQK.out]; exact hown') hgrow
              have hrb : ∀ j, (Value.slice (some ⟨g, 0, none⟩) k c).ownBlock = some j → w.heap.size + 1 ≤ j := fun j hj => (HP2.out.row_block hj).1
              have hgz := hgrow.size
              rw [alloc_size', HZZ.out] at hgz
              refine ⟨k + 1, qs ++ [((x, Value.slice ba bn bc) : Qr)], fun j => S j ∨ S2 j, by go_num, by omega, by rw [List.length_append, HQK.out]; rfl, hsn, ?_, by show _ ≤ _; omega, ?_, ?_, ?_⟩
              · exact (((hb.out.trans (HB2.out.mono hb.out.size)).trans (HW3.out.2.mono (by omega))).alloc (by rw [HZZ.out]; omega) _).grown hgrow (by rw [alloc_size', HZZ.out]; omega) (fun j hj => by have := hrb j hj; omega)
              · show _ = _
                rw [hgrow.block _ (by rw [alloc_size', HZZ.out]; omega) (fun e => by have := hrb _ e.symm; omega), Lib.alloc_old _ _ _ (by rw [HZZ.out]; omega), HW3.out.1 _ (by omega), HB2.out.block _ (by have := hz.out; omega)]
                exact hrow.out
              · show _ = _
                rw [HE2.out, List.map_append]; rfl
              · show ∀ q ∈ _, _
                intro q hq
                rcases List.mem_append.1 hq with hq | hq
                · exact hG.out q hq
                · rw [List.mem_singleton.1 hq]; exact HGx.out
            case measure => simp [intOf]; omega
    · have hke : k = parts.length := by omega
      have hE2 := hE.out
      rw [hke, List.drop_of_length_le (Nat.le_refl _)] at hE2
      have hps : procsOf [] parts = some (qs.map (·.1)) := hE2
      have HPs := Lib.hid hps
      clear hps
      have HO := Lib.hid (own_any hP.out hG.out (by omega))
      obtain ⟨a, c, hv⟩ := hP.out.form
      rw [hqk] at hv
      subst hv
      clear hE hE2 hke hqk
      cases hoq : ownQ qs with
      | true =>
        have HF := Lib.hid (by rw [HP0.out, HPs.out, Option.bind_some, if_pos (by rw [← ownQ_plain]; exact hoq)] : progOf s = some (qs.map (·.1)))
        rw [hoq] at HO
        clear hoq
        go_wp2_with fail
        refine HO.out.mono ?_
        rintro e w5 ⟨rfl, hb5⟩
        have HB5 := Lib.hid hb5
        clear hb5
        go_wp2_with fail
        go_ret2
        exact readP_some HF.out ((hP.out.kept fun j hj => HB5.out.block j hj).base (Nat.le_succ _)) hG.out (hb.out.trans (HB5.out.mono hb.out.size))
      | false =>
        have HF := Lib.hid (by rw [HP0.out, HPs.out, Option.bind_some, if_neg (by rw [← ownQ_plain, hoq]; decide)] : progOf s = none)
        rw [hoq] at HO
        clear hoq
        go_wp2_with fail
        refine HO.out.mono ?_
        rintro e w5 ⟨rfl, hb5⟩
        have HB5 := Lib.hid hb5
        clear hb5
        go_wp2_with fail
        go_ret2
        exact readP_none HF.out (hb.out.trans (HB5.out.mono hb.out.size))

theorem read_prog (s : ByteArray) (w : World) (hs : s.size ≤ 1073741824) (hm : MaxCell w) :
    Calls Tryz.prog 21 #[.string s] w (ReadPTo s w) := by
  by_cases h : s.size ≤ 400
  · exact readp_short s w h hm
  · exact readp_long s w (by omega) hs
end Go.Proofs.YthkokokeppoieaaGreatDoor
