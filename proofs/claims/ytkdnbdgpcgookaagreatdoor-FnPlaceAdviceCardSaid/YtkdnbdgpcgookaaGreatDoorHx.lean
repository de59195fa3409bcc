/- adviceKindOf, fault, permits: the kind that a word says; what is wrong with deeds. Condition: the errors lie where start-up laid them. fault and permits: what is wrong with deeds, and whether a kind of advice permits it. Condition: the errors lie where start-up laid them. readAspect: the kind and the statements of a valid aspect, else an error. Conditions: texts of at most 2^30 bytes; the errors lie where start-up laid them. AspectValid, ChangesValue, PrintsIn, FormatAspect of the program, as the plain aspOf says. Conditions: texts of at most 2^30 bytes; the errors lie where start-up laid them. -/
import Derived.Test.YtkdnbdgpcgookaaGreatDoorErr
import Derived.Test.YtkdnbdgpcgookaaGreatDoorAx
import Derived.Test.YtkdnbdgpcgookaaGreatDoorAsp
import Derived.Test.YtkdnbdgpcgookaaGreatDoorFx
import Derived.BigRegion
namespace Go.Proofs.YtkdnbdgpcgookaaGreatDoor
open Go.RowKit Gram

theorem word_is (k : ByteArray) (l : List UInt8) (b : Bool) (h : (k.toList == l) = b) : (k.toList == l) = b ∧ (l == k.toList) = b := by
  refine ⟨h, ?_⟩
  rw [← h, Bool.eq_iff_iff]
  simp only [beq_iff_eq]
  exact eq_comm

set_option maxHeartbeats 1000000 in
set_option maxRecDepth 100000 in
theorem kind_any (k : ByteArray) (w : World) (ek ec eb el ep : Addr) (h : Errs w ek ec eb el ep) :
    Calls Tryz.prog 56 #[.string k] w fun e w' => e = .returned (match kindOf k with
      | some n => .tuple #[.int .i64 n, .nilIface]
      | none => .tuple #[.int .i64 0, errV ek]) ∧ Below w.heap.size w w' := by
  have he := fun o => cell_stays (g := 2) ((Below.refl w.heap.size w).alloc (Nat.le_refl _) o) h.kind
  clear h
  unfold errV at *
  unfold kindOf
  cases h0 : isBefore k with
  | true =>
    obtain ⟨a0, b0⟩ := word_is k _ _ h0
    clear h0
    go_enter Tryz.func56, Tryz.ntmps56
    go_wp2
    refine wp_loop_rounds 1 ?_
    rw [rounds_succ]
    go_wp2
    go_ret2
    exact ⟨rfl, (Below.refl _ _).alloc (Nat.le_refl _) _⟩
  | false =>
    obtain ⟨a0, b0⟩ := word_is k _ _ h0
    clear h0
    cases h1 : isAfter k with
    | true =>
      obtain ⟨a1, b1⟩ := word_is k _ _ h1
      clear h1
      go_enter Tryz.func56, Tryz.ntmps56
      go_wp2
      refine wp_loop_rounds 2 ?_
      rw [rounds_succ]
      go_wp2
      rw [rounds_succ]
      go_wp2
      go_ret2
      exact ⟨rfl, (Below.refl _ _).alloc (Nat.le_refl _) _⟩
    | false =>
      obtain ⟨a1, b1⟩ := word_is k _ _ h1
      clear h1
      cases h2 : isAround k with
      | true =>
        obtain ⟨a2, b2⟩ := word_is k _ _ h2
        clear h2
        go_enter Tryz.func56, Tryz.ntmps56
        go_wp2
        refine wp_loop_rounds 3 ?_
        rw [rounds_succ]
        go_wp2
        rw [rounds_succ]
        go_wp2
        rw [rounds_succ]
        go_wp2
        go_ret2
        exact ⟨rfl, (Below.refl _ _).alloc (Nat.le_refl _) _⟩
      | false =>
        obtain ⟨a2, b2⟩ := word_is k _ _ h2
        clear h2
        go_enter Tryz.func56, Tryz.ntmps56
        go_wp2
        refine wp_loop_rounds 4 ?_
        rw [rounds_succ]
        go_wp2
        rw [rounds_succ]
        go_wp2
        rw [rounds_succ]
        go_wp2
        rw [rounds_succ]
        go_wp2
        go_quiet (fail)
        go_wp2
        go_ret2
        exact ⟨rfl, ((Below.refl _ _).alloc (Nat.le_refl _) _).trans ⟨rfl, rfl, rfl, Nat.le_refl _, fun _ _ => rfl⟩⟩
end Go.Proofs.YtkdnbdgpcgookaaGreatDoor
namespace Go.Proofs.YtkdnbdgpcgookaaGreatDoor
open Go.RowKit Gram

/-- what is wrong with deeds -/
def faultV (el ep : Addr) (d : Dd) : Value := if d.call = true then errV el else if 0 < d.most then errV ep else .nilIface

set_option maxHeartbeats 1000000 in
set_option maxRecDepth 100000 in
theorem fault_any (d : Dd) (w : World) (ek ec eb el ep : Addr) (h : Errs w ek ec eb el ep) (hm : d.most ≤ 1000) :
    Calls Tryz.prog 59 #[ddV d] w fun e w' => e = .returned (faultV el ep d) ∧ Below w.heap.size w w' := by
  have h1 := fun o => cell_stays (g := 3) ((Below.refl w.heap.size w).alloc (Nat.le_refl _) o) h.calls
  have h2 := fun o => cell_stays (g := 4) ((Below.refl w.heap.size w).alloc (Nat.le_refl _) o) h.proc
  have h3 := h.calls
  have h4 := h.proc
  clear h
  obtain ⟨le, mo, ch, pr, ca⟩ := d
  simp only at hm
  unfold faultV errV ddV ddC at *
  cases ca with
  | true =>
    go_enter Tryz.func59, Tryz.ntmps59
    go_wp2_with fail
    go_ret
    exact ⟨rfl, (Below.refl _ _).alloc (Nat.le_refl _) _⟩
  | false =>
    by_cases h0 : 0 < mo
    · go_enter Tryz.func59, Tryz.ntmps59
      go_wp2_with fail
      go_ret
      exact ⟨by simp, (Below.refl _ _).alloc (Nat.le_refl _) _⟩
    · have h5 : mo = 0 := by omega
      subst h5
      go_enter Tryz.func59, Tryz.ntmps59
      go_wp2_with fail
      go_ret
      exact ⟨by simp, (Below.refl _ _).alloc (Nat.le_refl _) _⟩

set_option maxHeartbeats 1000000 in
set_option maxRecDepth 100000 in
theorem permits_no (n : Nat) (x : Addr) (w : World) (hn : ((n : Int) == 2) = false) :
    Calls Tryz.prog 60 #[.int .i64 n, errV x] w fun e w' => e = .returned (.bool false) ∧ Below w.heap.size w w' := by
  unfold errV
  go_enter Tryz.func60, Tryz.ntmps60
  go_wp2_with fail
  go_ret
  exact ⟨rfl, Below.refl _ _⟩

set_option maxHeartbeats 1000000 in
set_option maxRecDepth 100000 in
theorem permits_around (x : Addr) (b : Bool) (w : World) (ek ec eb el ep : Addr) (h : Errs w ek ec eb el ep) (hx : x = ep ∧ b = true ∨ x = el ∧ b = false) :
    Calls Tryz.prog 60 #[.int .i64 2, errV x] w fun e w' => e = .returned (.bool b) ∧ Below w.heap.size w w' := by
  have h2 := h.proc
  have HI := Lib.hid (show Calls Tryz.prog 85 #[errV x, errV ep] w fun e w' => e = .returned (.bool b) ∧ w = w' by
    rcases hx with ⟨rfl, rfl⟩ | ⟨rfl, rfl⟩
    · exact is_same _ _
    · obtain ⟨c1, t1, h1⟩ := h.hl
      obtain ⟨c2, t2, h3⟩ := h.hp
      exact is_other _ _ _ _ _ _ _ h.ne h1 h3)
  clear h hx
  unfold errV at *
  go_enter Tryz.func60, Tryz.ntmps60
  go_wp2_with (go_at_call 85; refine HI.out.mono ?_; rintro e w' ⟨rfl, rfl⟩)
  all_goals
    go_ret
    exact ⟨rfl, Below.refl _ _⟩

theorem permits_any (n : Nat) (d : Dd) (x : Addr) (w : World) (ek ec eb el ep : Addr) (h : Errs w ek ec eb el ep) (hf : faultV el ep d = errV x) :
    Calls Tryz.prog 60 #[.int .i64 n, errV x] w fun e w' => e = .returned (.bool (n == 2 && !d.call)) ∧ Below w.heap.size w w' := by
  by_cases hn : n = 2
  · subst hn
    refine permits_around x _ w ek ec eb el ep h ?_
    unfold faultV errV at hf
    cases hc : d.call with
    | true =>
      rw [if_pos hc] at hf
      injection hf with _ hf
      injection hf with hf
      injection hf with hf
      exact .inr ⟨hf.symm, rfl⟩
    | false =>
      rw [if_neg (by rw [hc]; decide)] at hf
      split at hf
      · injection hf with _ hf
        injection hf with hf
        injection hf with hf
        exact .inl ⟨hf.symm, rfl⟩
      · cases hf
  · refine (permits_no n x w (by rw [beq_eq_false_iff_ne]; omega)).mono ?_
    rintro e w' ⟨rfl, hb⟩
    refine ⟨?_, hb⟩
    have : (n == 2) = false := by rw [beq_eq_false_iff_ne]; exact hn
    rw [this]; rfl
end Go.Proofs.YtkdnbdgpcgookaaGreatDoor
namespace Go.Proofs.YtkdnbdgpcgookaaGreatDoor
open Go.RowKit Gram

theorem stmts_adv (b : ByteArray) : stmtsOf true 60 b = advOf b := by
  unfold stmtsOf advOf
  rw [reads_all]

/-- an aspect as a value -/
def aspV (k c b : ByteArray) : Value := .agg #[.string k, .string c, .string b]

/-- what readAspect hands back -/
def RaspTo (o : Option (Nat × List Stm)) (w : World) (e : Ending) (w' : World) : Prop :=
  (match o with
    | some (n, xs) => ∃ v S, e = .returned (.tuple #[.agg #[.int .i64 n, v], .nilIface]) ∧ IsBody w' S xs v ∧ ∀ k, S k → k < w'.heap.size
    | none => ∃ a, e = .returned (.tuple #[.agg #[.int .i64 0, .slice none 0 0], errV a])) ∧ Below w.heap.size w w'

/-- the aspect and the result lie in blocks of their own -/
structure Two (w w1 : World) (k c b : ByteArray) : Prop where
  arg : w1.heap[w.heap.size]? = some (.cells #[.string k, .string c, .string b] 24 (0, 0))
  res : w1.heap[w.heap.size + 1]? = some (.cells #[.int .i64 0, .slice none 0 0] 57 (0, 0))
  below : Below w.heap.size w w1
theorem Two.start (w : World) (k c b : ByteArray) : Two w ((w.alloc (.cells #[.string k, .string c, .string b] 24)).alloc (.cells #[.int .i64 0, .slice none 0 0] 57)) k c b := by
  have h1 := heap_alloc_new w (Obj.cells #[.string k, .string c, .string b] 24)
  have h2 := heap_alloc_new (w.alloc (Obj.cells #[.string k, .string c, .string b] 24)) (Obj.cells #[.int .i64 0, .slice none 0 0] 57)
  rw [alloc_size'] at h2
  exact ⟨(Lib.alloc_old _ _ _ (by simp)).trans h1, h2, ((Below.refl _ _).alloc (Nat.le_refl _) _).alloc (by simp) _⟩
theorem Two.later {w w1 w2 : World} {k c b : ByteArray} (h : Two w w1 k c b) (hb : Below w1.heap.size w1 w2) : Two w w2 k c b :=
  ⟨(hb.block _ (heap_lt h.arg)).trans h.arg, (hb.block _ (heap_lt h.res)).trans h.res, h.below.trans (hb.mono h.below.size)⟩
theorem Two.read {w w1 : World} {k c b : ByteArray} (h : Two w w1 k c b) :
    w1.cell? ⟨w.heap.size, 0, none⟩ = some (.string k) ∧ w1.cell? ⟨w.heap.size, 1, none⟩ = some (.string c) ∧ w1.cell? ⟨w.heap.size, 2, none⟩ = some (.string b) ∧
    w1.cell? ⟨w.heap.size + 1, 0, none⟩ = some (.int .i64 0) ∧ w1.cell? ⟨w.heap.size + 1, 1, none⟩ = some (.slice none 0 0) ∧ w1.frozen? ⟨w.heap.size + 1, 0, none⟩ = false ∧ w1.frozen? ⟨w.heap.size + 1, 1, none⟩ = false := by
  refine ⟨?_, ?_, ?_, ?_, ?_, Lib.frozen_of_heap h.res 0, Lib.frozen_of_heap h.res 1⟩
  all_goals first | (rw [Lib.cell_of_heap h.arg]; rfl) | (rw [Lib.cell_of_heap h.res]; rfl)
/-- behind the store of the result -/
theorem Two.put {w w1 : World} {k c b : ByteArray} (h : Two w w1 k c b) (x y : Value) :
    let w2 := (w1.setCell ⟨w.heap.size + 1, 0, none⟩ x).setCell ⟨w.heap.size + 1, 1, none⟩ y
    w2.cell? ⟨w.heap.size + 1, 0, none⟩ = some x ∧ w2.cell? ⟨w.heap.size + 1, 1, none⟩ = some y ∧ Below w.heap.size w w2 ∧ ∀ j, j ≠ w.heap.size + 1 → w2.heap[j]? = w1.heap[j]? := by
  have h1 := heap_set_same (heap_set_same (k := 0) h.res x) (k := 1) y
  refine ⟨?_, ?_, (h.below.setCell (by simp) x).setCell (by simp) y, fun j hj => (heap_set_other hj y).trans (heap_set_other hj x)⟩
  · rw [Lib.cell_of_heap h1]; rfl
  · rw [Lib.cell_of_heap h1]; rfl

set_option maxHeartbeats 2000000 in
set_option maxRecDepth 100000 in
theorem rasp_kind (k c b : ByteArray) (w : World) (ek ec eb el ep : Addr) (h : Errs w ek ec eb el ep) (hk : kindOf k = none) :
    Calls Tryz.prog 29 #[aspV k c b] w (RaspTo none w) := by
  have HK := Lib.hid (fun w' (hb : Below w.heap.size w w') => kind_any k w' ek ec eb el ep (h.later hb))
  rw [hk] at HK
  clear hk h
  have S0 := Lib.hid (Two.start w k c b)
  unfold aspV
  go_enter Tryz.func29, Tryz.ntmps29
  go_wp2_with fail
  refine (HK.out _ S0.out.below).mono ?_
  rintro e w1 ⟨rfl, hb⟩
  have S1 := Lib.hid (S0.out.later hb)
  obtain ⟨q0, q1, q2, q3, q4, q5, q6⟩ := S1.out.read
  clear hb
  unfold errV
  go_wp2_with fail
  obtain ⟨r0, r1, r2, _⟩ := S1.out.put (.int .i64 0) (.slice none 0 0)
  refine bodyPost_ret (v := .tuple #[.agg #[.int .i64 0, .slice none 0 0], errV ek]) ?_ rfl ⟨⟨_, rfl⟩, r2⟩
  simp [results, Tryz.results29, go_sem, r0, r1, errV]

set_option maxHeartbeats 2000000 in
set_option maxRecDepth 100000 in
theorem rasp_cut (k c b : ByteArray) (w : World) (ek ec eb el ep : Addr) (h : Errs w ek ec eb el ep) (n : Nat) (hk : kindOf k = some n) (hc : c.size ≤ 1073741824) (hcut : (cutOf c).isSome = false) :
    Calls Tryz.prog 29 #[aspV k c b] w (RaspTo none w) := by
  have HK := Lib.hid (fun w' (hb : Below w.heap.size w w') => kind_any k w' ek ec eb el ep (h.later hb))
  have HC := Lib.hid (fun w' => impl_cval c w' hc)
  have HE := Lib.hid (fun w' (hb : Below w.heap.size w w') => (h.later hb).cut)
  rw [hk] at HK
  rw [hcut] at HC
  clear hk h hcut hc
  have S0 := Lib.hid (Two.start w k c b)
  unfold aspV
  go_enter Tryz.func29, Tryz.ntmps29
  go_wp2_with fail
  refine (HK.out _ S0.out.below).mono ?_
  rintro e w1 ⟨rfl, hb⟩
  have S1 := Lib.hid (S0.out.later hb)
  obtain ⟨q0, q1, q2, q3, q4, q5, q6⟩ := S1.out.read
  clear hb
  go_wp2_with fail
  refine (HC.out _).mono ?_
  rintro e w2 ⟨rfl, hb⟩
  have S2 := Lib.hid (S1.out.later hb)
  clear q0 q1 q2 q3 q4 q5 q6
  obtain ⟨q0, q1, q2, q3, q4, q5, q6⟩ := S2.out.read
  have q7 := HE.out _ S2.out.below
  unfold errV at q7
  clear hb
  go_wp2_with fail
  go_region
  all_goals
    go_wp2_with fail
    obtain ⟨r0, r1, r2, _⟩ := S2.out.put (.int .i64 0) (.slice none 0 0)
    refine bodyPost_ret (v := .tuple #[.agg #[.int .i64 0, .slice none 0 0], errV ec]) ?_ rfl ⟨⟨_, rfl⟩, r2.drew⟩
    simp [results, Tryz.results29, go_sem, r0, r1, errV]

set_option maxHeartbeats 2000000 in
set_option maxRecDepth 100000 in
theorem rasp_body (k c b : ByteArray) (w : World) (ek ec eb el ep : Addr) (h : Errs w ek ec eb el ep) (n : Nat) (hk : kindOf k = some n) (hc : c.size ≤ 1073741824) (hb : b.size ≤ 1073741824) (hcut : (cutOf c).isSome = true) (ha : advOf b = none) :
    Calls Tryz.prog 29 #[aspV k c b] w (RaspTo none w) := by
  have HK := Lib.hid (fun w' (hb : Below w.heap.size w w') => kind_any k w' ek ec eb el ep (h.later hb))
  have HC := Lib.hid (fun w' => impl_cval c w' hc)
  have HR := Lib.hid (fun w' => read_any b 60 true w' hb (by decide))
  have HE := Lib.hid (fun w' (hb : Below w.heap.size w w') => (h.later hb).body)
  have HG := Lib.hid (World.block_lt_of_cell? _ _ h.body)
  rw [hk] at HK
  rw [hcut] at HC
  rw [stmts_adv, ha] at HR
  simp only [sigs, if_true] at HR
  clear hk h hcut hc hb ha
  have S0 := Lib.hid (Two.start w k c b)
  unfold aspV
  go_enter Tryz.func29, Tryz.ntmps29
  go_wp2_with fail
  refine (HK.out _ S0.out.below).mono ?_
  rintro e w1 ⟨rfl, hb⟩
  have S1 := Lib.hid (S0.out.later hb)
  obtain ⟨q0, q1, q2, q3, q4, q5, q6⟩ := S1.out.read
  clear hb
  go_wp2_with fail
  refine (HC.out _).mono ?_
  rintro e w2 ⟨rfl, hb⟩
  have S2 := Lib.hid (S1.out.later hb)
  clear q0 q1 q2 q3 q4 q5 q6
  obtain ⟨q0, q1, q2, q3, q4, q5, q6⟩ := S2.out.read
  clear hb
  go_wp2_with fail
  refine (HR.out _).mono ?_
  rintro e w3 ⟨rfl, hb⟩
  have S3 := Lib.hid (S2.out.later hb)
  clear q0 q1 q2 q3 q4 q5 q6
  obtain ⟨q0, q1, q2, q3, q4, q5, q6⟩ := S3.out.read
  have q7 := HE.out _ S3.out.below
  have q8 := fun x => (World.cell?_of_block (a := ⟨1, 0, none⟩) (heap_set_other (w := w3) (g := w.heap.size + 1) (k := 0) (j := 1) (by have h9 : 1 < w.heap.size := HG.out; omega) x)).trans q7
  unfold errV at q7 q8
  clear hb
  go_wp2_with fail
  go_region
  all_goals
    go_wp2_with fail
    obtain ⟨r0, r1, r2, _⟩ := S3.out.put (.int .i64 0) (.slice none 0 0)
    refine bodyPost_ret (v := .tuple #[.agg #[.int .i64 0, .slice none 0 0], errV eb]) ?_ rfl ⟨⟨_, rfl⟩, r2.drew⟩
    simp [results, Tryz.results29, go_sem, r0, r1, errV]

theorem fault_cases (el ep : Addr) (n : Nat) (d : Dd) : (∃ x, faultV el ep d = errV x ∧ (!d.call && (n == 2 || !decide (0 < d.most))) = (n == 2 && !d.call)) ∨ (faultV el ep d = .nilIface ∧ (!d.call && (n == 2 || !decide (0 < d.most))) = true) := by
  unfold faultV
  cases hc : d.call with
  | true => exact .inl ⟨el, by simp, by simp⟩
  | false =>
    by_cases h0 : 0 < d.most
    · exact .inl ⟨ep, by simp [h0], by simp [h0]⟩
    · exact .inr ⟨by simp [h0], by simp [h0]⟩

set_option maxHeartbeats 2000000 in
set_option maxRecDepth 100000 in
theorem rasp_stmts (k c b : ByteArray) (w : World) (ek ec eb el ep : Addr) (h : Errs w ek ec eb el ep) (n : Nat) (xs : List Stm) (hk : kindOf k = some n) (hc : c.size ≤ 1073741824) (hb : b.size ≤ 1073741824) (hcut : (cutOf c).isSome = true) (ha : advOf b = some xs) (o : Option (Nat × List Stm)) (ho : o = if mayStand n xs = true then some (n, xs) else none) :
    Calls Tryz.prog 29 #[aspV k c b] w (RaspTo o w) := by
  have HO := Lib.hid ho
  clear ho
  obtain ⟨hb60, htx, hwf, htl⟩ := advOf_some ha
  have hlen : (txts xs).length ≤ 60 := by rw [← htx]; simpa using hb60
  have HK := Lib.hid (fun w' (hb : Below w.heap.size w w') => kind_any k w' ek ec eb el ep (h.later hb))
  have HC := Lib.hid (fun w' => impl_cval c w' hc)
  have HR := Lib.hid (fun w' => read_any b 60 true w' hb (by decide))
  have HF := Lib.hid (fun w' (hb : Below w.heap.size w w') => fault_any (dds xs) w' ek ec eb el ep (h.later hb) (dd_bound xs hwf (by omega)).2)
  have HP := Lib.hid (fun w' x (hb : Below w.heap.size w w') hf => permits_any n (dds xs) x w' ek ec eb el ep (h.later hb) hf)
  have HD := Lib.hid (fun w' S v hS hB => deeds_any xs w' S v (by omega) hwf hS hB)
  rw [hk] at HK
  rw [hcut] at HC
  rw [stmts_adv, ha] at HR
  simp only [sigs, if_true] at HR
  clear hk h hcut hc hb ha hb60 htx hwf htl hlen
  have S0 := Lib.hid (Two.start w k c b)
  unfold aspV
  go_enter Tryz.func29, Tryz.ntmps29
  go_wp2_with fail
  refine (HK.out _ S0.out.below).mono ?_
  rintro e w1 ⟨rfl, hb⟩
  have S1 := Lib.hid (S0.out.later hb)
  obtain ⟨q0, q1, q2, q3, q4, q5, q6⟩ := S1.out.read
  clear hb
  go_wp2_with fail
  refine (HC.out _).mono ?_
  rintro e w2 ⟨rfl, hb⟩
  have S2 := Lib.hid (S1.out.later hb)
  clear q0 q1 q2 q3 q4 q5 q6
  obtain ⟨q0, q1, q2, q3, q4, q5, q6⟩ := S2.out.read
  clear hb
  go_wp2_with fail
  refine (HR.out _).mono ?_
  rintro e w3 ⟨⟨v, S, rfl, hB, hS⟩, hb⟩
  have S3 := Lib.hid (S2.out.later hb)
  have HB := Lib.hid hB
  have HS := Lib.hid hS
  have hsz := S2.out.below.size
  have hrs := heap_lt S2.out.res
  obtain ⟨va, vn, vc, rfl⟩ := hB.form
  clear q0 q1 q2 q3 q4 q5 q6 hb hB hS
  go_wp2_with fail
  refine (HD.out w3 S _ (fun j hj => by obtain ⟨_, _, _, h9⟩ := HS.out j hj; exact heap_lt h9) HB.out).mono ?_
  rintro e w4 ⟨rfl, hb⟩
  have S4 := Lib.hid (S3.out.later hb)
  have HB4 := Lib.hid (show IsBody w4 S xs (.slice va vn vc) ∧ ∀ j, S j → w.heap.size + 1 < j ∧ j < w4.heap.size from
    ⟨HB.out.kept (fun j hj => by obtain ⟨_, _, _, h9⟩ := HS.out j hj; exact hb.block _ (heap_lt h9)) (fun _ h => h),
     fun j hj => by obtain ⟨h8, _, _, h9⟩ := HS.out j hj; have := heap_lt h9; have := hb.size; omega⟩)
  clear hb
  go_wp2_with fail
  refine (HF.out _ S4.out.below).mono ?_
  rintro e w5 ⟨rfl, hb⟩
  have S5 := Lib.hid (S4.out.later hb)
  have HB5 := Lib.hid (show IsBody w5 S xs (.slice va vn vc) ∧ ∀ j, S j → w.heap.size + 1 < j ∧ j < w5.heap.size from
    ⟨HB4.out.1.kept (fun j hj => hb.block _ (HB4.out.2 j hj).2) (fun _ h => h), fun j hj => ⟨(HB4.out.2 j hj).1, Nat.lt_of_lt_of_le (HB4.out.2 j hj).2 hb.size⟩⟩)
  obtain ⟨q0, q1, q2, q3, q4, q5, q6⟩ := S5.out.read
  clear hb
  rcases fault_cases el ep n (dds xs) with ⟨x, hf, hm⟩ | ⟨hf, hm⟩
  · have HPx := Lib.hid (HP.out w5 x S5.out.below hf)
    rw [hf]
    have HM := Lib.hid hm
    clear hf hm
    generalize (n == 2 && !(dds xs).call) = pb at *
    unfold errV at *
    go_wp2_with fail
    refine HPx.out.mono ?_
    rintro e w6 ⟨rfl, hb⟩
    have S6 := Lib.hid (S5.out.later hb)
    have HB6 := Lib.hid (show IsBody w6 S xs (.slice va vn vc) ∧ ∀ j, S j → w.heap.size + 1 < j ∧ j < w6.heap.size from
      ⟨HB5.out.1.kept (fun j hj => hb.block _ (HB5.out.2 j hj).2) (fun _ h => h), fun j hj => ⟨(HB5.out.2 j hj).1, Nat.lt_of_lt_of_le (HB5.out.2 j hj).2 hb.size⟩⟩)
    clear q0 q1 q2 q3 q4 q5 q6 hb
    obtain ⟨q0, q1, q2, q3, q4, q5, q6⟩ := S6.out.read
    cases pb with
    | true =>
      go_wp2_with fail
      have ho : o = some (n, xs) := by rw [HO.out, mayStand, if_pos HM.out]
      obtain ⟨r0, r1, r2, r3⟩ := S6.out.put (.int .i64 n) (.slice va vn vc)
      refine bodyPost_ret (v := .tuple #[.agg #[.int .i64 n, .slice va vn vc], .nilIface]) ?_ rfl ?_
      · simp [results, Tryz.results29, go_sem, r0, r1]
      · rw [ho]
        exact ⟨⟨_, S, rfl, HB6.out.1.kept (fun j hj => r3 j (by have := (HB6.out.2 j hj).1; omega)) (fun _ h => h), fun j hj => by have := (HB6.out.2 j hj).2; simpa [World.setCell] using this⟩, r2⟩
    | false =>
      go_wp2_with fail
      have ho : o = none := by rw [HO.out, mayStand, if_neg (by rw [HM.out]; decide)]
      obtain ⟨r0, r1, r2, _⟩ := S6.out.put (.int .i64 0) (.slice none 0 0)
      refine bodyPost_ret (v := .tuple #[.agg #[.int .i64 0, .slice none 0 0], errV x]) ?_ rfl ?_
      · simp [results, Tryz.results29, go_sem, r0, r1, errV]
      · rw [ho]
        exact ⟨⟨_, rfl⟩, r2⟩
  · rw [hf]
    have HM := Lib.hid hm
    clear hf hm
    go_wp2_with fail
    have ho : o = some (n, xs) := by rw [HO.out, mayStand, if_pos HM.out]
    obtain ⟨r0, r1, r2, r3⟩ := S5.out.put (.int .i64 n) (.slice va vn vc)
    refine bodyPost_ret (v := .tuple #[.agg #[.int .i64 n, .slice va vn vc], .nilIface]) ?_ rfl ?_
    · simp [results, Tryz.results29, go_sem, r0, r1]
    · rw [ho]
      exact ⟨⟨_, S, rfl, HB5.out.1.kept (fun j hj => r3 j (by have := (HB5.out.2 j hj).1; omega)) (fun _ h => h), fun j hj => by have := (HB5.out.2 j hj).2; simpa [World.setCell] using this⟩, r2⟩

theorem rasp_any (k c b : ByteArray) (w : World) (ek ec eb el ep : Addr) (h : Errs w ek ec eb el ep) (hc : c.size ≤ 1073741824) (hb : b.size ≤ 1073741824) :
    Calls Tryz.prog 29 #[aspV k c b] w (RaspTo (aspOf k c b) w) := by
  cases hk : kindOf k with
  | none =>
    have : aspOf k c b = none := by simp only [aspOf, hk]
    rw [this]
    exact rasp_kind k c b w ek ec eb el ep h hk
  | some n =>
    cases hcut : (cutOf c).isSome with
    | false =>
      have : aspOf k c b = none := by simp only [aspOf, hk, hcut]
      rw [this]
      exact rasp_cut k c b w ek ec eb el ep h n hk hc hcut
    | true =>
      cases ha : advOf b with
      | none =>
        have : aspOf k c b = none := by simp only [aspOf, hk, hcut, ha]
        rw [this]
        exact rasp_body k c b w ek ec eb el ep h n hk hc hb hcut ha
      | some xs => exact rasp_stmts k c b w ek ec eb el ep h n xs hk hc hb hcut ha _ (aspOf_is hk hcut ha)
end Go.Proofs.YtkdnbdgpcgookaaGreatDoor
namespace Go.Proofs.YtkdnbdgpcgookaaGreatDoor
open Go.RowKit Gram

theorem fld_chg (l m : Int) (p q r : Bool) (w : World) : (Instr.field 86 (.agg #[.int .i64 l, .int .i64 m, .bool p, .bool q, .bool r]) 2).run Tryz.prog w = .ok (.bool p) w := by kernel_rfl
theorem fld_prt (l m : Int) (p q r : Bool) (w : World) : (Instr.field 86 (.agg #[.int .i64 l, .int .i64 m, .bool p, .bool q, .bool r]) 3).run Tryz.prog w = .ok (.bool q) w := by kernel_rfl

section
variable (k c b : ByteArray) (w : World) (ek ec eb el ep : Addr) (h : Errs w ek ec eb el ep) (hc : c.size ≤ 1073741824) (hb : b.size ≤ 1073741824)
include h hc hb

set_option maxHeartbeats 1000000 in
set_option maxRecDepth 100000 in
theorem impl_asp : Calls Tryz.prog 9 #[aspV k c b] w fun e w' => e = .returned (.bool (aspOf k c b).isSome) ∧ Below w.heap.size w w' := by
  have HR := Lib.hid (fun w' (hw : Below w.heap.size w w') => rasp_any k c b w' ek ec eb el ep (h.later hw) hc hb)
  unfold aspV at *
  clear h hc hb
  cases ho : aspOf k c b with
  | none =>
    rw [ho] at HR
    clear ho
    unfold RaspTo errV at HR
    go_enter Tryz.func9, Tryz.ntmps9
    go_wp2_with fail
    refine (HR.out _ ((Below.refl _ w).alloc (Nat.le_refl _) _)).mono ?_
    rintro e w1 ⟨⟨a, rfl⟩, hb⟩
    have HB := Lib.hid (((Below.refl _ w).alloc (Nat.le_refl _) _).trans (hb.mono (by simp)))
    clear hb
    go_wp2_with fail
    go_ret
    exact ⟨rfl, HB.out.alloc HB.out.size _⟩
  | some p =>
    obtain ⟨n, xs⟩ := p
    rw [ho] at HR
    clear ho
    unfold RaspTo at HR
    go_enter Tryz.func9, Tryz.ntmps9
    go_wp2_with fail
    refine (HR.out _ ((Below.refl _ w).alloc (Nat.le_refl _) _)).mono ?_
    rintro e w1 ⟨⟨v, S, rfl, hB, _⟩, hb⟩
    obtain ⟨va, vn, vc, rfl⟩ := hB.form
    clear hB
    have HB := Lib.hid (((Below.refl _ w).alloc (Nat.le_refl _) _).trans (hb.mono (by simp)))
    clear hb
    go_wp2_with fail
    go_ret
    exact ⟨rfl, HB.out.alloc HB.out.size _⟩
end
end Go.Proofs.YtkdnbdgpcgookaaGreatDoor
