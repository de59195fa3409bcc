/- deedsOf: a choice, and lists: what statements of advice do, as the plain dds says. Condition: texts of at most 400 bytes. -/
import Derived.Test.YtkdnbdgpcgookaaGreatDoorDds
import Derived.Deep.RegionHeld3
namespace Go.Proofs.YtkdnbdgpcgookaaGreatDoor
open Go.RowKit Gram

def SaidDeeds (n : Nat) : Prop := ∀ (xs : List Stm) (w : World) (S : Nat → Prop) (v : Value), (txts xs).length ≤ n → n ≤ 400 → wfs xs = true → (∀ k, S k → k < w.heap.size) → IsBody w S xs v →
  Calls Tryz.prog 49 #[v] w fun e w' => e = .returned (ddV (dds xs)) ∧ Below w.heap.size w w'

/-- a choice's two bodies in a block of their own -/
theorem cho_start (w : World) (va vb : Value) : let o := Obj.cells #[va, vb] 164
    (w.alloc o).drew.cell? ⟨w.heap.size, 0, none⟩ = some va ∧ (w.alloc o).drew.cell? ⟨w.heap.size, 1, none⟩ = some vb ∧ Below (w.heap.size + 1) (w.alloc o) (w.alloc o).drew := by
  have h := heap_alloc_new w (Obj.cells #[va, vb] 164)
  refine ⟨?_, ?_, (Below.refl _ _).drew⟩
  · show (w.alloc _).cell? _ = _
    rw [Lib.cell_of_heap h]; rfl
  · show (w.alloc _).cell? _ = _
    rw [Lib.cell_of_heap h]; rfl
theorem cho_later {w w1 w2 : World} {va vb : Value} {o : Obj} (h : w1.cell? ⟨w.heap.size, 0, none⟩ = some va ∧ w1.cell? ⟨w.heap.size, 1, none⟩ = some vb ∧ Below (w.heap.size + 1) (w.alloc o) w1) (hb : Below w1.heap.size w1 w2) :
    w2.cell? ⟨w.heap.size, 0, none⟩ = some va ∧ w2.cell? ⟨w.heap.size, 1, none⟩ = some vb ∧ Below (w.heap.size + 1) (w.alloc o) w2 := by
  obtain ⟨h0, h1, h2⟩ := h
  have hs := h2.size
  rw [alloc_size'] at hs
  have hk : w2.heap[w.heap.size]? = w1.heap[w.heap.size]? := hb.block _ (by omega)
  exact ⟨(World.cell?_of_block (a := ⟨w.heap.size, 0, none⟩) hk).trans h0, (World.cell?_of_block (a := ⟨w.heap.size, 1, none⟩) hk).trans h1, h2.trans (hb.mono (by omega))⟩
theorem cho_below {w w1 : World} {o : Obj} (h : Below (w.heap.size + 1) (w.alloc o) w1) : Below w.heap.size w w1 := ((Below.refl _ w).alloc (Nat.le_refl _) o).trans (h.mono (by omega))

theorem cho_but {w w1 w2 : World} {va vb : Value} {o : Obj} {b : Nat} (hl : b < w.heap.size) (h : w1.cell? ⟨w.heap.size, 0, none⟩ = some va ∧ w1.cell? ⟨w.heap.size, 1, none⟩ = some vb ∧ Below (w.heap.size + 1) (w.alloc o) w1) (hb : But b w1 w2) :
    w2.cell? ⟨w.heap.size, 0, none⟩ = some va ∧ w2.cell? ⟨w.heap.size, 1, none⟩ = some vb := by
  obtain ⟨h0, h1, h2⟩ := h
  have hs := h2.size
  rw [alloc_size'] at hs
  have hk : w2.heap[w.heap.size]? = w1.heap[w.heap.size]? := hb.block _ (by omega) (by omega)
  exact ⟨(World.cell?_of_block (a := ⟨w.heap.size, 0, none⟩) hk).trans h0, (World.cell?_of_block (a := ⟨w.heap.size, 1, none⟩) hk).trans h1⟩

set_option maxHeartbeats 4000000 in
set_option maxRecDepth 100000 in
theorem visit_cho (w : World) (b : Nat) (d x y : Dd) (va vb : Value) (h : DdAt w b d) (hl : d.least ≤ 1000) (hm : d.most ≤ 1000) (hx : x.least ≤ 1000 ∧ x.most ≤ 1000) (hy : y.least ≤ 1000 ∧ y.most ≤ 1000)
    (ha : ∀ w', Below w.heap.size w w' → Calls Tryz.prog 49 #[va] w' fun e w'' => e = .returned (ddV x) ∧ Below w'.heap.size w' w'')
    (hb : ∀ w', Below w.heap.size w w' → Calls Tryz.prog 49 #[vb] w' fun e w'' => e = .returned (ddV y) ∧ Below w'.heap.size w' w'') (hva : ∃ a n c, va = .slice a n c) (hvb : ∃ a n c, vb = .slice a n c) :
    Calls Tryz.prog 79 #[.pointer (some ⟨b, 0, none⟩), .iface 164 (.agg #[va, vb])] w fun r w' => r = .returned (.tuple #[]) ∧ DdAt w' b (d.plus (x.either y)) ∧ But b w w' := by
  have HA := Lib.hid ha
  have HB := Lib.hid hb
  have HE := Lib.hid (fun w' (hw : Below w.heap.size w w') => either_any w' b d x y ((hw.block b h.lt).trans h) hl hm hx hy)
  have HL := Lib.hid h.lt
  clear ha hb h hl hm hx hy
  have t0 := sw_cho_chg
  have t1 := sw_cho_prt
  have t2 := sw_cho_call
  have t3 := sw_cho_pro
  have t4 := sw_cho_cho
  obtain ⟨la, ln, lc, rfl⟩ := hva
  obtain ⟨fa, fn, fc, rfl⟩ := hvb
  go_enter Tryz.func79, Tryz.ntmps79
  go_wp2_with fail
  have S0 := Lib.hid (cho_start w (.slice la ln lc) (.slice fa fn fc))
  go_region_held3 (fun w' => w'.cell? ⟨w.heap.size, 0, none⟩ = some (.slice la ln lc) ∧ w'.cell? ⟨w.heap.size, 1, none⟩ = some (.slice fa fn fc))
    ((first | assumption | exact ⟨S0.out.1, S0.out.2.1⟩ | exact ⟨S2.out.1, S2.out.2.1⟩ | exact ⟨S3.out.1, S3.out.2.1⟩ | exact cho_but HL.out S3.out hB4))
    ((first
    | (go_at_call_of 49 (Value.slice la ln lc); refine (HA.out _ (cho_below S0.out.2.2)).mono ?_
       rintro r w2 ⟨rfl, hb2⟩
       have S2 := Lib.hid (cho_later S0.out hb2))
    | (go_at_call_of 49 (Value.slice fa fn fc); refine (HB.out _ (cho_below S2.out.2.2)).mono ?_
       rintro r w3 ⟨rfl, hb3⟩
       have S3 := Lib.hid (cho_later S2.out hb3))
    | (go_at_call 98; refine (HE.out _ (cho_below S3.out.2.2)).mono ?_
       rintro r w4 ⟨rfl, hD, hB4⟩)))
  go_end0
  exact ⟨rfl, hD, (But.of_below (cho_below S3.out.2.2)).trans hB4⟩

theorem dd_bound (xs : List Stm) (h : wfs xs = true) (hl : (txts xs).length ≤ 400) : (dds xs).least ≤ 1000 ∧ (dds xs).most ≤ 1000 := by
  have := (tells_all xs h).le
  have := (tells_all xs h).least
  omega

theorem txts_take (xs : List Stm) (k : Nat) (x : Stm) (h : xs[k]? = some x) : (txts (xs.take k)).length + x.txt.length ≤ (txts xs).length ∧ xs.take (k + 1) = xs.take k ++ [x] := by
  obtain ⟨hk, rfl⟩ := List.getElem?_eq_some_iff.1 h
  refine ⟨?_, List.take_succ_eq_append_getElem hk⟩
  have h1 := congrArg (fun l => (txts l).length) (List.take_append_drop (k + 1) xs)
  rw [List.take_succ_eq_append_getElem hk] at h1
  have h2 : txts [xs[k]] = xs[k].txt := by simp [txts]
  simp only [txts_append, List.length_append, h2] at h1
  omega
theorem wfs_get {xs : List Stm} (h : wfs xs = true) {k : Nat} {x : Stm} (hx : xs[k]? = some x) : x.wf = true ∧ wfs (xs.take k) = true := by
  obtain ⟨hk, rfl⟩ := List.getElem?_eq_some_iff.1 hx
  have h1 : wfs (xs.take k ++ [xs[k]] ++ xs.drop (k + 1)) = true := by
    rw [← List.take_succ_eq_append_getElem hk, List.take_append_drop]; exact h
  rw [wfs_append, wfs_snoc] at h1
  simp only [Bool.and_eq_true] at h1
  exact ⟨h1.1.2, h1.1.1⟩

/-- a visit of any statement -/
theorem visit_any (n : Nat) (ih : ∀ m, m < n → SaidDeeds m) (x : Stm) (w : World) (S : Nat → Prop) (b : Nat) (d : Dd) (v : Value) (hx : x.txt.length ≤ n) (hn : n ≤ 400) (hw : x.wf = true) (hS : ∀ k, S k → k < w.heap.size) (hst : IsStm w S x v)
    (hD : DdAt w b d) (hl : d.least ≤ 1000) (hm : d.most ≤ 1000) :
    Calls Tryz.prog 79 #[.pointer (some ⟨b, 0, none⟩), v] w fun r w' => r = .returned (.tuple #[]) ∧ DdAt w' b (d.plus x.dd) ∧ But b w w' := by
  cases x with
  | chg g e => simp only [IsStm] at hst; subst hst; exact visit_chg w b d g e hD
  | prt => simp only [IsStm] at hst; subst hst; exact visit_prt w b d hD
  | pro => simp only [IsStm] at hst; subst hst; exact visit_pro w b d hD hl hm
  | call e => simp only [IsStm] at hst; subst hst; exact visit_call w b d e hD
  | cho p q =>
    simp only [Stm.wf, Bool.and_eq_true] at hw
    simp only [Stm.txt, List.length_cons, List.length_append, List.length_nil] at hx
    simp only [IsStm] at hst
    obtain ⟨va, vb, vas, vbs, rfl, r1, s1, r2, s2⟩ := hst
    have hk : ∀ w', Below w.heap.size w w' → (∀ k, S k → k < w'.heap.size) ∧ ∀ k, S k → w'.heap[k]? = w.heap[k]? := fun w' hb =>
      ⟨fun k h => Nat.lt_of_lt_of_le (hS k h) hb.size, fun k h => hb.block k (hS k h)⟩
    exact visit_cho w b d (dds p) (dds q) va vb hD hl hm (dd_bound p hw.1 (by omega)) (dd_bound q hw.2 (by omega))
      (fun w' hb => ih (txts p).length (by omega) p w' S va (Nat.le_refl _) (by omega) hw.1 (hk w' hb).1 (IsBody.kept (hk w' hb).2 (fun _ h => h) ⟨vas, r1, s1⟩))
      (fun w' hb => ih (txts q).length (by omega) q w' S vb (Nat.le_refl _) (by omega) hw.2 (hk w' hb).1 (IsBody.kept (hk w' hb).2 (fun _ h => h) ⟨vbs, r2, s2⟩))
      (slice_form r1.1) (slice_form r2.1)

theorem stms_at {w : World} {S : Nat → Prop} : ∀ (xs : List Stm) (vs : List Value), IsStms w S xs vs → ∀ k, k < xs.length → ∃ x v, xs[k]? = some x ∧ vs[k]? = some v ∧ IsStm w S x v
  | [], _, _, k, hk => by simp at hk
  | x :: xs, vs, h, k, hk => by
    simp only [IsStms] at h
    obtain ⟨v, t, rfl, h1, h2⟩ := h
    cases k with
    | zero => exact ⟨x, v, rfl, rfl, h1⟩
    | succ k =>
      obtain ⟨y, u, a, b, c⟩ := stms_at xs t h2 k (by simpa using hk)
      exact ⟨y, u, by simpa using a, by simpa using b, c⟩

theorem full_dd {w : World} {b : Nat} {d : Dd} (h : DdAt w b d) (e : Dd) :
    DdAt (((((w.setCell ⟨b, 0, none⟩ (.int .i64 e.least)).setCell ⟨b, 1, none⟩ (.int .i64 e.most)).setCell ⟨b, 2, none⟩ (.bool e.chg)).setCell ⟨b, 3, none⟩ (.bool e.prt)).setCell ⟨b, 4, none⟩ (.bool e.call)) b e :=
  ((((h.put 0 _ (d' := ⟨e.least, d.most, d.chg, d.prt, d.call⟩) rfl).put 1 _ (d' := ⟨e.least, e.most, d.chg, d.prt, d.call⟩) rfl).put 2 _ (d' := ⟨e.least, e.most, e.chg, d.prt, d.call⟩) rfl).put 3 _ (d' := ⟨e.least, e.most, e.chg, e.prt, d.call⟩) rfl).put 4 _ rfl

set_option maxHeartbeats 2000000 in
set_option maxRecDepth 100000 in
theorem deeds_loop (n : Nat) (ih : ∀ m, m < n → SaidDeeds m) (xs : List Stm) (w : World) (S : Nat → Prop) (ad : Option Addr) (ln cp : Nat) (vs : List Value) (hx : (txts xs).length ≤ n) (hn : n ≤ 400) (hw : wfs xs = true)
    (hS : ∀ k, S k → k < w.heap.size) (hr : Row w S (.slice ad ln cp) vs) (hs : IsStms w S xs vs) (hln : ln = xs.length) :
    Calls Tryz.prog 49 #[.slice ad ln cp] w fun e w' => e = .returned (ddV (dds xs)) ∧ Below w.heap.size w w' := by
  have hle := txts_ge xs
  have hlb : ln ≤ 400 := by omega
  have H := Lib.hid ih
  have HR := Lib.hid hr
  have HS := Lib.hid hs
  have HL := Lib.hid hln
  have HSS := Lib.hid hS
  have HX := Lib.hid hx
  have HW := Lib.hid hw
  clear ih hr hs hS hln hx hle hw
  go_enter Tryz.func49, Tryz.ntmps49
  go_wp2_with fail
  go_loopw [8] (fun i wr => ∃ k : Nat, k ≤ ln ∧ i = .int .i64 k ∧ Hid (DdAt wr (w.heap.size + 1) (dds (xs.take k))) ∧ Hid (wr.heap[w.heap.size]? = some (.cells (ddC Dd.zero) 86 (0, 0))) ∧ Hid (Below w.heap.size w wr)) (fun i _ => ln - (intOf i).toNat)
  case atStart =>
    have h1 := heap_alloc_new w (Obj.cells (ddC Dd.zero) 86)
    have h2 := heap_alloc_new (w.alloc (Obj.cells (ddC Dd.zero) 86)) (Obj.cells (ddC Dd.zero) 86)
    rw [alloc_size'] at h2
    refine ⟨0, Nat.zero_le _, by go_num, h2, ?_, ((Below.refl _ _).alloc (Nat.le_refl _) _).alloc (by simp) _⟩
    exact (Lib.alloc_old _ _ _ (by simp)).trans h1
  case round =>
    obtain ⟨k, hk, rfl, hD, hR0, hb⟩ := hrel
    by_cases hlt : k < ln
    · obtain ⟨x, v, hxk, hvk, hst⟩ := stms_at xs vs HS.out k (by rw [← HL.out]; exact hlt)
      obtain ⟨g, hga, hc1⟩ : ∃ g, ad = some ⟨g, 0, none⟩ ∧ wr.cell? ⟨g, k, none⟩ = some v := by
        rcases HR.out.1.2 with ⟨h1, h2⟩ | ⟨g, cap, cur, h1, _, _⟩
        · injection h1 with h3 h4; omega
        · injection h1 with h3 h4 h5
          subst h3; subst h4; subst h5
          have hg := HSS.out g (HR.out.2 g rfl)
          have := row_cell HR.out.1 k v hvk
          exact ⟨g, rfl, by rw [← this]; exact World.cell?_of_block (a := ⟨g, k, none⟩) (hb.out.block g hg)⟩
      subst hga
      obtain ⟨hb1, hb2⟩ := txts_take xs k x hxk
      obtain ⟨hw1, hw2⟩ := wfs_get HW.out hxk
      have hx2 := HX.out
      obtain ⟨hl1, hl2⟩ := dd_bound (xs.take k) hw2 (by omega)
      have HV := Lib.hid (visit_any n H.out x wr S (w.heap.size + 1) _ v (by omega) hn hw1 (fun k hk => Nat.lt_of_lt_of_le (HSS.out k hk) hb.out.size) (IsStm.kept (fun j hj => hb.out.block j (HSS.out j hj)) (fun _ h => h) _ _ hst) hD.out hl1 hl2)
      have HT := Lib.hid hb2
      obtain ⟨ty, pv, rfl⟩ := hst.iface
      have HDl := Lib.hid hD.out.lt
      clear hb1 hb2 hw1 hw2 hx2 hl1 hl2 hst hxk hvk
      go_wp2_with fail
      refine HV.out.mono ?_
      rintro e w2 ⟨rfl, hD2, hB2⟩
      have HD2 := Lib.hid hD2
      have HB2 := Lib.hid hB2
      clear hD2 hB2
      go_wp2_with fail
      go_roundw
      case rel =>
        refine ⟨k + 1, by omega, by go_num, ?_, ?_, hb.out.trans (HB2.out.below hb.out.size (by omega))⟩
        · show DdAt _ _ _
          rw [HT.out, dds_snoc]; exact HD2.out
        · exact (HB2.out.block _ (by have := HDl.out; omega) (by omega)).trans hR0.out
      case measure => simp [intOf]; omega
    · have hall : xs.take k = xs := List.take_of_length_le (by rw [← HL.out]; omega)
      rw [hall] at hD
      obtain ⟨c0, c1, c2, c3, c4, f0, f1, f2, f3, f4⟩ := hD.out.cells
      obtain ⟨z0, z1, z2, z3, z4, y0, y1, y2, y3, y4⟩ := (show DdAt wr w.heap.size Dd.zero from hR0.out).cells
      have HF := Lib.hid (full_dd (show DdAt wr w.heap.size Dd.zero from hR0.out) (dds xs))
      go_wp2_with fail
      obtain ⟨e0, e1, e2, e3, e4, _⟩ := HF.out.cells
      refine bodyPost_ret (v := ddV (dds xs)) ?_ rfl ⟨rfl, ((((hb.out.setCell (Nat.le_refl _) _).setCell (Nat.le_refl _) _).setCell (Nat.le_refl _) _).setCell (Nat.le_refl _) _).setCell (Nat.le_refl _) _⟩
      simp [results, Tryz.results49, go_sem, e0, e1, e2, e3, e4, ddV, ddC]

theorem deeds_all (n : Nat) : SaidDeeds n := by
  induction n using Nat.strongRecOn with
  | _ n ih =>
    intro xs w S v hx hn hw hS hB
    obtain ⟨vs, hr, hs⟩ := hB
    obtain ⟨ad, ln, cp, rfl⟩ := slice_form hr.1
    have hl := IsStms.len _ _ hs
    refine deeds_loop n ih xs w S ad ln cp vs hx hn hw hS hr hs ?_
    rcases hr.1.2 with ⟨h1, h2⟩ | ⟨g, cap, cur, h1, _⟩
    · injection h1 with _ h3; omega
    · injection h1 with _ h3; omega

theorem deeds_any (xs : List Stm) (w : World) (S : Nat → Prop) (v : Value) (hx : (txts xs).length ≤ 400) (hw : wfs xs = true) (hS : ∀ k, S k → k < w.heap.size) (hB : IsBody w S xs v) :
    Calls Tryz.prog 49 #[v] w fun e w' => e = .returned (ddV (dds xs)) ∧ Below w.heap.size w w' :=
  deeds_all 400 xs w S v hx (Nat.le_refl _) hw hS hB
end Go.Proofs.YtkdnbdgpcgookaaGreatDoor
