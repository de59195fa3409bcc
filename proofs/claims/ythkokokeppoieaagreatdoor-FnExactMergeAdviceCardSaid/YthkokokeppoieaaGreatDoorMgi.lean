/- MergeAdvice of the program, as the plain mgA says. Conditions: texts of at most 2^30 bytes; the errors lie where start-up laid them; the library's own number can be read. -/
import Derived.Test.YthkokokeppoieaaGreatDoorMgb
import Derived.Test.YthkokokeppoieaaGreatDoorSmg
import Derived.Test.YthkokokeppoieaaGreatDoorOnly
import Derived.Deep.RegionHeld3
import Derived.Deep.RegionWith
import Derived.WalkSpells
namespace Go.Proofs.YthkokokeppoieaaGreatDoor
open Go.RowKit Gram

/-- what readAspect hands back, in one form -/
theorem rasp_form (k c b : ByteArray) (w : World) (ek ec eb el ep : Addr) (h : Errs w ek ec eb el ep) (hc : c.size ≤ 1073741824) (hb : b.size ≤ 1073741824) :
    Calls Tryz.prog 39 #[aspV k c b] w fun e w' => (∃ (n : Int) (va : Option Addr) (vn vc : Nat) (er : Value), e = .returned (.tuple #[.agg #[.int .i64 n, .slice va vn vc], er]) ∧ ((aspOf k c b = none ∧ ∃ a, er = errV a) ∨ (er = .nilIface ∧ ∃ (m : Nat) (xs : List Stm), aspOf k c b = some (m, xs) ∧ n = m))) ∧ Below w.heap.size w w' := by
  refine (rasp_any k c b w ek ec eb el ep h hc hb).mono ?_
  intro e w' h1
  unfold RaspTo at h1
  cases ho : aspOf k c b with
  | none =>
    rw [ho] at h1
    obtain ⟨⟨a, rfl⟩, hbl⟩ := h1
    exact ⟨⟨0, none, 0, 0, _, rfl, .inl ⟨rfl, a, rfl⟩⟩, hbl⟩
  | some p =>
    obtain ⟨m, xs⟩ := p
    rw [ho] at h1
    obtain ⟨⟨v, S, rfl, hB, _⟩, hbl⟩ := h1
    obtain ⟨va, vn, vc, rfl⟩ := hB.form
    exact ⟨⟨m, va, vn, vc, _, rfl, .inr ⟨rfl, m, xs, rfl, rfl⟩⟩, hbl⟩

/-- the cells that the last region reads -/
abbrev M5 (wz : World) (X Y F : Nat) (k c b b' : ByteArray) (n : Int) (w' : World) : Prop :=
  w'.cell? ⟨X, 0, none⟩ = some (.string k) ∧ w'.cell? ⟨X, 1, none⟩ = some (.string c) ∧ w'.cell? ⟨X, 2, none⟩ = some (.string b) ∧ w'.cell? ⟨Y, 2, none⟩ = some (.string b') ∧ w'.cell? ⟨F, 0, none⟩ = some (.int .i64 n) ∧ Below wz.heap.size wz w'
theorem m5_below {wz : World} {X Y F : Nat} {k c b b' : ByteArray} {n : Int} {w' : World} (h : M5 wz X Y F k c b b' n w') : Below wz.heap.size wz w' := h.2.2.2.2.2
theorem m5_of {wz : World} {X Y F : Nat} {k c b b' : ByteArray} {n : Int} {w' : World} (h : M5 wz X Y F k c b b' n wz) (hb : Below wz.heap.size wz w') : M5 wz X Y F k c b b' n w' :=
  ⟨cell_later hb h.1, cell_later hb h.2.1, cell_later hb h.2.2.1, cell_later hb h.2.2.2.1, cell_later hb h.2.2.2.2.1, hb⟩
theorem m5_later {wz : World} {X Y F : Nat} {k c b b' : ByteArray} {n : Int} {w1 w2 : World} (h0 : M5 wz X Y F k c b b' n wz) (h : M5 wz X Y F k c b b' n w1) (hb : Below w1.heap.size w1 w2) : M5 wz X Y F k c b b' n w2 :=
  m5_of h0 ((m5_below h).trans (hb.mono (m5_below h).size))
theorem m5_alloc {wz : World} {X Y F : Nat} {k c b b' : ByteArray} {n : Int} {w1 : World} (h0 : M5 wz X Y F k c b b' n wz) (o : Obj) (h : M5 wz X Y F k c b b' n w1) : M5 wz X Y F k c b b' n (w1.alloc o) :=
  m5_later h0 h ((Below.refl _ _).alloc (Nat.le_refl _) o)
theorem m5_alloc_drew {wz : World} {X Y F : Nat} {k c b b' : ByteArray} {n : Int} {w1 : World} (h0 : M5 wz X Y F k c b b' n wz) (o : Obj) (h : M5 wz X Y F k c b b' n w1.drew) : M5 wz X Y F k c b b' n (w1.alloc o).drew :=
  m5_of h0 ((m5_below h).trans (((show Below w1.drew.heap.size w1.drew (w1.drew.alloc o) from (Below.refl _ _).alloc (Nat.le_refl _) o).mono (m5_below h).size)))
/-- a block of an aspect that is not written yet -/
def Za (w1 w' : World) (B : Nat) : Prop := Cell3 w' B (.string ⟨#[]⟩) (.string ⟨#[]⟩) (.string ⟨#[]⟩) ∧ w1.heap.size ≤ B
abbrev zeroA : Obj := .cells #[.string ⟨#[]⟩, .string ⟨#[]⟩, .string ⟨#[]⟩] 34
/-- the last block of wz is no aspect -/
def LastI (wz : World) : Prop := ∃ L m, wz.heap.size = L + 1 ∧ wz.cell? ⟨L, 0, none⟩ = some (.int .i64 m)
theorem m5_le {wz W : World} {P D R : ByteArray} (hl : LastI wz) (h : Below wz.heap.size wz (W.alloc (.cells #[.string P, .string D, .string R] 34))) : wz.heap.size ≤ W.heap.size := by
  obtain ⟨L, m, h1, h2⟩ := hl
  have h3 := h.size
  rw [alloc_size'] at h3
  rcases Nat.lt_or_ge W.heap.size wz.heap.size with h4 | h4
  · have h5 : W.heap.size = L := by omega
    have h6 := cell_later h h2
    have h7 := (Cell3.new W (.string P) (.string D) (.string R)).read.1
    rw [h5, h6] at h7
    cases h7
  · exact h4
theorem za_first {wz w' : World} (hb : Below ((wz.alloc zeroA).drew).heap.size ((wz.alloc zeroA).drew) w') : Za wz w' wz.heap.size :=
  ⟨Cell3.later (show Cell3 ((wz.alloc zeroA).drew) wz.heap.size _ _ _ from Cell3.new wz _ _ _) hb, Nat.le_refl _⟩
theorem za_new {wz W w' : World} {X Y F : Nat} {k c b b' : ByteArray} {n : Int} (hl : LastI wz) (hb : Below (W.alloc zeroA).heap.size (W.alloc zeroA) w') (h : M5 wz X Y F k c b b' n (W.alloc zeroA)) : Za wz w' W.heap.size :=
  ⟨(Cell3.new W _ _ _).later hb, m5_le hl (m5_below h)⟩
theorem Za.later {w1 w2 w3 : World} {B : Nat} (h : Za w1 w2 B) (hb : Below w2.heap.size w2 w3) : Za w1 w3 B := ⟨h.1.later hb, h.2⟩
theorem m5_put {wz : World} {X Y F : Nat} {k c b b' : ByteArray} {n : Int} {w2 : World} {B : Nat} (h0 : M5 wz X Y F k c b b' n wz) (hz : Za wz w2 B) (p q r : Value) (h : M5 wz X Y F k c b b' n w2) : M5 wz X Y F k c b b' n (((w2.setCell ⟨B, 0, none⟩ p).setCell ⟨B, 1, none⟩ q).setCell ⟨B, 2, none⟩ r) :=
  m5_of h0 ((((m5_below h).setCell (by simpa using hz.2) p).setCell (by simpa using hz.2) q).setCell (by simpa using hz.2) r)
theorem m5_swap {wz W : World} {X Y F : Nat} {k c b b' : ByteArray} {n : Int} (h0 : M5 wz X Y F k c b b' n wz) (hl : LastI wz) (P D R : Value) (h : M5 wz X Y F k c b b' n (W.alloc zeroA)) : M5 wz X Y F k c b b' n (W.alloc (.cells #[P, D, R] 34)) := by
  have hle := m5_le hl (m5_below h)
  have h4 := m5_below h
  refine m5_of h0 ⟨h4.os, h4.tape, h4.output, by rw [alloc_size']; omega, fun j hj => ?_⟩
  rw [← h4.block j hj, alloc_heap _ j (by omega), alloc_heap _ j (by omega)]
/-- two blocks of aspects side by side -/
theorem beside_mg {w : World} {B R : Nat} {x y z : Value} (h : Cell3 w B x y z) (hne : B ≠ R) (v v' v'' : Value) :
    (w.setCell ⟨R, 0, none⟩ v).cell? ⟨B, 0, none⟩ = some x ∧ ((w.setCell ⟨R, 0, none⟩ v).setCell ⟨R, 1, none⟩ v').cell? ⟨B, 1, none⟩ = some y ∧ (((w.setCell ⟨R, 0, none⟩ v).setCell ⟨R, 1, none⟩ v').setCell ⟨R, 2, none⟩ v'').cell? ⟨B, 2, none⟩ = some z := by
  obtain ⟨h0, h1, h2, _⟩ := h.read
  refine ⟨?_, ?_, ?_⟩
  · exact (World.cell?_of_block (a := ⟨B, 0, none⟩) (heap_set_other hne v)).trans h0
  · exact (World.cell?_of_block (a := ⟨B, 1, none⟩) ((heap_set_other hne v').trans (heap_set_other hne v))).trans h1
  · exact (World.cell?_of_block (a := ⟨B, 2, none⟩) ((heap_set_other hne v'').trans ((heap_set_other hne v').trans (heap_set_other hne v)))).trans h2
theorem kind_some {k : ByteArray} {n : Nat} (h : kindOf k = some n) : k.toList.isEmpty = false := by
  rcases kindOf_cases h with ⟨_, h1⟩ | ⟨_, h1, _⟩ | ⟨_, h1, _⟩
  · rw [eq_of_beq (show (k.toList == [98, 101, 102, 111, 114, 101]) = true from h1)]; rfl
  · rw [eq_of_beq (show (k.toList == [97, 102, 116, 101, 114]) = true from h1)]; rfl
  · rw [eq_of_beq (show (k.toList == [97, 114, 111, 117, 110, 100]) = true from h1)]; rfl
theorem kind_le {k : ByteArray} {n : Nat} (h : kindOf k = some n) : n ≤ 2 := by
  rcases kindOf_cases h with ⟨e, _⟩ | ⟨e, _⟩ | ⟨e, _⟩ <;> omega

set_option maxHeartbeats 20000000 in
set_option maxRecDepth 100000 in
theorem impl_mg (k c b k' c' b' : ByteArray) (w : World) (ek ec eb el ep : Addr) (h : Errs w ek ec eb el ep) (hm : MaxCell w) (hc : c.size ≤ 1073741824) (hb : b.size ≤ 1073741824) (hc' : c'.size ≤ 1073741824) (hb' : b'.size ≤ 1073741824) :
    Calls Tryz.prog 15 #[aspV k c b, aspV k' c' b'] w fun e w' => e = .returned (parV (mgA k c b k' c' b')) ∧ Below w.heap.size w w' := by
  have HR := Lib.hid (fun w' (hw : Below w.heap.size w w') => rasp_form k c b w' ek ec eb el ep (h.later hw) hc hb)
  have HS := Lib.hid (fun w' (hw : Below w.heap.size w w') => rasp_form k' c' b' w' ek ec eb el ep (h.later hw) hc' hb')
  have HO := Lib.hid (fun T (hT : T.size ≤ 1073741824) w' (hw : Below w.heap.size w w') => only_any k c T w' ek ec eb el ep (h.later hw) hc hT)
  have HM := Lib.hid hm
  obtain ⟨w0, hw0⟩ : ∃ w0, w0 = (((w.alloc (.cells #[.string k, .string c, .string b] 34)).alloc (.cells #[.string k', .string c', .string b'] 34)).alloc (.cells #[.string ⟨#[]⟩, .string ⟨#[]⟩, .string ⟨#[]⟩] 34)) := ⟨_, rfl⟩
  have Z1 : (w.alloc (.cells #[.string k, .string c, .string b] 34)).heap.size = w.heap.size + 1 := alloc_size' _ _
  have Z2 : ((w.alloc (.cells #[.string k, .string c, .string b] 34)).alloc (.cells #[.string k', .string c', .string b'] 34)).heap.size = w.heap.size + 1 + 1 := by rw [alloc_size', Z1]
  have up : ∀ (w0 : World) (o : Obj), Below w0.heap.size w0 (w0.alloc o) := fun w0 o => (Below.refl _ _).alloc (Nat.le_refl _) _
  have HX0 := Lib.hid (show Cell3 w0 w.heap.size (.string k) (.string c) (.string b) by
    rw [hw0]; exact (((Cell3.new _ _ _ _).later (up _ _)).later (up _ _)))
  have HY0 := Lib.hid (show Cell3 w0 (w.heap.size + 1) (.string k') (.string c') (.string b') by
    rw [hw0, ← Z1]; exact (Cell3.new _ _ _ _).later (up _ _))
  have HZ0 := Lib.hid (show Cell3 w0 (w.heap.size + 1 + 1) (.string ⟨#[]⟩) (.string ⟨#[]⟩) (.string ⟨#[]⟩) by
    rw [hw0, ← Z2]; exact Cell3.new _ _ _ _)
  have HW0 := Lib.hid (show Below w.heap.size w w0 by rw [hw0]; exact (((Below.refl _ w).alloc (Nat.le_refl _) _).alloc (by simp) _).alloc (by simp; omega) _)
  have HE := Lib.hid hw0
  have HUp := Lib.hid up
  clear h hc hb hc' hb' hm Z1 Z2 up hw0
  obtain ⟨rv, hrv⟩ : ∃ rv, rv = parV (mgA k c b k' c' b') := ⟨_, rfl⟩
  rw [← hrv]
  have HV := Lib.hid hrv
  clear hrv
  unfold mgA parV at HV
  unfold aspV errV at *
  generalize hkk : (k.toList == k'.toList) = kk at *
  generalize hcc : (c.toList == c'.toList) = cc at *
  have HK := Lib.hid hkk
  have HC := Lib.hid hcc
  clear hkk hcc
  go_enter Tryz.func15, Tryz.ntmps15
  go_wp2_with fail
  rw [← HE.out]
  refine (HR.out _ HW0.out).mono ?_
  rintro e w1 ⟨⟨n1, va, vn, vc, er, rfl, h1⟩, hb1⟩
  obtain ⟨w2, hw2⟩ : ∃ w2, w2 = w1.alloc (.cells #[.int .i64 n1, .slice va vn vc] 83) := ⟨_, rfl⟩
  have HB2 := Lib.hid (show Below w0.heap.size w0 w2 by rw [hw2]; exact hb1.trans ((HUp.out _ _).mono hb1.size))
  have HF2 := Lib.hid (show w2.heap[w1.heap.size]? = some (.cells #[.int .i64 n1, .slice va vn vc] 83 (0, 0)) by rw [hw2]; exact heap_alloc_new _ _)
  have HE2 := Lib.hid hw2
  have HH1 := Lib.hid h1
  clear hw2 h1 hb1
  obtain ⟨q0, q1, q2, _⟩ := (HY0.out.later HB2.out).read
  rw [HE2.out] at q0 q1 q2
  go_wp2_with fail
  rw [← HE2.out]
  clear q0 q1 q2
  refine (HS.out _ (HW0.out.trans (HB2.out.mono HW0.out.size))).mono ?_
  rintro e w3 ⟨⟨n3, vd, vm, ve, es, rfl, h3⟩, hb3⟩
  obtain ⟨w4, hw4⟩ : ∃ w4, w4 = w3.alloc (.cells #[.int .i64 n3, .slice vd vm ve] 83) := ⟨_, rfl⟩
  have HB4 := Lib.hid (show Below w2.heap.size w2 w4 by rw [hw4]; exact hb3.trans ((HUp.out _ _).mono hb3.size))
  have HF4 := Lib.hid (show w4.heap[w3.heap.size]? = some (.cells #[.int .i64 n3, .slice vd vm ve] 83 (0, 0)) by rw [hw4]; exact heap_alloc_new _ _)
  have HSz := Lib.hid (show w4.heap.size = w3.heap.size + 1 by rw [hw4]; exact alloc_size' _ _)
  have HE4 := Lib.hid hw4
  have HB04 := Lib.hid (HB2.out.trans (HB4.out.mono HB2.out.size))
  have HX4 := Lib.hid (HX0.out.later HB04.out)
  have HY4 := Lib.hid (HY0.out.later HB04.out)
  have HZ4 := Lib.hid (HZ0.out.later HB04.out)
  have HW4 := Lib.hid (HW0.out.trans (HB04.out.mono HW0.out.size))
  clear hw4 hb3
  obtain ⟨x0, x1, _⟩ := HX4.out.read
  obtain ⟨y0, y1, _⟩ := HY4.out.read
  obtain ⟨z0, z1, z2, f0, f1, f2⟩ := HZ4.out.read
  rw [HE4.out] at x0 x1 y0 y1 z0 z1 z2 f0 f1 f2
  have hkk := HK.out
  have hcc := HC.out
  rcases HH1.out with ⟨ho, a1, rfl⟩ | ⟨rfl, m, xs, ho, rfl⟩
  · have HV0 := Lib.hid (show rv = .tuple #[.agg #[.string ⟨#[]⟩, .string ⟨#[]⟩, .string ⟨#[]⟩], .bool false] by have := HV.out; rw [ho] at this; exact this)
    clear ho
    go_wp2_with fail
    rw [← HE4.out]
    obtain ⟨r0, r1, r2, _⟩ := (HZ4.out.put (.string ⟨#[]⟩) (.string ⟨#[]⟩) (.string ⟨#[]⟩)).read
    refine bodyPost_ret (v := .tuple #[.agg #[.string ⟨#[]⟩, .string ⟨#[]⟩, .string ⟨#[]⟩], .bool false]) ?_ rfl ⟨by rw [HV0.out], ((HW4.out.setCell (by simp; omega) _).setCell (by simp; omega) _).setCell (by simp; omega) _⟩
    simp [results, Tryz.results15, go_sem, r0, r1, r2]
  · rcases h3 with ⟨ho', a3, rfl⟩ | ⟨rfl, m', xs', ho', rfl⟩
    · have HV0 := Lib.hid (show rv = .tuple #[.agg #[.string ⟨#[]⟩, .string ⟨#[]⟩, .string ⟨#[]⟩], .bool false] by have := HV.out; rw [ho'] at this; simpa using this)
      clear ho ho'
      go_wp2_with fail
      rw [← HE4.out]
      obtain ⟨r0, r1, r2, _⟩ := (HZ4.out.put (.string ⟨#[]⟩) (.string ⟨#[]⟩) (.string ⟨#[]⟩)).read
      refine bodyPost_ret (v := .tuple #[.agg #[.string ⟨#[]⟩, .string ⟨#[]⟩, .string ⟨#[]⟩], .bool false]) ?_ rfl ⟨by rw [HV0.out], ((HW4.out.setCell (by simp; omega) _).setCell (by simp; omega) _).setCell (by simp; omega) _⟩
      simp [results, Tryz.results15, go_sem, r0, r1, r2]
    · have hv := HV.out
      rw [ho, ho'] at hv
      have HK1 := Lib.hid (aspOf_some ho)
      have h60 := asp_body (show (aspOf k c b).isSome = true by rw [ho]; rfl)
      have h60' := asp_body (show (aspOf k' c' b').isSome = true by rw [ho']; rfl)
      have HT := Lib.hid (fun w' hm => merged_any m (kind_le HK1.out.1) b b' h60 h60' w' hm)
      rw [mgB_is HK1.out.1] at HT
      have hTs := mgS_le (isBefore k) (isAfter k) b b' h60 h60'
      have HO2 := Lib.hid (HO.out (mgS (isBefore k) (isAfter k) b b') (by omega))
      generalize mgS (isBefore k) (isAfter k) b b' = T at *
      cases kk with
      | false =>
        have HV0 := Lib.hid (show rv = .tuple #[.agg #[.string ⟨#[]⟩, .string ⟨#[]⟩, .string ⟨#[]⟩], .bool false] by simpa using hv)
        clear hv ho ho'
        go_wp2_with fail
        rw [← HE4.out]
        obtain ⟨r0, r1, r2, _⟩ := (HZ4.out.put (.string ⟨#[]⟩) (.string ⟨#[]⟩) (.string ⟨#[]⟩)).read
        refine bodyPost_ret (v := .tuple #[.agg #[.string ⟨#[]⟩, .string ⟨#[]⟩, .string ⟨#[]⟩], .bool false]) ?_ rfl ⟨by rw [HV0.out], ((HW4.out.setCell (by simp; omega) _).setCell (by simp; omega) _).setCell (by simp; omega) _⟩
        simp [results, Tryz.results15, go_sem, r0, r1, r2]
      | true => cases cc with
        | false =>
          have HV0 := Lib.hid (show rv = .tuple #[.agg #[.string ⟨#[]⟩, .string ⟨#[]⟩, .string ⟨#[]⟩], .bool false] by simpa using hv)
          clear hv ho ho'
          go_wp2_with fail
          rw [← HE4.out]
          obtain ⟨r0, r1, r2, _⟩ := (HZ4.out.put (.string ⟨#[]⟩) (.string ⟨#[]⟩) (.string ⟨#[]⟩)).read
          refine bodyPost_ret (v := .tuple #[.agg #[.string ⟨#[]⟩, .string ⟨#[]⟩, .string ⟨#[]⟩], .bool false]) ?_ rfl ⟨by rw [HV0.out], ((HW4.out.setCell (by simp; omega) _).setCell (by simp; omega) _).setCell (by simp; omega) _⟩
          simp [results, Tryz.results15, go_sem, r0, r1, r2]
        | true =>
          have hk0 := kind_some HK1.out.1
          obtain ⟨P, D, R, hO, hP⟩ : ∃ (P D R : ByteArray), onlyV k c T = .agg #[.string P, .string D, .string R] ∧
              ((P = ⟨#[]⟩ ∧ D = ⟨#[]⟩ ∧ R = ⟨#[]⟩ ∧ rv = .tuple #[.agg #[.string ⟨#[]⟩, .string ⟨#[]⟩, .string ⟨#[]⟩], .bool false]) ∨ (P.toList.isEmpty = false ∧ rv = .tuple #[.agg #[.string P, .string D, .string R], .bool true])) := by
            unfold onlyV aspV
            cases hi : (aspOf k c T).isSome with
            | true => rw [hi] at hv; exact ⟨_, _, _, rfl, .inr ⟨hk0, by simpa using hv⟩⟩
            | false => rw [hi] at hv; exact ⟨_, _, _, rfl, .inl ⟨rfl, rfl, rfl, by simpa using hv⟩⟩
          rw [hO] at HO2
          have HQ := Lib.hid hP
          have HM5 := Lib.hid (show M5 w4 w.heap.size (w.heap.size + 1) w1.heap.size k c b b' m w4 from ⟨HX4.out.read.1, HX4.out.read.2.1, HX4.out.read.2.2.1, HY4.out.read.2.2.1, by rw [HB4.out.cell (p := ⟨w1.heap.size, 0, none⟩) (heap_lt HF2.out), Lib.cell_of_heap HF2.out]; rfl, Below.refl _ _⟩)
          have HLI := Lib.hid (show LastI w4 from ⟨w3.heap.size, m', HSz.out, by rw [Lib.cell_of_heap HF4.out]; rfl⟩)
          clear hv ho ho' hO hP hk0 h60 h60' hTs
          go_wp2_with fail
          rw [← HE4.out]
          clear x0 x1 y0 y1 z0 z1 z2 f0 f1 f2
          have HBl := Lib.hid (fun w' (h : M5 w4 w.heap.size (w.heap.size + 1) w1.heap.size k c b b' m w') => m5_below h)
          have HZt := Lib.hid (fun (W w' : World) (hb : Below (W.alloc zeroA).heap.size (W.alloc zeroA) w') (h : M5 w4 w.heap.size (w.heap.size + 1) w1.heap.size k c b b' m (W.alloc zeroA)) => za_new HLI.out hb h)
          have HZs := Lib.hid (fun (W : World) (h : M5 w4 w.heap.size (w.heap.size + 1) w1.heap.size k c b b' m (W.alloc zeroA)) => (show Za w4 (W.alloc zeroA) W.heap.size from ⟨Cell3.new W _ _ _, m5_le HLI.out (m5_below h)⟩))
          have hlt3 : w.heap.size + 1 + 1 < w4.heap.size := heap_lt HZ4.out
          have HLT := Lib.hid hlt3
          have n0 := fun w x y z => (Cell3.new w x y z).read.1
          have n1 := fun w x y z => (Cell3.new w x y z).read.2.1
          have n2 := fun w x y z => (Cell3.new w x y z).read.2.2.1
          have n3 := fun w x y z => (Cell3.new w x y z).read.2.2.2.1
          have n4 := fun w x y z => (Cell3.new w x y z).read.2.2.2.2.1
          have n5 := fun w x y z => (Cell3.new w x y z).read.2.2.2.2.2
          go_region_held3 (fun w' => w'.cell? ⟨w.heap.size, 0, none⟩ = some (.string k) ∧ w'.cell? ⟨w.heap.size, 1, none⟩ = some (.string c) ∧ w'.cell? ⟨w.heap.size, 2, none⟩ = some (.string b) ∧ w'.cell? ⟨w.heap.size + 1, 2, none⟩ = some (.string b') ∧ w'.cell? ⟨w1.heap.size, 0, none⟩ = some (.int .i64 m) ∧ Below w4.heap.size w4 w')
            ((first | assumption | exact m5_of HM5.out (Below.refl _ _).drew | (apply m5_later HM5.out; assumption; assumption) | (refine m5_alloc HM5.out _ ?_; assumption) | (refine m5_alloc_drew HM5.out _ ?_; assumption) | (refine m5_put HM5.out Z6.out _ _ _ ?_; assumption) | (refine m5_swap HM5.out HLI.out _ _ _ ?_; assumption) | (refine m5_put HM5.out (HZs.out _ ?_) _ _ _ ?_; assumption; assumption)))
            ((first
            | (go_at_call 41; refine (HT.out _ (HM.out.later (HW4.out.trans ((HBl.out _ (by assumption)).mono HW4.out.size)))).mono ?_
               rintro e w5 ⟨rfl, hb5⟩
               (first | have Z5 := Lib.hid (za_first hb5) | have Z5 := Lib.hid (HZt.out _ _ hb5 (by assumption)) | skip))
            | (go_at_call 40; refine (HO2.out _ (HW4.out.trans ((HBl.out _ (by assumption)).mono HW4.out.size))).mono ?_
               rintro e w6 ⟨rfl, hb6⟩
               (first | have Z6 := Lib.hid (Z5.out.later hb6) | have Z6 := Lib.hid (HZt.out _ _ hb6 (by assumption)) | skip)
               (try obtain ⟨m0, m1, m2, m3, m4, m5⟩ := Z6.out.1.read))))
          all_goals
            have HX5 := Lib.hid (HZ4.out.later (HBl.out _ (by assumption)))
            have HB5 := Lib.hid (HW4.out.trans ((HBl.out _ (by assumption)).mono HW4.out.size))
            have hl2 := HLT.out
            clear n0 n1 n2 n3 n4 n5
            first
            | (have HZ := Lib.hid (Z6.out.1.put (.string P) (.string D) (.string R))
               have hB1 := Z6.out.2
               clear m0 m1 m2 m3 m4 m5
               generalize ((w6.setCell _ _).setCell _ _).setCell _ _ = wf at *)
            | (have HZ := Lib.hid (Cell3.new w6 (.string P) (.string D) (.string R))
               have hB1 : w4.heap.size ≤ w6.heap.size := m5_le HLI.out (HBl.out _ (by assumption))
               generalize w6.alloc _ = wf at *)
            have l0 := fun v => (beside_mg (R := w.heap.size + 1 + 1) HZ.out (by omega) v v v).1
            have l1 := fun v v' => (beside_mg (R := w.heap.size + 1 + 1) HZ.out (by omega) v v' v).2.1
            have l2 := fun v v' v'' => (beside_mg (R := w.heap.size + 1 + 1) HZ.out (by omega) v v' v'').2.2
            obtain ⟨x0, x1, x2, y0, y1, y2⟩ := HX5.out.read
            obtain ⟨z0, z1, z2, _, _, _⟩ := HZ.out.read
            rcases HQ.out with ⟨rfl, rfl, rfl, hq⟩ | ⟨hP, hq⟩
            · have HV := Lib.hid hq
              clear hq
              go_wp2_with fail
              go_region
              all_goals
                go_wp2_with fail
                obtain ⟨r0, r1, r2, _⟩ := (HX5.out.put (.string ⟨#[]⟩) (.string ⟨#[]⟩) (.string ⟨#[]⟩)).read
                refine bodyPost_ret (v := .tuple #[.agg #[.string ⟨#[]⟩, .string ⟨#[]⟩, .string ⟨#[]⟩], .bool false]) ?_ rfl ⟨by rw [HV.out], (((HB5.out.setCell (by simp; omega) _).setCell (by simp; omega) _).setCell (by simp; omega) _).drew⟩
                simp [results, Tryz.results15, go_sem, r0, r1, r2]
            · have HV := Lib.hid hq
              clear hq
              go_wp2_with fail
              go_region
              all_goals
                go_wp2_with fail
                obtain ⟨r0, r1, r2, _⟩ := (HX5.out.put (.string P) (.string D) (.string R)).read
                refine bodyPost_ret (v := .tuple #[.agg #[.string P, .string D, .string R], .bool true]) ?_ rfl ⟨by rw [HV.out], (((HB5.out.setCell (by simp; omega) _).setCell (by simp; omega) _).setCell (by simp; omega) _).drew⟩
                simp [results, Tryz.results15, go_sem, r0, r1, r2]
end Go.Proofs.YthkokokeppoieaaGreatDoor
