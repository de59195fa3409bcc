/- ClassOf of the program and of the model, as the plain clsOf says. Conditions: texts of at most 2^30 bytes; the errors lie where start-up laid them. -/
import Derived.Test.YtcahnffgpmanpaaGreatDoorIcp
import Derived.Test.YtcahnffgpmanpaaGreatDoorPof
import Derived.Test.YtcahnffgpmanpaaGreatDoorSpof
import Derived.Test.YtcahnffgpmanpaaGreatDoorSchg
namespace Go.Proofs.YtcahnffgpmanpaaGreatDoor
open Go.RowKit Gram

def observerS : ByteArray := ⟨#[111, 98, 115, 101, 114, 118, 101, 114]⟩
def changerS : ByteArray := ⟨#[99, 104, 97, 110, 103, 101, 114]⟩
def keeperS : ByteArray := ⟨#[107, 101, 101, 112, 101, 114]⟩
def repeaterS : ByteArray := ⟨#[114, 101, 112, 101, 97, 116, 101, 114]⟩
/-- the class of advice that proceeds so often, and changes or not -/
def clsP (p : Int × Int) (chg : Bool) : ByteArray := if 1 < p.2 then repeaterS else if p.1 = 0 then keeperS else if chg = true then changerS else observerS
def clsOf (k c b : ByteArray) : ByteArray := match aspOf k c b with | some (n, xs) => clsP (pofN n xs) (dds xs).chg | none => ⟨#[]⟩

set_option maxHeartbeats 1000000 in
set_option maxRecDepth 100000 in
theorem class_any (n : Nat) (xs : List Stm) (v : Value) (S : Nat → Prop) (w : World) (hlen : (txts xs).length ≤ 400) (hwf : wfs xs = true) (hS : ∀ k, S k → k < w.heap.size) (hB : IsBody w S xs v) :
    Calls Tryz.prog 29 #[.agg #[.int .i64 n, v]] w fun e w' => e = .returned (.string (clsP (pofN n xs) (dds xs).chg)) ∧ Below w.heap.size w w' := by
  obtain ⟨va, vn, vc, rfl⟩ := hB.form
  have HD := Lib.hid (fun w' (hb : Below w.heap.size w w') => deeds_any xs w' S _ hlen hwf (fun j hj => Nat.lt_of_lt_of_le (hS j hj) hb.size) (hB.kept (fun j hj => hb.block j (hS j hj)) (fun _ h => h)))
  have HP := Lib.hid (fun w' (hb : Below w.heap.size w w') => proceeds_any n xs _ S w' hlen hwf (fun j hj => Nat.lt_of_lt_of_le (hS j hj) hb.size) (hB.kept (fun j hj => hb.block j (hS j hj)) (fun _ h => h)))
  clear hlen hwf hS hB
  unfold pairV at HP
  unfold ddV ddC at HD
  have hf1 := fld_chg
  have HC := Lib.hid (show clsP (pofN n xs) (dds xs).chg = _ from rfl)
  generalize hq : clsP (pofN n xs) (dds xs).chg = q at *
  have HQ := Lib.hid hq
  clear hq HC
  unfold clsP at HQ
  generalize pofN n xs = pp at *
  obtain ⟨p1, p2⟩ := pp
  dsimp only at HP HQ
  generalize (dds xs).chg = ch at *
  by_cases h1 : 1 < p2
  · have HV := Lib.hid (show q = repeaterS by rw [← HQ.out, if_pos h1])
    go_enter Tryz.func29, Tryz.ntmps29
    go_wp2_with fail
    refine (HP.out _ ((Below.refl _ w).alloc (Nat.le_refl _) _)).mono ?_
    rintro e w1 ⟨rfl, hb⟩
    have HB := Lib.hid (((Below.refl _ w).alloc (Nat.le_refl _) _).trans (hb.mono (by simp)))
    clear hb
    go_wp2_with fail
    go_ret
    exact ⟨by rw [HV.out]; rfl, HB.out⟩
  · by_cases h2 : p1 = 0
    · subst h2
      have HV := Lib.hid (show q = keeperS by rw [← HQ.out, if_neg h1, if_pos rfl])
      go_enter Tryz.func29, Tryz.ntmps29
      go_wp2_with fail
      refine (HP.out _ ((Below.refl _ w).alloc (Nat.le_refl _) _)).mono ?_
      rintro e w1 ⟨rfl, hb⟩
      have HB := Lib.hid (((Below.refl _ w).alloc (Nat.le_refl _) _).trans (hb.mono (by simp)))
      clear hb
      go_wp2_with fail
      go_ret
      exact ⟨by rw [HV.out]; rfl, HB.out⟩
    · have HV := Lib.hid (show q = if ch = true then changerS else observerS by rw [← HQ.out, if_neg h1, if_neg h2])
      have h3 : (p1 == 0) = false := by rw [beq_eq_false_iff_ne]; exact h2
      go_enter Tryz.func29, Tryz.ntmps29
      go_wp2_with fail
      refine (HP.out _ ((Below.refl _ w).alloc (Nat.le_refl _) _)).mono ?_
      rintro e w1 ⟨rfl, hb⟩
      have HB := Lib.hid (((Below.refl _ w).alloc (Nat.le_refl _) _).trans (hb.mono (by simp)))
      have HC := Lib.hid ((hb.block _ (by simp)).trans (heap_alloc_new w (Obj.cells #[.int .i64 n, .slice va vn vc] 44)))
      have q1 : w1.cell? ⟨w.heap.size, 1, none⟩ = some (.slice va vn vc) := by rw [Lib.cell_of_heap HC.out]; rfl
      clear hb
      go_wp2_with fail
      refine (HD.out _ HB.out).mono ?_
      rintro e w2 ⟨rfl, hb⟩
      have HB2 := Lib.hid (HB.out.trans (hb.mono HB.out.size))
      clear hb
      cases ch with
      | true =>
        go_wp2_with fail
        go_ret
        exact ⟨by rw [HV.out]; rfl, HB2.out⟩
      | false =>
        go_wp2_with fail
        go_ret
        exact ⟨by rw [HV.out]; rfl, HB2.out⟩

set_option maxHeartbeats 1000000 in
set_option maxRecDepth 100000 in
theorem impl_cls (k c b : ByteArray) (w : World) (ek ec eb el ep : Addr) (h : Errs w ek ec eb el ep) (hc : c.size ≤ 1073741824) (hb : b.size ≤ 1073741824) :
    Calls Tryz.prog 19 #[aspV k c b] w fun e w' => e = .returned (.string (clsOf k c b)) ∧ Below w.heap.size w w' := by
  have HR := Lib.hid (fun w' (hw : Below w.heap.size w w') => rasp_any k c b w' ek ec eb el ep (h.later hw) hc hb)
  unfold aspV clsOf at *
  cases ho : aspOf k c b with
  | none =>
    clear h hc hb
    rw [ho] at HR
    clear ho
    unfold RaspTo errV at HR
    go_enter Tryz.func19, Tryz.ntmps19
    go_wp2_with fail
    refine (HR.out _ ((Below.refl _ w).alloc (Nat.le_refl _) _)).mono ?_
    rintro e w1 ⟨⟨a, rfl⟩, hb⟩
    have HB := Lib.hid (((Below.refl _ w).alloc (Nat.le_refl _) _).trans (hb.mono (by simp)))
    clear hb
    go_wp2_with fail
    go_ret
    exact ⟨rfl, HB.out.alloc HB.out.size _⟩
  | some p =>
    obtain ⟨n, xs⟩ := p
    obtain ⟨_, _, ha, _⟩ := aspOf_some ho
    obtain ⟨hb60, htx, hwf, _⟩ := advOf_some ha
    have hlen : (txts xs).length ≤ 400 := by rw [← htx]; simp; omega
    have HP := Lib.hid (fun v S w' hS hB => class_any n xs v S w' hlen hwf hS hB)
    clear h hc hb hb60 htx hwf hlen ha
    rw [ho] at HR
    clear ho
    unfold RaspTo at HR
    dsimp only
    generalize clsP (pofN n xs) (dds xs).chg = q at *
    go_enter Tryz.func19, Tryz.ntmps19
    go_wp2_with fail
    refine (HR.out _ ((Below.refl _ w).alloc (Nat.le_refl _) _)).mono ?_
    rintro e w1 ⟨⟨v, S, rfl, hB, hS⟩, hb⟩
    have HB := Lib.hid (((Below.refl _ w).alloc (Nat.le_refl _) _).trans (hb.mono (by simp)))
    have HBd := Lib.hid hB
    have HS := Lib.hid hS
    obtain ⟨va, vn, vc, rfl⟩ := hB.form
    clear hb hB hS
    go_wp2_with fail
    refine (HP.out _ S _ (fun j hj => by have := HS.out j hj; simp; omega) (HBd.out.kept (fun j hj => alloc_heap _ j (HS.out j hj)) (fun _ h => h))).mono ?_
    rintro e w2 ⟨rfl, hb2⟩
    have HB2 := Lib.hid ((HB.out.alloc HB.out.size _).trans (hb2.mono (by have := HB.out.size; simp; omega)))
    clear hb2
    go_wp2_with fail
    go_ret
    exact ⟨rfl, HB2.out⟩

/-- the class as the model tells it -/
theorem cls_told (n : Nat) (xs : List Stm) (h : (dds xs).least ≤ (dds xs).most) : 0 ≤ (pofN n xs).1 ∧ clsP (pofN n xs) (dds xs).chg =
    if (pofN n xs).1 = 1 ∧ (pofN n xs).2 = 1 then (if (dds xs).chg = true then changerS else observerS) else if (pofN n xs).2 ≤ 1 then keeperS else repeaterS := by
  unfold pofN
  by_cases hn : n = 2
  · rw [if_pos hn]
    refine ⟨by dsimp only; omega, ?_⟩
    unfold clsP
    dsimp only
    by_cases h1 : (1 : Int) < (dds xs).most
    · rw [if_pos h1, if_neg (by omega), if_neg (by omega)]
    · rw [if_neg h1]
      by_cases h2 : ((dds xs).least : Int) = 0
      · rw [if_pos h2, if_neg (by omega), if_pos (by omega)]
      · have h3 : ((dds xs).least : Int) = 1 ∧ ((dds xs).most : Int) = 1 := ⟨by omega, by omega⟩
        rw [if_neg h2, if_pos h3]
  · rw [if_neg hn]
    refine ⟨by dsimp only; omega, ?_⟩
    simp [clsP]

set_option maxHeartbeats 2000000 in
set_option maxRecDepth 100000 in
theorem spec_cls (k c b : ByteArray) (w : World) (hc : c.size ≤ 1073741824) (hb : b.size ≤ 1073741824) :
    Calls Tryz.prog 13 #[aspV k c b] w fun e w' => e = .returned (.string (clsOf k c b)) ∧ Below w.heap.size w w' := by
  have HP := Lib.hid (fun w => spec_pof k c b w hc hb)
  have HC := Lib.hid (fun w => spec_chg k c b w hc hb)
  unfold pairV at HP
  unfold aspV clsOf pof deedIs at *
  cases ho : aspOf k c b with
  | none =>
    rw [ho] at HP
    clear ho hc hb
    dsimp only at HP
    go_enter Tryz.func13, Tryz.ntmps13
    go_wp2_with fail
    refine (HP.out _).mono ?_
    rintro e w1 ⟨rfl, hb1⟩
    have HB := Lib.hid (((Below.refl _ w).alloc (Nat.le_refl _) _).trans (hb1.mono (by simp)))
    clear hb1
    go_wp2_with fail
    go_ret
    exact ⟨rfl, HB.out⟩
  | some p =>
    obtain ⟨n, xs⟩ := p
    obtain ⟨_, _, ha, _⟩ := aspOf_some ho
    obtain ⟨_, _, _, ht⟩ := advOf_some ha
    obtain ⟨h0, hq⟩ := cls_told n xs ht.least
    rw [ho] at HP HC
    clear ho hc hb ha ht
    dsimp only at HP HC ⊢
    rw [hq]
    clear hq
    generalize (dds xs).chg = ch at *
    generalize pofN n xs = pp at *
    obtain ⟨p1, p2⟩ := pp
    dsimp only at HP h0 ⊢
    have HH := Lib.hid (fun w' (hw : Below w.heap.size w w') (h9 : w'.heap[w.heap.size]? = some (.cells #[.string k, .string c, .string b] 32 (0, 0))) => h9)
    clear HH
    have hn0 : ¬ p1 < 0 := by omega
    by_cases h1 : p1 = 1 ∧ p2 = 1
    · rw [if_pos h1]
      obtain ⟨rfl, rfl⟩ := h1
      obtain ⟨q, hq⟩ : ∃ q, q = if ch = true then changerS else observerS := ⟨_, rfl⟩
      rw [← hq]
      have HQ := Lib.hid hq
      clear hq h0 hn0
      go_enter Tryz.func13, Tryz.ntmps13
      go_wp2_with fail
      refine (HP.out _).mono ?_
      rintro e w1 ⟨rfl, hb1⟩
      have HB := Lib.hid (((Below.refl _ w).alloc (Nat.le_refl _) _).trans (hb1.mono (by simp)))
      have HA := Lib.hid ((hb1.block _ (by simp)).trans (heap_alloc_new w (Obj.cells #[.string k, .string c, .string b] 32)))
      have q0 : w1.cell? ⟨w.heap.size, 0, none⟩ = some (.string k) := by rw [Lib.cell_of_heap HA.out]; rfl
      have q1 : w1.cell? ⟨w.heap.size, 1, none⟩ = some (.string c) := by rw [Lib.cell_of_heap HA.out]; rfl
      have q2 : w1.cell? ⟨w.heap.size, 2, none⟩ = some (.string b) := by rw [Lib.cell_of_heap HA.out]; rfl
      clear hb1
      go_wp2_with fail
      refine (HC.out _).mono ?_
      rintro e w2 ⟨rfl, hb2⟩
      have HB2 := Lib.hid (HB.out.trans (hb2.mono HB.out.size))
      clear hb2
      cases ch with
      | true =>
        go_wp2_with fail
        go_ret
        exact ⟨by rw [HQ.out]; rfl, HB2.out⟩
      | false =>
        go_wp2_with fail
        go_ret
        exact ⟨by rw [HQ.out]; rfl, HB2.out⟩
    · rw [if_neg h1]
      obtain ⟨q, hq⟩ : ∃ q, q = if p2 ≤ 1 then keeperS else repeaterS := ⟨_, rfl⟩
      rw [← hq]
      have hcase : (p1 == 1) = false ∨ (p1 == 1) = true ∧ (p2 == 1) = false := by
        by_cases h2 : p1 = 1
        · exact .inr ⟨by rw [h2]; rfl, by rw [beq_eq_false_iff_ne]; exact fun h3 => h1 ⟨h2, h3⟩⟩
        · exact .inl (by rw [beq_eq_false_iff_ne]; exact h2)
      have HQ := Lib.hid (show (p2 ≤ 1 → q = keeperS) ∧ (¬ p2 ≤ 1 → q = repeaterS) from ⟨fun h => by rw [hq, if_pos h], fun h => by rw [hq, if_neg h]⟩)
      clear hq h0 h1
      rcases hcase with g1 | ⟨g1, g2⟩
      all_goals
        by_cases h4 : p2 ≤ 1
        · have HV := Lib.hid (HQ.out.1 h4)
          go_enter Tryz.func13, Tryz.ntmps13
          go_wp2_with fail
          refine (HP.out _).mono ?_
          rintro e w1 ⟨rfl, hb1⟩
          have HB := Lib.hid (((Below.refl _ w).alloc (Nat.le_refl _) _).trans (hb1.mono (by simp)))
          clear hb1
          go_wp2_with fail
          go_ret
          exact ⟨by rw [HV.out]; rfl, HB.out⟩
        · have HV := Lib.hid (HQ.out.2 h4)
          go_enter Tryz.func13, Tryz.ntmps13
          go_wp2_with fail
          refine (HP.out _).mono ?_
          rintro e w1 ⟨rfl, hb1⟩
          have HB := Lib.hid (((Below.refl _ w).alloc (Nat.le_refl _) _).trans (hb1.mono (by simp)))
          clear hb1
          go_wp2_with fail
          go_ret
          exact ⟨by rw [HV.out]; rfl, HB.out⟩
end Go.Proofs.YtcahnffgpmanpaaGreatDoor
