/- Plain mathematics: the class of a valid aspect, by how often it proceeds and whether it changes. No walk, no condition. Plain mathematics: the advice around that does the same proceeds as often, is of the same class, and said so once more is the same. No walk, no condition. The law FnAround answers true at every bytes. Condition: the errors lie where start-up laid them. -/
import Derived.Test.YtecifbncfglckaaGreatDoorCls
import Derived.Test.YtecifbncfglckaaGreatDoorOnly
import Derived.Test.YtecifbncfglckaaGreatDoorArp
import Derived.Test.YtecifbncfglckaaGreatDoorL4x
import Derived.Test.YtecifbncfglckaaGreatDoorArof
import Derived.Test.YtecifbncfglckaaGreatDoorSarof
import Derived.Deep.RegionHeld3
import Derived.Deep.RegionWith
namespace Go.Proofs.YtecifbncfglckaaGreatDoor
open Go.RowKit Gram

/-- which of the four words a text is -/
structure Wd (s : ByteArray) (o c k r : Bool) : Prop where
  full : s.toList.isEmpty = false
  obs : (s.toList == [111, 98, 115, 101, 114, 118, 101, 114]) = o
  chg : (s.toList == [99, 104, 97, 110, 103, 101, 114]) = c
  kee : (s.toList == [107, 101, 101, 112, 101, 114]) = k
  rep : (s.toList == [114, 101, 112, 101, 97, 116, 101, 114]) = r
theorem wd_obs : Wd observerS true false false false := ⟨by kernel_rfl, by kernel_rfl, by kernel_rfl, by kernel_rfl, by kernel_rfl⟩
theorem wd_chg : Wd changerS false true false false := ⟨by kernel_rfl, by kernel_rfl, by kernel_rfl, by kernel_rfl, by kernel_rfl⟩
theorem wd_kee : Wd keeperS false false true false := ⟨by kernel_rfl, by kernel_rfl, by kernel_rfl, by kernel_rfl, by kernel_rfl⟩
theorem wd_rep : Wd repeaterS false false false true := ⟨by kernel_rfl, by kernel_rfl, by kernel_rfl, by kernel_rfl, by kernel_rfl⟩

/-- the class and what it comes from -/
inductive Cl (s : ByteArray) (lo hi : Int) (ch : Bool) : Prop
  | obs (h : Wd s true false false false) (hl : lo = 1) (hh : hi = 1) (hc : ch = false)
  | chg (h : Wd s false true false false) (hl : lo = 1) (hh : hi = 1) (hc : ch = true)
  | kee (h : Wd s false false true false) (hn : (lo == 1) = true → (hi == 1) = false) (hh : hi ≤ 1)
  | rep (h : Wd s false false false true) (hn : (hi == 1) = false) (hh : 1 < hi)

theorem cl_is {k c b : ByteArray} {n : Nat} {xs : List Stm} (h : aspOf k c b = some (n, xs)) : Cl (clsOf k c b) (pof k c b).1 (pof k c b).2 (deedIs Dd.chg k c b) := by
  obtain ⟨_, _, ha, _⟩ := aspOf_some h
  obtain ⟨_, _, _, ht⟩ := advOf_some ha
  obtain ⟨_, hq⟩ := cls_told n xs ht.least
  have e1 : clsOf k c b = clsP (pofN n xs) (dds xs).chg := by simp [clsOf, h]
  have e2 : pof k c b = pofN n xs := by simp [pof, h]
  have e3 : deedIs Dd.chg k c b = (dds xs).chg := by simp [deedIs, h]
  rw [e1, e2, e3, hq]
  split
  · rename_i h1
    split
    · rename_i h2; exact .chg wd_chg h1.1 h1.2 h2
    · rename_i h2; exact .obs wd_obs h1.1 h1.2 (by simpa using h2)
  · rename_i h1
    split
    · rename_i h2
      refine .kee wd_kee (fun h3 => ?_) h2
      rw [beq_eq_false_iff_ne]
      intro h4
      exact h1 ⟨eq_of_beq h3, h4⟩
    · rename_i h2
      refine .rep wd_rep ?_ (by omega)
      rw [beq_eq_false_iff_ne]; omega

/-- an aspect in a block of its own, and what was there -/
theorem cs_later {w w2 w3 : World} {A : Nat} {x y z : Value} (h : w2.cell? ⟨A, 0, none⟩ = some x ∧ w2.cell? ⟨A, 1, none⟩ = some y ∧ w2.cell? ⟨A, 2, none⟩ = some z ∧ Below w.heap.size w w2) (hb : Below w2.heap.size w2 w3) :
    w3.cell? ⟨A, 0, none⟩ = some x ∧ w3.cell? ⟨A, 1, none⟩ = some y ∧ w3.cell? ⟨A, 2, none⟩ = some z ∧ Below w.heap.size w w3 :=
  ⟨cell_later hb h.1, cell_later hb h.2.1, cell_later hb h.2.2.1, h.2.2.2.trans (hb.mono h.2.2.2.size)⟩
theorem cs_below {w w2 : World} {A : Nat} {x y z : Value} (h : w2.cell? ⟨A, 0, none⟩ = some x ∧ w2.cell? ⟨A, 1, none⟩ = some y ∧ w2.cell? ⟨A, 2, none⟩ = some z ∧ Below w.heap.size w w2) : Below w.heap.size w w2 := h.2.2.2
theorem cs_drew {w w2 : World} {A : Nat} {x y z : Value} (h : w2.cell? ⟨A, 0, none⟩ = some x ∧ w2.cell? ⟨A, 1, none⟩ = some y ∧ w2.cell? ⟨A, 2, none⟩ = some z ∧ Below w.heap.size w w2) :
    w2.drew.cell? ⟨A, 0, none⟩ = some x ∧ w2.drew.cell? ⟨A, 1, none⟩ = some y ∧ w2.drew.cell? ⟨A, 2, none⟩ = some z ∧ Below w.heap.size w w2.drew := ⟨h.1, h.2.1, h.2.2.1, h.2.2.2.drew⟩
theorem cs_start {w w2 : World} {A : Nat} {x y z : Value} (h : Cell3 w2 A x y z) (hb : Below w.heap.size w w2) :
    w2.drew.cell? ⟨A, 0, none⟩ = some x ∧ w2.drew.cell? ⟨A, 1, none⟩ = some y ∧ w2.drew.cell? ⟨A, 2, none⟩ = some z ∧ Below w.heap.size w w2.drew := by
  obtain ⟨h0, h1, h2, _⟩ := h.read
  exact ⟨h0, h1, h2, hb.drew⟩
end Go.Proofs.YtecifbncfglckaaGreatDoor
namespace Go.Proofs.YtecifbncfglckaaGreatDoor
open Go.RowKit Gram

theorem kind_around : kindOf aroundS = some 2 := by
  have h0 : isBefore aroundS = false := by kernel_rfl
  have h1 : isAfter aroundS = false := by kernel_rfl
  have h2 : isAround aroundS = true := by kernel_rfl
  simp [kindOf, h0, h1, h2]

theorem wfs_ard (n : Nat) (xs : List Stm) (h : wfs xs = true) : wfs (ardOf n xs) = true := by
  unfold ardOf
  split
  · exact (by rw [wfs_snoc, h]; rfl)
  · split
    · simp [wfs, Stm.wf, h]
    · exact h

/-- the statements of the advice around -/
theorem ard_some {k c b : ByteArray} {n : Nat} {xs : List Stm} (h : aspOf k c b = some (n, xs)) {B : ByteArray} (hB : B = strL (txts (ardOf n xs))) (hs : (aspOf aroundS c B).isSome = true) : aspOf aroundS c B = some (2, ardOf n xs) := by
  obtain ⟨⟨m, ys⟩, hy⟩ := Option.isSome_iff_exists.1 hs
  obtain ⟨hk, _, ha, _⟩ := aspOf_some hy
  rw [kind_around] at hk
  injection hk with hk
  subst hk
  obtain ⟨_, _, ha0, _⟩ := aspOf_some h
  obtain ⟨_, _, hwf, _⟩ := advOf_some ha0
  obtain ⟨_, hty, hwy, _⟩ := advOf_some ha
  have e : pA (txts (ardOf n xs)) = some (ardOf n xs) := (pA_iff _ _).2 ⟨rfl, wfs_ard n xs hwf⟩
  have e2 : pA (txts (ardOf n xs)) = some ys := (pA_iff _ _).2 ⟨by rw [← hty, hB, strL_data], hwy⟩
  rw [e] at e2
  injection e2 with e2
  rw [hy, e2]

/-- what the deeds of the advice around are -/
theorem dds_ard (n : Nat) (xs : List Stm) (hm : mayStand n xs = true) (hn : n ≤ 2) (ht : (dds xs).least ≤ (dds xs).most) : pofN 2 (ardOf n xs) = pofN n xs ∧ (dds (ardOf n xs)).chg = (dds xs).chg := by
  by_cases h2 : n = 2
  · subst h2
    exact ⟨rfl, rfl⟩
  · have h0 : (dds xs).most = 0 := by
      unfold mayStand at hm
      have : (n == 2) = false := by rw [beq_eq_false_iff_ne]; exact h2
      rw [this] at hm
      simp at hm
      omega
    have h1 : (dds xs).least = 0 := by omega
    have e1 : pofN n xs = (1, 1) := by simp [pofN, h2]
    rw [e1]
    unfold ardOf
    by_cases h3 : n = 0
    · rw [if_pos h3]
      simp [pofN, dds_snoc, Dd.plus, Stm.dd, h0, h1]
    · rw [if_neg h3, if_pos (by omega)]
      simp [pofN, dds, Dd.plus, Stm.dd, h0, h1]

theorem ard_all {k c b K C B : ByteArray} (h : ardA k c b = some (K, C, B)) : K = aroundS ∧ C = c ∧ pof K C B = pof k c b ∧ clsOf K C B = clsOf k c b ∧ ardA K C B = some (K, C, B) ∧ B.size ≤ 60 := by
  unfold ardA at h
  cases ho : aspOf k c b with
  | none => rw [ho] at h; cases h
  | some p =>
    obtain ⟨n, xs⟩ := p
    rw [ho] at h
    dsimp only at h
    split at h
    · rename_i hs
      injection h with h
      injection h with h1 h2
      injection h2 with h2 h3
      subst h1; subst h2
      have hA := ard_some ho h3.symm (by rw [← h3]; exact hs)
      obtain ⟨hk, _, ha, hm⟩ := aspOf_some ho
      obtain ⟨_, _, _, ht⟩ := advOf_some ha
      have hn : n ≤ 2 := by rcases kindOf_cases hk with ⟨e, _⟩ | ⟨e, _⟩ | ⟨e, _⟩ <;> omega
      obtain ⟨e1, e2⟩ := dds_ard n xs hm hn ht.least
      obtain ⟨_, _, haB, _⟩ := aspOf_some hA
      refine ⟨rfl, rfl, by simp only [pof, hA, ho, e1], by simp only [clsOf, hA, ho, e1, e2], ?_, (advOf_some haB).1⟩
      have e3 : strL (txts (ardOf 2 (ardOf n xs))) = B := by
        rw [← h3]; rfl
      unfold ardA
      rw [hA]
      dsimp only
      rw [e3, if_pos (by rw [hA]; rfl)]
    · cases h

/-- three aspects in blocks of their own, and what was there -/
theorem c9_later {w w2 w3 : World} {A B C : Nat} {x0 x1 x2 y0 y1 y2 z0 z1 z2 : Value} (h : w2.cell? ⟨A, 0, none⟩ = some x0 ∧ w2.cell? ⟨A, 1, none⟩ = some x1 ∧ w2.cell? ⟨A, 2, none⟩ = some x2 ∧ w2.cell? ⟨B, 0, none⟩ = some y0 ∧ w2.cell? ⟨B, 1, none⟩ = some y1 ∧ w2.cell? ⟨B, 2, none⟩ = some y2 ∧ w2.cell? ⟨C, 0, none⟩ = some z0 ∧ w2.cell? ⟨C, 1, none⟩ = some z1 ∧ w2.cell? ⟨C, 2, none⟩ = some z2 ∧ Below w.heap.size w w2) (hb : Below w2.heap.size w2 w3) : w3.cell? ⟨A, 0, none⟩ = some x0 ∧ w3.cell? ⟨A, 1, none⟩ = some x1 ∧ w3.cell? ⟨A, 2, none⟩ = some x2 ∧ w3.cell? ⟨B, 0, none⟩ = some y0 ∧ w3.cell? ⟨B, 1, none⟩ = some y1 ∧ w3.cell? ⟨B, 2, none⟩ = some y2 ∧ w3.cell? ⟨C, 0, none⟩ = some z0 ∧ w3.cell? ⟨C, 1, none⟩ = some z1 ∧ w3.cell? ⟨C, 2, none⟩ = some z2 ∧ Below w.heap.size w w3 := by
  obtain ⟨a0, a1, a2, b0, b1, b2, c0, c1, c2, hw⟩ := h
  exact ⟨cell_later hb a0, cell_later hb a1, cell_later hb a2, cell_later hb b0, cell_later hb b1, cell_later hb b2, cell_later hb c0, cell_later hb c1, cell_later hb c2, hw.trans (hb.mono hw.size)⟩
theorem c9_below {w w2 : World} {A B C : Nat} {x0 x1 x2 y0 y1 y2 z0 z1 z2 : Value} (h : w2.cell? ⟨A, 0, none⟩ = some x0 ∧ w2.cell? ⟨A, 1, none⟩ = some x1 ∧ w2.cell? ⟨A, 2, none⟩ = some x2 ∧ w2.cell? ⟨B, 0, none⟩ = some y0 ∧ w2.cell? ⟨B, 1, none⟩ = some y1 ∧ w2.cell? ⟨B, 2, none⟩ = some y2 ∧ w2.cell? ⟨C, 0, none⟩ = some z0 ∧ w2.cell? ⟨C, 1, none⟩ = some z1 ∧ w2.cell? ⟨C, 2, none⟩ = some z2 ∧ Below w.heap.size w w2) : Below w.heap.size w w2 := h.2.2.2.2.2.2.2.2.2
theorem c9_start {w w2 : World} {A B C : Nat} {x0 x1 x2 y0 y1 y2 z0 z1 z2 : Value} (hx : Cell3 w2 A x0 x1 x2) (hy : Cell3 w2 B y0 y1 y2) (hz : Cell3 w2 C z0 z1 z2) (hb : Below w.heap.size w w2) : w2.drew.cell? ⟨A, 0, none⟩ = some x0 ∧ w2.drew.cell? ⟨A, 1, none⟩ = some x1 ∧ w2.drew.cell? ⟨A, 2, none⟩ = some x2 ∧ w2.drew.cell? ⟨B, 0, none⟩ = some y0 ∧ w2.drew.cell? ⟨B, 1, none⟩ = some y1 ∧ w2.drew.cell? ⟨B, 2, none⟩ = some y2 ∧ w2.drew.cell? ⟨C, 0, none⟩ = some z0 ∧ w2.drew.cell? ⟨C, 1, none⟩ = some z1 ∧ w2.drew.cell? ⟨C, 2, none⟩ = some z2 ∧ Below w.heap.size w w2.drew := by
  obtain ⟨a0, a1, a2, _⟩ := hx.read
  obtain ⟨b0, b1, b2, _⟩ := hy.read
  obtain ⟨c0, c1, c2, _⟩ := hz.read
  exact ⟨a0, a1, a2, b0, b1, b2, c0, c1, c2, hb.drew⟩
end Go.Proofs.YtecifbncfglckaaGreatDoor
namespace Go.Proofs.YtecifbncfglckaaGreatDoor
open Go.RowKit Gram

set_option maxHeartbeats 8000000 in
set_option maxRecDepth 100000 in
theorem al_fits (w : World) (a : Option Addr) (n c : Nat) (h : BytesAt w a n) (hn : n ≤ c) (hc : c ≤ 9223372036854775807) (hnil : a = none → n = 0) (hb : n ≤ 1048576) (ek ec eb el ep : Addr) (he : Errs w ek ec eb el ep) :
    Calls Tryz.prog 5 #[.slice a n c] w fun e w' => e = .returned (.bool true) ∧ Below w.heap.size w w' := by
  have HD := Lib.hid (dao_any w a n c h hn hc hnil)
  have HE := Lib.hid he
  clear h hnil he
  go_enter Tryz.func5, Tryz.ntmps5
  go_wp2_with fail
  refine HD.out.mono ?_
  rintro e w1 ⟨⟨k, cc, b, rfl, hk, hcc, hbs⟩, hb1⟩
  have HB1 := Lib.hid (hb1.alloc hb1.size (Obj.cells #[.string k, .string cc, .string b] 24))
  have R1 := Lib.hid (Cell3.new w1 (.string k) (.string cc) (.string b))
  clear hb1 HD
  have HI := Lib.hid (fun w' (hb : Below w.heap.size w w') => impl_ard k cc b w' ek ec eb el ep (HE.out.later hb) (by omega) (by omega))
  have HS := Lib.hid (fun w => spec_ard k cc b w (by omega) (by omega))
  have HP := Lib.hid (fun w' (hb : Below w.heap.size w w') => impl_pof k cc b w' ek ec eb el ep (HE.out.later hb) (by omega) (by omega))
  have HC := Lib.hid (fun w' (hb : Below w.heap.size w w') => impl_cls k cc b w' ek ec eb el ep (HE.out.later hb) (by omega) (by omega))
  unfold aspV at *
  go_wp2_with fail
  generalize hw2 : w1.alloc (Obj.cells #[.string k, .string cc, .string b] 24) = w2 at *
  clear hw2
  obtain ⟨q0, q1, q2, f0, f1, f2⟩ := R1.out.read
  cases ho : ardA k cc b with
  | none =>
    rw [ho] at HI HS
    clear ho
    unfold parV aspV at HI HS
    dsimp only at HI HS
    refine (HI.out _ HB1.out).mono ?_
    rintro e w3 ⟨rfl, hb3⟩
    have R3 := Lib.hid (R1.out.later hb3)
    have HB3 := Lib.hid (HB1.out.trans (hb3.mono HB1.out.size))
    have G3 := Lib.hid (Cell3.new w3 (.string ⟨#[]⟩) (.string ⟨#[]⟩) (.string ⟨#[]⟩))
    obtain ⟨w4, hw4⟩ : ∃ w4, w4 = w3.alloc (Obj.cells #[.string ⟨#[]⟩, .string ⟨#[]⟩, .string ⟨#[]⟩] 24) := ⟨_, rfl⟩
    have R4 := Lib.hid (show Cell3 w4 w1.heap.size (.string k) (.string cc) (.string b) by rw [hw4]; exact R3.out.later ((Below.refl _ _).alloc (Nat.le_refl _) _))
    have G4 := Lib.hid (show Cell3 w4 w3.heap.size (.string ⟨#[]⟩) (.string ⟨#[]⟩) (.string ⟨#[]⟩) by rw [hw4]; exact G3.out)
    have HB4 := Lib.hid (show Below w.heap.size w w4 by rw [hw4]; exact HB3.out.alloc HB3.out.size _)
    have HE4 := Lib.hid hw4
    clear hb3 q0 q1 q2 f0 f1 f2
    obtain ⟨q0, q1, q2, f0, f1, f2⟩ := R4.out.read
    rw [hw4] at q0 q1 q2
    clear hw4 f0 f1 f2
    go_wp2_with fail
    rw [← HE4.out]
    refine (HS.out _).mono ?_
    rintro e w5 ⟨rfl, hb5⟩
    have G5 := Lib.hid (G4.out.later hb5)
    have HB5 := Lib.hid (HB4.out.trans (hb5.mono HB4.out.size))
    have HB6 := Lib.hid (HB5.out.alloc HB5.out.size (Obj.cells #[.string ⟨#[]⟩, .string ⟨#[]⟩, .string ⟨#[]⟩] 24))
    clear hb5 q0 q1 q2
    obtain ⟨q0, q1, q2, f0, f1, f2⟩ := (G5.out.later ((Below.refl _ _).alloc (Nat.le_refl _) (Obj.cells #[.string ⟨#[]⟩, .string ⟨#[]⟩, .string ⟨#[]⟩] 24))).read
    obtain ⟨x0, x1, x2, y0, y1, y2⟩ := (Cell3.new w5 (.string ⟨#[]⟩) (.string ⟨#[]⟩) (.string ⟨#[]⟩)).read
    go_wp2_with fail
    go_ret
    exact ⟨rfl, HB6.out⟩
  | some p =>
    obtain ⟨K, C, B⟩ := p
    obtain ⟨rfl, rfl, e1, e2, e3, hB⟩ := ard_all ho
    rw [ho] at HI HS
    have HI2 := Lib.hid (fun w' (hb : Below w.heap.size w w') => impl_ard aroundS C B w' ek ec eb el ep (HE.out.later hb) (by omega) (by omega))
    have HP2 := Lib.hid (fun w' (hb : Below w.heap.size w w') => impl_pof aroundS C B w' ek ec eb el ep (HE.out.later hb) (by omega) (by omega))
    have HC2 := Lib.hid (fun w' (hb : Below w.heap.size w w') => impl_cls aroundS C B w' ek ec eb el ep (HE.out.later hb) (by omega) (by omega))
    rw [e3] at HI2
    rw [e1] at HP2
    rw [e2] at HC2
    clear ho e1 e2 e3
    unfold parV at HI HS HI2
    unfold pairV at HP HP2
    unfold aspV aroundS at *
    dsimp only at HI HS HI2
    generalize clsOf k C b = s at *
    generalize pof k C b = lh at *
    obtain ⟨lo, hi⟩ := lh
    dsimp only at HP HP2
    refine (HI.out _ HB1.out).mono ?_
    rintro e w3 ⟨rfl, hb3⟩
    have R3 := Lib.hid (R1.out.later hb3)
    have HB3 := Lib.hid (HB1.out.trans (hb3.mono HB1.out.size))
    have G3 := Lib.hid (Cell3.new w3 (.string ⟨#[97, 114, 111, 117, 110, 100]⟩) (.string C) (.string B))
    obtain ⟨w4, hw4⟩ : ∃ w4, w4 = w3.alloc (Obj.cells #[.string ⟨#[97, 114, 111, 117, 110, 100]⟩, .string C, .string B] 24) := ⟨_, rfl⟩
    have R4 := Lib.hid (show Cell3 w4 w1.heap.size (.string k) (.string C) (.string b) by rw [hw4]; exact R3.out.later ((Below.refl _ _).alloc (Nat.le_refl _) _))
    have G4 := Lib.hid (show Cell3 w4 w3.heap.size (.string ⟨#[97, 114, 111, 117, 110, 100]⟩) (.string C) (.string B) by rw [hw4]; exact G3.out)
    have HB4 := Lib.hid (show Below w.heap.size w w4 by rw [hw4]; exact HB3.out.alloc HB3.out.size _)
    have HE4 := Lib.hid hw4
    clear hb3 q0 q1 q2 f0 f1 f2
    obtain ⟨q0, q1, q2, f0, f1, f2⟩ := R4.out.read
    rw [hw4] at q0 q1 q2
    clear hw4 f0 f1 f2
    go_wp2_with fail
    rw [← HE4.out]
    refine (HS.out _).mono ?_
    rintro e w5 ⟨rfl, hb5⟩
    have R5 := Lib.hid (R4.out.later hb5)
    have G5 := Lib.hid (G4.out.later hb5)
    have HB5 := Lib.hid (HB4.out.trans (hb5.mono HB4.out.size))
    obtain ⟨w6, hw6⟩ : ∃ w6, w6 = w5.alloc (Obj.cells #[.string ⟨#[97, 114, 111, 117, 110, 100]⟩, .string C, .string B] 24) := ⟨_, rfl⟩
    have R6 := Lib.hid (show Cell3 w6 w1.heap.size (.string k) (.string C) (.string b) by rw [hw6]; exact R5.out.later ((Below.refl _ _).alloc (Nat.le_refl _) _))
    have G6 := Lib.hid (show Cell3 w6 w3.heap.size (.string ⟨#[97, 114, 111, 117, 110, 100]⟩) (.string C) (.string B) by rw [hw6]; exact G5.out.later ((Below.refl _ _).alloc (Nat.le_refl _) _))
    have HB6 := Lib.hid (show Below w.heap.size w w6 by rw [hw6]; exact HB5.out.alloc HB5.out.size _)
    have HE6 := Lib.hid hw6
    clear hb5 q0 q1 q2
    obtain ⟨q0, q1, q2, _, _, _⟩ := R6.out.read
    obtain ⟨g0, g1, g2, _, _, _⟩ := G6.out.read
    rw [hw6] at q0 q1 q2 g0 g1 g2
    obtain ⟨x0, x1, x2, y0, y1, y2⟩ := (Cell3.new w5 (.string ⟨#[97, 114, 111, 117, 110, 100]⟩) (.string C) (.string B)).read
    clear hw6
    go_wp2_with fail
    rw [← HE6.out]
    refine (HP.out _ HB6.out).mono ?_
    rintro e w7 ⟨rfl, hb7⟩
    have R7 := Lib.hid (R6.out.later hb7)
    have G7 := Lib.hid (G6.out.later hb7)
    have HB7 := Lib.hid (HB6.out.trans (hb7.mono HB6.out.size))
    clear hb7 q0 q1 q2 g0 g1 g2 x0 x1 x2 y0 y1 y2
    obtain ⟨g0, g1, g2, _, _, _⟩ := G7.out.read
    go_wp2_with fail
    refine (HP2.out _ HB7.out).mono ?_
    rintro e w8 ⟨rfl, hb8⟩
    have R8 := Lib.hid (R7.out.later hb8)
    have G8 := Lib.hid (G7.out.later hb8)
    have HB8 := Lib.hid (HB7.out.trans (hb8.mono HB7.out.size))
    clear hb8 g0 g1 g2
    obtain ⟨g0, g1, g2, _, _, _⟩ := G8.out.read
    go_wp2_with fail
    refine (HI2.out _ HB8.out).mono ?_
    rintro e w9 ⟨rfl, hb9⟩
    have R9 := Lib.hid (R8.out.later hb9)
    have G9 := Lib.hid (G8.out.later hb9)
    have HB9 := Lib.hid (HB8.out.trans (hb9.mono HB8.out.size))
    obtain ⟨w10, hw10⟩ : ∃ w10, w10 = w9.alloc (Obj.cells #[.string ⟨#[97, 114, 111, 117, 110, 100]⟩, .string C, .string B] 24) := ⟨_, rfl⟩
    have R10 := Lib.hid (show Cell3 w10 w1.heap.size (.string k) (.string C) (.string b) by rw [hw10]; exact R9.out.later ((Below.refl _ _).alloc (Nat.le_refl _) _))
    have G10 := Lib.hid (show Cell3 w10 w3.heap.size (.string ⟨#[97, 114, 111, 117, 110, 100]⟩) (.string C) (.string B) by rw [hw10]; exact G9.out.later ((Below.refl _ _).alloc (Nat.le_refl _) _))
    have H10 := Lib.hid (show Cell3 w10 w9.heap.size (.string ⟨#[97, 114, 111, 117, 110, 100]⟩) (.string C) (.string B) by rw [hw10]; exact Cell3.new _ _ _ _)
    have HB10 := Lib.hid (show Below w.heap.size w w10 by rw [hw10]; exact HB9.out.alloc HB9.out.size _)
    have HE10 := Lib.hid hw10
    clear hb9 g0 g1 g2 hw10
    go_wp2_with fail
    rw [← HE10.out]
    go_region_held3 (fun w' => w'.cell? ⟨w1.heap.size, 0, none⟩ = some (.string k) ∧ w'.cell? ⟨w1.heap.size, 1, none⟩ = some (.string C) ∧ w'.cell? ⟨w1.heap.size, 2, none⟩ = some (.string b) ∧ w'.cell? ⟨w3.heap.size, 0, none⟩ = some (.string ⟨#[97, 114, 111, 117, 110, 100]⟩) ∧ w'.cell? ⟨w3.heap.size, 1, none⟩ = some (.string C) ∧ w'.cell? ⟨w3.heap.size, 2, none⟩ = some (.string B) ∧ w'.cell? ⟨w9.heap.size, 0, none⟩ = some (.string ⟨#[97, 114, 111, 117, 110, 100]⟩) ∧ w'.cell? ⟨w9.heap.size, 1, none⟩ = some (.string C) ∧ w'.cell? ⟨w9.heap.size, 2, none⟩ = some (.string B) ∧ Below w.heap.size w w')
      ((first | assumption | exact c9_start R10.out G10.out H10.out HB10.out | (apply c9_later; assumption; assumption)))
      ((first
      | (go_at_call_of 18 (Value.agg #[.string k, .string C, .string b]); refine (HC.out _ (c9_below (by assumption))).mono ?_; rintro e w' ⟨rfl, hb⟩)
      | (go_at_call_of 18 (Value.agg #[.string ⟨#[97, 114, 111, 117, 110, 100]⟩, .string C, .string B]); refine (HC2.out _ (c9_below (by assumption))).mono ?_; rintro e w' ⟨rfl, hb⟩)))
    all_goals
      go_wp2_with fail
      go_ret
      exact ⟨rfl, c9_below (by assumption)⟩

set_option maxHeartbeats 1000000 in
set_option maxRecDepth 100000 in
theorem al_over (w : World) (a : Option Addr) (n c : Nat) (hb : 1048576 < n) :
    Calls Tryz.prog 5 #[.slice a n c] w fun e w' => e = .returned (.bool true) ∧ Below w.heap.size w w' := by
  go_enter Tryz.func5, Tryz.ntmps5
  go_wp2_with fail
  go_ret
  exact ⟨rfl, Below.refl _ _⟩
theorem al_any (w : World) (a : Option Addr) (n c : Nat) (h : BytesAt w a n) (hn : n ≤ c) (hc : c ≤ 9223372036854775807) (hnil : a = none → n = 0) (ek ec eb el ep : Addr) (he : Errs w ek ec eb el ep) :
    Calls Tryz.prog 5 #[.slice a n c] w fun e w' => e = .returned (.bool true) ∧ Below w.heap.size w w' := by
  by_cases hb : n ≤ 1048576
  · exact al_fits w a n c h hn hc hnil hb ek ec eb el ep he
  · exact al_over w a n c (by omega)
end Go.Proofs.YtecifbncfglckaaGreatDoor
