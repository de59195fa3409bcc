/- DrawClassOf: an aspect of short texts, whatever the bytes. Plain mathematics: the class of a valid aspect, by how often it proceeds and whether it changes. No walk, no condition. The law FnClass answers true at every bytes. Condition: the errors lie where start-up laid them. -/
import Derived.Test.YtecifbncfglckaaGreatDoorL4o
import Derived.Test.YtecifbncfglckaaGreatDoorCls
import Derived.Test.YtecifbncfglckaaGreatDoorOnly
import Derived.Deep.RegionHeld3
import Derived.Deep.RegionWith
namespace Go.Proofs.YtecifbncfglckaaGreatDoor
open Go.RowKit Gram

set_option maxHeartbeats 1000000 in
theorem dco_any (w : World) (a : Option Addr) (n c : Nat) (h : BytesAt w a n) (hn : n ≤ c) (hc : c ≤ 9223372036854775807) (hnil : a = none → n = 0) :
    Calls Tryz.prog 17 #[.slice a n c] w fun e w' => (∃ k cc b, e = .returned (aspV k cc b) ∧ k.size ≤ 100 ∧ cc.size ≤ 100 ∧ b.size ≤ 200) ∧ Below w.heap.size w w' := by
  have R0 := Lib.hid (Cell3.new w (.string ⟨#[]⟩) (.string ⟨#[]⟩) (.string ⟨#[]⟩))
  have W0 := Lib.hid ((Below.refl _ w).alloc (Nat.le_refl _) (Obj.cells #[.string ⟨#[]⟩, .string ⟨#[]⟩, .string ⟨#[]⟩] 24))
  have HO := Lib.hid (open_any (w.alloc (Obj.cells #[.string ⟨#[]⟩, .string ⟨#[]⟩, .string ⟨#[]⟩] 24)) a n c (h.later ((Below.refl _ w).alloc (Nat.le_refl _) _)) hn hc hnil)
  have HB := Lib.hid l4o_any
  have Z0 := Lib.hid (alloc_size' w (Obj.cells #[.string ⟨#[]⟩, .string ⟨#[]⟩, .string ⟨#[]⟩] 24))
  clear h hnil
  unfold DrewA aspV at *
  rw [Z0.out] at HO
  go_enter Tryz.func17, Tryz.ntmps17
  go_wp2_with fail
  generalize w.alloc (Obj.cells #[.string ⟨#[]⟩, .string ⟨#[]⟩, .string ⟨#[]⟩] 24) = w0 at *
  refine HO.out.mono ?_
  rintro e w1 ⟨m, rfl, hr, hb⟩
  have HR := Lib.hid hr
  have HW := Lib.hid hb
  clear hr hb
  go_wp2_with fail
  refine (HB.out _ _ _ _ _ _ HR.out (by omega)).mono ?_
  rintro e w2 ⟨k', cc', b', q', rfl, hk', hcc', hb', hq', hr', hg'⟩
  have HG := Lib.hid (show Below w0.heap.size w0 w2 from grown_new (by rw [Z0.out]; exact HW.out) (by rw [Z0.out]; exact hg'))
  clear hr' hg'
  have R2 := Lib.hid (R0.out.later HG.out)
  have W2 := Lib.hid (W0.out.trans (HG.out.mono W0.out.size))
  obtain ⟨x0, x1, x2, c0, c1, c2⟩ := R2.out.read
  go_wp2_with fail
  obtain ⟨r0, r1, r2, _⟩ := (R2.out.put (.string k') (.string cc') (.string b')).read
  refine bodyPost_ret (v := aspV k' cc' b') ?_ rfl ?_
  · simp [results, Tryz.results17, go_sem, r0, r1, r2, aspV]
  · exact ⟨⟨_, _, _, rfl, hk', hcc', hb'⟩, ((W2.out.setCell (Nat.le_refl _) _).setCell (Nat.le_refl _) _).setCell (Nat.le_refl _) _⟩
end Go.Proofs.YtecifbncfglckaaGreatDoor
namespace Go.Proofs.YtecifbncfglckaaGreatDoor
open Go.RowKit Gram

/-- which of the four words a text is -/
structure Wd (s : ByteArray) (o c k r : Bool) : Prop where
  full : s.toList.isEmpty = false
  obs : (s.toList == [111, 98, 115, 101, 114, 118, 101, 114]) = o
  chg : (s.toList == [99, 104, 97, 110, 103, 101, 114]) = c
  kee : (s.toList == [107, 101, 101, 112, 101, 114]) = k
  rep : (s.toList == [114, 101, 112, 101, 97, 116, 101, 114]) = r
theorem wd_obs : Wd observerS true false false false := ⟨by kernel_rfl, by kernel_rfl, by kernel_rfl, by kernel_rfl, by kernel_rfl⟩
theorem wd_chg : Wd changerS false true false false := ⟨by kernel_rfl, by kernel_rfl, by kernel_rfl, by kernel_rfl, by kernel_rfl⟩
theorem wd_kee : Wd keeperS false false true false := ⟨by kernel_rfl, by kernel_rfl, by kernel_rfl, by kernel_rfl, by kernel_rfl⟩
theorem wd_rep : Wd repeaterS false false false true := ⟨by kernel_rfl, by kernel_rfl, by kernel_rfl, by kernel_rfl, by kernel_rfl⟩

/-- the class and what it comes from -/
inductive Cl (s : ByteArray) (lo hi : Int) (ch : Bool) : Prop
  | obs (h : Wd s true false false false) (hl : lo = 1) (hh : hi = 1) (hc : ch = false)
  | chg (h : Wd s false true false false) (hl : lo = 1) (hh : hi = 1) (hc : ch = true)
  | kee (h : Wd s false false true false) (hn : (lo == 1) = true → (hi == 1) = false) (hh : hi ≤ 1)
  | rep (h : Wd s false false false true) (hn : (hi == 1) = false) (hh : 1 < hi)

theorem cl_is {k c b : ByteArray} {n : Nat} {xs : List Stm} (h : aspOf k c b = some (n, xs)) : Cl (clsOf k c b) (pof k c b).1 (pof k c b).2 (deedIs Dd.chg k c b) := by
  obtain ⟨_, _, ha, _⟩ := aspOf_some h
  obtain ⟨_, _, _, ht⟩ := advOf_some ha
  obtain ⟨_, hq⟩ := cls_told n xs ht.least
  have e1 : clsOf k c b = clsP (pofN n xs) (dds xs).chg := by simp [clsOf, h]
  have e2 : pof k c b = pofN n xs := by simp [pof, h]
  have e3 : deedIs Dd.chg k c b = (dds xs).chg := by simp [deedIs, h]
  rw [e1, e2, e3, hq]
  split
  · rename_i h1
    split
    · rename_i h2; exact .chg wd_chg h1.1 h1.2 h2
    · rename_i h2; exact .obs wd_obs h1.1 h1.2 (by simpa using h2)
  · rename_i h1
    split
    · rename_i h2
      refine .kee wd_kee (fun h3 => ?_) h2
      rw [beq_eq_false_iff_ne]
      intro h4
      exact h1 ⟨eq_of_beq h3, h4⟩
    · rename_i h2
      refine .rep wd_rep ?_ (by omega)
      rw [beq_eq_false_iff_ne]; omega

/-- an aspect in a block of its own, and what was there -/
theorem cs_later {w w2 w3 : World} {A : Nat} {x y z : Value} (h : w2.cell? ⟨A, 0, none⟩ = some x ∧ w2.cell? ⟨A, 1, none⟩ = some y ∧ w2.cell? ⟨A, 2, none⟩ = some z ∧ Below w.heap.size w w2) (hb : Below w2.heap.size w2 w3) :
    w3.cell? ⟨A, 0, none⟩ = some x ∧ w3.cell? ⟨A, 1, none⟩ = some y ∧ w3.cell? ⟨A, 2, none⟩ = some z ∧ Below w.heap.size w w3 :=
  ⟨cell_later hb h.1, cell_later hb h.2.1, cell_later hb h.2.2.1, h.2.2.2.trans (hb.mono h.2.2.2.size)⟩
theorem cs_below {w w2 : World} {A : Nat} {x y z : Value} (h : w2.cell? ⟨A, 0, none⟩ = some x ∧ w2.cell? ⟨A, 1, none⟩ = some y ∧ w2.cell? ⟨A, 2, none⟩ = some z ∧ Below w.heap.size w w2) : Below w.heap.size w w2 := h.2.2.2
theorem cs_drew {w w2 : World} {A : Nat} {x y z : Value} (h : w2.cell? ⟨A, 0, none⟩ = some x ∧ w2.cell? ⟨A, 1, none⟩ = some y ∧ w2.cell? ⟨A, 2, none⟩ = some z ∧ Below w.heap.size w w2) :
    w2.drew.cell? ⟨A, 0, none⟩ = some x ∧ w2.drew.cell? ⟨A, 1, none⟩ = some y ∧ w2.drew.cell? ⟨A, 2, none⟩ = some z ∧ Below w.heap.size w w2.drew := ⟨h.1, h.2.1, h.2.2.1, h.2.2.2.drew⟩
theorem cs_start {w w2 : World} {A : Nat} {x y z : Value} (h : Cell3 w2 A x y z) (hb : Below w.heap.size w w2) :
    w2.drew.cell? ⟨A, 0, none⟩ = some x ∧ w2.drew.cell? ⟨A, 1, none⟩ = some y ∧ w2.drew.cell? ⟨A, 2, none⟩ = some z ∧ Below w.heap.size w w2.drew := by
  obtain ⟨h0, h1, h2, _⟩ := h.read
  exact ⟨h0, h1, h2, hb.drew⟩
end Go.Proofs.YtecifbncfglckaaGreatDoor
namespace Go.Proofs.YtecifbncfglckaaGreatDoor
open Go.RowKit Gram

set_option maxHeartbeats 8000000 in
set_option maxRecDepth 100000 in
theorem cl_fits (w : World) (a : Option Addr) (n c : Nat) (h : BytesAt w a n) (hn : n ≤ c) (hc : c ≤ 9223372036854775807) (hnil : a = none → n = 0) (hb : n ≤ 1048576) (ek ec eb el ep : Addr) (he : Errs w ek ec eb el ep) :
    Calls Tryz.prog 4 #[.slice a n c] w fun e w' => e = .returned (.bool true) ∧ Below w.heap.size w w' := by
  have HD := Lib.hid (dco_any w a n c h hn hc hnil)
  have HE := Lib.hid he
  clear h hnil he
  go_enter Tryz.func4, Tryz.ntmps4
  go_wp2_with fail
  refine HD.out.mono ?_
  rintro e w1 ⟨⟨k, cc, b, rfl, hk, hcc, hbs⟩, hb1⟩
  have HB1 := Lib.hid (hb1.alloc hb1.size (Obj.cells #[.string k, .string cc, .string b] 24))
  have R1 := Lib.hid (Cell3.new w1 (.string k) (.string cc) (.string b))
  clear hb1 HD
  unfold aspV at *
  have HP := Lib.hid (fun w' (hb : Below w.heap.size w w') => impl_pof k cc b w' ek ec eb el ep (HE.out.later hb) (by omega) (by omega))
  have HC := Lib.hid (fun w' (hb : Below w.heap.size w w') => impl_cls k cc b w' ek ec eb el ep (HE.out.later hb) (by omega) (by omega))
  have HG := Lib.hid (fun w' (hb : Below w.heap.size w w') => impl_chg k cc b w' ek ec eb el ep (HE.out.later hb) (by omega) (by omega))
  have HR := Lib.hid (fun w' (hb : Below w.heap.size w w') => impl_prt k cc b w' ek ec eb el ep (HE.out.later hb) (by omega) (by omega))
  have SC := Lib.hid (fun w => spec_cls k cc b w (by omega) (by omega))
  have SG := Lib.hid (fun w => spec_chg k cc b w (by omega) (by omega))
  have SR := Lib.hid (fun w => spec_prt k cc b w (by omega) (by omega))
  unfold pairV aspV at *
  go_wp2_with fail
  generalize hw2 : w1.alloc (Obj.cells #[.string k, .string cc, .string b] 24) = w2 at *
  clear hw2
  obtain ⟨q0, q1, q2, f0, f1, f2⟩ := R1.out.read
  have X0 := Lib.hid (fun (h : aspOf k cc b = none) => show clsOf k cc b = ⟨#[]⟩ ∧ pof k cc b = (-1, -1) ∧ deedIs Dd.chg k cc b = false ∧ deedIs Dd.prt k cc b = false by simp [clsOf, pof, deedIs, h])
  have X1 := Lib.hid (fun n xs h => @cl_is k cc b n xs h)
  generalize clsOf k cc b = s at *
  generalize pof k cc b = lh at *
  obtain ⟨lo, hi⟩ := lh
  generalize deedIs Dd.chg k cc b = dc at *
  generalize deedIs Dd.prt k cc b = dp at *
  dsimp only at HP X1
  cases ho : aspOf k cc b with
  | none =>
    obtain ⟨e0, e1, e2, e3⟩ := X0.out ho
    injection e1 with e1 e4
    subst e0; subst e1; subst e2; subst e3; subst e4
    clear X0 X1 ho
    refine (HC.out _ HB1.out).mono ?_
    rintro e w3 ⟨rfl, hb3⟩
    have R3 := Lib.hid (R1.out.later hb3)
    have HB3 := Lib.hid (HB1.out.trans (hb3.mono HB1.out.size))
    clear hb3 q0 q1 q2 f0 f1 f2
    obtain ⟨q0, q1, q2, f0, f1, f2⟩ := R3.out.read
    go_wp2_with fail
    refine (HP.out _ HB3.out).mono ?_
    rintro e w4 ⟨rfl, hb4⟩
    have R4 := Lib.hid (R3.out.later hb4)
    have HB4 := Lib.hid (HB3.out.trans (hb4.mono HB3.out.size))
    clear hb4 q0 q1 q2 f0 f1 f2
    go_wp2_with fail
    go_region_held3 (fun w' => w'.cell? ⟨w1.heap.size, 0, none⟩ = some (.string k) ∧ w'.cell? ⟨w1.heap.size, 1, none⟩ = some (.string cc) ∧ w'.cell? ⟨w1.heap.size, 2, none⟩ = some (.string b) ∧ Below w.heap.size w w')
        ((first | assumption | exact cs_start R4.out HB4.out | (apply cs_later; assumption; assumption)))
        ((first
        | (go_at_call 21; refine (HG.out _ (cs_below (by assumption))).mono ?_; rintro e w' ⟨rfl, hb⟩)
        | (go_at_call 23; refine (HR.out _ (cs_below (by assumption))).mono ?_; rintro e w' ⟨rfl, hb⟩)
        | (go_at_call 20; refine (SC.out _).mono ?_; rintro e w' ⟨rfl, hb⟩)
        | (go_at_call 22; refine (SG.out _).mono ?_; rintro e w' ⟨rfl, hb⟩)
        | (go_at_call 24; refine (SR.out _).mono ?_; rintro e w' ⟨rfl, hb⟩)))
    all_goals go_wp2_with fail
    go_region_held3 (fun w' => w'.cell? ⟨w1.heap.size, 0, none⟩ = some (.string k) ∧ w'.cell? ⟨w1.heap.size, 1, none⟩ = some (.string cc) ∧ w'.cell? ⟨w1.heap.size, 2, none⟩ = some (.string b) ∧ Below w.heap.size w w')
        ((first | assumption | (apply cs_drew; assumption) | (apply cs_later; assumption; assumption)))
        ((first
        | (go_at_call 21; refine (HG.out _ (cs_below (by assumption))).mono ?_; rintro e w' ⟨rfl, hb⟩)
        | (go_at_call 23; refine (HR.out _ (cs_below (by assumption))).mono ?_; rintro e w' ⟨rfl, hb⟩)
        | (go_at_call 20; refine (SC.out _).mono ?_; rintro e w' ⟨rfl, hb⟩)
        | (go_at_call 22; refine (SG.out _).mono ?_; rintro e w' ⟨rfl, hb⟩)
        | (go_at_call 24; refine (SR.out _).mono ?_; rintro e w' ⟨rfl, hb⟩)))
    all_goals
      go_wp2_with fail
      go_ret
      exact ⟨rfl, cs_below (by assumption)⟩
  | some p =>
    obtain ⟨m, xs⟩ := p
    have hcl := X1.out m xs ho
    clear X0 X1 ho
    have hfull : s.toList.isEmpty = false := by
      cases hcl with
      | obs h _ _ _ => exact h.full
      | chg h _ _ _ => exact h.full
      | kee h _ _ => exact h.full
      | rep h _ _ => exact h.full
    have HCL := Lib.hid hcl
    clear hcl
    refine (HC.out _ HB1.out).mono ?_
    rintro e w3 ⟨rfl, hb3⟩
    have R3 := Lib.hid (R1.out.later hb3)
    have HB3 := Lib.hid (HB1.out.trans (hb3.mono HB1.out.size))
    clear hb3 q0 q1 q2 f0 f1 f2
    obtain ⟨q0, q1, q2, f0, f1, f2⟩ := R3.out.read
    go_wp2_with fail
    refine (HP.out _ HB3.out).mono ?_
    rintro e w4 ⟨rfl, hb4⟩
    have R4 := Lib.hid (R3.out.later hb4)
    have HB4 := Lib.hid (HB3.out.trans (hb4.mono HB3.out.size))
    clear hb4 q0 q1 q2 f0 f1 f2
    go_wp2_with fail
    go_region_held3 (fun w' => w'.cell? ⟨w1.heap.size, 0, none⟩ = some (.string k) ∧ w'.cell? ⟨w1.heap.size, 1, none⟩ = some (.string cc) ∧ w'.cell? ⟨w1.heap.size, 2, none⟩ = some (.string b) ∧ Below w.heap.size w w')
        ((first | assumption | exact cs_start R4.out HB4.out | (apply cs_later; assumption; assumption)))
        ((first
        | (go_at_call 21; refine (HG.out _ (cs_below (by assumption))).mono ?_; rintro e w' ⟨rfl, hb⟩)
        | (go_at_call 23; refine (HR.out _ (cs_below (by assumption))).mono ?_; rintro e w' ⟨rfl, hb⟩)
        | (go_at_call 20; refine (SC.out _).mono ?_; rintro e w' ⟨rfl, hb⟩)
        | (go_at_call 22; refine (SG.out _).mono ?_; rintro e w' ⟨rfl, hb⟩)
        | (go_at_call 24; refine (SR.out _).mono ?_; rintro e w' ⟨rfl, hb⟩)))
    all_goals
      cases HCL.out with
      | obs h hl hh hd =>
        obtain ⟨_, h1, h2, h3, h4⟩ := h
        subst hl; subst hh; subst hd
        clear HCL
        go_wp2_with fail
        refine (HG.out _ (cs_below (by assumption))).mono ?_
        rintro e w8 ⟨rfl, hb8⟩
        have S8 := Lib.hid (cs_later (by assumption) hb8)
        obtain ⟨p0, p1, p2, _⟩ := S8.out
        clear hb8
        go_wp2_with fail
        refine (HG.out _ (cs_below S8.out)).mono ?_
        rintro e w9 ⟨rfl, hb9⟩
        have S9 := Lib.hid (cs_later S8.out hb9)
        clear hb9
        go_wp2_with fail
        go_ret
        exact ⟨rfl, cs_below S9.out⟩
      | chg h hl hh hd =>
        obtain ⟨_, h1, h2, h3, h4⟩ := h
        subst hl; subst hh; subst hd
        clear HCL
        go_wp2_with fail
        refine (HG.out _ (cs_below (by assumption))).mono ?_
        rintro e w8 ⟨rfl, hb8⟩
        have S8 := Lib.hid (cs_later (by assumption) hb8)
        obtain ⟨p0, p1, p2, _⟩ := S8.out
        clear hb8
        go_wp2_with fail
        refine (HG.out _ (cs_below S8.out)).mono ?_
        rintro e w9 ⟨rfl, hb9⟩
        have S9 := Lib.hid (cs_later S8.out hb9)
        clear hb9
        go_wp2_with fail
        go_ret
        exact ⟨rfl, cs_below S9.out⟩
      | kee h hn hh =>
        obtain ⟨_, h1, h2, h3, h4⟩ := h
        have hh2 : ¬ (1 : Int) < hi := by omega
        clear HCL
        cases hlo : (lo == 1) with
        | true =>
          have hhi := hn hlo
          clear hn
          go_wp2_with fail
          go_ret
          exact ⟨rfl, cs_below (by assumption)⟩
        | false =>
          clear hn
          go_wp2_with fail
          go_ret
          exact ⟨rfl, cs_below (by assumption)⟩
      | rep h hn hh =>
        obtain ⟨_, h1, h2, h3, h4⟩ := h
        have hh2 : ¬ hi ≤ (1 : Int) := by omega
        clear HCL
        cases hlo : (lo == 1) with
        | true =>
          go_wp2_with fail
          go_ret
          exact ⟨rfl, cs_below (by assumption)⟩
        | false =>
          go_wp2_with fail
          go_ret
          exact ⟨rfl, cs_below (by assumption)⟩

set_option maxHeartbeats 1000000 in
set_option maxRecDepth 100000 in
theorem cl_over (w : World) (a : Option Addr) (n c : Nat) (hb : 1048576 < n) :
    Calls Tryz.prog 4 #[.slice a n c] w fun e w' => e = .returned (.bool true) ∧ Below w.heap.size w w' := by
  go_enter Tryz.func4, Tryz.ntmps4
  go_wp2_with fail
  go_ret
  exact ⟨rfl, Below.refl _ _⟩
theorem cl_any (w : World) (a : Option Addr) (n c : Nat) (h : BytesAt w a n) (hn : n ≤ c) (hc : c ≤ 9223372036854775807) (hnil : a = none → n = 0) (ek ec eb el ep : Addr) (he : Errs w ek ec eb el ep) :
    Calls Tryz.prog 4 #[.slice a n c] w fun e w' => e = .returned (.bool true) ∧ Below w.heap.size w w' := by
  by_cases hb : n ≤ 1048576
  · exact cl_fits w a n c h hn hc hnil hb ek ec eb el ep he
  · exact cl_over w a n c (by omega)
end Go.Proofs.YtecifbncfglckaaGreatDoor
