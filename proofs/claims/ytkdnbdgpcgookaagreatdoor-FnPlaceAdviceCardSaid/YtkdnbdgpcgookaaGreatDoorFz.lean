/- ProceedsOf of the program: how often advice proceeds at least and at most, as the plain pofV says. Conditions: texts of at most 2^30 bytes; the errors lie where start-up laid them. ChangesValue and PrintsIn of the program. Conditions: texts of at most 2^30 bytes; the errors lie where start-up laid them. -/
import Derived.Test.YtkdnbdgpcgookaaGreatDoorHx
namespace Go.Proofs.YtkdnbdgpcgookaaGreatDoor
open Go.RowKit Gram

/-- how often valid advice proceeds -/
def pofN (n : Nat) (xs : List Stm) : Int × Int := if n = 2 then ((dds xs).least, (dds xs).most) else (1, 1)
def pof (k c b : ByteArray) : Int × Int := match aspOf k c b with | some (n, xs) => pofN n xs | none => (-1, -1)
def pairV (p : Int × Int) : Value := .tuple #[.int .i64 p.1, .int .i64 p.2]

set_option maxHeartbeats 1000000 in
set_option maxRecDepth 100000 in
theorem proceeds_any (n : Nat) (xs : List Stm) (v : Value) (S : Nat → Prop) (w : World) (hlen : (txts xs).length ≤ 400) (hwf : wfs xs = true) (hS : ∀ k, S k → k < w.heap.size) (hB : IsBody w S xs v) :
    Calls Tryz.prog 48 #[.agg #[.int .i64 n, v]] w fun e w' => e = .returned (pairV (pofN n xs)) ∧ Below w.heap.size w w' := by
  obtain ⟨va, vn, vc, rfl⟩ := hB.form
  have HD := Lib.hid (fun w' (hb : Below w.heap.size w w') => deeds_any xs w' S _ hlen hwf (fun j hj => Nat.lt_of_lt_of_le (hS j hj) hb.size) (hB.kept (fun j hj => hb.block j (hS j hj)) (fun _ h => h)))
  clear hlen hwf hS hB
  unfold pairV pofN
  unfold ddV ddC at HD
  by_cases hn : n = 2
  · subst hn
    rw [if_pos rfl]
    go_enter Tryz.func48, Tryz.ntmps48
    go_wp2_with fail
    refine (HD.out _ ((Below.refl _ w).alloc (Nat.le_refl _) _)).mono ?_
    rintro e w1 ⟨rfl, hb⟩
    have HB := Lib.hid (((Below.refl _ w).alloc (Nat.le_refl _) _).trans (hb.mono (by simp)))
    clear hb
    go_wp2_with fail
    go_quiet (fail)
    go_wp2_with fail
    go_ret2
    exact ⟨rfl, (HB.out.alloc HB.out.size _).trans ⟨rfl, rfl, rfl, Nat.le_refl _, fun _ _ => rfl⟩⟩
  · rw [if_neg hn]
    have hn2 : ((n : Int) == 2) = false := by rw [beq_eq_false_iff_ne]; omega
    go_enter Tryz.func48, Tryz.ntmps48
    go_wp2_with fail
    go_ret2
    exact ⟨rfl, (Below.refl _ w).alloc (Nat.le_refl _) _⟩

section
variable (k c b : ByteArray) (w : World) (ek ec eb el ep : Addr) (h : Errs w ek ec eb el ep) (hc : c.size ≤ 1073741824) (hb : b.size ≤ 1073741824)
include h hc hb

set_option maxHeartbeats 1000000 in
set_option maxRecDepth 100000 in
theorem impl_pof : Calls Tryz.prog 21 #[aspV k c b] w fun e w' => e = .returned (pairV (pof k c b)) ∧ Below w.heap.size w w' := by
  have HR := Lib.hid (fun w' (hw : Below w.heap.size w w') => rasp_any k c b w' ek ec eb el ep (h.later hw) hc hb)
  unfold aspV pof at *
  cases ho : aspOf k c b with
  | none =>
    clear h hc hb
    rw [ho] at HR
    clear ho
    unfold RaspTo errV at HR
    go_enter Tryz.func21, Tryz.ntmps21
    go_wp2_with fail
    refine (HR.out _ ((Below.refl _ w).alloc (Nat.le_refl _) _)).mono ?_
    rintro e w1 ⟨⟨a, rfl⟩, hb⟩
    have HB := Lib.hid (((Below.refl _ w).alloc (Nat.le_refl _) _).trans (hb.mono (by simp)))
    clear hb
    go_wp2_with fail
    go_ret2
    exact ⟨rfl, HB.out.alloc HB.out.size _⟩
  | some p =>
    obtain ⟨n, xs⟩ := p
    obtain ⟨_, _, ha, _⟩ := aspOf_some ho
    obtain ⟨hb60, htx, hwf, _⟩ := advOf_some ha
    have hlen : (txts xs).length ≤ 400 := by rw [← htx]; simp; omega
    have HP := Lib.hid (fun v S w' hS hB => proceeds_any n xs v S w' hlen hwf hS hB)
    clear h hc hb hb60 htx hwf hlen ha
    rw [ho] at HR
    clear ho
    unfold RaspTo at HR
    dsimp only
    unfold pairV at *
    go_enter Tryz.func21, Tryz.ntmps21
    go_wp2_with fail
    refine (HR.out _ ((Below.refl _ w).alloc (Nat.le_refl _) _)).mono ?_
    rintro e w1 ⟨⟨v, S, rfl, hB, hS⟩, hb⟩
    have HB := Lib.hid (((Below.refl _ w).alloc (Nat.le_refl _) _).trans (hb.mono (by simp)))
    have HBd := Lib.hid hB
    have HS := Lib.hid hS
    obtain ⟨va, vn, vc, rfl⟩ := hB.form
    clear hb hB hS
    go_wp2_with fail
    refine (HP.out _ S _ (fun j hj => by have := HS.out j hj; simp; omega) (HBd.out.kept (fun j hj => alloc_heap _ j (HS.out j hj)) (fun _ h => h))).mono ?_
    rintro e w2 ⟨rfl, hb2⟩
    have HB2 := Lib.hid ((HB.out.alloc HB.out.size _).trans (hb2.mono (by have := HB.out.size; simp; omega)))
    clear hb2
    go_wp2_with fail
    go_ret2
    exact ⟨rfl, HB2.out⟩
end
end Go.Proofs.YtkdnbdgpcgookaaGreatDoor
namespace Go.Proofs.YtkdnbdgpcgookaaGreatDoor
open Go.RowKit Gram

/-- what a valid aspect's statements do -/
def deedIs (f : Dd → Bool) (k c b : ByteArray) : Bool := match aspOf k c b with | some (_, xs) => f (dds xs) | none => false

section
variable (k c b : ByteArray) (w : World) (ek ec eb el ep : Addr) (h : Errs w ek ec eb el ep) (hc : c.size ≤ 1073741824) (hb : b.size ≤ 1073741824)
include h hc hb

set_option maxHeartbeats 1000000 in
set_option maxRecDepth 100000 in
theorem impl_prt : Calls Tryz.prog 22 #[aspV k c b] w fun e w' => e = .returned (.bool (deedIs Dd.prt k c b)) ∧ Below w.heap.size w w' := by
  have HR := Lib.hid (fun w' (hw : Below w.heap.size w w') => rasp_any k c b w' ek ec eb el ep (h.later hw) hc hb)
  unfold aspV deedIs at *
  cases ho : aspOf k c b with
  | none =>
    clear h hc hb
    rw [ho] at HR
    clear ho
    unfold RaspTo errV at HR
    go_enter Tryz.func22, Tryz.ntmps22
    go_wp2_with fail
    refine (HR.out _ ((Below.refl _ w).alloc (Nat.le_refl _) _)).mono ?_
    rintro e w1 ⟨⟨a, rfl⟩, hb⟩
    have HB := Lib.hid (((Below.refl _ w).alloc (Nat.le_refl _) _).trans (hb.mono (by simp)))
    clear hb
    go_wp2_with fail
    go_ret
    exact ⟨rfl, HB.out.alloc HB.out.size _⟩
  | some p =>
    obtain ⟨n, xs⟩ := p
    obtain ⟨_, _, ha, _⟩ := aspOf_some ho
    obtain ⟨hb60, htx, hwf, _⟩ := advOf_some ha
    have hlen : (txts xs).length ≤ 400 := by rw [← htx]; simp; omega
    have HD := Lib.hid (fun w' S v hS hB => deeds_any xs w' S v hlen hwf hS hB)
    clear h hc hb hb60 htx hwf hlen ha
    rw [ho] at HR
    clear ho
    unfold RaspTo at HR
    dsimp only
    unfold ddV ddC at HD
    have hf1 := fld_chg
    have hf2 := fld_prt
    go_enter Tryz.func22, Tryz.ntmps22
    go_wp2_with fail
    refine (HR.out _ ((Below.refl _ w).alloc (Nat.le_refl _) _)).mono ?_
    rintro e w1 ⟨⟨v, S, rfl, hB, hS⟩, hb⟩
    have HB := Lib.hid (((Below.refl _ w).alloc (Nat.le_refl _) _).trans (hb.mono (by simp)))
    have HBd := Lib.hid hB
    have HS := Lib.hid hS
    obtain ⟨va, vn, vc, rfl⟩ := hB.form
    clear hb hB hS
    go_wp2_with fail
    refine (HD.out _ S _ (fun j hj => by have := HS.out j hj; simp; omega) (HBd.out.kept (fun j hj => alloc_heap _ j (HS.out j hj)) (fun _ h => h))).mono ?_
    rintro e w2 ⟨rfl, hb2⟩
    have HB2 := Lib.hid ((HB.out.alloc HB.out.size _).trans (hb2.mono (by have := HB.out.size; simp; omega)))
    clear hb2
    go_wp2_with fail
    go_ret
    first | exact ⟨rfl, HB2.out⟩ | exact ⟨rfl, HB2.out.alloc HB2.out.size _⟩
end
end Go.Proofs.YtkdnbdgpcgookaaGreatDoor
