/- ChangesValue and PrintsIn of the program. Conditions: texts of at most 2^30 bytes; the errors lie where start-up laid them. -/
import Derived.Test.YtcahnffgpmanpaaGreatDoorIasp
namespace Go.Proofs.YtcahnffgpmanpaaGreatDoor
open Go.RowKit Gram

/-- what a valid aspect's statements do -/
def deedIs (f : Dd → Bool) (k c b : ByteArray) : Bool := match aspOf k c b with | some (_, xs) => f (dds xs) | none => false

section
variable (k c b : ByteArray) (w : World) (ek ec eb el ep : Addr) (h : Errs w ek ec eb el ep) (hc : c.size ≤ 1073741824) (hb : b.size ≤ 1073741824)
include h hc hb

set_option maxHeartbeats 1000000 in
set_option maxRecDepth 100000 in
theorem impl_prt : Calls Tryz.prog 22 #[aspV k c b] w fun e w' => e = .returned (.bool (deedIs Dd.prt k c b)) ∧ Below w.heap.size w w' := by
  have HR := Lib.hid (fun w' (hw : Below w.heap.size w w') => rasp_any k c b w' ek ec eb el ep (h.later hw) hc hb)
  unfold aspV deedIs at *
  cases ho : aspOf k c b with
  | none =>
    clear h hc hb
    rw [ho] at HR
    clear ho
    unfold RaspTo errV at HR
    go_enter Tryz.func22, Tryz.ntmps22
    go_wp2_with fail
    refine (HR.out _ ((Below.refl _ w).alloc (Nat.le_refl _) _)).mono ?_
    rintro e w1 ⟨⟨a, rfl⟩, hb⟩
    have HB := Lib.hid (((Below.refl _ w).alloc (Nat.le_refl _) _).trans (hb.mono (by simp)))
    clear hb
    go_wp2_with fail
    go_ret
    exact ⟨rfl, HB.out.alloc HB.out.size _⟩
  | some p =>
    obtain ⟨n, xs⟩ := p
    obtain ⟨_, _, ha, _⟩ := aspOf_some ho
    obtain ⟨hb60, htx, hwf, _⟩ := advOf_some ha
    have hlen : (txts xs).length ≤ 400 := by rw [← htx]; simp; omega
    have HD := Lib.hid (fun w' S v hS hB => deeds_any xs w' S v hlen hwf hS hB)
    clear h hc hb hb60 htx hwf hlen ha
    rw [ho] at HR
    clear ho
    unfold RaspTo at HR
    dsimp only
    unfold ddV ddC at HD
    have hf1 := fld_chg
    have hf2 := fld_prt
    go_enter Tryz.func22, Tryz.ntmps22
    go_wp2_with fail
    refine (HR.out _ ((Below.refl _ w).alloc (Nat.le_refl _) _)).mono ?_
    rintro e w1 ⟨⟨v, S, rfl, hB, hS⟩, hb⟩
    have HB := Lib.hid (((Below.refl _ w).alloc (Nat.le_refl _) _).trans (hb.mono (by simp)))
    have HBd := Lib.hid hB
    have HS := Lib.hid hS
    obtain ⟨va, vn, vc, rfl⟩ := hB.form
    clear hb hB hS
    go_wp2_with fail
    refine (HD.out _ S _ (fun j hj => by have := HS.out j hj; simp; omega) (HBd.out.kept (fun j hj => alloc_heap _ j (HS.out j hj)) (fun _ h => h))).mono ?_
    rintro e w2 ⟨rfl, hb2⟩
    have HB2 := Lib.hid ((HB.out.alloc HB.out.size _).trans (hb2.mono (by have := HB.out.size; simp; omega)))
    clear hb2
    go_wp2_with fail
    go_ret
    first | exact ⟨rfl, HB2.out⟩ | exact ⟨rfl, HB2.out.alloc HB2.out.size _⟩
end
end Go.Proofs.YtcahnffgpmanpaaGreatDoor
