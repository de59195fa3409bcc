/- AspectValid, ChangesValue, PrintsIn, FormatAspect of the program, as the plain aspOf says. Conditions: texts of at most 2^30 bytes; the errors lie where start-up laid them. -/
import Derived.Test.YtkdnbdgpcgookaaGreatDoorRasp
namespace Go.Proofs.YtkdnbdgpcgookaaGreatDoor
open Go.RowKit Gram

theorem fld_chg (l m : Int) (p q r : Bool) (w : World) : (Instr.field 86 (.agg #[.int .i64 l, .int .i64 m, .bool p, .bool q, .bool r]) 2).run Tryz.prog w = .ok (.bool p) w := by kernel_rfl
theorem fld_prt (l m : Int) (p q r : Bool) (w : World) : (Instr.field 86 (.agg #[.int .i64 l, .int .i64 m, .bool p, .bool q, .bool r]) 3).run Tryz.prog w = .ok (.bool q) w := by kernel_rfl

section
variable (k c b : ByteArray) (w : World) (ek ec eb el ep : Addr) (h : Errs w ek ec eb el ep) (hc : c.size ≤ 1073741824) (hb : b.size ≤ 1073741824)
include h hc hb

set_option maxHeartbeats 1000000 in
set_option maxRecDepth 100000 in
theorem impl_asp : Calls Tryz.prog 9 #[aspV k c b] w fun e w' => e = .returned (.bool (aspOf k c b).isSome) ∧ Below w.heap.size w w' := by
  have HR := Lib.hid (fun w' (hw : Below w.heap.size w w') => rasp_any k c b w' ek ec eb el ep (h.later hw) hc hb)
  unfold aspV at *
  clear h hc hb
  cases ho : aspOf k c b with
  | none =>
    rw [ho] at HR
    clear ho
    unfold RaspTo errV at HR
    go_enter Tryz.func9, Tryz.ntmps9
    go_wp2_with fail
    refine (HR.out _ ((Below.refl _ w).alloc (Nat.le_refl _) _)).mono ?_
    rintro e w1 ⟨⟨a, rfl⟩, hb⟩
    have HB := Lib.hid (((Below.refl _ w).alloc (Nat.le_refl _) _).trans (hb.mono (by simp)))
    clear hb
    go_wp2_with fail
    go_ret
    exact ⟨rfl, HB.out.alloc HB.out.size _⟩
  | some p =>
    obtain ⟨n, xs⟩ := p
    rw [ho] at HR
    clear ho
    unfold RaspTo at HR
    go_enter Tryz.func9, Tryz.ntmps9
    go_wp2_with fail
    refine (HR.out _ ((Below.refl _ w).alloc (Nat.le_refl _) _)).mono ?_
    rintro e w1 ⟨⟨v, S, rfl, hB, _⟩, hb⟩
    obtain ⟨va, vn, vc, rfl⟩ := hB.form
    clear hB
    have HB := Lib.hid (((Below.refl _ w).alloc (Nat.le_refl _) _).trans (hb.mono (by simp)))
    clear hb
    go_wp2_with fail
    go_ret
    exact ⟨rfl, HB.out.alloc HB.out.size _⟩
end
end Go.Proofs.YtkdnbdgpcgookaaGreatDoor
