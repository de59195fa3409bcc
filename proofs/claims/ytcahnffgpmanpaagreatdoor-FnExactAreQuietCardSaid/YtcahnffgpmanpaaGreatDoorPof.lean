/- ProceedsOf of the program: how often advice proceeds at least and at most, as the plain pofV says. Conditions: texts of at most 2^30 bytes; the errors lie where start-up laid them. -/
import Derived.Test.YtcahnffgpmanpaaGreatDoorIasp
namespace Go.Proofs.YtcahnffgpmanpaaGreatDoor
open Go.RowKit Gram

/-- how often valid advice proceeds -/
def pofN (n : Nat) (xs : List Stm) : Int × Int := if n = 2 then ((dds xs).least, (dds xs).most) else (1, 1)
def pof (k c b : ByteArray) : Int × Int := match aspOf k c b with | some (n, xs) => pofN n xs | none => (-1, -1)
def pairV (p : Int × Int) : Value := .tuple #[.int .i64 p.1, .int .i64 p.2]

set_option maxHeartbeats 1000000 in
set_option maxRecDepth 100000 in
theorem proceeds_any (n : Nat) (xs : List Stm) (v : Value) (S : Nat → Prop) (w : World) (hlen : (txts xs).length ≤ 400) (hwf : wfs xs = true) (hS : ∀ k, S k → k < w.heap.size) (hB : IsBody w S xs v) :
    Calls Tryz.prog 40 #[.agg #[.int .i64 n, v]] w fun e w' => e = .returned (pairV (pofN n xs)) ∧ Below w.heap.size w w' := by
  obtain ⟨va, vn, vc, rfl⟩ := hB.form
  have HD := Lib.hid (fun w' (hb : Below w.heap.size w w') => deeds_any xs w' S _ hlen hwf (fun j hj => Nat.lt_of_lt_of_le (hS j hj) hb.size) (hB.kept (fun j hj => hb.block j (hS j hj)) (fun _ h => h)))
  clear hlen hwf hS hB
  unfold pairV pofN
  unfold ddV ddC at HD
  by_cases hn : n = 2
  · subst hn
    rw [if_pos rfl]
    go_enter Tryz.func40, Tryz.ntmps40
    go_wp2_with fail
    refine (HD.out _ ((Below.refl _ w).alloc (Nat.le_refl _) _)).mono ?_
    rintro e w1 ⟨rfl, hb⟩
    have HB := Lib.hid (((Below.refl _ w).alloc (Nat.le_refl _) _).trans (hb.mono (by simp)))
    clear hb
    go_wp2_with fail
    go_quiet (fail)
    go_wp2_with fail
    go_ret2
    exact ⟨rfl, (HB.out.alloc HB.out.size _).trans ⟨rfl, rfl, rfl, Nat.le_refl _, fun _ _ => rfl⟩⟩
  · rw [if_neg hn]
    have hn2 : ((n : Int) == 2) = false := by rw [beq_eq_false_iff_ne]; omega
    go_enter Tryz.func40, Tryz.ntmps40
    go_wp2_with fail
    go_ret2
    exact ⟨rfl, (Below.refl _ w).alloc (Nat.le_refl _) _⟩

section
variable (k c b : ByteArray) (w : World) (ek ec eb el ep : Addr) (h : Errs w ek ec eb el ep) (hc : c.size ≤ 1073741824) (hb : b.size ≤ 1073741824)
include h hc hb

end
end Go.Proofs.YtcahnffgpmanpaaGreatDoor
