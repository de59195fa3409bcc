/- PlaceAdvice of the program. Conditions: a text of at most 2^20 bytes; aspects of at most 2^20 bytes; the errors lie where start-up laid them. -/
import Derived.Test.YtkdnbdgpcgookaaGreatDoorPlz
import Derived.Test.YtkdnbdgpcgookaaGreatDoorQx
namespace Go.Proofs.YtkdnbdgpcgookaaGreatDoor
open Go.RowKit Gram

theorem bsOf_len (zs : List As) : (bsOf zs).length = zs.length := by simp [bsOf]
theorem allZ_bodies (zs : List As) (h : allOk zs = true) : ∀ b ∈ bsOf (allZ zs), wfs b = true ∧ (txts b).length ≤ 60 := by
  unfold allOk at h
  rw [Bool.and_eq_true] at h
  have hz : allZ zs = ardQ zs := by unfold allZ allOk; rw [h.1, h.2]; rfl
  rw [hz]
  exact bsOf_small zs h.2
theorem plV_plS (s : ByteArray) (zs : List As) (x : Stm) (hb : bodyOf s = some [x]) (hd : plD s = true) (h : allOk zs = true) : plV s zs = match plS (bsOf (allZ zs)) [x] with
    | some o => .tuple #[.string (txtOf (txts o)), .bool true]
    | none => plN := by
  have hz : allZ zs = ardQ zs := by unfold allZ; rw [h]; rfl
  have ht : s.data.toList = txts [x] := (bodyOf_some hb).2.1
  have ha : zs.all ardOk = true := by unfold allOk at h; rw [Bool.and_eq_true] at h; exact h.2
  unfold plV
  rw [if_pos hd, if_pos h, ht, plU_plS zs [x] ha, hz]
  cases plS (bsOf (ardQ zs)) [x] <;> rfl
theorem body_any'' {w : World} {S : Nat → Prop} {xs : List Stm} {v : Value} (hx : (txts xs).length ≤ 1048576) (hS : ∀ k, S k → k < w.heap.size) (h : IsBody w S xs v) :
    Calls Tryz.prog 43 #[v] w fun e w' => e = .returned (strV (txts xs)) ∧ Below w.heap.size w w' :=
  body_step _ (text_all _) xs w S v (Nat.le_refl _) hx hS h
end Go.Proofs.YtkdnbdgpcgookaaGreatDoor
