/- FormatCopy of the program and of the model. Condition: texts of at most 2^20 bytes. -/
import Derived.Test.YthedbjdcnidelaaDoorTxt
import Derived.Test.YthedbjdcnidelaaDoorJp2
namespace Go.Proofs.YthedbjdcnidelaaDoor
open Go.RowKit Gram

def lOf : ByteArray := ⟨#[32, 111, 102, 32]⟩
def lWith : ByteArray := ⟨#[32, 119, 105, 116, 104, 32, 91]⟩
def lEnd : ByteArray := ⟨#[93]⟩
/-- the text of a copy -/
def ctext (n p a : ByteArray) : ByteArray := n ++ lOf ++ p ++ lWith ++ a ++ lEnd

theorem ctext_sums (n p a : ByteArray) (h : n.size + p.size + a.size ≤ 1048576) (w : World) :
    (Op.stringOp .add n lOf).run Tryd.prog w = .ok (.string (n ++ lOf)) w ∧ (Op.stringOp .add (n ++ lOf) p).run Tryd.prog w = .ok (.string (n ++ lOf ++ p)) w ∧
    (Op.stringOp .add (n ++ lOf ++ p) lWith).run Tryd.prog w = .ok (.string (n ++ lOf ++ p ++ lWith)) w ∧ (Op.stringOp .add (n ++ lOf ++ p ++ lWith) a).run Tryd.prog w = .ok (.string (n ++ lOf ++ p ++ lWith ++ a)) w ∧
    (Op.stringOp .add (n ++ lOf ++ p ++ lWith ++ a) lEnd).run Tryd.prog w = .ok (.string (ctext n p a)) w := by
  have y1 : lOf.size = 4 := rfl
  have y2 : lWith.size = 7 := rfl
  have y3 : lEnd.size = 1 := rfl
  refine ⟨str_sum _ _ (by omega) w, str_sum _ _ (by simp; omega) w, str_sum _ _ (by simp; omega) w, str_sum _ _ (by simp; omega) w, str_sum _ _ (by simp; omega) w⟩

set_option maxHeartbeats 1000000 in
theorem impl_ctext (n p a : ByteArray) (w : World) (h : n.size + p.size + a.size ≤ 1048576) :
    Calls Tryd.prog 10 #[pV n p a] w fun e w' => e = .returned (.string (ctext n p a)) ∧ Below w.heap.size w w' := by
  have e1 := fun w => (ctext_sums n p a h w).1
  have e2 := fun w => (ctext_sums n p a h w).2.1
  have e3 := fun w => (ctext_sums n p a h w).2.2.1
  have e4 := fun w => (ctext_sums n p a h w).2.2.2.1
  have e5 := fun w => (ctext_sums n p a h w).2.2.2.2
  unfold lOf at *
  unfold lWith at *
  unfold lEnd at *
  clear h
  unfold pV
  go_enter Tryd.func10, Tryd.ntmps10
  go_wp2_with fail
  go_ret
  exact ⟨rfl, (Below.refl _ _).alloc (Nat.le_refl _) _⟩
set_option maxHeartbeats 1000000 in
theorem spec_ctext (n p a : ByteArray) (w : World) (h : n.size + p.size + a.size ≤ 1048576) :
    Calls Tryd.prog 11 #[pV n p a] w fun e w' => e = .returned (.string (ctext n p a)) ∧ Below w.heap.size w w' := by
  have e1 := fun w => (ctext_sums n p a h w).1
  have e2 := fun w => (ctext_sums n p a h w).2.1
  have e3 := fun w => (ctext_sums n p a h w).2.2.1
  have e4 := fun w => (ctext_sums n p a h w).2.2.2.1
  have e5 := fun w => (ctext_sums n p a h w).2.2.2.2
  unfold lOf at *
  unfold lWith at *
  unfold lEnd at *
  clear h
  unfold pV
  go_enter Tryd.func11, Tryd.ntmps11
  go_wp2_with fail
  go_ret
  exact ⟨rfl, (Below.refl _ _).alloc (Nat.le_refl _) _⟩
end Go.Proofs.YthedbjdcnidelaaDoor
