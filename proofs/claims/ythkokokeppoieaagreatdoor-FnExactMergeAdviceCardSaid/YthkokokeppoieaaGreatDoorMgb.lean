/- mergedBody of the program, as the plain mgB says. Conditions: a kind's number, bodies of at most 60 bytes; the library's own number can be read. -/
import Derived.Test.YthkokokeppoieaaGreatDoorMga
import Derived.Test.YthkokokeppoieaaGreatDoorText
import Derived.Test.YthkokokeppoieaaGreatDoorShelf
namespace Go.Proofs.YthkokokeppoieaaGreatDoor
open Go.RowKit Gram

/-- the library's own number can be read -/
def MaxCell (w : World) : Prop := ∃ m, w.cell? ⟨5, 0, none⟩ = some (.int .i64 m)
theorem MaxCell.later {w w' : World} (h : MaxCell w) (hb : Below w.heap.size w w') : MaxCell w' := by
  obtain ⟨m, h⟩ := h
  exact ⟨m, by rw [hb.cell (World.block_lt_of_cell? w _ h)]; exact h⟩

set_option maxHeartbeats 400000 in
theorem pro_text (w : World) : Calls Tryz.prog 75 #[.agg #[]] w fun e w' => e = .returned (.string ⟨#[75]⟩) ∧ Below w.heap.size w w' := by
  go_enter Tryz.func75, Tryz.ntmps75
  go_wp2_with fail
  go_ret
  exact ⟨rfl, (Below.refl _ _).alloc (Nat.le_refl _) _⟩

theorem countB_K (a : ByteArray) : Lib.countB a ⟨#[75]⟩ ≤ a.size := by
  have : Lib.countB a ⟨#[75]⟩ = a.data.toList.count 75 := Lib.count_one 75 a.data.toList
  rw [this]
  exact Nat.le_trans List.count_le_length (by simp)

set_option maxHeartbeats 1000000 in
set_option maxRecDepth 100000 in
theorem merged_any (n : Nat) (hn : n ≤ 2) (a b : ByteArray) (ha : a.size ≤ 60) (hb : b.size ≤ 60) (w : World) (hm : MaxCell w) :
    Calls Tryz.prog 41 #[.int .i64 n, .string a, .string b] w fun e w' => e = .returned (.string (mgB n a b)) ∧ Below w.heap.size w w' := by
  have e1 := str_sum a b (by omega)
  have e2 := str_sum b a (by omega)
  have hcases : n = 0 ∨ n = 1 ∨ n = 2 := by omega
  rcases hcases with rfl | rfl | rfl
  · rw [show mgB 0 a b = a ++ b from rfl]
    go_enter Tryz.func41, Tryz.ntmps41
    go_wp2_with fail
    go_ret
    exact ⟨rfl, Below.refl _ _⟩
  · rw [show mgB 1 a b = b ++ a from rfl]
    go_enter Tryz.func41, Tryz.ntmps41
    go_wp2_with fail
    go_ret
    exact ⟨rfl, Below.refl _ _⟩
  · obtain ⟨m, hm⟩ := hm
    have hc := countB_K a
    have HP := Lib.hid pro_text
    have HR := Lib.hid (fun w' (h : Below w.heap.size w w') => Tryz.strings_ReplaceAll a ⟨#[75]⟩ b m w' (by omega) (by rw [h.cell (World.block_lt_of_cell? w _ hm)]; exact hm) (by decide) (by
      have := Nat.mul_le_mul hc hb
      omega))
    rw [show (⟨#[75]⟩ : ByteArray).data.toList = [75] from rfl, replaceAll_put] at HR
    change Hid (∀ w', Below w.heap.size w w' → Calls _ _ _ w' fun e w' => e = .returned (.string (mgB 2 a b)) ∧ _) at HR
    generalize mgB 2 a b = T at *
    clear hc hm
    go_enter Tryz.func41, Tryz.ntmps41
    go_wp2_with fail
    refine (HP.out _).mono ?_
    rintro e w1 ⟨rfl, hb1⟩
    have HB1 := Lib.hid hb1
    clear hb1
    go_wp2_with fail
    refine (HR.out _ HB1.out).mono ?_
    rintro e w2 ⟨rfl, hb2⟩
    have HB2 := Lib.hid (HB1.out.trans (hb2.mono HB1.out.size))
    clear hb2
    go_wp2_with fail
    go_ret
    exact ⟨rfl, HB2.out⟩
end Go.Proofs.YthkokokeppoieaaGreatDoor
