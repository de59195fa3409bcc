/- The model's l13Open: the source of a draw. No condition but that its bytes can be read. -/
import Derived.Test.YtkdnbdgpcgookaaGreatDoorDx
namespace Go.Proofs.YtkdnbdgpcgookaaGreatDoor
open Go.RowKit

/-- the bytes of a slice that came in -/
def BytesAt (w : World) (a : Option Addr) (n : Nat) : Prop := ∀ k, k < n → ∃ g off, a = some ⟨g, off, none⟩ ∧ ∃ b : UInt8, w.cell? ⟨g, off + k, none⟩ = some (.int .u8 b.toNat)

theorem opened (w : World) (a : Option Addr) (n c : Nat) (h : BytesAt w a n) (hn : n ≤ 2000) :
    Rdr (w.alloc (Obj.cells #[.slice a n c, .int .i64 0] 95)) w.heap.size a n c 0 := by
  refine ⟨heap_alloc_new w _, fun k hk => ?_, fun hp g o s e => ?_, hn⟩
  · obtain ⟨g, off, ha, b, hc⟩ := h k hk
    exact ⟨g, off, ha, b, by rw [← hc]; exact World.cell?_of_block (a := ⟨g, off + k, none⟩) (alloc_heap _ g (World.block_lt_of_cell? w _ hc))⟩
  · obtain ⟨g', off, ha, b, hc⟩ := h 0 hp
    have hl := World.block_lt_of_cell? w _ hc
    rw [ha] at e
    injection e with e
    injection e with e1 e2 e3
    simp at hl
    omega

set_option maxHeartbeats 1000000 in
set_option maxRecDepth 100000 in
theorem open_any (w : World) (a : Option Addr) (n c : Nat) (h : BytesAt w a n) (hn : n ≤ c) (hc : c ≤ 9223372036854775807) (hnil : a = none → n = 0) :
    Calls Tryz.prog 28 #[.slice a n c] w fun e w' => ∃ m, e = .returned (.pointer (some ⟨w.heap.size, 0, none⟩)) ∧ Rdr w' w.heap.size a m c 0 ∧ Below w.heap.size w w' := by
  by_cases hb : n ≤ 2000
  · have H := Lib.hid (opened w a n c h hb)
    clear h
    go_enter Tryz.func28, Tryz.ntmps28
    go_wp2_with fail
    go_ret
    exact ⟨n, rfl, H.out, (Below.refl _ _).alloc (Nat.le_refl _) _⟩
  · cases a with
    | none => have := hnil rfl; omega
    | some ad =>
      have H := Lib.hid (opened w (some ad) 2000 c (fun k hk => h k (by omega)) (Nat.le_refl _))
      clear h hnil
      go_enter Tryz.func28, Tryz.ntmps28
      go_wp2_with fail
      go_ret
      exact ⟨2000, rfl, H.out, (Below.refl _ _).alloc (Nat.le_refl _) _⟩

theorem grown_new {w w1 w2 : World} (hb : Below w.heap.size w w1) (hg : w1.grownBy w2 (some w.heap.size)) : Below w.heap.size w w2 :=
  hb.grown hg hb.size (fun k hk => by simp at hk; omega)
end Go.Proofs.YtkdnbdgpcgookaaGreatDoor
