/- The model's draws of bodies: whatever the source holds, they return, and their texts are short. Conditions: counts up to 90000, depth at most 2. -/
import Derived.Test.YtmohgblcdhibeaaDoorDraw
import Derived.Test.YtmohgblcdhibeaaDoorGrow
namespace Go.Proofs.YtmohgblcdhibeaaDoor
open Go.RowKit

/-- what a draw of a text hands back -/
def DrewS (w : World) (rb : Nat) (a : Option Addr) (n c p bound cost : Nat) (e : Ending) (w' : World) : Prop :=
  ∃ (s : ByteArray) (q : Nat), e = .returned (.string s) ∧ s.size ≤ bound ∧ q ≤ p + cost ∧ Rdr w' rb a n c q ∧ w.grownBy w' (some rb)

theorem Rdr.later {w w' : World} {rb : Nat} {a : Option Addr} {n c p : Nat} (h : Rdr w rb a n c p) (hk : ∀ k, k < w.heap.size → w'.heap[k]? = w.heap[k]?) : Rdr w' rb a n c p := by
  refine ⟨by rw [hk _ (heap_lt h.own)]; exact h.own, fun k hk' => ?_, h.off, h.small⟩
  obtain ⟨g, off, ha, b, hc⟩ := h.bytes k hk'
  exact ⟨g, off, ha, b, by rw [← hc]; exact World.cell?_of_block (a := ⟨g, off + k, none⟩) (hk g (World.block_lt_of_cell? w _ hc))⟩

theorem pick_to {w : World} {rb : Nat} {a : Option Addr} {n c p : Nat} (k : Int) (h : Rdr w rb a n c p) (hp : p ≤ 100000) (hk : 1 ≤ k) :
    Calls Tryd.prog 68 #[.pointer (some ⟨rb, 0, none⟩), .int .i64 k] w fun e w' => ∃ v : Nat, e = .returned (.int .i64 v) ∧ (v : Int) < k ∧ Rdr w' rb a n c (p + 1) ∧ w.grownBy w' (some rb) := by
  refine (pick_any w rb a n c p k h hp hk).mono ?_
  rintro e w' ⟨v, he, h0, h1, h2, h3⟩
  obtain ⟨m, rfl⟩ := Int.eq_ofNat_of_zero_le h0
  exact ⟨m, he, h1, h2, h3⟩

set_option maxHeartbeats 400000 in
set_option maxRecDepth 100000 in
theorem of_any (w : World) (rb : Nat) (a : Option Addr) (n c p : Nat) (g ln lc M : Nat) (h : Rdr w rb a n c p) (hp : p ≤ 100000) (hl : 1 ≤ ln) (hlb : ln ≤ 1000) (hg : g ≠ rb)
    (hc : ∀ i, i < ln → ∃ s : ByteArray, w.cell? ⟨g, i, none⟩ = some (.string s) ∧ s.size ≤ M) :
    Calls Tryd.prog 69 #[.pointer (some ⟨rb, 0, none⟩), .slice (some ⟨g, 0, none⟩) ln lc] w (DrewS w rb a n c p M 1) := by
  have H := Lib.hid h
  have HC := Lib.hid hc
  clear h hc
  go_enter Tryd.func69, Tryd.ntmps69
  go_wp2_with fail
  refine (pick_to _ H.out hp (by omega)).mono ?_
  rintro e w1 ⟨v, rfl, hv, hr, hgr⟩
  have hv' : v < ln := by omega
  obtain ⟨s, hcs, hsz⟩ := HC.out v hv'
  have hc1 : w1.cell? ⟨g, v, none⟩ = some (.string s) := hgr.cell hcs (by simpa using hg)
  have HR := Lib.hid hr
  have HG := Lib.hid hgr
  clear hr hgr hcs
  go_wp2_with fail
  go_ret
  exact ⟨s, p + 1, rfl, hsz, Nat.le_refl _, HR.out, HG.out⟩

set_option maxHeartbeats 400000 in
set_option maxRecDepth 100000 in
theorem dec_digit (d : Int) (h0 : 0 ≤ d) (h9 : d ≤ 9) (w : World) :
    Calls Tryd.prog 102 #[.int .i64 d] w fun e w' => (∃ s : ByteArray, e = .returned (.string s) ∧ s.size = 1) ∧ Below w.heap.size w w' := by
  obtain ⟨k, rfl⟩ := Int.eq_ofNat_of_zero_le h0
  have hk9 : k ≤ 9 := by omega
  obtain ⟨c, hcd⟩ : ∃ c : UInt8, c = UInt8.ofNat (48 + k) := ⟨_, rfl⟩
  have hs := str1 c w w.heap.size rfl (48 + (k : Int)) (by rw [hcd]; simp; omega)
  have e1 := str_add ⟨#[c]⟩ ⟨#[]⟩ (by have : (⟨#[c]⟩ : ByteArray).size = 1 := rfl; have : (⟨#[]⟩ : ByteArray).size = 0 := rfl; omega)
  clear hcd
  go_enter Tryd.func102, Tryd.ntmps102
  go_wp2_with fail
  refine wp_loop_rounds 1 ?_
  rw [rounds_succ]
  go_wp2_with fail
  go_ret
  exact ⟨⟨_, rfl, rfl⟩, (Below.refl _ _).alloc (Nat.le_refl _) _⟩
end Go.Proofs.YtmohgblcdhibeaaDoor
