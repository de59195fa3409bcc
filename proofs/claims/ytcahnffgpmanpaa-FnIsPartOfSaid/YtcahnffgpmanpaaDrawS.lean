/- The model's random source: numbers and texts out of lists. Conditions: counts up to 100000. -/
import Derived.Test.YtcahnffgpmanpaaDraw
import Derived.Test.YtcahnffgpmanpaaGrow0
namespace Go.Proofs.Ytcahnffgpmanpaa
open Go.RowKit

/-- what a draw of a text hands back -/
def DrewS (w : World) (rb : Nat) (a : Option Addr) (n c p bound cost : Nat) (e : Ending) (w' : World) : Prop :=
  ∃ (s : ByteArray) (q : Nat), e = .returned (.string s) ∧ s.size ≤ bound ∧ q ≤ p + cost ∧ Rdr w' rb a n c q ∧ w.grownBy w' (some rb)

theorem Rdr.later {w w' : World} {rb : Nat} {a : Option Addr} {n c p : Nat} (h : Rdr w rb a n c p) (hk : ∀ k, k < w.heap.size → w'.heap[k]? = w.heap[k]?) : Rdr w' rb a n c p := by
  refine ⟨by rw [hk _ (heap_lt h.own)]; exact h.own, fun k hk' => ?_, h.off, h.small⟩
  obtain ⟨g, off, ha, b, hc⟩ := h.bytes k hk'
  exact ⟨g, off, ha, b, by rw [← hc]; exact World.cell?_of_block (a := ⟨g, off + k, none⟩) (hk g (World.block_lt_of_cell? w _ hc))⟩

theorem pick_to {w : World} {rb : Nat} {a : Option Addr} {n c p : Nat} (k : Int) (h : Rdr w rb a n c p) (hp : p ≤ 100000) (hk : 1 ≤ k) :
    Calls Try.prog 11 #[.pointer (some ⟨rb, 0, none⟩), .int .i64 k] w fun e w' => ∃ v : Nat, e = .returned (.int .i64 v) ∧ (v : Int) < k ∧ Rdr w' rb a n c (p + 1) ∧ w.grownBy w' (some rb) := by
  refine (pick_any w rb a n c p k h hp hk).mono ?_
  rintro e w' ⟨v, he, h0, h1, h2, h3⟩
  obtain ⟨m, rfl⟩ := Int.eq_ofNat_of_zero_le h0
  exact ⟨m, he, h1, h2, h3⟩
end Go.Proofs.Ytcahnffgpmanpaa
