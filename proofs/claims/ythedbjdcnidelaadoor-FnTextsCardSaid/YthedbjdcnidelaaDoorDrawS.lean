/- The model's random source: numbers and texts out of lists. Conditions: counts up to 100000. -/
import Derived.Test.YthedbjdcnidelaaDoorDraw
import Derived.Test.YthedbjdcnidelaaDoorGrow0
namespace Go.Proofs.YthedbjdcnidelaaDoor
open Go.RowKit

/-- what a draw of a text hands back -/
def DrewS (w : World) (rb : Nat) (a : Option Addr) (n c p bound cost : Nat) (e : Ending) (w' : World) : Prop :=
  ∃ (s : ByteArray) (q : Nat), e = .returned (.string s) ∧ s.size ≤ bound ∧ q ≤ p + cost ∧ Rdr w' rb a n c q ∧ w.grownBy w' (some rb)

theorem Rdr.later {w w' : World} {rb : Nat} {a : Option Addr} {n c p : Nat} (h : Rdr w rb a n c p) (hk : ∀ k, k < w.heap.size → w'.heap[k]? = w.heap[k]?) : Rdr w' rb a n c p := by
  refine ⟨by rw [hk _ (heap_lt h.own)]; exact h.own, fun k hk' => ?_, h.off, h.small⟩
  obtain ⟨g, off, ha, b, hc⟩ := h.bytes k hk'
  exact ⟨g, off, ha, b, by rw [← hc]; exact World.cell?_of_block (a := ⟨g, off + k, none⟩) (hk g (World.block_lt_of_cell? w _ hc))⟩

theorem pick_to {w : World} {rb : Nat} {a : Option Addr} {n c p : Nat} (k : Int) (h : Rdr w rb a n c p) (hp : p ≤ 100000) (hk : 1 ≤ k) :
    Calls Tryd.prog 20 #[.pointer (some ⟨rb, 0, none⟩), .int .i64 k] w fun e w' => ∃ v : Nat, e = .returned (.int .i64 v) ∧ (v : Int) < k ∧ Rdr w' rb a n c (p + 1) ∧ w.grownBy w' (some rb) := by
  refine (pick_any w rb a n c p k h hp hk).mono ?_
  rintro e w' ⟨v, he, h0, h1, h2, h3⟩
  obtain ⟨m, rfl⟩ := Int.eq_ofNat_of_zero_le h0
  exact ⟨m, he, h1, h2, h3⟩

set_option maxHeartbeats 400000 in
set_option maxRecDepth 100000 in
theorem of_any (w : World) (rb : Nat) (a : Option Addr) (n c p : Nat) (g ln lc M : Nat) (h : Rdr w rb a n c p) (hp : p ≤ 100000) (hl : 1 ≤ ln) (hlb : ln ≤ 1000) (hg : g ≠ rb)
    (hc : ∀ i, i < ln → ∃ s : ByteArray, w.cell? ⟨g, i, none⟩ = some (.string s) ∧ s.size ≤ M) :
    Calls Tryd.prog 19 #[.pointer (some ⟨rb, 0, none⟩), .slice (some ⟨g, 0, none⟩) ln lc] w (DrewS w rb a n c p M 1) := by
  have H := Lib.hid h
  have HC := Lib.hid hc
  clear h hc
  go_enter Tryd.func19, Tryd.ntmps19
  go_wp2_with fail
  refine (pick_to _ H.out hp (by omega)).mono ?_
  rintro e w1 ⟨v, rfl, hv, hr, hgr⟩
  have hv' : v < ln := by omega
  obtain ⟨s, hcs, hsz⟩ := HC.out v hv'
  have hc1 : w1.cell? ⟨g, v, none⟩ = some (.string s) := hgr.cell hcs (by simpa using hg)
  have HR := Lib.hid hr
  have HG := Lib.hid hgr
  clear hr hgr hcs
  go_wp2_with fail
  go_ret
  exact ⟨s, p + 1, rfl, hsz, Nat.le_refl _, HR.out, HG.out⟩

theorem plus_cells (w : World) (g : Nat) (ss : List ByteArray) (M : Nat) (hM : ∀ s ∈ ss, s.size ≤ M) (hg : g = w.heap.size) : ∀ i, i < ss.length → ∃ s : ByteArray, (w.alloc (Obj.cells (ss.map Value.string).toArray 9)).cell? ⟨g, i, none⟩ = some (.string s) ∧ s.size ≤ M := by
  subst hg
  intro i hi
  refine ⟨ss[i], ?_, hM _ (List.getElem_mem hi)⟩
  rw [Lib.cell_of_heap (heap_alloc_new w _)]
  simp [hi]
end Go.Proofs.YthedbjdcnidelaaDoor
