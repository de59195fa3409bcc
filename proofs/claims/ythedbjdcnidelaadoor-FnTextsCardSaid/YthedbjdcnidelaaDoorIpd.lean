/- The model's DrawIsPartOf: two lists of at most nine numbers, in blocks of their own. No condition but that the bytes can be read. -/
import Derived.Test.YthedbjdcnidelaaDoorInts
import Derived.Test.YthedbjdcnidelaaDoorDrawO
import Derived.Deep.AppendLies
namespace Go.Proofs.YthedbjdcnidelaaDoor
open Go.RowKit

theorem Rdr.keepB {w w' : World} {rb : Nat} {a : Option Addr} {n c p : Nat} {B : Nat} (h : Rdr w rb a n c p) (hB : rb < B) (hg : 0 < n → ∀ g off, a = some ⟨g, off, none⟩ → g < B) (hk : ∀ k, k < B → w'.heap[k]? = w.heap[k]?) : Rdr w' rb a n c p := by
  refine ⟨by rw [hk rb hB]; exact h.own, fun k hk' => ?_, h.off, h.small⟩
  obtain ⟨g, off, ha, b, hc⟩ := h.bytes k hk'
  exact ⟨g, off, ha, b, by rw [← hc]; exact World.cell?_of_block (a := ⟨g, off + k, none⟩) (hk g (hg (by omega) g off ha))⟩

/-- numbers in a block of their own, from B on -/
def Irow (w : World) (B g c : Nat) (zs : List Int) : Prop := w.ownsRow B 3 1 (.slice (some ⟨g, 0, none⟩) zs.length c) zs.length (intVs zs)
theorem Irow.lt {w : World} {B g c : Nat} {zs : List Int} (h : Irow w B g c zs) : B ≤ g ∧ g < w.heap.size := World.ownsRow.lt h g rfl
theorem Irow.room {w : World} {B g c : Nat} {zs : List Int} (h : Irow w B g c zs) : zs.length ≤ c ∧ c ≤ maxLen := by
  rcases h.2 with ⟨hv, _⟩ | ⟨g', cap, cur, hv, _, _, h1, h2, _⟩
  · cases hv
  · injection hv with _ _ hc; subst hc; exact ⟨h1, h2⟩
theorem Irow.ints {w : World} {B g c : Nat} {zs : List Int} (h : Irow w B g c zs) : Ints w (some ⟨g, 0, none⟩) zs.length zs :=
  ⟨rfl, fun i hi => ⟨g, 0, rfl, by
    have := World.ownsRow.cellAt h i (by omega)
    rw [Nat.zero_add, this]
    simp [intVs, hi]⟩⟩
theorem Irow.keep {w w' : World} {B g c : Nat} {zs : List Int} (h : Irow w B g c zs) (hk : w'.heap[g]? = w.heap[g]?) : Irow w' B g c zs := by
  refine ⟨h.1, ?_⟩
  rcases h.2 with h1 | ⟨g', cap, cur, hv, h1, h2, h3⟩
  · exact .inl h1
  · refine .inr ⟨g', cap, cur, hv, h1, ?_, h3⟩
    injection hv with hv _ _; injection hv with hv; injection hv with hv _ _; subst hv
    rw [hk]; exact h2
theorem Irow.made (w : World) (B : Nat) (hB : B ≤ w.heap.size) : Irow (w.alloc (Obj.cells #[] 3)) B w.heap.size 0 [] :=
  ⟨by simp [intVs], .inr ⟨w.heap.size, 0, #[], rfl, hB, heap_alloc_new w _, Nat.le_refl _, by simp [maxLen], by simp, by simp [intVs]⟩⟩
theorem intVs_snoc (zs : List Int) (x : Int) : intVs (zs ++ [x]) = intVs zs ++ [.int .i64 x] := by simp [intVs]

theorem irow_mono {w : World} {B B' g c : Nat} {zs : List Int} (h : Irow w B g c zs) (hb : B' ≤ B) : Irow w B' g c zs := by
  refine ⟨h.1, ?_⟩
  rcases h.2 with h1 | ⟨g', cap, cur, hv, h1, h2⟩
  · exact .inl h1
  · exact .inr ⟨g', cap, cur, hv, Nat.le_trans hb h1, h2⟩

/-- how a run of the draw may go on: the source, two rows -/
structure Two (w : World) (S : Nat) (a : Option Addr) (n c : Nat) (wr : World) (rb q ga gb ca cb : Nat) (zs ws : List Int) : Prop where
  rdr : Rdr wr rb a n c q
  ra : Irow wr S ga ca zs
  rB : Irow wr S gb cb ws
  ne : ga ≠ gb
  at_ : w.heap.size ≤ rb
  lo : rb < S
  low : 0 < n → ∀ g off, a = some ⟨g, off, none⟩ → g < S
  bel : Below w.heap.size w wr

theorem Two.picked {w wr w' : World} {S : Nat} {a : Option Addr} {n c rb q ga gb ca cb : Nat} {zs ws : List Int} (h : Two w S a n c wr rb q ga gb ca cb zs ws) (hr : Rdr w' rb a n c (q + 1)) (hg : wr.grownBy w' (some rb)) :
    Two w S a n c w' rb (q + 1) ga gb ca cb zs ws := by
  have e := h.at_
  have el := h.lo
  have la := h.ra.lt
  have lb := h.rB.lt
  exact ⟨hr, h.ra.keep (hg.block ga la.2 (fun e' => by injection e' with e'; omega)), h.rB.keep (hg.block gb lb.2 (fun e' => by injection e' with e'; omega)), h.ne, e, h.lo, h.low,
    h.bel.grown hg h.bel.size (fun k hk => by simp at hk; omega)⟩
/-- the second row is longer now -/
theorem Two.moreB {w wr w' : World} {S : Nat} {a : Option Addr} {n c rb q ga gb ca cb : Nat} {zs ws : List Int} {x : Int} {o : Obj} {g' cap' : Nat} (h : Two w S a n c wr rb q ga gb ca cb zs ws)
    (ho : w'.ownsRow S 3 1 (.slice (some ⟨g', 0, none⟩) (ws.length + 1) cap') (ws.length + 1) (intVs ws ++ [.int .i64 x]))
    (hg : (wr.alloc o).grownBy w' (some gb)) (hw : some gb = some g' ∨ g' = wr.heap.size + 1) : Two w S a n c w' rb q ga g' ca cap' zs (ws ++ [x]) := by
  have e := h.at_
  have el := h.lo
  have la := h.ra.lt
  have lb := h.rB.lt
  have hne := h.ne
  have hold : ∀ k, k < wr.heap.size → k ≠ gb → w'.heap[k]? = wr.heap[k]? := fun k hk hk' =>
    (hg.block k (by rw [alloc_size']; omega) (fun e' => by injection e' with e'; omega)).trans (alloc_heap o k hk)
  have hbel : Below w.heap.size w w' := (h.bel.alloc h.bel.size _).grown hg (by rw [alloc_size']; have := h.bel.size; omega) (fun k hk => by injection hk with hk; omega)
  refine ⟨h.rdr.keepB (B := S) h.lo h.low (fun k hk => hold k (by omega) (by omega)), h.ra.keep (hold ga la.2 hne), ?_, ?_, e, h.lo, h.low, hbel⟩
  · show World.ownsRow _ _ _ _ _ _ _
    rw [intVs_snoc, List.length_append]; exact ho
  · rcases hw with hw | hw
    · injection hw with hw; omega
    · omega
theorem Two.moreA {w wr w' : World} {S : Nat} {a : Option Addr} {n c rb q ga gb ca cb : Nat} {zs ws : List Int} {x : Int} {o : Obj} {g' cap' : Nat} (h : Two w S a n c wr rb q ga gb ca cb zs ws)
    (ho : w'.ownsRow S 3 1 (.slice (some ⟨g', 0, none⟩) (zs.length + 1) cap') (zs.length + 1) (intVs zs ++ [.int .i64 x]))
    (hg : (wr.alloc o).grownBy w' (some ga)) (hw : some ga = some g' ∨ g' = wr.heap.size + 1) : Two w S a n c w' rb q g' gb cap' cb (zs ++ [x]) ws := by
  have e := h.at_
  have el := h.lo
  have la := h.ra.lt
  have lb := h.rB.lt
  have hne := h.ne
  have hold : ∀ k, k < wr.heap.size → k ≠ ga → w'.heap[k]? = wr.heap[k]? := fun k hk hk' =>
    (hg.block k (by rw [alloc_size']; omega) (fun e' => by injection e' with e'; omega)).trans (alloc_heap o k hk)
  have hbel : Below w.heap.size w w' := (h.bel.alloc h.bel.size _).grown hg (by rw [alloc_size']; have := h.bel.size; omega) (fun k hk => by injection hk with hk; omega)
  refine ⟨h.rdr.keepB (B := S) h.lo h.low (fun k hk => hold k (by omega) (by omega)), ?_, h.rB.keep (hold gb lb.2 hne.symm), ?_, e, h.lo, h.low, hbel⟩
  · show World.ownsRow _ _ _ _ _ _ _
    rw [intVs_snoc, List.length_append]; exact ho
  · rcases hw with hw | hw
    · injection hw with hw; omega
    · omega

/-- what the draw hands back -/
def DrewTwo (w : World) (e : Ending) (w' : World) : Prop := ∃ (ga gb ca cb : Nat) (zs ws : List Int), e = .returned (.tuple #[.slice (some ⟨ga, 0, none⟩) zs.length ca, .slice (some ⟨gb, 0, none⟩) ws.length cb]) ∧
  Irow w' w.heap.size ga ca zs ∧ Irow w' w.heap.size gb cb ws ∧ ws.length ≤ 8 ∧ zs.length ≤ 9 ∧ Below w.heap.size w w'

end Go.Proofs.YthedbjdcnidelaaDoor
