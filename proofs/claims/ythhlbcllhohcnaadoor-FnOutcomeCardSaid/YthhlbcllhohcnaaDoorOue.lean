/- The model's DrawSameOutcome: two outcomes, often akin. No condition but that the bytes can be read. -/
import Derived.Test.YthhlbcllhohcnaaDoorPx
import Derived.Deep.RegionHeld3
import Derived.Deep.RegionWith
namespace Go.Proofs.YthhlbcllhohcnaaDoor
open Go.RowKit Gram

theorem obytes_later {w w' : World} {a : Option Addr} {n : Nat} (h : BytesAt w a n) (hb : Below w.heap.size w w') : BytesAt w' a n := fun k hk => by
  obtain ⟨g, off, ha, b, hc⟩ := h k hk
  exact ⟨g, off, ha, b, by rw [hb.cell (p := ⟨g, off + k, none⟩) (World.block_lt_of_cell? w _ hc)]; exact hc⟩
/-- the world behind the cells of the two results -/
noncomputable def w2r (w : World) : World := (w.alloc (Obj.cells #[.int .i64 0, .slice none 0 0, .string ⟨#[]⟩, .int .i64 0] 25)).alloc (Obj.cells #[.int .i64 0, .slice none 0 0, .string ⟨#[]⟩, .int .i64 0] 25)
theorem w2r_size (w : World) : (w2r w).heap.size = w.heap.size + 1 + 1 := by rw [w2r, alloc_size', alloc_size']
theorem w2r_below (w : World) : Below w.heap.size w (w2r w) := ((Below.refl _ _).alloc (Nat.le_refl _) _).alloc (by rw [alloc_size']; omega) _

/-- the first outcome lies at block ob, the source at rb -/
structure Ow (w wr : World) (S rb ob : Nat) (a : Option Addr) (m c q : Nat) (v : Int) (oa : Option Addr) (oc : Nat) (zs : List Int) (en : ByteArray) (st : Int) : Prop where
  own : wr.heap[ob]? = some (.cells #[.int .i64 v, .slice oa zs.length oc, .string en, .int .i64 st] 25 (0, 0))
  res : ∃ x y z u, wr.heap[w.heap.size]? = some (.cells #[x, y, z, u] 25 (0, 0))
  res2 : ∃ x y z u, wr.heap[w.heap.size + 1]? = some (.cells #[x, y, z, u] 25 (0, 0))
  oc_ : Oc wr S v oa oc zs en st
  ne : (Value.slice oa zs.length oc).ownBlock ≠ some ob
  rdr : Rdr wr rb a m c q
  lo : w.heap.size + 2 ≤ rb
  mid : rb < S
  hi : S ≤ ob
  bel : Below w.heap.size w wr
theorem Ow.read {w wr : World} {S rb ob : Nat} {a : Option Addr} {m c q : Nat} {v : Int} {oa : Option Addr} {oc : Nat} {zs : List Int} {en : ByteArray} {st : Int} (h : Ow w wr S rb ob a m c q v oa oc zs en st) :
    wr.cell? ⟨ob, 0, none⟩ = some (.int .i64 v) ∧ wr.cell? ⟨ob, 1, none⟩ = some (.slice oa zs.length oc) ∧ wr.cell? ⟨ob, 2, none⟩ = some (.string en) ∧ wr.cell? ⟨ob, 3, none⟩ = some (.int .i64 st) := by
  refine ⟨?_, ?_, ?_, ?_⟩ <;> (rw [Lib.cell_of_heap h.own]; rfl)
/-- what goes on with the source alone, and new blocks, leaves it -/
theorem Ow.later {w wr w' : World} {S rb ob : Nat} {a : Option Addr} {m c q q' : Nat} {v : Int} {oa : Option Addr} {oc : Nat} {zs : List Int} {en : ByteArray} {st : Int} (h : Ow w wr S rb ob a m c q v oa oc zs en st) (hr : Rdr w' rb a m c q') (hg : wr.grownBy w' (some rb)) : Ow w w' S rb ob a m c q' v oa oc zs en st := by
  have h1 := h.lo
  have h2 := h.mid
  have h3 := h.hi
  have hk : ∀ k, k < wr.heap.size → k ≠ rb → w'.heap[k]? = wr.heap[k]? := fun k hk hne => hg.block k hk (by intro e; injection e; omega)
  refine ⟨by rw [hk ob (heap_lt h.own) (by omega)]; exact h.own, ?_, ?_, h.oc_.later (fun g hg' => ?_), h.ne, hr, h1, h2, h3, h.bel.grown hg h.bel.size (fun j hj => by injection hj with hj; omega)⟩
  · obtain ⟨x, y, z, u, hx⟩ := h.res
    exact ⟨x, y, z, u, by rw [hk _ (heap_lt hx) (by omega)]; exact hx⟩
  · obtain ⟨x, y, z, u, hx⟩ := h.res2
    exact ⟨x, y, z, u, by rw [hk _ (heap_lt hx) (by omega)]; exact hx⟩
  · have := h.oc_.row.lt g hg'
    exact hk g this.2 (by omega)

theorem Ow.resc {w wr : World} {S rb ob : Nat} {a : Option Addr} {m c q : Nat} {v : Int} {oa : Option Addr} {oc : Nat} {zs : List Int} {en : ByteArray} {st : Int} (h : Ow w wr S rb ob a m c q v oa oc zs en st) :
    (∃ x y z u, wr.cell? ⟨w.heap.size, 0, none⟩ = some x ∧ wr.cell? ⟨w.heap.size, 1, none⟩ = some y ∧ wr.cell? ⟨w.heap.size, 2, none⟩ = some z ∧ wr.cell? ⟨w.heap.size, 3, none⟩ = some u ∧
      wr.frozen? ⟨w.heap.size, 0, none⟩ = false ∧ wr.frozen? ⟨w.heap.size, 1, none⟩ = false ∧ wr.frozen? ⟨w.heap.size, 2, none⟩ = false ∧ wr.frozen? ⟨w.heap.size, 3, none⟩ = false) ∧
    (∃ x y z u, wr.cell? ⟨w.heap.size + 1, 0, none⟩ = some x ∧ wr.cell? ⟨w.heap.size + 1, 1, none⟩ = some y ∧ wr.cell? ⟨w.heap.size + 1, 2, none⟩ = some z ∧ wr.cell? ⟨w.heap.size + 1, 3, none⟩ = some u ∧
      wr.frozen? ⟨w.heap.size + 1, 0, none⟩ = false ∧ wr.frozen? ⟨w.heap.size + 1, 1, none⟩ = false ∧ wr.frozen? ⟨w.heap.size + 1, 2, none⟩ = false ∧ wr.frozen? ⟨w.heap.size + 1, 3, none⟩ = false) := by
  obtain ⟨x, y, z, u, hx⟩ := h.res
  obtain ⟨x', y', z', u', hx'⟩ := h.res2
  constructor
  · refine ⟨x, y, z, u, ?_, ?_, ?_, ?_, Lib.frozen_of_heap hx 0, Lib.frozen_of_heap hx 1, Lib.frozen_of_heap hx 2, Lib.frozen_of_heap hx 3⟩ <;> (rw [Lib.cell_of_heap hx]; rfl)
  · refine ⟨x', y', z', u', ?_, ?_, ?_, ?_, Lib.frozen_of_heap hx' 0, Lib.frozen_of_heap hx' 1, Lib.frozen_of_heap hx' 2, Lib.frozen_of_heap hx' 3⟩ <;> (rw [Lib.cell_of_heap hx']; rfl)
def put4 (w : World) (g : Nat) (X Y Z U : Value) : World := (((w.setCell ⟨g, 0, none⟩ X).setCell ⟨g, 1, none⟩ Y).setCell ⟨g, 2, none⟩ Z).setCell ⟨g, 3, none⟩ U
theorem put4_other {w : World} {g j : Nat} (h : j ≠ g) (X Y Z U : Value) : (put4 w g X Y Z U).heap[j]? = w.heap[j]? := by
  rw [put4, heap_set_other h, heap_set_other h, heap_set_other h, heap_set_other h]
theorem put4_same {w : World} {g : Nat} {x y z u : Value} {t : TypeId} (h : w.heap[g]? = some (.cells #[x, y, z, u] t (0, 0))) (X Y Z U : Value) : (put4 w g X Y Z U).heap[g]? = some (.cells #[X, Y, Z, U] t (0, 0)) :=
  heap_set_same (k := 3) (heap_set_same (k := 2) (heap_set_same (k := 1) (heap_set_same (k := 0) h X) Y) Z) U
theorem put4_below {w w1 : World} {g : Nat} (hb : Below w.heap.size w w1) (hg : w.heap.size ≤ g) (X Y Z U : Value) : Below w.heap.size w (put4 w1 g X Y Z U) :=
  (((hb.setCell (p := ⟨g, 0, none⟩) hg _).setCell (p := ⟨g, 1, none⟩) hg _).setCell (p := ⟨g, 2, none⟩) hg _).setCell (p := ⟨g, 3, none⟩) hg _
/-- both results are written -/
theorem Ow.fin {w wr : World} {S rb ob : Nat} {a : Option Addr} {m c q : Nat} {v : Int} {oa : Option Addr} {oc : Nat} {zs : List Int} {en : ByteArray} {st : Int} (h : Ow w wr S rb ob a m c q v oa oc zs en st)
    {v' : Int} {oa' : Option Addr} {oc' : Nat} {zs' : List Int} {en' : ByteArray} {st' : Int} {S' : Nat} (h' : Oc wr S' v' oa' oc' zs' en' st') (hS : w.heap.size + 2 ≤ S') (X Y Z U X' Y' Z' U' : Value) :
    ∃ wf, put4 (put4 wr w.heap.size X Y Z U) (w.heap.size + 1) X' Y' Z' U' = wf ∧ wf.cell? ⟨w.heap.size, 0, none⟩ = some X ∧ wf.cell? ⟨w.heap.size, 1, none⟩ = some Y ∧ wf.cell? ⟨w.heap.size, 2, none⟩ = some Z ∧ wf.cell? ⟨w.heap.size, 3, none⟩ = some U ∧
      wf.cell? ⟨w.heap.size + 1, 0, none⟩ = some X' ∧ wf.cell? ⟨w.heap.size + 1, 1, none⟩ = some Y' ∧ wf.cell? ⟨w.heap.size + 1, 2, none⟩ = some Z' ∧ wf.cell? ⟨w.heap.size + 1, 3, none⟩ = some U' ∧
      Oc wf w.heap.size v oa oc zs en st ∧ Oc wf w.heap.size v' oa' oc' zs' en' st' ∧ Below w.heap.size w wf := by
  obtain ⟨x, y, z, u, hx⟩ := h.res
  obtain ⟨x', y', z', u', hx'⟩ := h.res2
  have h1 := put4_same hx X Y Z U
  have h2 : (put4 wr w.heap.size X Y Z U).heap[w.heap.size + 1]? = some (.cells #[x', y', z', u'] 25 (0, 0)) := by rw [put4_other (by omega)]; exact hx'
  have h3 := put4_same h2 X' Y' Z' U'
  have h4 : (put4 (put4 wr w.heap.size X Y Z U) (w.heap.size + 1) X' Y' Z' U').heap[w.heap.size]? = some (.cells #[X, Y, Z, U] 25 (0, 0)) := by rw [put4_other (by omega)]; exact h1
  have hk : ∀ j, w.heap.size + 2 ≤ j → (put4 (put4 wr w.heap.size X Y Z U) (w.heap.size + 1) X' Y' Z' U').heap[j]? = wr.heap[j]? := fun j hj => by rw [put4_other (by omega), put4_other (by omega)]
  have l1 := h.lo
  have l2 := h.mid
  refine ⟨_, rfl, by rw [Lib.cell_of_heap h4]; rfl, by rw [Lib.cell_of_heap h4]; rfl, by rw [Lib.cell_of_heap h4]; rfl, by rw [Lib.cell_of_heap h4]; rfl, by rw [Lib.cell_of_heap h3]; rfl, by rw [Lib.cell_of_heap h3]; rfl, by rw [Lib.cell_of_heap h3]; rfl, by rw [Lib.cell_of_heap h3]; rfl, ?_, ?_, put4_below (put4_below h.bel (Nat.le_refl _) _ _ _ _) (Nat.le_succ _) _ _ _ _⟩
  · have := h.oc_.later (w' := put4 (put4 wr w.heap.size X Y Z U) (w.heap.size + 1) X' Y' Z' U') (fun g hg => hk g (by have := h.oc_.row.lt g hg; omega))
    exact ⟨oRow_mono this.row (by omega), this.len, this.lo, this.hi, this.each, this.ends, this.pos, this.most⟩
  · have := h'.later (w' := put4 (put4 wr w.heap.size X Y Z U) (w.heap.size + 1) X' Y' Z' U') (fun g hg => hk g (by have := h'.row.lt g hg; omega))
    exact ⟨oRow_mono this.row (by omega), this.len, this.lo, this.hi, this.each, this.ends, this.pos, this.most⟩

theorem four_later {w w' : World} {g : Nat} {x y z u : Value} (h : w.cell? ⟨g, 0, none⟩ = some x ∧ w.cell? ⟨g, 1, none⟩ = some y ∧ w.cell? ⟨g, 2, none⟩ = some z ∧ w.cell? ⟨g, 3, none⟩ = some u) (hb : ∀ k, k < w.heap.size → k = g → w'.heap[k]? = w.heap[k]?) :
    w'.cell? ⟨g, 0, none⟩ = some x ∧ w'.cell? ⟨g, 1, none⟩ = some y ∧ w'.cell? ⟨g, 2, none⟩ = some z ∧ w'.cell? ⟨g, 3, none⟩ = some u := by
  obtain ⟨h0, h1, h2, h3⟩ := h
  have hg := World.block_lt_of_cell? w _ h0
  have e := hb g hg rfl
  refine ⟨?_, ?_, ?_, ?_⟩
  · rw [World.cell?_of_block (a := ⟨g, 0, none⟩) e]; exact h0
  · rw [World.cell?_of_block (a := ⟨g, 1, none⟩) e]; exact h1
  · rw [World.cell?_of_block (a := ⟨g, 2, none⟩) e]; exact h2
  · rw [World.cell?_of_block (a := ⟨g, 3, none⟩) e]; exact h3
theorem grown_of_below {w w' : World} {r : Option Nat} (h : Below w.heap.size w w') : w.grownBy w' r := ⟨h.os, h.tape, h.output, h.size, fun j hj _ => h.block j hj⟩
/-- both outcomes in memory: the first one, its copy at bb with numbers of its own -/
structure Bt (w wz : World) (S rb ob L bb g' c' : Nat) (a : Option Addr) (m c q : Nat) (v : Int) (oa : Option Addr) (oc : Nat) (zs ws : List Int) (en : ByteArray) (st st2 : Int) : Prop where
  first : Ow w wz S rb ob a m c q v oa oc zs en st
  own : wz.heap[bb]? = some (.cells #[.int .i64 v, .slice (some ⟨g', 0, none⟩) ws.length c', .string en, .int .i64 st2] 25 (0, 0))
  row : Irow wz L g' c' ws
  ne : g' ≠ bb
  lo : L ≤ bb
  obL : ob < L
  rows : ∀ g, (Value.slice oa zs.length oc).ownBlock = some g → g < L
theorem Ow.put {w wr : World} {S rb ob : Nat} {a : Option Addr} {m c q : Nat} {v : Int} {oa : Option Addr} {oc : Nat} {zs : List Int} {en : ByteArray} {st : Int} (h : Ow w wr S rb ob a m c q v oa oc zs en st) {bb L : Nat} (hb : L ≤ bb) (ho : ob < L) (hr : ∀ g, (Value.slice oa zs.length oc).ownBlock = some g → g < L) (ha : ∀ g off, a = some ⟨g, off, none⟩ → 0 < m → g < L) {w' : World}
    (hk : ∀ j, j ≠ bb → w'.heap[j]? = wr.heap[j]?) (hB : Below w.heap.size w w') : Ow w w' S rb ob a m c q v oa oc zs en st := by
  have h1 := h.lo
  have h2 := h.mid
  have h3 := h.hi
  refine ⟨by rw [hk ob (by omega)]; exact h.own, ?_, ?_, h.oc_.later (fun g hg => hk g (by have := hr g hg; omega)), h.ne, ?_, h1, h2, h3, hB⟩
  · obtain ⟨x, y, z, u, hx⟩ := h.res
    exact ⟨x, y, z, u, by rw [hk _ (by omega)]; exact hx⟩
  · obtain ⟨x, y, z, u, hx⟩ := h.res2
    exact ⟨x, y, z, u, by rw [hk _ (by omega)]; exact hx⟩
  · refine ⟨by rw [hk rb (by omega)]; exact h.rdr.own, fun k hk' => ?_, h.rdr.off, h.rdr.small⟩
    obtain ⟨g, off, ha', b, hc⟩ := h.rdr.bytes k hk'
    exact ⟨g, off, ha', b, by rw [← hc]; exact World.cell?_of_block (a := ⟨g, off + k, none⟩) (hk g (by have := ha g off ha' (by omega); omega))⟩
theorem Ow.low {w wr : World} {S rb ob : Nat} {a : Option Addr} {m c q : Nat} {v : Int} {oa : Option Addr} {oc : Nat} {zs : List Int} {en : ByteArray} {st : Int} (h : Ow w wr S rb ob a m c q v oa oc zs en st) {L : Nat} (ho : ob < L) (hr : ∀ g, (Value.slice oa zs.length oc).ownBlock = some g → g < L) (ha : ∀ g off, a = some ⟨g, off, none⟩ → 0 < m → g < L) {w' : World}
    (hk : ∀ j, j < L → w'.heap[j]? = wr.heap[j]?) (hB : Below w.heap.size w w') : Ow w w' S rb ob a m c q v oa oc zs en st := by
  have h1 := h.lo
  have h2 := h.mid
  have h3 := h.hi
  refine ⟨by rw [hk ob ho]; exact h.own, ?_, ?_, h.oc_.later (fun g hg => hk g (hr g hg)), h.ne, ?_, h1, h2, h3, hB⟩
  · obtain ⟨x, y, z, u, hx⟩ := h.res
    exact ⟨x, y, z, u, by rw [hk _ (by omega)]; exact hx⟩
  · obtain ⟨x, y, z, u, hx⟩ := h.res2
    exact ⟨x, y, z, u, by rw [hk _ (by omega)]; exact hx⟩
  · refine ⟨by rw [hk rb (by omega)]; exact h.rdr.own, fun k hk' => ?_, h.rdr.off, h.rdr.small⟩
    obtain ⟨g, off, ha', b, hc⟩ := h.rdr.bytes k hk'
    exact ⟨g, off, ha', b, by rw [← hc]; exact World.cell?_of_block (a := ⟨g, off + k, none⟩) (hk g (ha g off ha' (by omega)))⟩
theorem bt_store {w wr : World} {S rb ob L bb g' c' : Nat} {a : Option Addr} {m c q : Nat} {v : Int} {oa : Option Addr} {oc : Nat} {zs : List Int} {en : ByteArray} {st : Int} (h : Ow w wr S rb ob a m c q v oa oc zs en st) (hL : L ≤ bb) (ho : ob < L) (hr : ∀ g, (Value.slice oa zs.length oc).ownBlock = some g → g < L) (ha : ∀ g off, a = some ⟨g, off, none⟩ → 0 < m → g < L)
    {x y z u : Value} (hz : wr.heap[bb]? = some (.cells #[x, y, z, u] 25 (0, 0))) (hR : Irow wr L g' c' zs) (hne : g' ≠ bb) (st2 : Int) :
    Bt w (put4 wr bb (.int .i64 v) (.slice (some ⟨g', 0, none⟩) zs.length c') (.string en) (.int .i64 st2)) S rb ob L bb g' c' a m c q v oa oc zs zs en st st2 :=
  ⟨h.put hL ho hr ha (fun j hj => put4_other hj _ _ _ _) (put4_below h.bel (by have := h.lo; have := h.mid; have := h.hi; omega) _ _ _ _), put4_same hz _ _ _ _, hR.keep (put4_other hne _ _ _ _), hne, hL, ho, hr⟩
theorem cells_of {w : World} {g : Nat} {x y z u : Value} {t : TypeId} (h : w.heap[g]? = some (.cells #[x, y, z, u] t (0, 0))) :
    w.cell? ⟨g, 0, none⟩ = some x ∧ w.cell? ⟨g, 1, none⟩ = some y ∧ w.cell? ⟨g, 2, none⟩ = some z ∧ w.cell? ⟨g, 3, none⟩ = some u ∧ w.frozen? ⟨g, 0, none⟩ = false ∧ w.frozen? ⟨g, 1, none⟩ = false ∧ w.frozen? ⟨g, 2, none⟩ = false ∧ w.frozen? ⟨g, 3, none⟩ = false := by
  refine ⟨?_, ?_, ?_, ?_, Lib.frozen_of_heap h 0, Lib.frozen_of_heap h 1, Lib.frozen_of_heap h 2, Lib.frozen_of_heap h 3⟩ <;> (rw [Lib.cell_of_heap h]; rfl)
theorem bt_alloc {w wr : World} {S rb ob L g' c' : Nat} {a : Option Addr} {m c q : Nat} {v : Int} {oa : Option Addr} {oc : Nat} {zs : List Int} {en : ByteArray} {st : Int} (h : Ow w wr S rb ob a m c q v oa oc zs en st) (hL : L ≤ wr.heap.size) (ho : ob < L) (hr : ∀ g, (Value.slice oa zs.length oc).ownBlock = some g → g < L)
    (hR : Irow wr L g' c' zs) (st2 : Int) :
    Bt w (wr.alloc (Obj.cells #[.int .i64 v, .slice (some ⟨g', 0, none⟩) zs.length c', .string en, .int .i64 st2] 25)) S rb ob L wr.heap.size g' c' a m c q v oa oc zs zs en st st2 :=
  ⟨h.later (h.rdr.later (alloc_heap _)) (World.grownBy_alloc _ _ _), heap_alloc_new wr _, hR.keep (alloc_heap _ _ hR.lt.2), by have := hR.lt; omega, hL, ho, hr⟩
theorem Bt.later {w wz w' : World} {S rb ob L bb g' c' : Nat} {a : Option Addr} {m c q q' : Nat} {v : Int} {oa : Option Addr} {oc : Nat} {zs ws : List Int} {en : ByteArray} {st st2 : Int} (h : Bt w wz S rb ob L bb g' c' a m c q v oa oc zs ws en st st2) (hr : Rdr w' rb a m c q') (hg : wz.grownBy w' (some rb)) : Bt w w' S rb ob L bb g' c' a m c q' v oa oc zs ws en st st2 := by
  have h1 := h.first.mid
  have h2 := h.first.hi
  have h3 := h.obL
  have h4 := h.lo
  have h5 := h.row.lt
  exact ⟨h.first.later hr hg, by rw [hg.block bb (heap_lt h.own) (by intro e; injection e; omega)]; exact h.own, h.row.keep (hg.block g' h5.2 (by intro e; injection e; omega)), h.ne, h.lo, h.obL, h.rows⟩
theorem Bt.oc_ {w wz : World} {S rb ob L bb g' c' : Nat} {a : Option Addr} {m c q : Nat} {v : Int} {oa : Option Addr} {oc : Nat} {zs ws : List Int} {en : ByteArray} {st st2 : Int} (h : Bt w wz S rb ob L bb g' c' a m c q v oa oc zs ws en st st2) (hl : ws.length ≤ 600) (he : ∀ z ∈ ws, Int64 z) (h0 : 0 ≤ st2) (h6 : st2 ≤ 600) : Oc wz L v (some ⟨g', 0, none⟩) c' ws en st2 :=
  ⟨h.row, hl, h.first.oc_.lo, h.first.oc_.hi, he, h.first.oc_.ends, h0, h6⟩
/-- one number more behind the copy's numbers -/
theorem bt_more {w w6 w8 : World} {S rb ob L bb gx cx : Nat} {a : Option Addr} {m c q : Nat} {v : Int} {oa : Option Addr} {oc : Nat} {zs ws : List Int} {en : ByteArray} {st st2 : Int} (h : Bt w w6 S rb ob L bb gx cx a m c q v oa oc zs ws en st st2) (ha : ∀ g off, a = some ⟨g, off, none⟩ → 0 < m → g < L) {o : Obj} {g8 c8 : Nat} {x : Int}
    (ho : w8.ownsRow L 3 1 (.slice (some ⟨g8, 0, none⟩) (ws.length + 1) c8) (ws.length + 1) (intVs ws ++ [.int .i64 x])) (hg : (w6.alloc o).grownBy w8 (some gx)) (hat : some gx = some g8 ∨ g8 = w6.heap.size + 1) :
    w8.heap[bb]? = some (.cells #[.int .i64 v, .slice (some ⟨gx, 0, none⟩) ws.length cx, .string en, .int .i64 st2] 25 (0, 0)) ∧
    Bt w (w8.setCell ⟨bb, 1, none⟩ (.slice (some ⟨g8, 0, none⟩) (ws ++ [x]).length c8)) S rb ob L bb g8 c8 a m c q v oa oc zs (ws ++ [x]) en st st2 := by
  have hl := heap_lt h.own
  have hr := h.row.lt
  have hne := h.ne
  have hLb := h.lo
  have hlo := h.first.lo
  have hmid := h.first.mid
  have hhi := h.first.hi
  have hob := h.obL
  have hk8 : ∀ k, k < w6.heap.size → k ≠ gx → w8.heap[k]? = w6.heap[k]? := fun k hk hk' => (hg.block k (by rw [alloc_size']; omega) (fun e => by injection e; omega)).trans (alloc_heap o k hk)
  have own8 := (hk8 bb hl (fun e => hne e.symm)).trans h.own
  have hne8 : g8 ≠ bb := by
    rcases hat with e | e
    · injection e with e; omega
    · omega
  have hB8 : Below w.heap.size w w8 := (h.first.bel.alloc h.first.bel.size o).grown hg (by rw [alloc_size']; have := h.first.bel.size; omega) (fun j hj => by injection hj with hj; omega)
  have hlen : (ws ++ [x]).length = ws.length + 1 := by simp
  refine ⟨own8, h.first.low hob h.rows ha (fun j hj => by rw [heap_set_other (by omega)]; exact hk8 j (by omega) (by omega)) (hB8.setCell (p := ⟨bb, 1, none⟩) (by show w.heap.size ≤ bb; omega) _), ?_, ?_, hne8, hLb, hob, h.rows⟩
  · rw [heap_set_same own8]; rfl
  · refine Irow.keep (w := w8) ?_ (heap_set_other hne8 _)
    show World.ownsRow _ _ _ _ _ _ _
    rw [intVs_snoc, hlen]; exact ho
/-- an append by its equation, as one step of a region that draws -/
theorem step_app_run {ops : Array Oper} {o : Oper} {a : Act} {w : World} {K : Act → World → Prop} {Q : Exit → Act → World → Prop} {E : Prop} (hg : o.guard = none) (s x : Operand) (t tn : TypeId)
    (ho : o.op = .call { callee := .builtin .append, args := #[s, x], argTypes := #[t, tn] }) (vs vx : Value) (hs : a.eval s = vs) (hx : a.eval x = vx) (v' : Value) (w' : World) (hr : (Builtin.append_ #[t, tn] o.type #[vs, vx]).run Tryd.prog w = .ok v' w') (hK : K (a.put o.dst v') w') :
    if Region.wanted o (yielded ops a.tmps) = true then Oper.wp Tryd.prog o a w K Q else E := by
  rw [if_pos (by simp [Region.wanted, hg])]
  exact Lib.wp_append_run w s x t tn ho vs vx hs hx v' w' hr hK
/-- the zero outcome -/
def zeroO : Obj := Obj.cells #[.int .i64 0, .slice none 0 0, .string ⟨#[]⟩, .int .i64 0] 25
/-- numbers put behind an empty row of one's own, in a world that has w4 below -/
theorem copy_nums {w4 W : World} {g : Nat} (hR : Irow W w4.heap.size g 0 []) (hW : ∀ k, k < w4.heap.size → W.heap[k]? = w4.heap[k]?) (hO : W.os = w4.os ∧ W.tape = w4.tape ∧ W.output = w4.output ∧ w4.heap.size ≤ W.heap.size) {oa : Option Addr} {oc : Nat} {zs : List Int} (hI : Ints w4 oa zs.length zs) (hl : zs.length ≤ 600) :
    ∃ g' c' w', (Builtin.append_ #[23, 23] 23 #[.slice (some ⟨g, 0, none⟩) 0 0, .slice oa zs.length oc]).run Tryd.prog W = .ok (.slice (some ⟨g', 0, none⟩) zs.length c') w' ∧
      Irow w' w4.heap.size g' c' zs ∧ Below w4.heap.size w4 w' ∧ W.grownBy w' (some g) ∧ (g' = g ∨ g' = W.heap.size) := by
  have hbl : Below w4.heap.size w4 W := ⟨hO.1, hO.2.1, hO.2.2.1, hO.2.2.2, hW⟩
  obtain ⟨g', c', w', h1, h2, h3, h4⟩ := more_ints W w4.heap.size g 0 [] hR oa zs.length oc zs (hI.later hbl) (by simp; omega) hO.2.2.2
  simp only [List.length_nil, Nat.zero_add, List.nil_append] at h1 h2
  exact ⟨g', c', w', h1, h2, hbl.grown h3 hO.2.2.2 (fun j hj => by injection hj with hj; have := hR.lt; omega), h3, h4⟩

set_option maxHeartbeats 1000000 in
set_option maxRecDepth 100000 in
theorem draw2out_any (w : World) (a : Option Addr) (n c : Nat) (h : BytesAt w a n) (hn : n ≤ c) (hc : c ≤ 9223372036854775807) (hnil : a = none → n = 0) :
    Calls Tryd.prog 5 #[.slice a n c] w fun e w' => ∃ (v : Int) (oa : Option Addr) (oc : Nat) (zs : List Int) (en : ByteArray) (st : Int) (v' : Int) (oa' : Option Addr) (oc' : Nat) (zs' : List Int) (en' : ByteArray) (st' : Int),
      e = .returned (.tuple #[oV v oa zs.length oc en st, oV v' oa' zs'.length oc' en' st']) ∧ Oc w' w.heap.size v oa oc zs en st ∧ Oc w' w.heap.size v' oa' oc' zs' en' st' ∧ Below w.heap.size w w' := by
  have HO := Lib.hid (open_any (w2r w) a n c (obytes_later h (w2r_below w)) hn hc hnil)
  clear h hnil
  go_enter Tryd.func5, Tryd.ntmps5
  go_wp2_with fail
  rw [show (w.alloc (Obj.cells #[.int .i64 0, .slice none 0 0, .string ⟨#[]⟩, .int .i64 0] 25)).alloc (Obj.cells #[.int .i64 0, .slice none 0 0, .string ⟨#[]⟩, .int .i64 0] 25) = w2r w from rfl]
  refine HO.out.mono ?_
  rintro e w1 ⟨m, rfl, hr, hb⟩
  have HR := Lib.hid hr
  have HB := Lib.hid hb
  clear hr hb
  go_wp2_with fail
  refine (l2out_any _ _ a m c 0 HR.out (by omega)).mono ?_
  rintro e w2 ⟨v, oa, oc, zs, en, st, q, rfl, hO, hzl, hsl, hq, hr2, hg2⟩
  have P3 := Lib.hid (show Ow w (w2.alloc (Obj.cells #[.int .i64 v, .slice oa zs.length oc, .string en, .int .i64 st] 25)) w1.heap.size (w2r w).heap.size w2.heap.size a m c q v oa oc zs en st by
    have hz := w2r_size w
    have hrb := heap_lt HR.out.own
    have z2 := hg2.size
    have k1 : ∀ k, k < w1.heap.size → k ≠ (w2r w).heap.size → (w2.alloc (Obj.cells #[.int .i64 v, .slice oa zs.length oc, .string en, .int .i64 st] 25)).heap[k]? = w1.heap[k]? := fun k hk hne => (alloc_heap _ k (by omega)).trans (hg2.block k hk (by intro e; injection e; omega))
    have k0 : ∀ k, k < w.heap.size + 2 → (w2.alloc (Obj.cells #[.int .i64 v, .slice oa zs.length oc, .string en, .int .i64 st] 25)).heap[k]? = (w2r w).heap[k]? := fun k hk => (k1 k (by omega) (by omega)).trans (HB.out.block k (by omega))
    refine ⟨heap_alloc_new w2 _, ⟨_, _, _, _, (k0 _ (by omega)).trans ((alloc_heap _ _ (by rw [alloc_size']; omega)).trans (heap_alloc_new w _))⟩, ⟨_, _, _, _, (k0 _ (by omega)).trans (by have := heap_alloc_new (w.alloc (Obj.cells #[.int .i64 0, .slice none 0 0, .string ⟨#[]⟩, .int .i64 0] 25)) (Obj.cells #[.int .i64 0, .slice none 0 0, .string ⟨#[]⟩, .int .i64 0] 25); rw [alloc_size'] at this; exact this)⟩, hO.later (fun g hg' => alloc_heap _ g (hO.row.lt g hg').2), fun e => by have := hO.row.lt _ e; omega, hr2.later (alloc_heap _), by omega, by omega, by omega, ?_⟩
    exact ((((w2r_below w).trans (HB.out.mono (by omega))).grown hg2 (by omega) (fun j hj => by injection hj with hj; omega))).alloc (by omega) _)
  have hjb := P3.out.hi
  have hq3 : q ≤ 3001 := by omega
  clear hr2 hg2 hO hq
  unfold oV
  go_wp2_with fail
  generalize hob : w2.heap.size = ob at *
  generalize w2.alloc (Obj.cells #[.int .i64 v, .slice oa zs.length oc, .string en, .int .i64 st] 25) = w3 at *
  generalize (w2r w).heap.size = rb at *
  clear hob
  refine (pick_to 2 P3.out.rdr (by omega) (by omega)).mono ?_
  rintro e w4 ⟨u, rfl, hu, hr4, hg4⟩
  have P4 := Lib.hid (P3.out.later hr4 hg4)
  clear hr4 hg4 P3
  obtain ⟨q0, q1, q2, q3⟩ := P4.out.read
  by_cases hu0 : u = 0
  · subst hu0
    have hI4 := ints_of P4.out.oc_.row
    have hl4 := P4.out.oc_.len
    have hE1 : ∀ (W : World) (o : Obj), (∀ k, k < w4.heap.size → W.heap[k]? = w4.heap[k]?) → w4.heap.size ≤ W.heap.size → ∀ k, k < w4.heap.size → (W.alloc o).heap[k]? = w4.heap[k]? := fun W o h1 h2 k hk => (alloc_heap o k (by omega)).trans (h1 k hk)
    have hz1 : (w4.drew.alloc (Obj.cells #[] 3)).heap.size = w4.heap.size + 1 := alloc_size' _ _
    have hz2 : (w4.drew.alloc zeroO).heap.size = w4.heap.size + 1 := alloc_size' _ _
    obtain ⟨gA, cA, wA, runA, RA, BA, GA⟩ := copy_nums (oc := oc) (Irow.made w4.drew w4.heap.size (Nat.le_refl _)) (hE1 _ _ (fun _ _ => rfl) (Nat.le_refl _)) ⟨rfl, rfl, rfl, by rw [hz1]; omega⟩ hI4 hl4
    obtain ⟨gB, cB, wB, runB, RB, BB, GB⟩ := copy_nums (oc := oc) (Irow.made (w4.drew.alloc zeroO) w4.heap.size (by rw [hz2]; omega)) (hE1 _ _ (hE1 _ _ (fun _ _ => rfl) (Nat.le_refl _)) (by rw [hz2]; omega)) ⟨rfl, rfl, rfl, by rw [alloc_size', hz2]; omega⟩ hI4 hl4
    obtain ⟨gC, cC, wC, runC, RC, BC, GC⟩ := copy_nums (oc := oc) ((Irow.made w4.drew w4.heap.size (Nat.le_refl _)).keep (alloc_heap zeroO _ (by rw [hz1]; exact Nat.lt_succ_self _))) (hE1 _ _ (hE1 _ _ (fun _ _ => rfl) (Nat.le_refl _)) (by rw [hz1]; omega)) ⟨rfl, rfl, rfl, by rw [alloc_size', hz1]; omega⟩ hI4 hl4
    rw [hz2] at runB
    have RUNA := Lib.hid runA
    have RUNB := Lib.hid runB
    have RUNC := Lib.hid runC
    have ALLA := Lib.hid (And.intro RA (And.intro BA GA))
    have ALLB := Lib.hid (And.intro RB (And.intro BB GB))
    have ALLC := Lib.hid (And.intro RC (And.intro BC GC))
    clear runA runB runC RA RB RC BA BB BC GA GB GC hE1 hz1 hz2 hI4
    unfold zeroO at RUNB RUNC ALLB ALLC
    have hobL : ob < w4.heap.size := heap_lt P4.out.own
    have hrowL : ∀ g, (Value.slice oa zs.length oc).ownBlock = some g → g < w4.heap.size := fun g hg => (P4.out.oc_.row.lt g hg).2
    have haL : ∀ g off, a = some ⟨g, off, none⟩ → 0 < m → g < w4.heap.size := fun g off ha hm => by
      obtain ⟨g', off', ha', b, hc⟩ := P4.out.rdr.bytes 0 hm
      rw [ha] at ha'; injection ha' with ha'; injection ha' with e1 e2; subst e1
      exact World.block_lt_of_cell? w4 _ hc
    have hrb4 : rb < w4.heap.size := heap_lt P4.out.rdr.own
    have hs4 : w4.heap.size ≤ w4.heap.size := Nat.le_refl _
    have hszB : w4.heap.size + 1 < wB.heap.size := by have := ALLB.out.2.2.1.size; rw [alloc_size', alloc_size'] at this; have : w4.heap.size + 1 + 1 ≤ wB.heap.size := this; omega
    have hszC : w4.heap.size + 1 < wC.heap.size := by have := ALLC.out.2.2.1.size; rw [alloc_size', alloc_size'] at this; have : w4.heap.size + 1 + 1 ≤ wC.heap.size := this; omega
    have hst1 := P4.out.oc_.pos
    have hst2 := P4.out.oc_.most
    have HDz := Lib.hid (show w4.drew.heap.size = w4.heap.size ∧ (w4.drew.alloc (Obj.cells #[.int .i64 0, .slice none 0 0, .string ⟨#[]⟩, .int .i64 0] 25)).heap.size = w4.heap.size + 1 ∧ ((w4.drew.alloc (Obj.cells #[.int .i64 0, .slice none 0 0, .string ⟨#[]⟩, .int .i64 0] 25)).alloc (Obj.cells #[] 3)).heap.size = w4.heap.size + 2 ∧ (w4.drew.alloc (Obj.cells #[] 3)).heap.size = w4.heap.size + 1 ∧ ((w4.drew.alloc (Obj.cells #[] 3)).alloc (Obj.cells #[.int .i64 0, .slice none 0 0, .string ⟨#[]⟩, .int .i64 0] 25)).heap.size = w4.heap.size + 2 from ⟨rfl, alloc_size' _ _, by rw [alloc_size', alloc_size']; rfl, alloc_size' _ _, by rw [alloc_size', alloc_size']; rfl⟩)
    have hne : ob ≠ rb := by have := P4.out.mid; have := P4.out.hi; omega
    go_wp2_with fail
    rename_i K4 hK4
    generalize hA0 : ({ tmps := _, defers := [] } : Act) = A0
    have hTail : ∀ (wz : World) (bb gx cx t : Nat) (v14 v15 v16 v17 v18 v19 v20 v21 v22 v23 v24 v25 v26 v27 : Value), t ≤ 1 → Bt w wz w1.heap.size rb ob w4.heap.size bb gx cx a m c (q + 1 + 1) v oa oc zs zs en st (st + (t : Int)) → K4 (((((((((((((((A0.put (some 6) (.pointer (some ⟨bb, 0, none⟩))).put (some 14) v14).put (some 15) v15).put (some 16) v16).put (some 17) v17).put (some 18) v18).put (some 19) v19).put (some 20) v20).put (some 21) v21).put (some 22) v22).put (some 23) v23).put (some 24) v24).put (some 25) v25).put (some 26) v26).put (some 27) v27) wz := by
      intro wz bb gx cx t v14 v15 v16 v17 v18 v19 v20 v21 v22 v23 v24 v25 v26 v27 ht1 hBT
      subst hA0
      simp only [Act.put, List.setIfInBounds_toArray, List.set_cons_zero, List.set_cons_succ]
      refine hK4 _ _ ?_
      have BT := Lib.hid hBT
      clear hBT hK4 RUNA RUNB RUNC ALLA ALLB ALLC
      obtain ⟨i0, hi, hz0, hz1, hz2⟩ := info_parts info_int
      go_wp2_with fail
      refine (pick_to 3 BT.out.first.rdr (by omega) (by omega)).mono ?_
      rintro e w6 ⟨u3, rfl, hu3, hr6, hg6⟩
      have B6 := Lib.hid (BT.out.later hr6 hg6)
      clear hr6 hg6 BT
      by_cases hu30 : u3 = 0
      · subst hu30
        obtain ⟨b0, b1, b2, b3, e0, e1, e2, e3⟩ := cells_of B6.out.own
        have HO6 := Lib.hid (show w6.ownsRow w4.heap.size 3 1 (.slice (some ⟨gx, 0, none⟩) zs.length cx) zs.length (intVs zs) from B6.out.row)
        have hL6 : w4.heap.size ≤ w6.heap.size := by have := B6.out.row.lt; omega
        go_wp2_with (at_builtin; go_loud (refine wpList_append_lies _ rfl _ _ 23 rfl w4.heap.size 3 i0 (.int .i64 0) 1 8 Tryd.underlying23 hi hz0 hz1 hz2 rfl (by decide) _ zs.length (intVs zs) rfl (HO6.out.alloc _) ⟨w6.heap.size, 0, none⟩ 1 1 [.int .i64 1] rfl rfl (cell_one_new _ _ _) (by intro u hu; simp at hu; subst hu; rfl) (by decide) (by unfold maxLen; omega) (by omega) (by rw [alloc_size']; omega) _ rfl ?_))
        intro g8 c8 w8 ho8 hg8 hat8 _
        obtain ⟨own8, hB9⟩ := bt_more B6.out haL ho8 hg8 hat8
        have B9 := Lib.hid hB9
        rw [show (zs ++ [(1 : Int)]).length = zs.length + 1 by simp] at B9
        clear ho8 hg8 hat8 hB9 HO6 b0 b1 b2 b3 e0 e1 e2 e3
        obtain ⟨b0, b1, b2, b3, e0, e1, e2, e3⟩ := cells_of own8
        clear own8
        go_wp2_with fail
        generalize w8.setCell ⟨bb, 1, none⟩ (.slice (some ⟨g8, 0, none⟩) (zs.length + 1) c8) = wz9 at *
        clear b0 b1 b2 b3 e0 e1 e2 e3
        have BZ := B9
        obtain ⟨b0, b1, b2, b3, e0, e1, e2, e3⟩ := cells_of BZ.out.own
        obtain ⟨a0, a1, a2, a3⟩ := BZ.out.first.read
        obtain ⟨⟨x0, x1, x2, x3, c0, c1, c2, c3, z0, z1, z2, z3⟩, ⟨y0, y1, y2, y3, d0, d1, d2, d3, f0, f1, f2, f3⟩⟩ := BZ.out.first.resc
        rw [show (zs ++ [(1 : Int)]).length = zs.length + 1 by simp] at b1
        have n1 : w.heap.size ≠ bb := by have := BZ.out.lo; have := BZ.out.obL; have := BZ.out.first.hi; have := BZ.out.first.mid; have := BZ.out.first.lo; omega
        have n2 : w.heap.size + 1 ≠ bb := by have := BZ.out.lo; have := BZ.out.obL; have := BZ.out.first.hi; have := BZ.out.first.mid; have := BZ.out.first.lo; omega
        have n3 : w.heap.size ≠ ob := by have := BZ.out.first.hi; have := BZ.out.first.mid; have := BZ.out.first.lo; omega
        have n4 : w.heap.size + 1 ≠ ob := by have := BZ.out.first.hi; have := BZ.out.first.mid; have := BZ.out.first.lo; omega
        go_region_with (fail)
        all_goals
          obtain ⟨wf, hwf, k0, k1, k2, k3, k4, k5, k6, k7, O1, O2, hB⟩ := BZ.out.first.fin (BZ.out.oc_ (by simp; omega) (fun z hz => by rcases List.mem_append.1 hz with hz | hz; exact BZ.out.first.oc_.each z hz; rw [List.mem_singleton.1 hz]; exact ⟨by decide, by decide⟩) (by omega) (by omega)) (by have := P4.out.lo; omega) (.int .i64 v) (.slice oa zs.length oc) (.string en) (.int .i64 st) (.int .i64 v) (.slice (some ⟨g8, 0, none⟩) (zs.length + 1) c8) (.string en) (.int .i64 (st + (t : Int)))
          unfold put4 at hwf
          rw [hwf]
          clear hwf x0 x1 x2 x3 y0 y1 y2 y3 c0 c1 c2 c3 d0 d1 d2 d3
          obtain ⟨wg, hwg⟩ : ∃ x, x = wf.drew := ⟨_, rfl⟩
          rw [← hwg]
          have O1' := O1.later (w' := wg) (fun _ _ => by rw [hwg]; rfl)
          have O2' := O2.later (w' := wg) (fun _ _ => by rw [hwg]; rfl)
          have hB' : Below w.heap.size w wg := by rw [hwg]; exact hB.drew
          have KK : ∀ p, wg.cell? p = wf.cell? p := fun p => by rw [hwg]; rfl
          rw [← KK] at k0 k1 k2 k3 k4 k5 k6 k7
          clear hwg O1 O2 hB KK
          go_wp2_with fail
          refine bodyPost_ret (v := .tuple #[oV v oa zs.length oc en st, oV v (some ⟨g8, 0, none⟩) (zs.length + 1) c8 en (st + (t : Int))]) ?_ rfl ?_
          · simp [results, Tryd.results5, go_sem, k0, k1, k2, k3, k4, k5, k6, k7, oV]
          · exact ⟨v, oa, oc, zs, en, st, v, some ⟨g8, 0, none⟩, c8, (zs ++ [1]), en, st + (t : Int), by simp, O1', O2', hB'⟩
      · have hub3 : ((u3 : Int) == 0) = false := by rw [beq_eq_false_iff_ne]; omega
        clear hu30
        have BZ := B6
        obtain ⟨b0, b1, b2, b3, e0, e1, e2, e3⟩ := cells_of BZ.out.own
        obtain ⟨a0, a1, a2, a3⟩ := BZ.out.first.read
        obtain ⟨⟨x0, x1, x2, x3, c0, c1, c2, c3, z0, z1, z2, z3⟩, ⟨y0, y1, y2, y3, d0, d1, d2, d3, f0, f1, f2, f3⟩⟩ := BZ.out.first.resc
        go_wp2_with fail
        have n1 : w.heap.size ≠ bb := by have := BZ.out.lo; have := BZ.out.obL; have := BZ.out.first.hi; have := BZ.out.first.mid; have := BZ.out.first.lo; omega
        have n2 : w.heap.size + 1 ≠ bb := by have := BZ.out.lo; have := BZ.out.obL; have := BZ.out.first.hi; have := BZ.out.first.mid; have := BZ.out.first.lo; omega
        have n3 : w.heap.size ≠ ob := by have := BZ.out.first.hi; have := BZ.out.first.mid; have := BZ.out.first.lo; omega
        have n4 : w.heap.size + 1 ≠ ob := by have := BZ.out.first.hi; have := BZ.out.first.mid; have := BZ.out.first.lo; omega
        go_region_with (fail)
        all_goals
          obtain ⟨wf, hwf, k0, k1, k2, k3, k4, k5, k6, k7, O1, O2, hB⟩ := BZ.out.first.fin (BZ.out.oc_ (by omega) BZ.out.first.oc_.each (by omega) (by omega)) (by have := P4.out.lo; omega) (.int .i64 v) (.slice oa zs.length oc) (.string en) (.int .i64 st) (.int .i64 v) (.slice (some ⟨gx, 0, none⟩) zs.length cx) (.string en) (.int .i64 (st + (t : Int)))
          unfold put4 at hwf
          rw [hwf]
          clear hwf x0 x1 x2 x3 y0 y1 y2 y3 c0 c1 c2 c3 d0 d1 d2 d3
          obtain ⟨wg, hwg⟩ : ∃ x, x = wf.drew := ⟨_, rfl⟩
          rw [← hwg]
          have O1' := O1.later (w' := wg) (fun _ _ => by rw [hwg]; rfl)
          have O2' := O2.later (w' := wg) (fun _ _ => by rw [hwg]; rfl)
          have hB' : Below w.heap.size w wg := by rw [hwg]; exact hB.drew
          have KK : ∀ p, wg.cell? p = wf.cell? p := fun p => by rw [hwg]; rfl
          rw [← KK] at k0 k1 k2 k3 k4 k5 k6 k7
          clear hwg O1 O2 hB KK
          go_wp2_with fail
          refine bodyPost_ret (v := .tuple #[oV v oa zs.length oc en st, oV v (some ⟨gx, 0, none⟩) zs.length cx en (st + (t : Int))]) ?_ rfl ?_
          · simp [results, Tryd.results5, go_sem, k0, k1, k2, k3, k4, k5, k6, k7, oV]
          · exact ⟨v, oa, oc, zs, en, st, v, some ⟨gx, 0, none⟩, cx, zs, en, st + (t : Int), rfl, O1', O2', hB'⟩
    subst hA0
    simp only [Act.put, List.setIfInBounds_toArray, List.set_cons_zero, List.set_cons_succ] at hTail
    have HT := Lib.hid hTail
    clear hTail hK4
    refine wp_region_held_drew (S := (fun w' => w'.cell? ⟨ob, 0, none⟩ = some (.int .i64 v) ∧ w'.cell? ⟨ob, 1, none⟩ = some (.slice oa zs.length oc) ∧ w'.cell? ⟨ob, 2, none⟩ = some (.string en) ∧ w'.cell? ⟨ob, 3, none⟩ = some (.int .i64 st))) (by kernel_rfl) ⟨q0, q1, q2, q3⟩ (fun hS => ?_)
    refine wpAnyH_take (i := 0) (oi := { dst := some 14, op := Op.fieldAddr 25 (Operand.tmp 5) 0, type := 0, pos := "l2_running.go:289", after := #[], guard := none }) (v := ?_) rfl (by kernel_rfl) (by kernel_rfl) (by kernel_rfl) (fun _ _ _ h => h) (Or.inl ⟨by kernel_rfl, ?_⟩) (by assumption) ?_
    rotate_left
    · intro w hSw; clear hSw; go_simp; with_reducible rfl
    try simp only [Act.put, List.setIfInBounds_toArray, List.set_cons_zero, List.set_cons_succ]
    refine wpAnyH_take (i := 1) (oi := { dst := some 15, op := Op.load 3 (Operand.tmp 14), type := 3, pos := "l2_running.go:289", after := #[{ on := 0, ground := Ground.data }], guard := none }) (v := ?_) rfl (by kernel_rfl) (by kernel_rfl) (by kernel_rfl) (fun _ _ _ h => h) (Or.inl ⟨by kernel_rfl, ?_⟩) (by assumption) ?_
    rotate_left
    · intro w hSw; obtain ⟨r0, r1, r2, r3⟩ := hSw; go_simp; with_reducible rfl
    try simp only [Act.put, List.setIfInBounds_toArray, List.set_cons_zero, List.set_cons_succ]
    refine wpAnyH_take (i := 3) (oi := { dst := some 17, op := Op.fieldAddr 25 (Operand.tmp 5) 1, type := 0, pos := "l2_running.go:289", after := #[], guard := none }) (v := ?_) rfl (by kernel_rfl) (by kernel_rfl) (by kernel_rfl) (fun _ _ _ h => h) (Or.inl ⟨by kernel_rfl, ?_⟩) (by assumption) ?_
    rotate_left
    · intro w hSw; clear hSw; go_simp; with_reducible rfl
    try simp only [Act.put, List.setIfInBounds_toArray, List.set_cons_zero, List.set_cons_succ]
    refine wpAnyH_take (i := 4) (oi := { dst := some 18, op := Op.load 23 (Operand.tmp 17), type := 23, pos := "l2_running.go:289", after := #[{ on := 3, ground := Ground.data }], guard := none }) (v := ?_) rfl (by kernel_rfl) (by kernel_rfl) (by kernel_rfl) (fun _ _ _ h => h) (Or.inl ⟨by kernel_rfl, ?_⟩) (by assumption) ?_
    rotate_left
    · intro w hSw; obtain ⟨r0, r1, r2, r3⟩ := hSw; go_simp; with_reducible rfl
    try simp only [Act.put, List.setIfInBounds_toArray, List.set_cons_zero, List.set_cons_succ]
    refine wpAnyH_take (i := 6) (oi := { dst := some 20, op := Op.fieldAddr 25 (Operand.tmp 5) 2, type := 0, pos := "l2_running.go:289", after := #[], guard := none }) (v := ?_) rfl (by kernel_rfl) (by kernel_rfl) (by kernel_rfl) (fun _ _ _ h => h) (Or.inl ⟨by kernel_rfl, ?_⟩) (by assumption) ?_
    rotate_left
    · intro w hSw; clear hSw; go_simp; with_reducible rfl
    try simp only [Act.put, List.setIfInBounds_toArray, List.set_cons_zero, List.set_cons_succ]
    refine wpAnyH_take (i := 7) (oi := { dst := some 21, op := Op.load 9 (Operand.tmp 20), type := 9, pos := "l2_running.go:289", after := #[{ on := 6, ground := Ground.data }], guard := none }) (v := ?_) rfl (by kernel_rfl) (by kernel_rfl) (by kernel_rfl) (fun _ _ _ h => h) (Or.inl ⟨by kernel_rfl, ?_⟩) (by assumption) ?_
    rotate_left
    · intro w hSw; obtain ⟨r0, r1, r2, r3⟩ := hSw; go_simp; with_reducible rfl
    try simp only [Act.put, List.setIfInBounds_toArray, List.set_cons_zero, List.set_cons_succ]
    refine wpAnyH_take (i := 8) (oi := { dst := some 22, op := Op.fieldAddr 25 (Operand.tmp 5) 3, type := 0, pos := "l2_running.go:289", after := #[], guard := none }) (v := ?_) rfl (by kernel_rfl) (by kernel_rfl) (by kernel_rfl) (fun _ _ _ h => h) (Or.inl ⟨by kernel_rfl, ?_⟩) (by assumption) ?_
    rotate_left
    · intro w hSw; clear hSw; go_simp; with_reducible rfl
    try simp only [Act.put, List.setIfInBounds_toArray, List.set_cons_zero, List.set_cons_succ]
    refine wpAnyH_take (i := 9) (oi := { dst := some 23, op := Op.load 3 (Operand.tmp 22), type := 3, pos := "l2_running.go:289", after := #[{ on := 8, ground := Ground.data }], guard := none }) (v := ?_) rfl (by kernel_rfl) (by kernel_rfl) (by kernel_rfl) (fun _ _ _ h => h) (Or.inl ⟨by kernel_rfl, ?_⟩) (by assumption) ?_
    rotate_left
    · intro w hSw; obtain ⟨r0, r1, r2, r3⟩ := hSw; go_simp; with_reducible rfl
    try simp only [Act.put, List.setIfInBounds_toArray, List.set_cons_zero, List.set_cons_succ]
    refine wpAnyH_take (i := 10) (oi := { dst := some 24, op := Op.move (Operand.tmp 4), type := 33, pos := "l2_running.go:289", after := #[], guard := none }) (v := ?_) rfl (by kernel_rfl) (by kernel_rfl) (by kernel_rfl) (fun _ _ _ h => h) (Or.inl ⟨by kernel_rfl, ?_⟩) (by assumption) ?_
    rotate_left
    · intro w hSw; clear hSw; go_simp; with_reducible rfl
    try simp only [Act.put, List.setIfInBounds_toArray, List.set_cons_zero, List.set_cons_succ]
    refine wpAnyH_ready (rs := [2, 14]) (by kernel_rfl) (by simp) ?_
    refine AllReadyH.cons (o := { dst := some 16, op := Op.buildSlice 23 0 #[], type := 23, pos := "l2_running.go:289", after := #[], guard := none }) rfl (fun K hK => ?_) (AllReadyH.cons (o := { dst := some 6, op := Op.alloc 25, type := 0, pos := "l2_running.go:289", after := #[], guard := none }) rfl (fun K hK => ?_) AllReadyH.nil)
    · skip
      go_simp
      refine hK.out _ _ (four_later hS (fun k hk _ => alloc_heap _ k hk)) (fun hS => ?_)
      clear hK K
      try simp only [Act.put, List.setIfInBounds_toArray, List.set_cons_zero, List.set_cons_succ]
      refine wpAnyH_ready (rs := [5, 14]) (by kernel_rfl) (by simp) ?_
      refine AllReadyH.cons (o := { dst := some 19, op := Op.call { callee := Callee.builtin Builtin.append, args := #[Operand.tmp 16, Operand.tmp 18], argTypes := #[23, 23] }, type := 23, pos := "l2_running.go:289", after := #[{ on := 2, ground := Ground.data }, { on := 4, ground := Ground.data }], guard := none }) rfl (fun K hK => ?_) (AllReadyH.cons (o := { dst := some 6, op := Op.alloc 25, type := 0, pos := "l2_running.go:289", after := #[], guard := none }) rfl (fun K hK => ?_) AllReadyH.nil)
      · skip
        refine step_app_run rfl (.tmp 16) (.tmp 18) 23 23 rfl _ _ rfl rfl _ _ RUNA.out ?_
        refine hK.out _ _ (four_later (w := w4) ⟨q0, q1, q2, q3⟩ (fun k hk _ => ALLA.out.2.1.block k hk)) (fun hS => ?_)
        clear hK K
        try simp only [Act.put, List.setIfInBounds_toArray, List.set_cons_zero, List.set_cons_succ]
        refine wpAnyH_ready (rs := [11, 14]) (by kernel_rfl) (by simp) ?_
        refine AllReadyH.cons (o := { dst := some 25, op := Op.call { callee := Callee.value (Operand.func 14), args := #[Operand.tmp 24, Operand.const (Value.int IntKind.i64 2)], argTypes := #[33, 3] }, type := 3, pos := "l2_running.go:289", after := #[{ on := 10, ground := Ground.data }, { on := 5, ground := Ground.chain }], guard := none }) rfl (fun K hK => ?_) (AllReadyH.cons (o := { dst := some 6, op := Op.alloc 25, type := 0, pos := "l2_running.go:289", after := #[], guard := none }) rfl (fun K hK => ?_) AllReadyH.nil)
        · skip
          go_simp
          refine (pick_to 2 (P4.out.rdr.later ALLA.out.2.1.block) (by omega) (by omega)).mono ?_
          rintro e w5 ⟨t, rfl, ht, hr5, hg5⟩
          have hwr : IntKind.i64.wrap (st + (t : Int)) = st + (t : Int) := by rw [IntKind.wrap_i64]; omega
          try dsimp only
          refine hK.out _ _ (four_later hS (fun k hk he => hg5.block k hk (by intro e; injection e; omega))) (fun hS => ?_)
          clear hK K
          try simp only [Act.put, List.setIfInBounds_toArray, List.set_cons_zero, List.set_cons_succ]
          refine wpAnyH_take (i := 12) (oi := { dst := some 26, op := Op.binOp BinOp.add 3 (Operand.tmp 23) (Operand.tmp 25) 3, type := 3, pos := "l2_running.go:289", after := #[{ on := 9, ground := Ground.data }, { on := 11, ground := Ground.data }], guard := none }) (v := ?_) rfl (by kernel_rfl) (by kernel_rfl) (by kernel_rfl) (fun _ _ _ h => h) (Or.inl ⟨by kernel_rfl, ?_⟩) (by assumption) ?_
          rotate_left
          · intro w hSw; clear hSw; go_simp; with_reducible rfl
          try simp only [Act.put, List.setIfInBounds_toArray, List.set_cons_zero, List.set_cons_succ]
          refine wpAnyH_take (i := 13) (oi := { dst := some 27, op := Op.build 25 #[(0, Operand.tmp 15), (1, Operand.tmp 19), (2, Operand.tmp 21), (3, Operand.tmp 26)], type := 25, pos := "l2_running.go:289", after := #[{ on := 1, ground := Ground.data }, { on := 5, ground := Ground.data }, { on := 7, ground := Ground.data }, { on := 12, ground := Ground.data }], guard := none }) (v := ?_) rfl (by kernel_rfl) (by kernel_rfl) (by kernel_rfl) (fun _ _ _ h => h) (Or.inl ⟨by kernel_rfl, ?_⟩) (by assumption) ?_
          rotate_left
          · intro w hSw; clear hSw; go_simp; with_reducible rfl
          try simp only [Act.put, List.setIfInBounds_toArray, List.set_cons_zero, List.set_cons_succ]
          refine wpAnyH_ready (rs := [14]) (by kernel_rfl) (by simp) ?_
          refine AllReadyH.cons (o := { dst := some 6, op := Op.alloc 25, type := 0, pos := "l2_running.go:289", after := #[], guard := none }) rfl (fun K hK => ?_) AllReadyH.nil
          go_simp
          refine hK.out _ _ (four_later hS (fun k hk _ => alloc_heap _ k hk)) (fun hS => ?_)
          clear hK K
          try simp only [Act.put, List.setIfInBounds_toArray, List.set_cons_zero, List.set_cons_succ]
          have hs5 := hg5.size
          have F5 := P4.out.later hr5 (grownBy_trans (grown_of_below ALLA.out.2.1) hg5)
          have R6 := ALLA.out.1.keep (hg5.block _ ALLA.out.1.lt.2 (by intro e; injection e; have := ALLA.out.1.lt; omega))
          have BT := Lib.hid (bt_alloc F5 (Nat.le_trans ALLA.out.2.1.size hs5) hobL hrowL R6 (st + (t : Int)))
          have O6 := heap_alloc_new w5 zeroO
          unfold zeroO at O6
          obtain ⟨b0, b1, b2, b3, e0, e1, e2, e3⟩ := cells_of O6
          clear F5 R6 O6
          refine wpAnyH_ready (rs := [15]) (by kernel_rfl) (by simp) ?_
          refine AllReadyH.cons (o := { dst := none, op := Op.store 25 (Operand.tmp 6) (Operand.tmp 27), type := 0, pos := "l2_running.go:289", after := #[{ on := 14, ground := Ground.data }, { on := 13, ground := Ground.data }, { on := 11, ground := Ground.chain }, { on := 0, ground := Ground.phase }, { on := 1, ground := Ground.phase }, { on := 2, ground := Ground.phase }, { on := 3, ground := Ground.phase }, { on := 4, ground := Ground.phase }, { on := 5, ground := Ground.phase }, { on := 6, ground := Ground.phase }, { on := 7, ground := Ground.phase }, { on := 8, ground := Ground.phase }, { on := 9, ground := Ground.phase }, { on := 10, ground := Ground.phase }, { on := 11, ground := Ground.phase }, { on := 12, ground := Ground.phase }, { on := 13, ground := Ground.phase }, { on := 14, ground := Ground.phase }], guard := none }) rfl (fun K hK => ?_) AllReadyH.nil
          go_simp
          refine hK.out _ _ BT.out.first.read (fun hS => ?_)
          clear hK K
          try simp only [Act.put, List.setIfInBounds_toArray, List.set_cons_zero, List.set_cons_succ]
          refine wpAnyH_done (by kernel_rfl) ?_ _
          exact HT.out _ _ _ _ t _ _ _ _ _ _ _ _ _ _ _ _ _ _ (by omega) BT.out
        · skip
          go_simp
          refine hK.out _ _ (four_later hS (fun k hk _ => alloc_heap _ k hk)) (fun hS => ?_)
          clear hK K
          try simp only [Act.put, List.setIfInBounds_toArray, List.set_cons_zero, List.set_cons_succ]
          refine wpAnyH_ready (rs := [11]) (by kernel_rfl) (by simp) ?_
          refine AllReadyH.cons (o := { dst := some 25, op := Op.call { callee := Callee.value (Operand.func 14), args := #[Operand.tmp 24, Operand.const (Value.int IntKind.i64 2)], argTypes := #[33, 3] }, type := 3, pos := "l2_running.go:289", after := #[{ on := 10, ground := Ground.data }, { on := 5, ground := Ground.chain }], guard := none }) rfl (fun K hK => ?_) AllReadyH.nil
          go_simp
          refine (pick_to 2 (P4.out.rdr.later (fun k hk => (alloc_heap _ k (Nat.lt_of_lt_of_le hk ALLA.out.2.1.size)).trans (ALLA.out.2.1.block k hk))) (by omega) (by omega)).mono ?_
          rintro e w5 ⟨t, rfl, ht, hr5, hg5⟩
          have hwr : IntKind.i64.wrap (st + (t : Int)) = st + (t : Int) := by rw [IntKind.wrap_i64]; omega
          try dsimp only
          refine hK.out _ _ (four_later hS (fun k hk he => hg5.block k hk (by intro e; injection e; omega))) (fun hS => ?_)
          clear hK K
          try simp only [Act.put, List.setIfInBounds_toArray, List.set_cons_zero, List.set_cons_succ]
          refine wpAnyH_take (i := 12) (oi := { dst := some 26, op := Op.binOp BinOp.add 3 (Operand.tmp 23) (Operand.tmp 25) 3, type := 3, pos := "l2_running.go:289", after := #[{ on := 9, ground := Ground.data }, { on := 11, ground := Ground.data }], guard := none }) (v := ?_) rfl (by kernel_rfl) (by kernel_rfl) (by kernel_rfl) (fun _ _ _ h => h) (Or.inl ⟨by kernel_rfl, ?_⟩) (by assumption) ?_
          rotate_left
          · intro w hSw; clear hSw; go_simp; with_reducible rfl
          try simp only [Act.put, List.setIfInBounds_toArray, List.set_cons_zero, List.set_cons_succ]
          refine wpAnyH_take (i := 13) (oi := { dst := some 27, op := Op.build 25 #[(0, Operand.tmp 15), (1, Operand.tmp 19), (2, Operand.tmp 21), (3, Operand.tmp 26)], type := 25, pos := "l2_running.go:289", after := #[{ on := 1, ground := Ground.data }, { on := 5, ground := Ground.data }, { on := 7, ground := Ground.data }, { on := 12, ground := Ground.data }], guard := none }) (v := ?_) rfl (by kernel_rfl) (by kernel_rfl) (by kernel_rfl) (fun _ _ _ h => h) (Or.inl ⟨by kernel_rfl, ?_⟩) (by assumption) ?_
          rotate_left
          · intro w hSw; clear hSw; go_simp; with_reducible rfl
          try simp only [Act.put, List.setIfInBounds_toArray, List.set_cons_zero, List.set_cons_succ]
          have hs5 := hg5.size
          have F5 := P4.out.later hr5 (grownBy_trans (grown_of_below (ALLA.out.2.1.alloc ALLA.out.2.1.size zeroO)) hg5)
          have R6 := (ALLA.out.1.keep (alloc_heap zeroO _ ALLA.out.1.lt.2)).keep (hg5.block _ (by rw [alloc_size']; have := ALLA.out.1.lt; omega) (by intro e; injection e; have := ALLA.out.1.lt; omega))
          have O6 : w5.heap[wA.heap.size]? = some (.cells #[.int .i64 0, .slice none 0 0, .string ⟨#[]⟩, .int .i64 0] 25 (0, 0)) := (hg5.block _ (by rw [alloc_size']; omega) (by intro e; injection e; have := ALLA.out.2.1.size; omega)).trans (heap_alloc_new wA _)
          have BT := Lib.hid (bt_store F5 ALLA.out.2.1.size hobL hrowL haL O6 R6 (by have := ALLA.out.1.lt; omega) (st + (t : Int)))
          obtain ⟨b0, b1, b2, b3, e0, e1, e2, e3⟩ := cells_of O6
          clear F5 R6 O6
          refine wpAnyH_ready (rs := [15]) (by kernel_rfl) (by simp) ?_
          refine AllReadyH.cons (o := { dst := none, op := Op.store 25 (Operand.tmp 6) (Operand.tmp 27), type := 0, pos := "l2_running.go:289", after := #[{ on := 14, ground := Ground.data }, { on := 13, ground := Ground.data }, { on := 11, ground := Ground.chain }, { on := 0, ground := Ground.phase }, { on := 1, ground := Ground.phase }, { on := 2, ground := Ground.phase }, { on := 3, ground := Ground.phase }, { on := 4, ground := Ground.phase }, { on := 5, ground := Ground.phase }, { on := 6, ground := Ground.phase }, { on := 7, ground := Ground.phase }, { on := 8, ground := Ground.phase }, { on := 9, ground := Ground.phase }, { on := 10, ground := Ground.phase }, { on := 11, ground := Ground.phase }, { on := 12, ground := Ground.phase }, { on := 13, ground := Ground.phase }, { on := 14, ground := Ground.phase }], guard := none }) rfl (fun K hK => ?_) AllReadyH.nil
          go_simp
          refine hK.out _ _ BT.out.first.read (fun hS => ?_)
          clear hK K
          try simp only [Act.put, List.setIfInBounds_toArray, List.set_cons_zero, List.set_cons_succ]
          refine wpAnyH_done (by kernel_rfl) ?_ _
          exact HT.out _ _ _ _ t _ _ _ _ _ _ _ _ _ _ _ _ _ _ (by omega) BT.out
      · skip
        go_simp
        refine hK.out _ _ (four_later hS (fun k hk _ => alloc_heap _ k hk)) (fun hS => ?_)
        clear hK K
        try simp only [Act.put, List.setIfInBounds_toArray, List.set_cons_zero, List.set_cons_succ]
        refine wpAnyH_ready (rs := [5]) (by kernel_rfl) (by simp) ?_
        refine AllReadyH.cons (o := { dst := some 19, op := Op.call { callee := Callee.builtin Builtin.append, args := #[Operand.tmp 16, Operand.tmp 18], argTypes := #[23, 23] }, type := 23, pos := "l2_running.go:289", after := #[{ on := 2, ground := Ground.data }, { on := 4, ground := Ground.data }], guard := none }) rfl (fun K hK => ?_) AllReadyH.nil
        refine step_app_run rfl (.tmp 16) (.tmp 18) 23 23 rfl _ _ rfl rfl _ _ RUNC.out ?_
        refine hK.out _ _ (four_later (w := w4) ⟨q0, q1, q2, q3⟩ (fun k hk _ => ALLC.out.2.1.block k hk)) (fun hS => ?_)
        clear hK K
        try simp only [Act.put, List.setIfInBounds_toArray, List.set_cons_zero, List.set_cons_succ]
        refine wpAnyH_ready (rs := [11]) (by kernel_rfl) (by simp) ?_
        refine AllReadyH.cons (o := { dst := some 25, op := Op.call { callee := Callee.value (Operand.func 14), args := #[Operand.tmp 24, Operand.const (Value.int IntKind.i64 2)], argTypes := #[33, 3] }, type := 3, pos := "l2_running.go:289", after := #[{ on := 10, ground := Ground.data }, { on := 5, ground := Ground.chain }], guard := none }) rfl (fun K hK => ?_) AllReadyH.nil
        go_simp
        refine (pick_to 2 (P4.out.rdr.later ALLC.out.2.1.block) (by omega) (by omega)).mono ?_
        rintro e w5 ⟨t, rfl, ht, hr5, hg5⟩
        have hwr : IntKind.i64.wrap (st + (t : Int)) = st + (t : Int) := by rw [IntKind.wrap_i64]; omega
        try dsimp only
        refine hK.out _ _ (four_later hS (fun k hk he => hg5.block k hk (by intro e; injection e; omega))) (fun hS => ?_)
        clear hK K
        try simp only [Act.put, List.setIfInBounds_toArray, List.set_cons_zero, List.set_cons_succ]
        refine wpAnyH_take (i := 12) (oi := { dst := some 26, op := Op.binOp BinOp.add 3 (Operand.tmp 23) (Operand.tmp 25) 3, type := 3, pos := "l2_running.go:289", after := #[{ on := 9, ground := Ground.data }, { on := 11, ground := Ground.data }], guard := none }) (v := ?_) rfl (by kernel_rfl) (by kernel_rfl) (by kernel_rfl) (fun _ _ _ h => h) (Or.inl ⟨by kernel_rfl, ?_⟩) (by assumption) ?_
        rotate_left
        · intro w hSw; clear hSw; go_simp; with_reducible rfl
        try simp only [Act.put, List.setIfInBounds_toArray, List.set_cons_zero, List.set_cons_succ]
        refine wpAnyH_take (i := 13) (oi := { dst := some 27, op := Op.build 25 #[(0, Operand.tmp 15), (1, Operand.tmp 19), (2, Operand.tmp 21), (3, Operand.tmp 26)], type := 25, pos := "l2_running.go:289", after := #[{ on := 1, ground := Ground.data }, { on := 5, ground := Ground.data }, { on := 7, ground := Ground.data }, { on := 12, ground := Ground.data }], guard := none }) (v := ?_) rfl (by kernel_rfl) (by kernel_rfl) (by kernel_rfl) (fun _ _ _ h => h) (Or.inl ⟨by kernel_rfl, ?_⟩) (by assumption) ?_
        rotate_left
        · intro w hSw; clear hSw; go_simp; with_reducible rfl
        try simp only [Act.put, List.setIfInBounds_toArray, List.set_cons_zero, List.set_cons_succ]
        have hs5 := hg5.size
        have F5 := P4.out.later hr5 (grownBy_trans (grown_of_below ALLC.out.2.1) hg5)
        have R6 := ALLC.out.1.keep (hg5.block _ ALLC.out.1.lt.2 (by intro e; injection e; have := ALLC.out.1.lt; omega))
        have O6 : w5.heap[(w4.heap.size + 1)]? = some (.cells #[.int .i64 0, .slice none 0 0, .string ⟨#[]⟩, .int .i64 0] 25 (0, 0)) := (hg5.block _ (by have := hszC; omega) (by intro e; injection e; omega)).trans ((ALLC.out.2.2.1.block _ (by have := HDz.out; omega) (by have := HDz.out; intro e; injection e; omega)).trans (by have := heap_alloc_new (w4.drew.alloc (Obj.cells #[] 3)) zeroO; rw [alloc_size'] at this; exact this))
        have BT := Lib.hid (bt_store F5 (Nat.le_succ _) hobL hrowL haL O6 R6 (by have h0 := ALLC.out.2.2.2; have := HDz.out; omega) (st + (t : Int)))
        obtain ⟨b0, b1, b2, b3, e0, e1, e2, e3⟩ := cells_of O6
        clear F5 R6 O6
        refine wpAnyH_ready (rs := [15]) (by kernel_rfl) (by simp) ?_
        refine AllReadyH.cons (o := { dst := none, op := Op.store 25 (Operand.tmp 6) (Operand.tmp 27), type := 0, pos := "l2_running.go:289", after := #[{ on := 14, ground := Ground.data }, { on := 13, ground := Ground.data }, { on := 11, ground := Ground.chain }, { on := 0, ground := Ground.phase }, { on := 1, ground := Ground.phase }, { on := 2, ground := Ground.phase }, { on := 3, ground := Ground.phase }, { on := 4, ground := Ground.phase }, { on := 5, ground := Ground.phase }, { on := 6, ground := Ground.phase }, { on := 7, ground := Ground.phase }, { on := 8, ground := Ground.phase }, { on := 9, ground := Ground.phase }, { on := 10, ground := Ground.phase }, { on := 11, ground := Ground.phase }, { on := 12, ground := Ground.phase }, { on := 13, ground := Ground.phase }, { on := 14, ground := Ground.phase }], guard := none }) rfl (fun K hK => ?_) AllReadyH.nil
        go_simp
        refine hK.out _ _ BT.out.first.read (fun hS => ?_)
        clear hK K
        try simp only [Act.put, List.setIfInBounds_toArray, List.set_cons_zero, List.set_cons_succ]
        refine wpAnyH_done (by kernel_rfl) ?_ _
        exact HT.out _ _ _ _ t _ _ _ _ _ _ _ _ _ _ _ _ _ _ (by omega) BT.out
    · skip
      go_simp
      refine hK.out _ _ (four_later hS (fun k hk _ => alloc_heap _ k hk)) (fun hS => ?_)
      clear hK K
      try simp only [Act.put, List.setIfInBounds_toArray, List.set_cons_zero, List.set_cons_succ]
      refine wpAnyH_ready (rs := [2]) (by kernel_rfl) (by simp) ?_
      refine AllReadyH.cons (o := { dst := some 16, op := Op.buildSlice 23 0 #[], type := 23, pos := "l2_running.go:289", after := #[], guard := none }) rfl (fun K hK => ?_) AllReadyH.nil
      go_simp
      refine hK.out _ _ (four_later hS (fun k hk _ => alloc_heap _ k hk)) (fun hS => ?_)
      clear hK K
      try simp only [Act.put, List.setIfInBounds_toArray, List.set_cons_zero, List.set_cons_succ]
      refine wpAnyH_ready (rs := [5]) (by kernel_rfl) (by simp) ?_
      refine AllReadyH.cons (o := { dst := some 19, op := Op.call { callee := Callee.builtin Builtin.append, args := #[Operand.tmp 16, Operand.tmp 18], argTypes := #[23, 23] }, type := 23, pos := "l2_running.go:289", after := #[{ on := 2, ground := Ground.data }, { on := 4, ground := Ground.data }], guard := none }) rfl (fun K hK => ?_) AllReadyH.nil
      refine step_app_run rfl (.tmp 16) (.tmp 18) 23 23 rfl _ _ rfl rfl _ _ RUNB.out ?_
      refine hK.out _ _ (four_later (w := w4) ⟨q0, q1, q2, q3⟩ (fun k hk _ => ALLB.out.2.1.block k hk)) (fun hS => ?_)
      clear hK K
      try simp only [Act.put, List.setIfInBounds_toArray, List.set_cons_zero, List.set_cons_succ]
      refine wpAnyH_ready (rs := [11]) (by kernel_rfl) (by simp) ?_
      refine AllReadyH.cons (o := { dst := some 25, op := Op.call { callee := Callee.value (Operand.func 14), args := #[Operand.tmp 24, Operand.const (Value.int IntKind.i64 2)], argTypes := #[33, 3] }, type := 3, pos := "l2_running.go:289", after := #[{ on := 10, ground := Ground.data }, { on := 5, ground := Ground.chain }], guard := none }) rfl (fun K hK => ?_) AllReadyH.nil
      go_simp
      refine (pick_to 2 (P4.out.rdr.later ALLB.out.2.1.block) (by omega) (by omega)).mono ?_
      rintro e w5 ⟨t, rfl, ht, hr5, hg5⟩
      have hwr : IntKind.i64.wrap (st + (t : Int)) = st + (t : Int) := by rw [IntKind.wrap_i64]; omega
      try dsimp only
      refine hK.out _ _ (four_later hS (fun k hk he => hg5.block k hk (by intro e; injection e; omega))) (fun hS => ?_)
      clear hK K
      try simp only [Act.put, List.setIfInBounds_toArray, List.set_cons_zero, List.set_cons_succ]
      refine wpAnyH_take (i := 12) (oi := { dst := some 26, op := Op.binOp BinOp.add 3 (Operand.tmp 23) (Operand.tmp 25) 3, type := 3, pos := "l2_running.go:289", after := #[{ on := 9, ground := Ground.data }, { on := 11, ground := Ground.data }], guard := none }) (v := ?_) rfl (by kernel_rfl) (by kernel_rfl) (by kernel_rfl) (fun _ _ _ h => h) (Or.inl ⟨by kernel_rfl, ?_⟩) (by assumption) ?_
      rotate_left
      · intro w hSw; clear hSw; go_simp; with_reducible rfl
      try simp only [Act.put, List.setIfInBounds_toArray, List.set_cons_zero, List.set_cons_succ]
      refine wpAnyH_take (i := 13) (oi := { dst := some 27, op := Op.build 25 #[(0, Operand.tmp 15), (1, Operand.tmp 19), (2, Operand.tmp 21), (3, Operand.tmp 26)], type := 25, pos := "l2_running.go:289", after := #[{ on := 1, ground := Ground.data }, { on := 5, ground := Ground.data }, { on := 7, ground := Ground.data }, { on := 12, ground := Ground.data }], guard := none }) (v := ?_) rfl (by kernel_rfl) (by kernel_rfl) (by kernel_rfl) (fun _ _ _ h => h) (Or.inl ⟨by kernel_rfl, ?_⟩) (by assumption) ?_
      rotate_left
      · intro w hSw; clear hSw; go_simp; with_reducible rfl
      try simp only [Act.put, List.setIfInBounds_toArray, List.set_cons_zero, List.set_cons_succ]
      have hs5 := hg5.size
      have F5 := P4.out.later hr5 (grownBy_trans (grown_of_below ALLB.out.2.1) hg5)
      have R6 := ALLB.out.1.keep (hg5.block _ ALLB.out.1.lt.2 (by intro e; injection e; have := ALLB.out.1.lt; omega))
      have O6 : w5.heap[w4.heap.size]? = some (.cells #[.int .i64 0, .slice none 0 0, .string ⟨#[]⟩, .int .i64 0] 25 (0, 0)) := (hg5.block _ (by have := hs4; have := ALLB.out.2.1.size; have := hszB; omega) (by intro e; injection e; omega)).trans ((ALLB.out.2.2.1.block _ (by have := HDz.out; omega) (by have := HDz.out; intro e; injection e; omega)).trans ((alloc_heap _ _ (by have := HDz.out; omega)).trans (heap_alloc_new w4.drew _)))
      have BT := Lib.hid (bt_store F5 (Nat.le_refl _) hobL hrowL haL O6 R6 (by have h0 := ALLB.out.2.2.2; have := HDz.out; omega) (st + (t : Int)))
      obtain ⟨b0, b1, b2, b3, e0, e1, e2, e3⟩ := cells_of O6
      clear F5 R6 O6
      refine wpAnyH_ready (rs := [15]) (by kernel_rfl) (by simp) ?_
      refine AllReadyH.cons (o := { dst := none, op := Op.store 25 (Operand.tmp 6) (Operand.tmp 27), type := 0, pos := "l2_running.go:289", after := #[{ on := 14, ground := Ground.data }, { on := 13, ground := Ground.data }, { on := 11, ground := Ground.chain }, { on := 0, ground := Ground.phase }, { on := 1, ground := Ground.phase }, { on := 2, ground := Ground.phase }, { on := 3, ground := Ground.phase }, { on := 4, ground := Ground.phase }, { on := 5, ground := Ground.phase }, { on := 6, ground := Ground.phase }, { on := 7, ground := Ground.phase }, { on := 8, ground := Ground.phase }, { on := 9, ground := Ground.phase }, { on := 10, ground := Ground.phase }, { on := 11, ground := Ground.phase }, { on := 12, ground := Ground.phase }, { on := 13, ground := Ground.phase }, { on := 14, ground := Ground.phase }], guard := none }) rfl (fun K hK => ?_) AllReadyH.nil
      go_simp
      refine hK.out _ _ BT.out.first.read (fun hS => ?_)
      clear hK K
      try simp only [Act.put, List.setIfInBounds_toArray, List.set_cons_zero, List.set_cons_succ]
      refine wpAnyH_done (by kernel_rfl) ?_ _
      exact HT.out _ _ _ _ t _ _ _ _ _ _ _ _ _ _ _ _ _ _ (by omega) BT.out
  · have hub : ((u : Int) == 0) = false := by rw [beq_eq_false_iff_ne]; omega
    clear hu0
    have P4d := Lib.hid (P4.out.later (q' := q + 1) (w' := w4.drew) (P4.out.rdr.later (fun _ _ => rfl)) ⟨rfl, rfl, rfl, Nat.le_refl _, fun _ _ _ => rfl⟩)
    have hq4 : q + 1 ≤ 3002 := by omega
    go_wp2_with fail
    go_region_with ((first
      | (go_at_call 13; refine (l2out_any _ rb a m c (q + 1) P4d.out.rdr (by omega)).mono ?_
         rintro e w5 ⟨v', oa', oc', zs', en', st', q', rfl, hO5, _, _, hq5, hr5, hg5⟩
         have P5 := Lib.hid (P4d.out.later hr5 hg5)
         have O5 := Lib.hid hO5
         clear hO5 hr5 hg5
         obtain ⟨q0', q1', q2', q3'⟩ := P5.out.read
         obtain ⟨⟨x0, x1, x2, x3, c0, c1, c2, c3, z0, z1, z2, z3⟩, ⟨y0, y1, y2, y3, d0, d1, d2, d3, f0, f1, f2, f3⟩⟩ := P5.out.resc
         unfold oV)))
    all_goals
      obtain ⟨wf, hwf, k0, k1, k2, k3, k4, k5, k6, k7, O1, O2, hB⟩ := P5.out.fin O5.out (by have := P4.out.lo; have := heap_lt P4.out.rdr.own; show _ ≤ w4.heap.size; omega) (.int .i64 v) (.slice oa zs.length oc) (.string en) (.int .i64 st) (.int .i64 v') (.slice oa' zs'.length oc') (.string en') (.int .i64 st')
      unfold put4 at hwf
      rw [hwf]
      clear hwf x0 x1 x2 x3 y0 y1 y2 y3 c0 c1 c2 c3 d0 d1 d2 d3
      go_wp2_with fail
      refine bodyPost_ret (v := .tuple #[oV v oa zs.length oc en st, oV v' oa' zs'.length oc' en' st']) ?_ rfl ?_
      · simp [results, Tryd.results5, go_sem, k0, k1, k2, k3, k4, k5, k6, k7, oV]
      · exact ⟨_, _, _, _, _, _, _, _, _, _, _, _, rfl, O1, O2, hB⟩
end Go.Proofs.YthhlbcllhohcnaaDoor
