/- RunProgram of the program and of the model. Conditions: texts of at most 2^30 bytes, and the library's own number can be read. How much a run holds; rows that stay. Plain lemmas. The model's DrawIsPartOf: two lists of at most nine numbers, in blocks of their own. No condition but that the bytes can be read. Lists of numbers put behind lists of numbers of one's own. Condition: at most 2000 numbers together. The model's l2Outcome: the outcome of a drawn run, its value at times one more. Conditions: counts up to 50000. -/
import Derived.Test.YthhlbcllhohcnaaDoorRx
import Derived.Test.YthhlbcllhohcnaaDoorMx
import Derived.Test.YthhlbcllhohcnaaDoorEx
import Derived.Test.YthhlbcllhohcnaaDoorInts
import Derived.Test.YthhlbcllhohcnaaDoorDx
import Derived.Deep.AppendLies
import Derived.Deep.Upon
import Derived.Lib.AppendZeros
import Derived.Test.YthhlbcllhohcnaaDoorJx
namespace Go.Proofs.YthhlbcllhohcnaaDoor
open Go.RowKit Gram

/-- the outcome of a run, if there is one -/
def outP (o : Option (Mst × Option Fin)) : Int × List Int × ByteArray × Int := match o with
  | some r => (r.1.val, r.1.out, txtOf (Fin.word r.2), (r.1.steps : Int))
  | none => (0, [], ⟨#[]⟩, 0)
/-- what RunProgram hands back -/
def OutTo (o : Option (Mst × Option Fin)) (w : World) (e : Ending) (w' : World) : Prop :=
  (∃ a c, e = .returned (.tuple #[oV (outP o).1 a (outP o).2.1.length c (outP o).2.2.1 (outP o).2.2.2, .bool o.isSome]) ∧ w'.ownsRow w.heap.size 3 1 (.slice a (outP o).2.1.length c) (outP o).2.1.length (intVs (outP o).2.1)) ∧ Below w.heap.size w w'
theorem outTo_none {w w' : World} (hb : Below w.heap.size w w') : OutTo none w (.returned (.tuple #[oV 0 none 0 0 ⟨#[]⟩ 0, .bool false])) w' := ⟨⟨none, 0, rfl, World.ownsRow_nil _ _ _ _⟩, hb⟩

/-- an outcome in a block of its own -/
structure OAt (w : World) (g : Nat) (v : Int) (o : Value) (e : ByteArray) (st : Int) : Prop where
  own : w.heap[g]? = some (Obj.cells #[.int .i64 v, o, .string e, .int .i64 st] 25 (0, 0))
theorem OAt.read {w : World} {g : Nat} {v : Int} {o : Value} {e : ByteArray} {st : Int} (h : OAt w g v o e st) : w.cell? ⟨g, 0, none⟩ = some (.int .i64 v) ∧ w.cell? ⟨g, 1, none⟩ = some o ∧ w.cell? ⟨g, 2, none⟩ = some (.string e) ∧ w.cell? ⟨g, 3, none⟩ = some (.int .i64 st) ∧
    w.frozen? ⟨g, 0, none⟩ = false ∧ w.frozen? ⟨g, 1, none⟩ = false ∧ w.frozen? ⟨g, 2, none⟩ = false ∧ w.frozen? ⟨g, 3, none⟩ = false :=
  ⟨Lib.cell_of_heap h.own 0, Lib.cell_of_heap h.own 1, Lib.cell_of_heap h.own 2, Lib.cell_of_heap h.own 3, Lib.frozen_of_heap h.own 0, Lib.frozen_of_heap h.own 1, Lib.frozen_of_heap h.own 2, Lib.frozen_of_heap h.own 3⟩
/-- its four cells put anew -/
abbrev oPut (w : World) (g : Nat) (v : Int) (o : Value) (e : ByteArray) (st : Int) : World := (((w.setCell ⟨g, 0, none⟩ (.int .i64 v)).setCell ⟨g, 1, none⟩ o).setCell ⟨g, 2, none⟩ (.string e)).setCell ⟨g, 3, none⟩ (.int .i64 st)
theorem OAt.put {w : World} {g : Nat} {v : Int} {o : Value} {e : ByteArray} {st : Int} (h : OAt w g v o e st) (v' : Int) (o' : Value) (e' : ByteArray) (st' : Int) : OAt (oPut w g v' o' e' st') g v' o' e' st' :=
  ⟨by unfold oPut; rw [heap_set_same (heap_set_same (heap_set_same (heap_set_same h.own _) _) _) _]; rfl⟩
theorem OAt.later {w w' : World} {g : Nat} {v : Int} {o : Value} {e : ByteArray} {st : Int} (h : OAt w g v o e st) (hb : Below w.heap.size w w') : OAt w' g v o e st := ⟨by rw [hb.block g (heap_lt h.own)]; exact h.own⟩
theorem oPut_below {w w1 : World} (hb : Below w.heap.size w w1) (v : Int) (o : Value) (e : ByteArray) (st : Int) : Below w.heap.size w (oPut w1 w.heap.size v o e st) :=
  (((hb.setCell (p := ⟨w.heap.size, 0, none⟩) (Nat.le_refl _) _).setCell (p := ⟨w.heap.size, 1, none⟩) (Nat.le_refl _) _).setCell (p := ⟨w.heap.size, 2, none⟩) (Nat.le_refl _) _).setCell (p := ⟨w.heap.size, 3, none⟩) (Nat.le_refl _) _
theorem oPut_other {w : World} {g j : Nat} (hj : j ≠ g) (v : Int) (o : Value) (e : ByteArray) (st : Int) : (oPut w g v o e st).heap[j]? = w.heap[j]? := by
  unfold oPut
  rw [heap_set_other hj, heap_set_other hj, heap_set_other hj, heap_set_other hj]

set_option maxHeartbeats 1000000 in
set_option maxRecDepth 100000 in
theorem spec_run (s nm : ByteArray) (v : Int) (w : World) (hs : s.size ≤ 1073741824) :
    Calls Tryd.prog 23 #[.string s, .string nm, .int .i64 v] w (OutTo (runP s nm v) w) := by
  have hba : Below w.heap.size w ((w.alloc (Obj.cells #[.int .i64 0, .slice none 0 0, .string ⟨#[]⟩, .int .i64 0] 25)).alloc (Obj.cells #[] 138)) := ((Below.refl _ _).alloc (Nat.le_refl _) _).alloc (by rw [alloc_size']; omega) _
  have HF := Lib.hid (start_any s nm v (some ⟨w.heap.size + 1, 0, none⟩) 0 ((w.alloc (Obj.cells #[.int .i64 0, .slice none 0 0, .string ⟨#[]⟩, .int .i64 0] 25)).alloc (Obj.cells #[] 138)) hs)
  have HA := Lib.hid (⟨(Lib.alloc_old _ _ _ (by rw [alloc_size']; omega)).trans (heap_alloc_new w _)⟩ : OAt ((w.alloc (Obj.cells #[.int .i64 0, .slice none 0 0, .string ⟨#[]⟩, .int .i64 0] 25)).alloc (Obj.cells #[] 138)) w.heap.size 0 (.slice none 0 0) ⟨#[]⟩ 0)
  have HZ := Lib.hid (show ((w.alloc (Obj.cells #[.int .i64 0, .slice none 0 0, .string ⟨#[]⟩, .int .i64 0] 25)).alloc (Obj.cells #[] 138)).heap.size = w.heap.size + 1 + 1 by rw [alloc_size', alloc_size'])
  have HB := Lib.hid hba
  clear hs hba
  cases hr : runP s nm v with
  | none =>
    go_enter Tryd.func23, Tryd.ntmps23
    go_wp2_with fail
    refine HF.out.mono ?_
    rintro e w1 ⟨hx, hb⟩
    rw [hr] at hx
    obtain ⟨rb, rfl⟩ := hx
    have H1 := Lib.hid (⟨HB.out.trans (hb.mono HB.out.size), HA.out.later hb⟩ : _ ∧ _)
    obtain ⟨_, _, _, _, f0, f1, f2, f3⟩ := H1.out.2.read
    clear hb hr
    go_wp2_with fail
    obtain ⟨r0, r1, r2, r3, _⟩ := (H1.out.2.put 0 (.slice none 0 0) ⟨#[]⟩ 0).read
    unfold oPut at r0 r1 r2 r3
    refine bodyPost_ret (v := .tuple #[oV 0 none 0 0 ⟨#[]⟩ 0, .bool false]) ?_ rfl (outTo_none (oPut_below H1.out.1 0 (.slice none 0 0) ⟨#[]⟩ 0))
    simp [results, Tryd.results23, go_sem, r0, r1, r2, r3, oV]
  | some r =>
    go_enter Tryd.func23, Tryd.ntmps23
    go_wp2_with fail
    refine HF.out.mono ?_
    rintro e w1 ⟨hx, hb⟩
    rw [hr] at hx
    obtain ⟨B, rb, pv, av, cv, oa, ja, oc, jc, rfl, hB, hD⟩ := hx
    have H1 := Lib.hid (⟨HB.out.trans (hb.mono HB.out.size), HA.out.later hb⟩ : _ ∧ _)
    obtain ⟨_, _, _, _, f0, f1, f2, f3⟩ := H1.out.2.read
    have HD := Lib.hid (⟨hD, hB⟩ : _ ∧ _)
    have c0 : w1.cell? ⟨rb, 0, none⟩ = some (.int .i64 r.1.val) := hD.cell 0
    have c1 : w1.cell? ⟨rb, 1, none⟩ = some (.slice oa r.1.out.length oc) := hD.cell 1
    have c2 : w1.cell? ⟨rb, 2, none⟩ = some (.string (txtOf (Fin.word r.2))) := hD.cell 2
    have c3 : w1.cell? ⟨rb, 3, none⟩ = some (.int .i64 r.1.steps) := hD.cell 3
    clear hb hr hB hD
    go_wp2_with fail
    obtain ⟨r0, r1, r2, r3, _⟩ := (H1.out.2.put r.1.val (.slice oa r.1.out.length oc) (txtOf (Fin.word r.2)) r.1.steps).read
    unfold oPut at r0 r1 r2 r3
    refine bodyPost_ret (v := .tuple #[oV r.1.val oa r.1.out.length oc (txtOf (Fin.word r.2)) r.1.steps, .bool true]) ?_ rfl ?_
    · simp [results, Tryd.results23, go_sem, r0, r1, r2, r3, oV]
    · refine ⟨⟨oa, oc, rfl, ?_⟩, oPut_below H1.out.1 r.1.val (.slice oa r.1.out.length oc) (txtOf (Fin.word r.2)) r.1.steps⟩
      have hz := HD.out.2
      rw [HZ.out] at hz
      have hge : ∀ g, Value.ownBlock (.slice oa r.1.out.length oc) = some g → w.heap.size + 1 ≤ g := fun g hg => by have := (row_block HD.out.1.out hg).1; omega
      exact ownsRow_base (ownsRow_of HD.out.1.out fun g hg => oPut_other (by have := hge g hg; omega) _ _ _ _) (fun g hg => by have := hge g hg; omega)
end Go.Proofs.YthhlbcllhohcnaaDoor
namespace Go.Proofs.YthhlbcllhohcnaaDoor
open Go.RowKit Gram

/-- a row that lies lower than a block that has grown -/
theorem row_under {w w' : World} {B : Nat} {row : Option Nat} {e : TypeId} {sz n : Nat} {v : Value} {xs : List Value} (h : w.ownsRow B e sz v n xs) (hg : w.grownBy w' row) (hne : ∀ j, v.ownBlock = some j → row ≠ some j) : w'.ownsRow B e sz v n xs :=
  ownsRow_of h (fun j hj => hg.block j (h.lt j hj).2 (fun he => hne j hj he.symm))
theorem row_up {w w' : World} {B : Nat} {e : TypeId} {sz n : Nat} {v : Value} {xs : List Value} (h : w.ownsRow B e sz v n xs) (hb : Below w.heap.size w w') : w'.ownsRow B e sz v n xs :=
  ownsRow_of h (fun j hj => hb.block j (h.lt j hj).2)

/-- how much a run holds -/
theorem runP_small {s nm : ByteArray} {v : Int} {r : Mst × Option Fin} (h : runP s nm v = some r) : r.1.out.length ≤ 500 ∧ r.1.pts.length ≤ 501 := by
  unfold runP at h
  cases hp : progOf s with
  | none => rw [hp] at h; cases h
  | some ps =>
    cases hl : lookP s nm with
    | none => rw [hp, hl] at h; cases h
    | some p =>
      rw [hp, hl] at h
      dsimp only at h
      split at h
      · rename_i hv
        injection h with h
        have hlet : isLet p.1 = true := ((prog_facts hp).2.1 p (look_mem hp hl).1).2.2.2
        have hB : ∀ c, wfs (bodyP ps c) = true := fun c => by
          unfold bodyP
          split
          · rename_i q hq
            exact (fits_ps hp q (List.mem_of_find?_eq_some hq)).1
          · rfl
        have hk := exec_keeps hB 501 ((Mst.start v).enter p.1) (bodyP ps p.1) (start_ok hv.1 hv.2 hlet) (hB p.1)
        unfold runOf callBy at h
        cases hr : exec (bodyP ps) 501 ((Mst.start v).enter p.1) (bodyP ps p.1) with
        | mk m' o =>
          rw [hr] at h hk
          have h1 := hk.1.out
          have h2 := hk.1.steps
          have h3 := hk.1.pts
          cases o with
          | none => subst h; exact ⟨by show m'.out.length ≤ 500; dsimp only at h1 h2; omega, by show m'.pts.length ≤ 501; dsimp only at h3 h2; omega⟩
          | some f => subst h; exact ⟨by show m'.out.length ≤ 500; dsimp only at h1 h2; omega, by show m'.pts.length ≤ 501; dsimp only at h3 h2; omega⟩
      · cases h
end Go.Proofs.YthhlbcllhohcnaaDoor
namespace Go.Proofs.YthhlbcllhohcnaaDoor
open Go.RowKit

theorem Rdr.keepB {w w' : World} {rb : Nat} {a : Option Addr} {n c p : Nat} {B : Nat} (h : Rdr w rb a n c p) (hB : rb < B) (hg : 0 < n → ∀ g off, a = some ⟨g, off, none⟩ → g < B) (hk : ∀ k, k < B → w'.heap[k]? = w.heap[k]?) : Rdr w' rb a n c p := by
  refine ⟨by rw [hk rb hB]; exact h.own, fun k hk' => ?_, h.off, h.small⟩
  obtain ⟨g, off, ha, b, hc⟩ := h.bytes k hk'
  exact ⟨g, off, ha, b, by rw [← hc]; exact World.cell?_of_block (a := ⟨g, off + k, none⟩) (hk g (hg (by omega) g off ha))⟩

/-- numbers in a block of their own, from B on -/
def Irow (w : World) (B g c : Nat) (zs : List Int) : Prop := w.ownsRow B 3 1 (.slice (some ⟨g, 0, none⟩) zs.length c) zs.length (intVs zs)
theorem Irow.lt {w : World} {B g c : Nat} {zs : List Int} (h : Irow w B g c zs) : B ≤ g ∧ g < w.heap.size := World.ownsRow.lt h g rfl
theorem Irow.room {w : World} {B g c : Nat} {zs : List Int} (h : Irow w B g c zs) : zs.length ≤ c ∧ c ≤ maxLen := by
  rcases h.2 with ⟨hv, _⟩ | ⟨g', cap, cur, hv, _, _, h1, h2, _⟩
  · cases hv
  · injection hv with _ _ hc; subst hc; exact ⟨h1, h2⟩
theorem Irow.ints {w : World} {B g c : Nat} {zs : List Int} (h : Irow w B g c zs) : Ints w (some ⟨g, 0, none⟩) zs.length zs :=
  ⟨rfl, fun i hi => ⟨g, 0, rfl, by
    have := World.ownsRow.cellAt h i (by omega)
    rw [Nat.zero_add, this]
    simp [intVs, hi]⟩⟩
theorem Irow.keep {w w' : World} {B g c : Nat} {zs : List Int} (h : Irow w B g c zs) (hk : w'.heap[g]? = w.heap[g]?) : Irow w' B g c zs := by
  refine ⟨h.1, ?_⟩
  rcases h.2 with h1 | ⟨g', cap, cur, hv, h1, h2, h3⟩
  · exact .inl h1
  · refine .inr ⟨g', cap, cur, hv, h1, ?_, h3⟩
    injection hv with hv _ _; injection hv with hv; injection hv with hv _ _; subst hv
    rw [hk]; exact h2
theorem Irow.made (w : World) (B : Nat) (hB : B ≤ w.heap.size) : Irow (w.alloc (Obj.cells #[] 3)) B w.heap.size 0 [] :=
  ⟨by simp [intVs], .inr ⟨w.heap.size, 0, #[], rfl, hB, heap_alloc_new w _, Nat.le_refl _, by simp [maxLen], by simp, by simp [intVs]⟩⟩
theorem intVs_snoc (zs : List Int) (x : Int) : intVs (zs ++ [x]) = intVs zs ++ [.int .i64 x] := by simp [intVs]

theorem irow_mono {w : World} {B B' g c : Nat} {zs : List Int} (h : Irow w B g c zs) (hb : B' ≤ B) : Irow w B' g c zs := by
  refine ⟨h.1, ?_⟩
  rcases h.2 with h1 | ⟨g', cap, cur, hv, h1, h2⟩
  · exact .inl h1
  · exact .inr ⟨g', cap, cur, hv, Nat.le_trans hb h1, h2⟩

/-- how a run of the draw may go on: the source, two rows -/
structure Two (w : World) (S : Nat) (a : Option Addr) (n c : Nat) (wr : World) (rb q ga gb ca cb : Nat) (zs ws : List Int) : Prop where
  rdr : Rdr wr rb a n c q
  ra : Irow wr S ga ca zs
  rB : Irow wr S gb cb ws
  ne : ga ≠ gb
  at_ : w.heap.size ≤ rb
  lo : rb < S
  low : 0 < n → ∀ g off, a = some ⟨g, off, none⟩ → g < S
  bel : Below w.heap.size w wr

theorem Two.picked {w wr w' : World} {S : Nat} {a : Option Addr} {n c rb q ga gb ca cb : Nat} {zs ws : List Int} (h : Two w S a n c wr rb q ga gb ca cb zs ws) (hr : Rdr w' rb a n c (q + 1)) (hg : wr.grownBy w' (some rb)) :
    Two w S a n c w' rb (q + 1) ga gb ca cb zs ws := by
  have e := h.at_
  have el := h.lo
  have la := h.ra.lt
  have lb := h.rB.lt
  exact ⟨hr, h.ra.keep (hg.block ga la.2 (fun e' => by injection e' with e'; omega)), h.rB.keep (hg.block gb lb.2 (fun e' => by injection e' with e'; omega)), h.ne, e, h.lo, h.low,
    h.bel.grown hg h.bel.size (fun k hk => by simp at hk; omega)⟩
/-- the second row is longer now -/
theorem Two.moreB {w wr w' : World} {S : Nat} {a : Option Addr} {n c rb q ga gb ca cb : Nat} {zs ws : List Int} {x : Int} {o : Obj} {g' cap' : Nat} (h : Two w S a n c wr rb q ga gb ca cb zs ws)
    (ho : w'.ownsRow S 3 1 (.slice (some ⟨g', 0, none⟩) (ws.length + 1) cap') (ws.length + 1) (intVs ws ++ [.int .i64 x]))
    (hg : (wr.alloc o).grownBy w' (some gb)) (hw : some gb = some g' ∨ g' = wr.heap.size + 1) : Two w S a n c w' rb q ga g' ca cap' zs (ws ++ [x]) := by
  have e := h.at_
  have el := h.lo
  have la := h.ra.lt
  have lb := h.rB.lt
  have hne := h.ne
  have hold : ∀ k, k < wr.heap.size → k ≠ gb → w'.heap[k]? = wr.heap[k]? := fun k hk hk' =>
    (hg.block k (by rw [alloc_size']; omega) (fun e' => by injection e' with e'; omega)).trans (alloc_heap o k hk)
  have hbel : Below w.heap.size w w' := (h.bel.alloc h.bel.size _).grown hg (by rw [alloc_size']; have := h.bel.size; omega) (fun k hk => by injection hk with hk; omega)
  refine ⟨h.rdr.keepB (B := S) h.lo h.low (fun k hk => hold k (by omega) (by omega)), h.ra.keep (hold ga la.2 hne), ?_, ?_, e, h.lo, h.low, hbel⟩
  · show World.ownsRow _ _ _ _ _ _ _
    rw [intVs_snoc, List.length_append]; exact ho
  · rcases hw with hw | hw
    · injection hw with hw; omega
    · omega
theorem Two.moreA {w wr w' : World} {S : Nat} {a : Option Addr} {n c rb q ga gb ca cb : Nat} {zs ws : List Int} {x : Int} {o : Obj} {g' cap' : Nat} (h : Two w S a n c wr rb q ga gb ca cb zs ws)
    (ho : w'.ownsRow S 3 1 (.slice (some ⟨g', 0, none⟩) (zs.length + 1) cap') (zs.length + 1) (intVs zs ++ [.int .i64 x]))
    (hg : (wr.alloc o).grownBy w' (some ga)) (hw : some ga = some g' ∨ g' = wr.heap.size + 1) : Two w S a n c w' rb q g' gb cap' cb (zs ++ [x]) ws := by
  have e := h.at_
  have el := h.lo
  have la := h.ra.lt
  have lb := h.rB.lt
  have hne := h.ne
  have hold : ∀ k, k < wr.heap.size → k ≠ ga → w'.heap[k]? = wr.heap[k]? := fun k hk hk' =>
    (hg.block k (by rw [alloc_size']; omega) (fun e' => by injection e' with e'; omega)).trans (alloc_heap o k hk)
  have hbel : Below w.heap.size w w' := (h.bel.alloc h.bel.size _).grown hg (by rw [alloc_size']; have := h.bel.size; omega) (fun k hk => by injection hk with hk; omega)
  refine ⟨h.rdr.keepB (B := S) h.lo h.low (fun k hk => hold k (by omega) (by omega)), ?_, h.rB.keep (hold gb lb.2 hne.symm), ?_, e, h.lo, h.low, hbel⟩
  · show World.ownsRow _ _ _ _ _ _ _
    rw [intVs_snoc, List.length_append]; exact ho
  · rcases hw with hw | hw
    · injection hw with hw; omega
    · omega

/-- what the draw hands back -/
def DrewTwo (w : World) (e : Ending) (w' : World) : Prop := ∃ (ga gb ca cb : Nat) (zs ws : List Int), e = .returned (.tuple #[.slice (some ⟨ga, 0, none⟩) zs.length ca, .slice (some ⟨gb, 0, none⟩) ws.length cb]) ∧
  Irow w' w.heap.size ga ca zs ∧ Irow w' w.heap.size gb cb ws ∧ ws.length ≤ 8 ∧ zs.length ≤ 9 ∧ Below w.heap.size w w'

end Go.Proofs.YthhlbcllhohcnaaDoor
namespace Go.Proofs.YthhlbcllhohcnaaDoor
open Go.RowKit

theorem Ints.nil_of {w : World} {a : Option Addr} {zs : List Int} (h : Ints w a 0 zs) : zs = [] := List.length_eq_zero_iff.1 h.len

set_option maxRecDepth 100000 in
/-- numbers put behind a row of numbers -/
theorem more_ints (w : World) (B g c : Nat) (zs : List Int) (hR : Irow w B g c zs) (a : Option Addr) (m d : Nat) (ws : List Int) (hI : Ints w a m ws) (hmax : zs.length + m ≤ 2000) (hB : B ≤ w.heap.size) :
    ∃ g' c' w', (Builtin.append_ #[23, 23] 23 #[.slice (some ⟨g, 0, none⟩) zs.length c, .slice a m d]).run Tryd.prog w = .ok (.slice (some ⟨g', 0, none⟩) (zs.length + m) c') w' ∧
      Irow w' B g' c' (zs ++ ws) ∧ w.grownBy w' (some g) ∧ (g' = g ∨ g' = w.heap.size) := by
  obtain ⟨i0, hi, hz0, hz1, hz2⟩ := info_parts info_int
  by_cases h0 : m = 0
  · subst h0
    have hws := hI.nil_of
    subst hws
    have hsrc : Src Tryd.prog i0.size 23 (.slice a 0 d) 0 [] w := by
      cases a with
      | none => exact Src.ofNil w Tryd.underlying23 d
      | some a => exact Src.ofSlice w Tryd.underlying23 a 0 d [] (by simp) (fun j u h => by simp at h) (fun _ h => by cases h)
    exact ⟨g, c, w, run_append_nothing w _ _ _ 3 i0 Tryd.underlying23 hi (some ⟨g, 0, none⟩) zs.length c hR.room.1 _ hsrc, by simpa using hR, ⟨rfl, rfl, rfl, Nat.le_refl _, fun _ _ _ => rfl⟩, .inl rfl⟩
  · obtain ⟨gs, off, rfl, _⟩ := hI.at_ 0 (by rw [hI.len]; omega)
    obtain ⟨g', c', w', hrun, h2, h3, h4, _⟩ := run_append_lies (P := Tryd.prog) w 23 23 B 3 i0 (.int .i64 0) 1 8 Tryd.underlying23 hi hz0 hz1 hz2 rfl (by decide) (.slice (some ⟨g, 0, none⟩) zs.length c) zs.length (intVs zs) hR ⟨gs, off, none⟩ m d (intVs ws) (by rw [intVs_len, hI.len]; omega)
      (fun j u hj => by
        have hj' : j < ws.length := by
          have := (List.getElem?_eq_some_iff.1 hj).1
          rwa [intVs_len] at this
        obtain ⟨g'', off'', ha, hc⟩ := hI.at_ j hj'
        injection ha with ha; injection ha with e1 e2; subst e1; subst e2
        have hu : u = .int .i64 ws[j] := by simpa [intVs, hj'] using hj.symm
        rw [Addr.add_lit, hu]; exact hc)
      (fun u hu => by
        simp only [intVs, List.mem_map] at hu
        obtain ⟨x, _, rfl⟩ := hu
        rfl) (by omega) (by unfold maxLen; omega) (by omega) hB w.heap.size rfl
    refine ⟨g', c', w', hrun, ?_, h3, ?_⟩
    · have e : intVs (zs ++ ws) = intVs zs ++ intVs ws := by simp [intVs]
      show World.ownsRow _ _ _ _ _ _ _
      rw [e, List.length_append, hI.len]
      exact h2
    · rcases h4 with h4 | h4
      · left; injection h4 with h4; exact h4.symm
      · right; exact h4

set_option maxRecDepth 100000 in
/-- one number in a block of its own -/
theorem Irow.one (w : World) (B : Nat) (x : Int) (hB : B ≤ w.heap.size) : Irow (w.alloc (Obj.cells #[.int .i64 x] 3)) B w.heap.size 1 [x] :=
  ⟨by simp [intVs], .inr ⟨w.heap.size, 1, #[.int .i64 x], rfl, hB, heap_alloc_new w _, Nat.le_refl _, by simp [maxLen], by simp, by simp [intVs]⟩⟩

theorem Ints.take {w : World} {a : Option Addr} {m : Nat} {ws : List Int} (h : Ints w a m ws) (k : Nat) (hk : k ≤ m) : Ints w a k (ws.take k) :=
  ⟨by rw [List.length_take, h.len]; omega, fun i hi => by
    have hi' : i < ws.length := by rw [List.length_take] at hi; omega
    obtain ⟨g, off, ha, hc⟩ := h.at_ i hi'
    exact ⟨g, off, ha, by rw [hc, List.getElem_take]⟩⟩

theorem sub_self (ws : List Int) : ws.isSublist ws = true := List.isSublist_iff_sublist.2 (List.Sublist.refl _)
theorem sub_behind (ws : List Int) (x : Int) : ws.isSublist (ws ++ [x]) = true := List.isSublist_iff_sublist.2 (List.sublist_append_left _ _)
theorem sub_long (ws : List Int) (x : Int) : (ws ++ [x]).isSublist ws = false := by
  cases h : (ws ++ [x]).isSublist ws with
  | false => rfl
  | true =>
    have := (List.isSublist_iff_sublist.1 h).length_le
    simp at this
    omega
theorem sub_take (ws : List Int) (k : Nat) : (ws.take k).isSublist ws = true := List.isSublist_iff_sublist.2 (List.take_sublist _ _)
theorem sub_more {zs ws : List Int} (x : Int) (h : zs.isSublist ws = true) : zs.length ≤ ws.length ∧ zs.isSublist (ws ++ [x]) = true ∧ zs.isSublist ([x] ++ ws) = true := by
  have hs := List.isSublist_iff_sublist.1 h
  exact ⟨hs.length_le, List.isSublist_iff_sublist.2 (hs.trans (List.sublist_append_left _ _)), List.isSublist_iff_sublist.2 (hs.trans (List.sublist_append_right _ _))⟩
end Go.Proofs.YthhlbcllhohcnaaDoor
namespace Go.Proofs.YthhlbcllhohcnaaDoor
open Go.RowKit Gram

/-- an outcome in memory, its numbers in a block of their own -/
structure Oc (w : World) (B : Nat) (v : Int) (a : Option Addr) (c : Nat) (zs : List Int) (e : ByteArray) (st : Int) : Prop where
  row : w.ownsRow B 3 1 (.slice a zs.length c) zs.length (intVs zs)
  len : zs.length ≤ 600
  lo : -10000 ≤ v
  hi : v ≤ 10000
  each : ∀ z ∈ zs, Int64 z
  ends : OEnds e
  pos : 0 ≤ st
  most : st ≤ 600
theorem Oc.later {w w' : World} {B : Nat} {v : Int} {a : Option Addr} {c : Nat} {zs : List Int} {e : ByteArray} {st : Int} (h : Oc w B v a c zs e st) (hk : ∀ g, (Value.slice a zs.length c).ownBlock = some g → w'.heap[g]? = w.heap[g]?) : Oc w' B v a c zs e st :=
  ⟨ownsRow_of h.row hk, h.len, h.lo, h.hi, h.each, h.ends, h.pos, h.most⟩

theorem run_mok {s nm : ByteArray} {v : Int} {r : Mst × Option Fin} (h : runP s nm v = some r) :
    -9999 ≤ r.1.val ∧ r.1.val ≤ 9999 ∧ r.1.out.length ≤ 500 ∧ (∀ z ∈ r.1.out, -9999 ≤ z ∧ z ≤ 9999) ∧ r.1.steps ≤ 500 := by
  unfold runP at h
  cases hp : progOf s with
  | none => rw [hp] at h; cases h
  | some ps =>
    cases hl : lookP s nm with
    | none => rw [hp, hl] at h; cases h
    | some p =>
      rw [hp, hl] at h
      dsimp only at h
      split at h
      · rename_i hv
        injection h with h
        have hlet : isLet p.1 = true := ((prog_facts hp).2.1 p (look_mem hp hl).1).2.2.2
        have hB : ∀ c, wfs (bodyP ps c) = true := fun c => by
          unfold bodyP
          split
          · rename_i q hq
            exact (fits_ps hp q (List.mem_of_find?_eq_some hq)).1
          · rfl
        have hk := exec_keeps hB 501 ((Mst.start v).enter p.1) (bodyP ps p.1) (start_ok hv.1 hv.2 hlet) (hB p.1)
        unfold runOf callBy at h
        cases hr : exec (bodyP ps) 501 ((Mst.start v).enter p.1) (bodyP ps p.1) with
        | mk m' o =>
          rw [hr] at h hk
          have h1 := hk.1.lo
          have h2 := hk.1.hi
          have h3 := hk.1.out
          have h4 := hk.1.each
          have h5 := hk.1.steps
          cases o with
          | none => subst h; exact ⟨h1, h2, Nat.le_trans h3 h5, h4, h5⟩
          | some f => subst h; exact ⟨h1, h2, Nat.le_trans h3 h5, h4, h5⟩
      · cases h
theorem outP_facts (s nm : ByteArray) (v : Int) : -9999 ≤ (outP (runP s nm v)).1 ∧ (outP (runP s nm v)).1 ≤ 9999 ∧ (outP (runP s nm v)).2.1.length ≤ 500 ∧ (∀ z ∈ (outP (runP s nm v)).2.1, Int64 z) ∧ OEnds (outP (runP s nm v)).2.2.1 ∧ 0 ≤ (outP (runP s nm v)).2.2.2 ∧ (outP (runP s nm v)).2.2.2 ≤ 500 := by
  cases h : runP s nm v with
  | none => exact ⟨by decide, by decide, by decide, (fun z hz => by cases hz), by simp [OEnds, outP], by decide, by decide⟩
  | some r =>
    obtain ⟨h1, h2, h3, h4, h5⟩ := run_mok h
    refine ⟨h1, h2, h3, fun z hz => ?_, ?_, ?_, ?_⟩
    · have := h4 z hz
      exact ⟨by omega, by omega⟩
    · obtain ⟨m, o⟩ := r
      cases o with
      | none => simp [OEnds, outP, Fin.word, txtOf]
      | some f => cases f <;> simp [OEnds, outP, Fin.word, txtOf]
    · show (0 : Int) ≤ (r.1.steps : Int); omega
    · show (r.1.steps : Int) ≤ 500; omega

/-- what a draw of an outcome hands back -/
def DrewO (w : World) (rb : Nat) (a : Option Addr) (n c p : Nat) (e : Ending) (w' : World) : Prop :=
  ∃ (v : Int) (oa : Option Addr) (oc : Nat) (zs : List Int) (en : ByteArray) (st : Int) (q : Nat), e = .returned (oV v oa zs.length oc en st) ∧ Oc w' w.heap.size v oa oc zs en st ∧ zs.length ≤ 500 ∧ st ≤ 500 ∧ q ≤ p + 3001 ∧ Rdr w' rb a n c q ∧ w.grownBy w' (some rb)

theorem oRow_mono {w : World} {B B' n : Nat} {e : TypeId} {sz : Nat} {v : Value} {xs : List Value} (h : w.ownsRow B e sz v n xs) (hb : B' ≤ B) : w.ownsRow B' e sz v n xs := by
  refine ⟨h.1, ?_⟩
  rcases h.2 with h1 | ⟨g', cap, cur, hv, h1, h2⟩
  · exact .inl h1
  · exact .inr ⟨g', cap, cur, hv, Nat.le_trans hb h1, h2⟩
/-- the outcome that is drawn lies at block ob -/
structure Ot (w wr : World) (rb ob : Nat) (a : Option Addr) (n c p : Nat) (v : Int) (oa : Option Addr) (oc : Nat) (zs : List Int) (en : ByteArray) (st : Int) : Prop where
  own : wr.heap[ob]? = some (.cells #[.int .i64 v, .slice oa zs.length oc, .string en, .int .i64 st] 25 (0, 0))
  res : ∃ x y z u, wr.heap[w.heap.size]? = some (.cells #[x, y, z, u] 25 (0, 0))
  new : w.heap.size < ob
  old : rb < w.heap.size
  row : wr.ownsRow (w.heap.size + 1) 3 1 (.slice oa zs.length oc) zs.length (intVs zs)
  ne : (Value.slice oa zs.length oc).ownBlock ≠ some ob
  rdr : Rdr wr rb a n c p
  grown : w.grownBy wr (some rb)
theorem Ot.read {w wr : World} {rb ob : Nat} {a : Option Addr} {n c p : Nat} {v : Int} {oa : Option Addr} {oc : Nat} {zs : List Int} {en : ByteArray} {st : Int} (h : Ot w wr rb ob a n c p v oa oc zs en st) :
    wr.cell? ⟨ob, 0, none⟩ = some (.int .i64 v) ∧ wr.cell? ⟨ob, 1, none⟩ = some (.slice oa zs.length oc) ∧ wr.cell? ⟨ob, 2, none⟩ = some (.string en) ∧ wr.cell? ⟨ob, 3, none⟩ = some (.int .i64 st) ∧ wr.frozen? ⟨ob, 0, none⟩ = false := by
  refine ⟨?_, ?_, ?_, ?_, Lib.frozen_of_heap h.own 0⟩ <;> (rw [Lib.cell_of_heap h.own]; rfl)
theorem Ot.later {w wr w' : World} {rb ob : Nat} {a : Option Addr} {n c p q : Nat} {v : Int} {oa : Option Addr} {oc : Nat} {zs : List Int} {en : ByteArray} {st : Int} (h : Ot w wr rb ob a n c p v oa oc zs en st) (hr : Rdr w' rb a n c q) (hg : wr.grownBy w' (some rb)) : Ot w w' rb ob a n c q v oa oc zs en st := by
  have h1 := h.new
  have h2 := h.old
  refine ⟨by rw [hg.block ob (heap_lt h.own) (by intro e; injection e; omega)]; exact h.own, ?_, h1, h2, ownsRow_of h.row (fun g hk => ?_), h.ne, hr, grownBy_trans h.grown hg⟩
  · obtain ⟨x, y, z, u, hx⟩ := h.res
    exact ⟨x, y, z, u, by rw [hg.block w.heap.size (heap_lt hx) (by intro e; injection e; omega)]; exact hx⟩
  · have := h.row.lt g hk
    exact hg.block g this.2 (by intro e; injection e; omega)
theorem oRdr_set {w : World} {rb : Nat} {a : Option Addr} {n c p : Nat} (h : Rdr w rb a n c p) {jb i : Nat} (hne : jb ≠ rb) (hg : ∀ g off, a = some ⟨g, off, none⟩ → 0 < n → g ≠ jb) (u : Value) : Rdr (w.setCell ⟨jb, i, none⟩ u) rb a n c p := by
  refine ⟨by rw [heap_set_other (Ne.symm hne)]; exact h.own, fun k hk => ?_, h.off, h.small⟩
  obtain ⟨g, off, ha, b, hc⟩ := h.bytes k hk
  exact ⟨g, off, ha, b, by rw [← hc]; exact World.cell?_of_block (a := ⟨g, off + k, none⟩) (heap_set_other (hg g off ha (by omega)) u)⟩
theorem Ot.set {w wr : World} {rb ob : Nat} {a : Option Addr} {n c p : Nat} {v : Int} {oa : Option Addr} {oc : Nat} {zs : List Int} {en : ByteArray} {st : Int} (h : Ot w wr rb ob a n c p v oa oc zs en st) (hg : ∀ g off, a = some ⟨g, off, none⟩ → 0 < n → g < w.heap.size) (v' : Int) :
    Ot w (wr.setCell ⟨ob, 0, none⟩ (.int .i64 v')) rb ob a n c p v' oa oc zs en st := by
  have h1 := h.new
  have h2 := h.old
  refine ⟨by rw [heap_set_same h.own]; rfl, ?_, h1, h2, ownsRow_of h.row (fun g hk => heap_set_other (fun e => h.ne (by rw [hk, e])) _), h.ne, oRdr_set h.rdr (by omega) (fun g off ha hn => by have := hg g off ha hn; omega) _, ?_⟩
  · obtain ⟨x, y, z, u, hx⟩ := h.res
    exact ⟨x, y, z, u, by rw [heap_set_other (by omega)]; exact hx⟩
  · exact ⟨h.grown.os, h.grown.tape, h.grown.output, by simp [World.setCell]; exact h.grown.size, fun j hj hne => by rw [heap_set_other (by omega)]; exact h.grown.block j hj hne⟩
theorem Ot.final {w wr : World} {rb ob : Nat} {a : Option Addr} {n c p : Nat} {v : Int} {oa : Option Addr} {oc : Nat} {zs : List Int} {en : ByteArray} {st : Int} (h : Ot w wr rb ob a n c p v oa oc zs en st) (hg : ∀ g off, a = some ⟨g, off, none⟩ → 0 < n → g < w.heap.size) (X Y Z U : Value) :
    ∃ wf, (((wr.setCell ⟨w.heap.size, 0, none⟩ X).setCell ⟨w.heap.size, 1, none⟩ Y).setCell ⟨w.heap.size, 2, none⟩ Z).setCell ⟨w.heap.size, 3, none⟩ U = wf ∧
    wf.cell? ⟨w.heap.size, 0, none⟩ = some X ∧ wf.cell? ⟨w.heap.size, 1, none⟩ = some Y ∧ wf.cell? ⟨w.heap.size, 2, none⟩ = some Z ∧ wf.cell? ⟨w.heap.size, 3, none⟩ = some U ∧
    wf.ownsRow w.heap.size 3 1 (.slice oa zs.length oc) zs.length (intVs zs) ∧ Rdr wf rb a n c p ∧ w.grownBy wf (some rb) := by
  obtain ⟨x, y, z, u, hx⟩ := h.res
  have h1 := heap_set_same (k := 3) (heap_set_same (k := 2) (heap_set_same (k := 1) (heap_set_same (k := 0) hx X) Y) Z) U
  have ho := h.old
  have hk : ∀ j, j ≠ w.heap.size → ((((wr.setCell ⟨w.heap.size, 0, none⟩ X).setCell ⟨w.heap.size, 1, none⟩ Y).setCell ⟨w.heap.size, 2, none⟩ Z).setCell ⟨w.heap.size, 3, none⟩ U).heap[j]? = wr.heap[j]? := fun j hj => by
    rw [heap_set_other hj, heap_set_other hj, heap_set_other hj, heap_set_other hj]
  refine ⟨_, rfl, by rw [Lib.cell_of_heap h1]; rfl, by rw [Lib.cell_of_heap h1]; rfl, by rw [Lib.cell_of_heap h1]; rfl, by rw [Lib.cell_of_heap h1]; rfl, oRow_mono (ownsRow_of h.row (fun g hk' => hk g (by have := h.row.lt g hk'; omega))) (Nat.le_succ _), ?_, ?_⟩
  · exact oRdr_set (oRdr_set (oRdr_set (oRdr_set h.rdr (by omega) (fun g off ha hn => by have := hg g off ha hn; omega) _) (by omega) (fun g off ha hn => by have := hg g off ha hn; omega) _) (by omega) (fun g off ha hn => by have := hg g off ha hn; omega) _) (by omega) (fun g off ha hn => by have := hg g off ha hn; omega) _
  · refine ⟨h.grown.os, h.grown.tape, h.grown.output, by simp [World.setCell]; exact h.grown.size, fun j hj hne => ?_⟩
    rw [hk j (by omega)]
    exact h.grown.block j hj hne
theorem Ot.res_cells {w wr : World} {rb ob : Nat} {a : Option Addr} {n c p : Nat} {v : Int} {oa : Option Addr} {oc : Nat} {zs : List Int} {en : ByteArray} {st : Int} (h : Ot w wr rb ob a n c p v oa oc zs en st) :
    ∃ x y z u, wr.cell? ⟨w.heap.size, 0, none⟩ = some x ∧ wr.cell? ⟨w.heap.size, 1, none⟩ = some y ∧ wr.cell? ⟨w.heap.size, 2, none⟩ = some z ∧ wr.cell? ⟨w.heap.size, 3, none⟩ = some u ∧
    wr.frozen? ⟨w.heap.size, 0, none⟩ = false ∧ wr.frozen? ⟨w.heap.size, 1, none⟩ = false ∧ wr.frozen? ⟨w.heap.size, 2, none⟩ = false ∧ wr.frozen? ⟨w.heap.size, 3, none⟩ = false := by
  obtain ⟨x, y, z, u, hx⟩ := h.res
  refine ⟨x, y, z, u, ?_, ?_, ?_, ?_, Lib.frozen_of_heap hx 0, Lib.frozen_of_heap hx 1, Lib.frozen_of_heap hx 2, Lib.frozen_of_heap hx 3⟩ <;> (rw [Lib.cell_of_heap hx]; rfl)

set_option maxHeartbeats 2000000 in
set_option maxRecDepth 100000 in
theorem l2out_any (w : World) (rb : Nat) (a : Option Addr) (n c p : Nat) (h : Rdr w rb a n c p) (hp : p ≤ 50000) :
    Calls Tryd.prog 13 #[.pointer (some ⟨rb, 0, none⟩)] w (DrewO w rb a n c p) := by
  have H := Lib.hid h
  have HA := Lib.hid (show ∀ g off, a = some ⟨g, off, none⟩ → 0 < n → g < w.heap.size from fun g off ha hn => by
    obtain ⟨g', off', ha', b, hc⟩ := h.bytes 0 hn
    rw [ha] at ha'
    injection ha' with ha'; injection ha' with e1 e2
    subst e1
    exact World.block_lt_of_cell? w _ hc)
  have hrb := heap_lt h.own
  have HRes := Lib.hid (heap_alloc_new w (Obj.cells #[.int .i64 0, .slice none 0 0, .string ⟨#[]⟩, .int .i64 0] 25))
  have HZ := Lib.hid (alloc_size' w (Obj.cells #[.int .i64 0, .slice none 0 0, .string ⟨#[]⟩, .int .i64 0] 25))
  have HG0 := Lib.hid (World.grownBy_alloc w (Obj.cells #[.int .i64 0, .slice none 0 0, .string ⟨#[]⟩, .int .i64 0] 25) (some rb))
  clear h
  go_enter Tryd.func13, Tryd.ntmps13
  go_wp2_with fail
  refine (some_any _ rb a n c p (H.out.later (alloc_heap _)) (by omega)).mono ?_
  rintro e w1 ⟨s, t, v, q, rfl, hs, ht, hv1, hv2, hq, hr1, hg1⟩
  have HR1 := Lib.hid hr1
  have HG1 := Lib.hid hg1
  clear hr1 hg1
  have HS := Lib.hid (spec_run s t v w1 (by omega))
  obtain ⟨o1, o2, o3, o4, o5, o6, o7⟩ := outP_facts s t v
  unfold OutTo at HS
  generalize (outP (runP s t v)).1 = ov at *
  generalize (outP (runP s t v)).2.2.1 = oe at *
  generalize (outP (runP s t v)).2.2.2 = os at *
  generalize (outP (runP s t v)).2.1 = oz at *
  generalize (runP s t v).isSome = ok at *
  have HF := Lib.hid (And.intro o4 o5)
  clear o4 o5
  unfold oV at HS
  go_wp2_with fail
  refine HS.out.mono ?_
  rintro e w2 ⟨⟨oa, oc, rfl, row⟩, b2⟩
  have P3 := Lib.hid (show Ot w (w2.alloc (Obj.cells #[.int .i64 ov, .slice oa oz.length oc, .string oe, .int .i64 os] 25)) rb w2.heap.size a n c q ov oa oc oz oe os from by
    have z1 := HG1.out.size
    rw [HZ.out] at z1
    have z2 := b2.size
    have hb2 : ∀ k, k < w1.heap.size → (w2.alloc (Obj.cells #[.int .i64 ov, .slice oa oz.length oc, .string oe, .int .i64 os] 25)).heap[k]? = w1.heap[k]? := fun k hk => (alloc_heap _ k (by omega)).trans (b2.block k hk)
    refine ⟨heap_alloc_new w2 _, ⟨_, _, _, _, (hb2 _ (by omega)).trans ((HG1.out.block w.heap.size (by rw [HZ.out]; omega) (by intro e; injection e; omega)).trans HRes.out)⟩, by omega, hrb, oRow_mono (ownsRow_of row (fun g hk => alloc_heap _ g (row.lt g hk).2)) (by omega), fun e => by have := row.lt _ e; omega, HR1.out.later hb2, ?_⟩
    exact grownBy_trans HG0.out (grownBy_trans HG1.out ⟨b2.os, b2.tape, b2.output, by rw [alloc_size']; omega, fun j hj _ => hb2 j hj⟩))
  have hjb : w.heap.size < w2.heap.size := P3.out.new
  clear row b2
  go_wp2_with fail
  generalize hob : w2.heap.size = ob at *
  generalize w2.alloc (Obj.cells #[.int .i64 ov, .slice oa oz.length oc, .string oe, .int .i64 os] 25) = w3 at *
  clear hob
  refine (pick_to 6 P3.out.rdr (by omega) (by omega)).mono ?_
  rintro e w4 ⟨u, rfl, hu, hr4, hg4⟩
  have P4 := Lib.hid (P3.out.later hr4 hg4)
  clear hr4 hg4 P3
  obtain ⟨q0, q1, q2, q3, f0⟩ := P4.out.read
  by_cases hu0 : u = 0
  · subst hu0
    have P5 := Lib.hid (P4.out.set HA.out (ov + 1))
    obtain ⟨x0, x1, x2, x3, c0, c1, c2, c3, z0, z1, z2, z3⟩ := P4.out.res_cells
    go_wp2_with fail
    obtain ⟨wf, hwf, y0, y1, y2, y3, hrow, hR, hGr⟩ := P5.out.final HA.out (.int .i64 (ov + 1)) (.slice oa oz.length oc) (.string oe) (.int .i64 os)
    rw [hwf]
    refine bodyPost_ret (v := oV (ov + 1) oa oz.length oc oe os) ?_ rfl ?_
    · simp [results, Tryd.results13, go_sem, y0, y1, y2, y3, oV]
    · exact ⟨_, _, _, _, _, _, _, rfl, ⟨hrow, by omega, by omega, by omega, HF.out.1, HF.out.2, o6, by omega⟩, o3, o7, by omega, hR, hGr⟩
  · have hub : ((u : Int) == 0) = false := by rw [beq_eq_false_iff_ne]; omega
    obtain ⟨x0, x1, x2, x3, c0, c1, c2, c3, z0, z1, z2, z3⟩ := P4.out.res_cells
    clear hu0
    go_wp2_with fail
    obtain ⟨wf, hwf, y0, y1, y2, y3, hrow, hR, hGr⟩ := P4.out.final HA.out (.int .i64 ov) (.slice oa oz.length oc) (.string oe) (.int .i64 os)
    rw [hwf]
    refine bodyPost_ret (v := oV ov oa oz.length oc oe os) ?_ rfl ?_
    · simp [results, Tryd.results13, go_sem, y0, y1, y2, y3, oV]
    · exact ⟨_, _, _, _, _, _, _, rfl, ⟨hrow, by omega, by omega, by omega, HF.out.1, HF.out.2, o6, by omega⟩, o3, o7, by omega, hR, hGr⟩
end Go.Proofs.YthhlbcllhohcnaaDoor
