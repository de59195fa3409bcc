/- The model's DrawIsPartOf: two lists of at most nine numbers, in blocks of their own. No condition but that the bytes can be read. -/
import Derived.Test.YtcahnffgpmanpaaInts
import Derived.Test.YtcahnffgpmanpaaDrawO
import Derived.Deep.AppendLies
namespace Go.Proofs.Ytcahnffgpmanpaa
open Go.RowKit

theorem Rdr.keepB {w w' : World} {rb : Nat} {a : Option Addr} {n c p : Nat} {B : Nat} (h : Rdr w rb a n c p) (hB : rb < B) (hg : 0 < n → ∀ g off, a = some ⟨g, off, none⟩ → g < B) (hk : ∀ k, k < B → w'.heap[k]? = w.heap[k]?) : Rdr w' rb a n c p := by
  refine ⟨by rw [hk rb hB]; exact h.own, fun k hk' => ?_, h.off, h.small⟩
  obtain ⟨g, off, ha, b, hc⟩ := h.bytes k hk'
  exact ⟨g, off, ha, b, by rw [← hc]; exact World.cell?_of_block (a := ⟨g, off + k, none⟩) (hk g (hg (by omega) g off ha))⟩

/-- numbers in a block of their own, from B on -/
def Irow (w : World) (B g c : Nat) (zs : List Int) : Prop := w.ownsRow B 3 1 (.slice (some ⟨g, 0, none⟩) zs.length c) zs.length (intVs zs)
theorem Irow.lt {w : World} {B g c : Nat} {zs : List Int} (h : Irow w B g c zs) : B ≤ g ∧ g < w.heap.size := World.ownsRow.lt h g rfl
theorem Irow.room {w : World} {B g c : Nat} {zs : List Int} (h : Irow w B g c zs) : zs.length ≤ c ∧ c ≤ maxLen := by
  rcases h.2 with ⟨hv, _⟩ | ⟨g', cap, cur, hv, _, _, h1, h2, _⟩
  · cases hv
  · injection hv with _ _ hc; subst hc; exact ⟨h1, h2⟩
theorem Irow.ints {w : World} {B g c : Nat} {zs : List Int} (h : Irow w B g c zs) : Ints w (some ⟨g, 0, none⟩) zs.length zs :=
  ⟨rfl, fun i hi => ⟨g, 0, rfl, by
    have := World.ownsRow.cellAt h i (by omega)
    rw [Nat.zero_add, this]
    simp [intVs, hi]⟩⟩
theorem Irow.keep {w w' : World} {B g c : Nat} {zs : List Int} (h : Irow w B g c zs) (hk : w'.heap[g]? = w.heap[g]?) : Irow w' B g c zs := by
  refine ⟨h.1, ?_⟩
  rcases h.2 with h1 | ⟨g', cap, cur, hv, h1, h2, h3⟩
  · exact .inl h1
  · refine .inr ⟨g', cap, cur, hv, h1, ?_, h3⟩
    injection hv with hv _ _; injection hv with hv; injection hv with hv _ _; subst hv
    rw [hk]; exact h2
theorem Irow.made (w : World) (B : Nat) (hB : B ≤ w.heap.size) : Irow (w.alloc (Obj.cells #[] 3)) B w.heap.size 0 [] :=
  ⟨by simp [intVs], .inr ⟨w.heap.size, 0, #[], rfl, hB, heap_alloc_new w _, Nat.le_refl _, by simp [maxLen], by simp, by simp [intVs]⟩⟩
theorem intVs_snoc (zs : List Int) (x : Int) : intVs (zs ++ [x]) = intVs zs ++ [.int .i64 x] := by simp [intVs]

theorem irow_mono {w : World} {B B' g c : Nat} {zs : List Int} (h : Irow w B g c zs) (hb : B' ≤ B) : Irow w B' g c zs := by
  refine ⟨h.1, ?_⟩
  rcases h.2 with h1 | ⟨g', cap, cur, hv, h1, h2⟩
  · exact .inl h1
  · exact .inr ⟨g', cap, cur, hv, Nat.le_trans hb h1, h2⟩

/-- how a run of the draw may go on: the source, two rows -/
structure Two (w : World) (S : Nat) (a : Option Addr) (n c : Nat) (wr : World) (rb q ga gb ca cb : Nat) (zs ws : List Int) : Prop where
  rdr : Rdr wr rb a n c q
  ra : Irow wr S ga ca zs
  rB : Irow wr S gb cb ws
  ne : ga ≠ gb
  at_ : w.heap.size ≤ rb
  lo : rb < S
  low : 0 < n → ∀ g off, a = some ⟨g, off, none⟩ → g < S
  bel : Below w.heap.size w wr

theorem Two.picked {w wr w' : World} {S : Nat} {a : Option Addr} {n c rb q ga gb ca cb : Nat} {zs ws : List Int} (h : Two w S a n c wr rb q ga gb ca cb zs ws) (hr : Rdr w' rb a n c (q + 1)) (hg : wr.grownBy w' (some rb)) :
    Two w S a n c w' rb (q + 1) ga gb ca cb zs ws := by
  have e := h.at_
  have el := h.lo
  have la := h.ra.lt
  have lb := h.rB.lt
  exact ⟨hr, h.ra.keep (hg.block ga la.2 (fun e' => by injection e' with e'; omega)), h.rB.keep (hg.block gb lb.2 (fun e' => by injection e' with e'; omega)), h.ne, e, h.lo, h.low,
    h.bel.grown hg h.bel.size (fun k hk => by simp at hk; omega)⟩
/-- the second row is longer now -/
theorem Two.moreB {w wr w' : World} {S : Nat} {a : Option Addr} {n c rb q ga gb ca cb : Nat} {zs ws : List Int} {x : Int} {o : Obj} {g' cap' : Nat} (h : Two w S a n c wr rb q ga gb ca cb zs ws)
    (ho : w'.ownsRow S 3 1 (.slice (some ⟨g', 0, none⟩) (ws.length + 1) cap') (ws.length + 1) (intVs ws ++ [.int .i64 x]))
    (hg : (wr.alloc o).grownBy w' (some gb)) (hw : some gb = some g' ∨ g' = wr.heap.size + 1) : Two w S a n c w' rb q ga g' ca cap' zs (ws ++ [x]) := by
  have e := h.at_
  have el := h.lo
  have la := h.ra.lt
  have lb := h.rB.lt
  have hne := h.ne
  have hold : ∀ k, k < wr.heap.size → k ≠ gb → w'.heap[k]? = wr.heap[k]? := fun k hk hk' =>
    (hg.block k (by rw [alloc_size']; omega) (fun e' => by injection e' with e'; omega)).trans (alloc_heap o k hk)
  have hbel : Below w.heap.size w w' := (h.bel.alloc h.bel.size _).grown hg (by rw [alloc_size']; have := h.bel.size; omega) (fun k hk => by injection hk with hk; omega)
  refine ⟨h.rdr.keepB (B := S) h.lo h.low (fun k hk => hold k (by omega) (by omega)), h.ra.keep (hold ga la.2 hne), ?_, ?_, e, h.lo, h.low, hbel⟩
  · show World.ownsRow _ _ _ _ _ _ _
    rw [intVs_snoc, List.length_append]; exact ho
  · rcases hw with hw | hw
    · injection hw with hw; omega
    · omega
theorem Two.moreA {w wr w' : World} {S : Nat} {a : Option Addr} {n c rb q ga gb ca cb : Nat} {zs ws : List Int} {x : Int} {o : Obj} {g' cap' : Nat} (h : Two w S a n c wr rb q ga gb ca cb zs ws)
    (ho : w'.ownsRow S 3 1 (.slice (some ⟨g', 0, none⟩) (zs.length + 1) cap') (zs.length + 1) (intVs zs ++ [.int .i64 x]))
    (hg : (wr.alloc o).grownBy w' (some ga)) (hw : some ga = some g' ∨ g' = wr.heap.size + 1) : Two w S a n c w' rb q g' gb cap' cb (zs ++ [x]) ws := by
  have e := h.at_
  have el := h.lo
  have la := h.ra.lt
  have lb := h.rB.lt
  have hne := h.ne
  have hold : ∀ k, k < wr.heap.size → k ≠ ga → w'.heap[k]? = wr.heap[k]? := fun k hk hk' =>
    (hg.block k (by rw [alloc_size']; omega) (fun e' => by injection e' with e'; omega)).trans (alloc_heap o k hk)
  have hbel : Below w.heap.size w w' := (h.bel.alloc h.bel.size _).grown hg (by rw [alloc_size']; have := h.bel.size; omega) (fun k hk => by injection hk with hk; omega)
  refine ⟨h.rdr.keepB (B := S) h.lo h.low (fun k hk => hold k (by omega) (by omega)), ?_, h.rB.keep (hold gb lb.2 hne.symm), ?_, e, h.lo, h.low, hbel⟩
  · show World.ownsRow _ _ _ _ _ _ _
    rw [intVs_snoc, List.length_append]; exact ho
  · rcases hw with hw | hw
    · injection hw with hw; omega
    · omega

/-- what the draw hands back -/
def DrewTwo (w : World) (e : Ending) (w' : World) : Prop := ∃ (ga gb ca cb : Nat) (zs ws : List Int), e = .returned (.tuple #[.slice (some ⟨ga, 0, none⟩) zs.length ca, .slice (some ⟨gb, 0, none⟩) ws.length cb]) ∧
  Irow w' w.heap.size ga ca zs ∧ Irow w' w.heap.size gb cb ws ∧ ws.length ≤ 8 ∧ zs.length ≤ 9 ∧ Below w.heap.size w w'

set_option maxHeartbeats 4000000 in
set_option maxRecDepth 100000 in
theorem drawTwo_any (w : World) (a : Option Addr) (n c : Nat) (h : BytesAt w a n) (hn : n ≤ c) (hc : c ≤ 9223372036854775807) (hnil : a = none → n = 0) :
    Calls Try.prog 5 #[.slice a n c] w (DrewTwo w) := by
  have HO := Lib.hid (open_any w a n c h hn hc hnil)
  obtain ⟨i0, hi, hz0, hz1, hz2⟩ := info_parts info_int
  clear h hn hc hnil
  go_enter Try.func5, Try.ntmps5
  go_wp2_with fail
  refine HO.out.mono ?_
  rintro e w1 ⟨m, rfl, hr, hb⟩
  have hz : w.heap.size + 1 ≤ w1.heap.size := by have := heap_lt hr.own; omega
  have HT := Lib.hid (show Two w w1.heap.size a m c ((w1.alloc (Obj.cells #[] 3)).alloc (Obj.cells #[] 3)) w.heap.size 0 w1.heap.size (w1.heap.size + 1) 0 0 [] [] from
    ⟨hr.later (fun k hk => (alloc_heap _ k (by rw [alloc_size']; omega)).trans (alloc_heap _ k hk)),
      (Irow.made w1 w1.heap.size (Nat.le_refl _)).keep (alloc_heap _ _ (by rw [alloc_size']; omega)),
      by have := Irow.made (w1.alloc (Obj.cells #[] 3)) w1.heap.size (by rw [alloc_size']; omega); rw [alloc_size'] at this; exact this,
      by omega, Nat.le_refl _, by omega, fun hp g off ha => by
        obtain ⟨g', off', ha', b, hc'⟩ := hr.bytes 0 hp
        rw [ha] at ha'; injection ha' with ha'; injection ha' with e1 e2; subst e1
        exact World.block_lt_of_cell? w1 _ hc', (hb.alloc (by omega) _).alloc (by rw [alloc_size']; omega) _⟩)
  clear hr hb HO
  go_wp2_with fail
  refine (pick_to 8 HT.out.rdr (by omega) (by omega)).mono ?_
  rintro e w2 ⟨v, rfl, hv, hr2, hg2⟩
  have HT2 := Lib.hid (HT.out.picked hr2 hg2)
  have hv8 : v ≤ 7 := by omega
  clear hr2 hg2 HT hv
  go_wp2_with fail
  go_loopw [5, 6, 7, 14] (fun sa sb _ i wr => ∃ (k q ga gb ca cb la : Nat) (zs ws : List Int), k ≤ v ∧ i = .int .i64 k ∧ sa = .slice (some ⟨ga, 0, none⟩) la ca ∧ sb = .slice (some ⟨gb, 0, none⟩) k cb ∧ q ≤ 1 + 2 * k ∧ la ≤ k ∧ Hid (zs.length = la ∧ ws.length = k) ∧ Hid (Two w w1.heap.size a m c wr w.heap.size q ga gb ca cb zs ws)) (fun _ _ _ i _ => v - (intOf i).toNat)
  case atStart => exact ⟨0, 1, _, _, 0, 0, 0, [], [], Nat.zero_le _, by go_num, rfl, rfl, by omega, by omega, ⟨rfl, rfl⟩, HT2.out⟩
  case round =>
    obtain ⟨k, q, ga, gb, ca, cb, la, zs, ws, hk, rfl, rfl, rfl, hq, hla, hL, hT⟩ := hrel
    have hS := hT.out.ra.lt
    by_cases hlt : k < v
    · go_wp2_with fail
      refine (pick_to 3 hT.out.rdr (by omega) (by omega)).mono ?_
      rintro e w3 ⟨x, rfl, hx, hr3, hg3⟩
      have HT3 := Lib.hid (hT.out.picked hr3 hg3)
      clear hr3 hg3
      have hz3 : w1.heap.size ≤ w3.heap.size := by have := HT3.out.ra.lt; omega
      have HO3 := Lib.hid (show w3.ownsRow w1.heap.size 3 1 (.slice (some ⟨gb, 0, none⟩) k cb) k (intVs ws) by rw [← hL.out.2]; exact HT3.out.rB)
      go_wp2_with (at_builtin; go_loud (refine wpList_append_lies _ rfl _ _ 23 rfl w1.heap.size 3 i0 (.int .i64 0) 1 8 Try.underlying23 hi hz0 hz1 hz2 rfl (by decide) _ k (intVs ws) rfl (HO3.out.alloc _) ⟨w3.heap.size, 0, none⟩ 1 1 [.int .i64 x] rfl rfl (cell_one_new _ _ _) (by intro u hu; simp at hu; subst hu; rfl) (by decide) (by unfold maxLen; omega) (by omega) (by rw [alloc_size']; omega) _ rfl ?_))
      intro g4 c4 w4 ho4 hg4 hat4 _
      have HT4 := Lib.hid (HT3.out.moreB (x := x) (g' := g4) (cap' := c4) (by rw [hL.out.2]; exact ho4) hg4 hat4)
      clear ho4 hg4 hat4
      go_wp2_with fail
      refine (pick_to 2 HT4.out.rdr (by omega) (by omega)).mono ?_
      rintro e w5 ⟨t, rfl, ht, hr5, hg5⟩
      have HT5 := Lib.hid (HT4.out.picked hr5 hg5)
      have hz5 : w1.heap.size ≤ w5.heap.size := by have := HT5.out.ra.lt; omega
      clear hr5 hg5
      by_cases ht0 : t = 0
      · subst ht0
        have HO5 := Lib.hid (show w5.ownsRow w1.heap.size 3 1 (.slice (some ⟨ga, 0, none⟩) la ca) la (intVs zs) by rw [← hL.out.1]; exact HT5.out.ra)
        go_wp2_with (at_builtin; go_loud (refine wpList_append_lies _ rfl _ _ 23 rfl w1.heap.size 3 i0 (.int .i64 0) 1 8 Try.underlying23 hi hz0 hz1 hz2 rfl (by decide) _ la (intVs zs) rfl (HO5.out.alloc _) ⟨w5.heap.size, 0, none⟩ 1 1 [.int .i64 x] rfl rfl (cell_one_new _ _ _) (by intro u hu; simp at hu; subst hu; rfl) (by decide) (by unfold maxLen; omega) (by omega) (by rw [alloc_size']; omega) _ rfl ?_))
        intro g6 c6 w6 ho6 hg6 hat6 _
        have HT6 := Lib.hid (HT5.out.moreA (x := x) (g' := g6) (cap' := c6) (by rw [hL.out.1]; exact ho6) hg6 hat6)
        clear ho6 hg6 hat6
        go_wp2_with fail
        go_roundw
        case rel => exact ⟨k + 1, _, g6, g4, c6, c4, la + 1, _, _, by omega, by go_num, rfl, rfl, by omega, by omega, ⟨by rw [List.length_append, hL.out.1]; rfl, by rw [List.length_append, hL.out.2]; rfl⟩, HT6.out⟩
        case measure => simp [intOf]; omega
      · have htb : ((t : Int) == 0) = false := by rw [beq_eq_false_iff_ne]; omega
        clear ht0
        go_wp2_with fail
        go_roundw
        case rel => exact ⟨k + 1, _, ga, g4, ca, c4, la, _, _, by omega, by go_num, rfl, rfl, by omega, by omega, ⟨hL.out.1, by rw [List.length_append, hL.out.2]; rfl⟩, HT5.out⟩
        case measure => simp [intOf]; omega
    · have hz6 : w1.heap.size ≤ wr.heap.size := by omega
      go_wp2_with fail
      refine (pick_to 4 hT.out.rdr (by omega) (by omega)).mono ?_
      rintro e w3 ⟨t, rfl, ht, hr3, hg3⟩
      have HT3 := Lib.hid (hT.out.picked hr3 hg3)
      clear hr3 hg3
      by_cases ht0 : t = 0
      · subst ht0
        go_wp2_with fail
        refine (pick_to 3 HT3.out.rdr (by omega) (by omega)).mono ?_
        rintro e w5 ⟨x, rfl, hx, hr5, hg5⟩
        have HT5 := Lib.hid (HT3.out.picked hr5 hg5)
        have hz5 : w1.heap.size ≤ w5.heap.size := by have := HT5.out.ra.lt; omega
        clear hr5 hg5
        have HO5 := Lib.hid (show w5.ownsRow w1.heap.size 3 1 (.slice (some ⟨ga, 0, none⟩) la ca) la (intVs zs) by rw [← hL.out.1]; exact HT5.out.ra)
        go_wp2_with (at_builtin; go_loud (refine wpList_append_lies _ rfl _ _ 23 rfl w1.heap.size 3 i0 (.int .i64 0) 1 8 Try.underlying23 hi hz0 hz1 hz2 rfl (by decide) _ la (intVs zs) rfl (HO5.out.alloc _) ⟨w5.heap.size, 0, none⟩ 1 1 [.int .i64 x] rfl rfl (cell_one_new _ _ _) (by intro u hu; simp at hu; subst hu; rfl) (by decide) (by unfold maxLen; omega) (by omega) (by rw [alloc_size']; omega) _ rfl ?_))
        intro g6 c6 w6 ho6 hg6 hat6 _
        have HT6 := Lib.hid (HT5.out.moreA (x := x) (g' := g6) (cap' := c6) (by rw [hL.out.1]; exact ho6) hg6 hat6)
        clear ho6 hg6 hat6
        go_wp2_with fail
        go_ret2
        refine ⟨g6, gb, c6, cb, zs ++ [(x : Int)], ws, ?_, irow_mono HT6.out.ra (by omega), irow_mono HT6.out.rB (by omega), by rw [hL.out.2]; omega, by rw [List.length_append, hL.out.1]; simp; omega, HT6.out.bel⟩
        rw [List.length_append, hL.out.1, hL.out.2]; rfl
      · have htb : ((t : Int) == 0) = false := by rw [beq_eq_false_iff_ne]; omega
        clear ht0
        go_wp2_with fail
        go_ret2
        refine ⟨ga, gb, ca, cb, zs, ws, ?_, irow_mono HT3.out.ra (by omega), irow_mono HT3.out.rB (by omega), by rw [hL.out.2]; omega, by rw [hL.out.1]; omega, HT3.out.bel⟩
        rw [hL.out.1, hL.out.2]; rfl
end Go.Proofs.Ytcahnffgpmanpaa
