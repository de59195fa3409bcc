/- The text of a program that lies in memory. Condition: at most 400 procedures, bodies of at most 2^20 bytes together. RenameProc of the program. Condition: the library's own number can be read. -/
import Derived.Test.YtfmmpahbjkiomaaGreatDoorQx
import Derived.Test.YtfmmpahbjkiomaaGreatDoorPx
import Derived.Test.YtfmmpahbjkiomaaGreatDoorBody
import Derived.Deep.RegionWith
import Derived.Deep.RegionHeld3
import Derived.Deep.RegionLaw
import Derived.Deep.AppendLies
import Derived.Test.YtfmmpahbjkiomaaGreatDoorNx
namespace Go.Proofs.YtfmmpahbjkiomaaGreatDoor
open Go.RowKit Gram

def partT (p : Pr) : List UInt8 := p.1 :: 58 :: txts p.2
def partV (p : Pr) : Value := strV (partT p)

theorem body_any' {w : World} {S : Nat → Prop} {xs : List Stm} {v : Value} (hx : (txts xs).length ≤ 1048576) (hS : ∀ k, S k → k < w.heap.size) (h : IsBody w S xs v) :
    Calls Tryz.prog 47 #[v] w fun e w' => e = .returned (strV (txts xs)) ∧ Below w.heap.size w w' :=
  body_step _ (text_all _) xs w S v (Nat.le_refl _) hx hS h

theorem conv_now (nm : UInt8) (w : World) (b : Nat) (hb : b = w.heap.size) :
    (convert 22 9 (.slice (some ⟨b, 0, none⟩) 2 2)).run Tryz.prog (w.alloc (Obj.cells #[.int .u8 (nm.toNat : Int), .int .u8 58] 5)) = .ok (.string (txtOf [nm, 58])) (w.alloc (Obj.cells #[.int .u8 (nm.toNat : Int), .int .u8 58] 5)) :=
  str2 nm 58 w b hb

theorem conv_after {nm : UInt8} {Y w4 : World} (hb : Below ((Y.alloc (Obj.cells #[.int .u8 (nm.toNat : Int), .int .u8 58] 5)).drew).heap.size ((Y.alloc (Obj.cells #[.int .u8 (nm.toNat : Int), .int .u8 58] 5)).drew) w4) (b : Nat) (hbb : b = Y.heap.size) :
    (convert 22 9 (.slice (some ⟨b, 0, none⟩) 2 2)).run Tryz.prog w4 = .ok (.string (txtOf [nm, 58])) w4 := by
  subst hbb
  have h1 : w4.heap[Y.heap.size]? = some (Obj.cells #[.int .u8 (nm.toNat : Int), .int .u8 58] 5 (0, 0)) := by
    rw [hb.block _ (by show _ < (Y.alloc _).heap.size; rw [alloc_size']; omega)]; exact heap_alloc_new _ _
  exact run_convert_bytes_back (P := Tryz.prog) _ 22 9 5 ⟨Y.heap.size, 0, none⟩ 2 [nm, 58] Tryz.underlying22 Tryz.underlying5 Tryz.underlying9 (bytes_cells (e := 5) h1)

theorem new_two (w : World) (o o2 : Obj) : ((w.alloc o).alloc o2).heap[w.heap.size + 1]? = some o2 := by
  have := heap_alloc_new (w.alloc o) o2
  rw [alloc_size'] at this; exact this
theorem grown_below {w Z w5 : World} {o : Obj} {r : Option Nat} (hb : Below w.heap.size w Z) (hg : (Z.alloc o).grownBy w5 r) (hr : ∀ j, r = some j → w.heap.size ≤ j) : Below w.heap.size w w5 :=
  (hb.alloc hb.size o).grown hg (by rw [alloc_size']; have := hb.size; omega) hr
theorem join_parts : ∀ ps : List Pr, Lib.join (ps.map partT) [59] = joinP ps
  | [] => rfl
  | [p] => by simp [Lib.join, joinP, partT, List.intercalate]
  | p :: q :: r => by
    have h := join_parts (q :: r)
    simp only [Lib.join, List.map_cons] at h ⊢
    rw [joinP, ← h]
    simp [List.intercalate, List.intersperse, partT]
theorem join_map (qs : List Qr) : Lib.join ((qs.map fun q => txtOf (partT q.1)).map (·.data.toList)) (⟨#[59]⟩ : ByteArray).data.toList = Lib.join ((qs.map (·.1)).map partT) [59] := by
  rw [List.map_map, List.map_map]; rfl
theorem joinP_le : ∀ ps : List Pr, (∀ p ∈ ps, (partT p).length ≤ 1002) → (joinP ps).length ≤ ps.length * 1003
  | [], _ => by simp [joinP]
  | [p], h => by
    have := h p (by simp)
    simp only [partT] at this
    simp only [joinP, List.length_cons, List.length_nil] at this ⊢; omega
  | p :: q :: r, h => by
    have h1 := h p (by simp)
    have h2 := joinP_le (q :: r) (fun x hx => h x (List.mem_cons_of_mem _ hx))
    simp only [partT, List.length_cons] at h1 h2
    simp only [joinP, List.length_cons, List.length_append]; omega
/-- a row of texts that isn't empty -/
theorem str_row {w : World} {B n c : Nat} {a : Option Addr} {qs : List Qr} (h : w.ownsRow B 9 1 (.slice a n c) n (qs.map fun q => partV q.1)) (hn : 0 < n) :
    ∃ g, a = some ⟨g, 0, none⟩ ∧ (∀ (j : Nat) x, (qs.map fun q => txtOf (partT q.1))[j]? = some x → w.cell? ⟨g, j, none⟩ = some (.string x)) ∧ g < w.heap.size ∧ n ≤ c := by
  rcases h.2 with ⟨h1, h2⟩ | ⟨g, cap, cur, h1, hb, hg, hle, _⟩
  · omega
  · have hr := h
    rw [h1] at hr
    injection h1 with h3 h4 h5
    subst h3
    subst h5
    refine ⟨g, rfl, fun j x hx => ?_, heap_lt hg, hle⟩
    refine row_cell hr j (.string x) ?_
    rw [List.getElem?_map] at hx ⊢
    obtain ⟨q, hq, rfl⟩ := Option.map_eq_some_iff.1 hx
    rw [hq]; rfl
theorem sz_of {B : Nat} {A X : World} (h : Below B A X) (hB : B = A.heap.size) : B ≤ X.heap.size := by have := h.size; omega
/-- what holds of a world behind the copy of a procedure -/
theorem behind_copy {w wr w4 : World} {nm : UInt8} {v u : Value} {n : Nat} {xs : List Value} {e : TypeId} (hB : Below w.heap.size w wr) (hO : wr.ownsRow w.heap.size e 1 u n xs)
    (h : Below (wr.heap.size + 1) (wr.alloc (Obj.cells #[.int .u8 nm.toNat, v] 65)) w4) :
    w4.cell? ⟨wr.heap.size, 0, none⟩ = some (.int .u8 nm.toNat) ∧ w4.cell? ⟨wr.heap.size, 1, none⟩ = some v ∧ Below w.heap.size w w4 ∧ w4.ownsRow w.heap.size e 1 u n xs := by
  have h1 : w4.heap[wr.heap.size]? = some (Obj.cells #[.int .u8 nm.toNat, v] 65 (0, 0)) := by
    rw [h.block _ (by omega)]; exact heap_alloc_new _ _
  refine ⟨by rw [Lib.cell_of_heap h1]; rfl, by rw [Lib.cell_of_heap h1]; rfl, (hB.alloc hB.size _).trans (h.mono (by have := hB.size; omega)), ?_⟩
  exact ownsRow_of hO fun j hj => by
    have := (hO.lt j hj).2
    rw [h.block _ (by omega), alloc_heap _ _ this]

set_option maxHeartbeats 2000000 in
set_option maxRecDepth 100000 in
theorem parts_loop {w : World} {B : Nat} {S : Nat → Prop} {qs : List Qr} {a : Option Addr} {n c : Nat} (h : IsProg w B S qs (.slice a n c)) (hn : qs.length = n) (hl : n ≤ 401) (hg : ∀ q ∈ qs, (txts q.1.2).length ≤ 1000) :
    Calls Tryz.prog 33 #[.slice a n c] w fun e w' => e = .returned (.string (txtOf (joinP (qs.map (·.1))))) ∧ Below w.heap.size w w' := by
  have HP := Lib.hid h
  have HN := Lib.hid hn
  have HG := Lib.hid hg
  obtain ⟨i0, hi, hz0, hz1, hz2⟩ := info_parts info_str
  clear h hn hg
  go_enter Tryz.func33, Tryz.ntmps33
  go_wp2_with (at_make; refine wpList_make_own _ rfl _ _ 41 rfl w.heap.size 9 i0 (.string ⟨#[]⟩) 1 Tryz.underlying41 hi hz0 hz1 _ _ _ n rfl rfl (by omega) ?c1 ?c2 ?c3 ?_)
  case c1 => rw [hz2]; omega
  case c2 => unfold maxLen; omega
  case c3 => exact Nat.le_refl _
  intro w2 hown hgrow
  have HO := Lib.hid hown
  have HB2 := Lib.hid (show Below w.heap.size w w2 from (Below.refl _ _).grown hgrow (Nat.le_refl _) (fun k hk => by cases hk))
  clear hown hgrow
  go_wp2_with fail
  go_loopw [3, 11] (fun v i wr => ∃ k : Nat, k ≤ n ∧ i = .int .i64 k ∧ Hid (wr.ownsRow w.heap.size 9 1 v k ((qs.take k).map fun q => partV q.1)) ∧ Hid (Below w.heap.size w wr)) (fun _ i _ => n - (intOf i).toNat)
  case atStart => exact ⟨0, Nat.zero_le _, by go_num, HO.out, HB2.out⟩
  case round =>
    obtain ⟨k, hk, rfl, hO, hB⟩ := hrel
    by_cases hlt : k < n
    · have hk2 : k < qs.length := by rw [HN.out]; exact hlt
      obtain ⟨g, rfl, _, hc0, hc1⟩ := HP.out.get k hk2
      have hgl : g < w.heap.size := World.block_lt_of_cell? w _ hc0
      have d0 : wr.cell? ⟨g, k * 2, none⟩ = some (.int .u8 qs[k].1.1.toNat) := by rw [hB.out.cell (p := ⟨g, k * 2, none⟩) hgl]; exact hc0
      have d1 : wr.cell? ⟨g, k * 2 + 1, none⟩ = some qs[k].2 := by rw [hB.out.cell (p := ⟨g, k * 2 + 1, none⟩) hgl]; exact hc1
      have hbd := HP.out.body _ (List.getElem_mem hk2)
      have hlen := HG.out _ (List.getElem_mem hk2)
      have HBT : Hid (∀ w', Below w.heap.size w w' → Calls Tryz.prog 47 #[qs[k].2] w' fun e w'' => e = .returned (.string (txtOf (txts qs[k].1.2))) ∧ Below w'.heap.size w' w'') := (fun (w' : World) (hb' : Below w.heap.size w w') => body_any' (w := w') (S := S) (xs := qs[k].1.2) (v := qs[k].2) (by omega) (fun j hj => Nat.lt_of_lt_of_le (HP.out.lt j hj) hb'.size) (hbd.kept (fun j hj => hb'.block j (HP.out.lt j hj)) (fun _ h => h)))
      have HT := Lib.hid (show ((qs.take (k + 1)).map fun q => partV q.1) = ((qs.take k).map fun q => partV q.1) ++ [partV qs[k].1] by
        rw [List.take_succ_eq_append_getElem hk2, List.map_append]; rfl)
      obtain ⟨ba, bn, bc, hbf⟩ := hbd.form
      rw [hbf] at d1 HBT
      have HPt := Lib.hid (show partV qs[k].1 = .string (txtOf [qs[k].1.1, 58] ++ txtOf (txts qs[k].1.2)) by
        rw [partV, partT, strV]; congr 1)
      have e1 := str_sum (txtOf [qs[k].1.1, 58]) (txtOf (txts qs[k].1.2)) (by rw [txtOf_size, txtOf_size]; simp; omega)
      have hsz := hB.out.size
      clear hc0 hc1 hbd hlen hbf hgl
      generalize qs[k].1.1 = nm at *
      generalize txtOf (txts qs[k].1.2) = bt at *
      obtain ⟨sa, sn, sc, hv2⟩ := slice_form hO.out
      subst hv2
      have hsn : sn = k := by
        rcases hO.out.2 with ⟨h1, h2⟩ | ⟨g, cap, cur, h1, _⟩
        · injection h1 with _ h3; omega
        · injection h1 with _ h3
      subst hsn
      have hcv : (convert 22 9 (.slice (some ⟨wr.heap.size + 1, 0, none⟩) 2 2)).run Tryz.prog (((wr.alloc (Obj.cells #[.int .u8 nm.toNat, .slice ba bn bc] 65)).alloc (Obj.cells #[.int .u8 (nm.toNat : Int), .int .u8 58] 5)).drew) = .ok (.string (txtOf [nm, 58])) (((wr.alloc (Obj.cells #[.int .u8 nm.toNat, .slice ba bn bc] 65)).alloc (Obj.cells #[.int .u8 (nm.toNat : Int), .int .u8 58] 5)).drew) :=
        conv_now nm ((wr.alloc (Obj.cells #[.int .u8 nm.toNat, .slice ba bn bc] 65)).drew) (wr.heap.size + 1) (show wr.heap.size + 1 = (wr.alloc (Obj.cells #[.int .u8 nm.toNat, .slice ba bn bc] 65)).heap.size by rw [alloc_size'])
      have hX0 : Below (wr.heap.size + 1) (wr.alloc (Obj.cells #[.int .u8 nm.toNat, .slice ba bn bc] 65)) ((wr.alloc (Obj.cells #[.int .u8 nm.toNat, .slice ba bn bc] 65)).drew) := (Below.refl _ _).drew
      have hX1 : Below (wr.heap.size + 1) (wr.alloc (Obj.cells #[.int .u8 nm.toNat, .slice ba bn bc] 65)) (((wr.alloc (Obj.cells #[.int .u8 nm.toNat, .slice ba bn bc] 65)).alloc (Obj.cells #[.int .u8 (nm.toNat : Int), .int .u8 58] 5)).drew) := ((Below.refl _ _).alloc (by rw [alloc_size']; exact Nat.le_refl _) _).drew
      have HX0 := Lib.hid hX0
      have HX1 := Lib.hid hX1
      have HW0 := Lib.hid (behind_copy hB.out hO.out hX0).2.2.1
      have HW1 := Lib.hid (behind_copy hB.out hO.out hX1).2.2.1
      have HZ0 := Lib.hid (sz_of hX0 (by rw [alloc_size']))
      have HZ1 := Lib.hid (sz_of hX1 (by rw [alloc_size']))
      clear hX0 hX1
      go_wp2_with fail
      go_region_law ((first
        | (refine step_append_lies _ (by rfl) (.tmp 15) (.tmp 24) 41 (by rfl) w.heap.size 9 i0 _ 1 16 Tryz.underlying41 hi hz0 hz1 hz2 (by rfl) (by decide) _ sn _ (by simp [Act.eval]) (World.ownsRow.alloc (w := w4) HO4.out _) ⟨w4.heap.size, 0, none⟩ 1 1 [.string (txtOf [nm, 58] ++ bt)] (by simp [Act.eval]) (by rfl) (World.news_of_block (heap_alloc_new _ _)) (by simp [Value.oneCell']) (by decide) (by unfold maxLen; omega) (by omega) (by rw [alloc_size]; exact Nat.le_succ_of_le HB4.out.size) (w4.heap.size + 1) (by rw [alloc_size]) ?_; intro g' cap' w5 hown' hgrow hat hlt')
        | (refine step_append_lies _ (by rfl) (.tmp 15) (.tmp 24) 41 (by rfl) w.heap.size 9 i0 _ 1 16 Tryz.underlying41 hi hz0 hz1 hz2 (by rfl) (by decide) _ sn _ (by simp [Act.eval]) (World.ownsRow.alloc (World.ownsRow.alloc (w := w4) HO4.out _) _) ⟨w4.heap.size + 1, 0, none⟩ 1 1 [.string (txtOf [nm, 58] ++ bt)] (by simp [Act.eval]) (by rfl) (World.news_of_block (new_two _ _ _)) (by simp [Value.oneCell']) (by decide) (by unfold maxLen; omega) (by omega) (by rw [alloc_size, alloc_size]; exact Nat.le_succ_of_le (Nat.le_succ_of_le HB4.out.size)) (w4.heap.size + 1 + 1) (by rw [alloc_size, alloc_size]) ?_; intro g' cap' w5 hown' hgrow hat hlt')
        | (go_simp
           go_wp2_with (
             go_at_call 47
             refine (HBT.out _ ?_).mono ?_
             · first | exact HW0.out | exact HW1.out
             rintro e w4 ⟨rfl, hb4⟩
             have h4 : Below (wr.heap.size + 1) (wr.alloc (Obj.cells #[.int .u8 nm.toNat, .slice ba bn bc] 65)) w4 := by first | exact HX0.out.trans (hb4.mono HZ0.out) | exact HX1.out.trans (hb4.mono HZ1.out)
             have H4 := Lib.hid h4
             clear h4
             obtain ⟨c0, c1, hB4, hO4⟩ := behind_copy hB.out hO.out H4.out
             have HB4 := Lib.hid hB4
             have HO4 := Lib.hid hO4
             have hcv4 := conv_now nm w4 w4.heap.size rfl
             try have hcv5 := conv_after hb4 (wr.heap.size + 1) (by rw [alloc_size'])
             clear hB4 hO4 hb4))))
      all_goals
        have HX5 := Lib.hid (And.intro hown' (show Below w.heap.size w w5 by
          first
            | exact grown_below HB4.out hgrow (fun j hj => (HO4.out.lt j hj).1)
            | exact grown_below (HB4.out.alloc HB4.out.size _) hgrow (fun j hj => (HO4.out.lt j hj).1)))
        clear hown' hgrow hat hlt'
        go_wp2_with fail
        go_roundw
        case rel =>
          refine ⟨sn + 1, by omega, by go_num, ?_, HX5.out.2⟩
          show World.ownsRow _ _ _ _ _ _ _
          rw [HT.out, HPt.out]; exact HX5.out.1
        case measure => simp [intOf]; omega
    · have hkn : k = n := by omega
      subst hkn
      have hall : qs.take k = qs := List.take_of_length_le (by rw [HN.out]; exact Nat.le_refl _)
      rw [hall] at hO
      have HJ := Lib.hid (join_parts (qs.map (·.1)))
      obtain ⟨sa, sn, sc, hv2⟩ := slice_form hO.out
      subst hv2
      have hsn : sn = k := by
        rcases hO.out.2 with ⟨h1, h2⟩ | ⟨g, cap, cur, h1, _⟩
        · injection h1 with _ h3; omega
        · injection h1 with _ h3
      subst hsn
      have hs1 : ∀ q ∈ qs, (partT q.1).length ≤ 1002 := fun q hq => by
        have := HG.out q hq
        simp only [partT, List.length_cons]; omega
      have HLn := Lib.hid (joinP_le (qs.map (·.1)) (by
        intro p hp
        obtain ⟨q, hq, rfl⟩ := List.mem_map.1 hp
        exact hs1 q hq))
      by_cases h0 : sn = 0
      · subst h0
        have hq0 : qs = [] := List.eq_nil_of_length_eq_zero HN.out
        go_wp2_with fail
        refine (Tryz.strings_Join_none sa sc ⟨#[59]⟩ _).mono ?_
        rintro e w3 ⟨rfl, rfl⟩
        go_wp2_with fail
        go_ret
        exact ⟨by rw [hq0]; rfl, hB.out⟩
      · obtain ⟨g, rfl, hcl, hgl, hcap⟩ := str_row hO.out (by omega)
        have HC := Lib.hid hcl
        clear hcl hs1
        go_wp2_with fail
        have hJ := Tryz.strings_Join g 0 sc (qs.map fun q => txtOf (partT q.1)) ⟨#[59]⟩ wr (fun j x hx => by rw [Nat.zero_add]; exact HC.out j x hx) hgl (by rw [List.length_map, HN.out]; omega) (by rw [List.length_map, HN.out]; exact hcap) (by
          rw [join_map]; have := HLn.out; rw [HJ.out]; simp only [List.length_map, HN.out] at this; omega)
        rw [List.length_map, HN.out, join_map, HJ.out] at hJ
        refine hJ.mono ?_
        rintro e w3 ⟨rfl, hb3⟩
        have HB3 := Lib.hid (hB.out.trans (hb3.mono hB.out.size))
        clear hb3
        go_wp2_with fail
        go_ret
        exact ⟨rfl, HB3.out⟩
end Go.Proofs.YtfmmpahbjkiomaaGreatDoor
namespace Go.Proofs.YtfmmpahbjkiomaaGreatDoor
open Go.RowKit Gram

set_option maxHeartbeats 1000000 in
theorem ren_calls (a b : UInt8) (xs : List Stm) (w : World) (S : Nat → Prop) (v : Value) (hx : (flats xs).length ≤ 1048576) (hS : ∀ k, S k → k < w.heap.size) (hB : IsBody w S xs v) :
    Calls Tryz.prog 30 #[v, .int .u8 a.toNat, .int .u8 b.toNat] w (RepTo w (rens a b xs)) := by
  have hal := ((Below.refl w.heap.size w).alloc (Nat.le_refl _) (.cells #[.int .u8 a.toNat] 5)).alloc (by rw [alloc_size']; omega) (.cells #[.int .u8 b.toNat] 5)
  have HR := Lib.hid (rep_all a b w.heap.size (w.heap.size + 1) _ xs _ S v (Nat.le_refl _) hx (fun k hk => Nat.lt_of_lt_of_le (hS k hk) hal.size) (hB.kept (fun k hk => hal.block k (hS k hk)) (fun _ h => h))
    (by rw [World.cell?_of_block (a := ⟨w.heap.size, 0, none⟩) (Lib.alloc_old _ _ _ (by rw [alloc_size']; exact Nat.lt_succ_self _)), Lib.cell_of_heap (heap_alloc_new _ _)]; rfl)
    (by rw [Lib.cell_of_heap (show _ = _ from by have := heap_alloc_new (w.alloc (.cells #[.int .u8 a.toNat] 5)) (.cells #[.int .u8 b.toNat] 5); rw [alloc_size'] at this; exact this)]; rfl))
  have HAl := Lib.hid hal
  clear hB hS hx hal
  go_enter Tryz.func30, Tryz.ntmps30
  go_wp2_with fail
  refine HR.out.mono ?_
  rintro e w2 ⟨la, ln, lc, S2, rfl, hB2, hS2, hb2⟩
  have HB := Lib.hid (And.intro hB2 (And.intro hS2 hb2))
  clear hB2 hS2 hb2
  go_wp2_with fail
  go_ret
  exact ⟨la, ln, lc, S2, rfl, HB.out.1, fun k hk => ⟨Nat.le_trans HAl.out.size (HB.out.2.1 k hk).1, (HB.out.2.1 k hk).2⟩, HAl.out.trans (HB.out.2.2.mono HAl.out.size)⟩

/-- the first k bodies renamed, all names -/
def midP (a b : UInt8) (k : Nat) (ps : List Pr) : List Pr := (ps.take k).map (renP a b) ++ (ps.drop k).map fun p => (renN a b p.1, p.2)
theorem midP_len (a b : UInt8) (k : Nat) (ps : List Pr) : (midP a b k ps).length = ps.length := by
  unfold midP; rw [List.length_append, List.length_map, List.length_map, ← List.length_append, List.take_append_drop]
theorem midP_get (a b : UInt8) (k : Nat) (ps : List Pr) (hk : k < ps.length) : (midP a b k ps)[k]? = some (renN a b ps[k].1, ps[k].2) := by
  unfold midP
  rw [List.getElem?_append_right (by simp; omega), List.length_map, List.length_take, Nat.min_eq_left (Nat.le_of_lt hk), Nat.sub_self, List.getElem?_map, List.getElem?_drop, Nat.add_zero, List.getElem?_eq_getElem hk]; rfl
theorem midP_step (a b : UInt8) (k : Nat) (ps : List Pr) (hk : k < ps.length) : (midP a b k ps).set k (renN a b ps[k].1, rens a b ps[k].2) = midP a b (k + 1) ps := by
  unfold midP
  rw [List.set_append_right _ _ (by simp; omega), List.length_map, List.length_take, Nat.min_eq_left (Nat.le_of_lt hk), Nat.sub_self, List.drop_eq_getElem_cons hk, List.map_cons, List.set_cons_zero, List.take_succ_eq_append_getElem hk, List.map_append, List.append_assoc]
  rfl
theorem midP_all (a b : UInt8) (ps : List Pr) : midP a b ps.length ps = ps.map (renP a b) := by unfold midP; simp
/-- the name put anew is that of the only procedure that bears it -/
theorem midP_start (a b : UInt8) (ps : List Pr) (hn : (namesOf ps).Nodup) (i : Nat) (hi : i < ps.length) (ha : ps[i].1 = a) : ps.set i (b, ps[i].2) = midP a b 0 ps := by
  unfold midP
  rw [List.take_zero, List.map_nil, List.nil_append, List.drop_zero]
  apply List.ext_getElem
  · simp
  · intro j h1 h2
    rw [List.getElem_set, List.getElem_map]
    have hj : j < ps.length := by simpa using h2
    split
    · rename_i h; subst h; rw [renN, if_pos ha]
    · rename_i h
      have : ps[j].1 ≠ a := by
        intro he
        have h3 := (List.getElem_inj (xs := namesOf ps) (i := i) (j := j) (h₀ := by simpa [namesOf] using hi) (h₁ := by simpa [namesOf] using hj) hn).1 (by simp [namesOf, ha, he])
        exact h h3
      rw [renN, if_neg this]
theorem sort_sortP {qs : List Qr} {ps : List Pr} (hp : (qs.map (·.1)).Perm ps) (hs : qs.Pairwise fun p q => p.1.1.toNat ≤ q.1.1.toNat) (hn : (namesOf ps).Nodup) (hl : ∀ q ∈ ps, isLet q.1 = true) : qs.map (·.1) = sortP ps := by
  have hnq : (namesOf (qs.map (·.1))).Nodup := ((hp.map _).nodup_iff).2 hn
  refine asc_ext _ _ ?_ (sortP_asc hn) fun p => ?_
  · unfold asc
    rw [namesOf, List.pairwise_map, List.pairwise_map]
    have h2 : qs.Pairwise fun p q => p.1.1 ≠ q.1.1 := by
      unfold List.Nodup at hnq
      rw [namesOf, List.pairwise_map, List.pairwise_map] at hnq
      exact hnq
    refine (hs.and h2).imp ?_
    rintro p q ⟨h3, h4⟩
    have : p.1.1.toNat ≠ q.1.1.toNat := fun e => h4 (UInt8.toNat_inj.1 e)
    omega
  · rw [mem_sortP hl]; exact hp.mem_iff

set_option maxHeartbeats 2000000 in
set_option maxRecDepth 100000 in
theorem irn_none (s nm tn : ByteArray) (w : World) (hs : s.size ≤ 1073741824) (hm : MaxCell w) (h : lookP s nm = none) :
    Calls Tryz.prog 8 #[.string s, .string nm, .string tn] w fun e w' => e = .returned (.tuple #[.string ⟨#[]⟩, .bool false]) ∧ Below w.heap.size w w' := by
  have HF := Lib.hid (find_proc s nm w hs hm)
  have HL := Lib.hid (fun w => letter_of tn w)
  have HH := Lib.hid h
  clear hm hs h
  generalize (nameOf tn.data.toList).isSome = b2 at *
  generalize letN (nameOf tn.data.toList) = l2 at *
  go_enter Tryz.func8, Tryz.ntmps8
  go_wp2_with fail
  refine HF.out.mono ?_
  rintro e w2 ⟨hq, hb⟩
  rw [HH.out] at hq
  obtain ⟨a, n, c, k, rfl⟩ := hq
  have HB := Lib.hid hb
  clear hb
  go_wp2_with fail
  refine (HL.out _).mono ?_
  rintro e w3 ⟨rfl, rfl⟩
  go_wp2_with fail
  go_ret2
  exact ⟨rfl, HB.out⟩

set_option maxHeartbeats 4000000 in
set_option maxRecDepth 100000 in
theorem irn_some (s nm tn : ByteArray) (w : World) (hs : s.size ≤ 1073741824) (hm : MaxCell w) (p : Pr) (h : lookP s nm = some p) :
    Calls Tryz.prog 8 #[.string s, .string nm, .string tn] w fun e w' => e = .returned (renV s nm tn) ∧ Below w.heap.size w w' := by
  have HF := Lib.hid (find_proc s nm w hs hm)
  have hl0 := fun w => letter_of tn w
  have HM := Lib.hid hm
  have HH := Lib.hid h
  clear hm hs h
  go_enter Tryz.func8, Tryz.ntmps8
  go_wp2_with fail
  refine HF.out.mono ?_
  rintro e w2 ⟨hq, hb⟩
  rw [HH.out] at hq
  obtain ⟨a, n, c, k, S, qs, hk, rfl, hprog, hIP, hG, hqk, hqn, hn4, hnm⟩ := hq
  have HB2 := Lib.hid hb
  clear hb
  have hf := prog_facts hprog
  have hasc : asc (namesOf (qs.map (·.1))) := procs_asc _ _ _ hf.2.2.2 (by simp [asc, namesOf])
  have hnd := Lib.hid (asc_nodup' hasc)
  have hpm : p ∈ qs.map (·.1) := by rw [← hqk]; exact List.mem_map.2 ⟨_, List.getElem_mem hk, rfl⟩
  have hga := Lib.hid (show p.1 ∈ namesOf (qs.map (·.1)) from List.mem_map.2 ⟨p, hpm, rfl⟩)
  have hgood : isLet p.1 = true := (hf.2.1 p hpm).2.2.2
  have hnn : nameOf nm.data.toList = some p.1 := by rw [hnm, nameOf, if_pos hgood]
  have HN := Lib.hid (fun w3 (hb3 : Below w2.heap.size w2 w3) => names_set (hIP.kept fun k hk => hb3.block k hk) hG (by omega))
  have hlets := namesQ_lets hG
  have hnq : namesQ qs = namesOf (qs.map (·.1)) := by rw [namesOf, List.map_map]; rfl
  cases hno : nameOf tn.data.toList with
  | none =>
    rw [hno] at hl0
    simp only [letN, Option.getD, Option.isSome] at hl0
    have HL := Lib.hid hl0
    clear hl0
    have HV := Lib.hid (show renV s nm tn = .tuple #[.string ⟨#[]⟩, .bool false] by simp only [renV, hprog, hnn, hno])
    clear hno hprog hIP hG hqk hf hasc hpm hgood hnn hlets hnq hnm HN
    go_wp2_with fail
    refine (HL.out _).mono ?_
    rintro e w3 ⟨rfl, rfl⟩
    go_wp2_with fail
    go_ret2
    exact ⟨by rw [HV.out]; rfl, HB2.out⟩
  | some b =>
    rw [hno] at hl0
    simp only [letN, Option.getD, Option.isSome] at hl0
    have HL := Lib.hid hl0
    clear hl0
    have hlb := nameOf_some hno
    have hhas := Lib.hid (fun w' => has_set (namesQ qs) b hlets hlb.2 w')
    have hV : renV s nm tn = if p.1 ∈ namesOf (qs.map (·.1)) ∧ (b ∉ namesOf (qs.map (·.1)) ∨ b = p.1) then .tuple #[.string (rnT (qs.map (·.1)) p.1 b), .bool true] else .tuple #[.string ⟨#[]⟩, .bool false] := by simp only [renV, hprog, hnn, hno]
    have htl : tn.toList = [b] := by rw [← hlb.1, ByteArray.toList_eq]
    have hnl : nm.toList = [p.1] := by rw [← hnm, ByteArray.toList_eq]
    have hneq : (tn.toList == nm.toList) = (b == p.1) := by rw [htl, hnl]; simp
    have hcn : (namesQ qs).contains b = decide (b ∈ namesOf (qs.map (·.1))) := by rw [hnq, List.contains_eq_mem]
    have hbp : (b == p.1) = decide (b = p.1) := rfl
    obtain ⟨g, rfl, hgB, c0, c1⟩ := IsProg.get (hqn ▸ hIP) k hk
    obtain ⟨_, curg, hcurg⟩ := hIP.row_block (g := g) rfl
    have hgl := heap_lt hcurg
    rw [hqk] at c0
    have hkn : (k : Int) < (n : Int) := by omega
    have hk0 : (0 : Int) ≤ (k : Int) := Int.natCast_nonneg _
    by_cases hbad : b ∈ namesOf (qs.map (·.1)) ∧ b ≠ p.1
    · have HV := Lib.hid (hV.trans (if_neg (by rintro ⟨_, h | h⟩; exact h hbad.1; exact hbad.2 h)))
      rw [decide_eq_true hbad.1] at hcn
      have hq : (tn.toList == nm.toList) = false := by rw [hneq]; simpa using hbad.2
      rw [hcn] at hhas
      have HHas := Lib.hid hhas
      clear hhas hV hno hprog hIP hG hqk hf hasc hpm hgood hnn hlets hnq hnm htl hnl hneq hcn hbp hbad c0 c1 hcurg
      go_wp2_with fail
      refine (HL.out _).mono ?_
      rintro e w3 ⟨rfl, rfl⟩
      go_wp2_with fail
      refine (HN.out _ (Below.refl _ _)).mono ?_
      rintro e w4 ⟨rfl, hb4⟩
      have HB4 := Lib.hid (HB2.out.trans (hb4.mono HB2.out.size))
      clear hb4
      go_wp2_with fail
      refine (HHas.out.out _).mono ?_
      rintro e w5 ⟨rfl, rfl⟩
      go_wp2_with fail
      go_ret2
      exact ⟨by rw [HV.out]; rfl, HB4.out⟩
    · have hfree : b ∉ namesOf (qs.map (·.1)) ∨ b = p.1 := by
        by_cases h1 : b = p.1
        · exact .inr h1
        · exact .inl fun h2 => hbad ⟨h2, h1⟩
      have HV := Lib.hid (hV.trans (if_pos ⟨hga.out, hfree⟩))
      have HRn := Lib.hid (ren_facts hprog hga.out hlb.2 hfree)
      have HIP := Lib.hid hIP
      have HGq := Lib.hid hG
      have HF0 := Lib.hid hf
      have HQK := Lib.hid hqk
      have HQN := Lib.hid hqn
      have hkey : (b = p.1) ∨ (b ≠ p.1 ∧ b ∉ namesOf (qs.map (·.1))) := by
        rcases hfree with h | h
        · by_cases h1 : b = p.1
          · exact .inl h1
          · exact .inr ⟨h1, h⟩
        · exact .inl h
      have HC0 := Lib.hid c0
      clear hV hno hprog hIP hG hf hasc hpm hgood hnn hlets hnq hnm htl hnl hbad hfree c1 hbp
      have HCG := Lib.hid hcurg
      clear hcurg hqk
      rcases hkey with h1 | ⟨h1, h2⟩
      case' neg.inl =>
        have hq : (tn.toList == nm.toList) = true := by rw [hneq]; simpa using h1
        have fz := Lib.frozen_of_heap HCG.out (k * 2)
        clear hneq hcn h1
        go_wp2_with fail
        refine (HL.out _).mono ?_
        rintro e w3 ⟨rfl, rfl⟩
        go_wp2_with fail
        obtain ⟨w4, hw4⟩ : ∃ x, x = w2 := ⟨_, rfl⟩
        subst hw4
        have HI4 := HIP
        have HW4 := HB2
        clear c0 fz
      case' neg.inr =>
        have hq : (tn.toList == nm.toList) = false := by rw [hneq]; simpa using h1
        rw [decide_eq_false h2] at hcn
        rw [hcn] at hhas
        have HHas := Lib.hid hhas
        clear hneq hcn h1 h2 hhas c0
        go_wp2_with fail
        refine (HL.out _).mono ?_
        rintro e w3 ⟨rfl, rfl⟩
        go_wp2_with fail
        refine (HN.out _ (Below.refl _ _)).mono ?_
        rintro e w4 ⟨rfl, hb4⟩
        have HB4 := Lib.hid hb4
        have c0 := cell_later (show Below w2.heap.size w2 w4 from hb4) HC0.out
        have fz := Lib.frozen_of_heap (show w4.heap[g]? = _ from (hb4.block g hgl).trans HCG.out) (k * 2)
        clear hb4
        go_wp2_with fail
        refine (HHas.out.out _).mono ?_
        rintro e w5 ⟨rfl, rfl⟩
        go_wp2_with fail
        have HI4 := Lib.hid (HIP.out.kept fun k hk => HB4.out.block k hk)
        have HW4 := Lib.hid (HB2.out.trans (HB4.out.mono HB2.out.size))
        clear c0 fz
      all_goals
        have HI6 := Lib.hid (IsProg.name k hk b HI4.out)
        have HW6 := Lib.hid (show Below w.heap.size w (w4.setCell ⟨g, k * 2, none⟩ (.int .u8 b.toNat)) from HW4.out.setCell (p := ⟨g, k * 2, none⟩) hgB _)
        have HST := Lib.hid (show (qs.set k ((b, qs[k].1.2), qs[k].2)).map (·.1) = midP p.1 b 0 (qs.map (·.1)) from by
          rw [List.map_set, ← midP_start p.1 b (qs.map (·.1)) hnd.out k (by rw [List.length_map]; exact hk) (by rw [List.getElem_map, HQK.out])]
          simp)
        have HGp := Lib.hid (show ∀ q ∈ qs.map (·.1), Good q from fun q hq => HF0.out.2.1 q hq)
        have HLn := Lib.hid (show (qs.map (·.1)).length = n by rw [List.length_map, HQN.out])
        generalize qs.set k ((b, qs[k].1.2), qs[k].2) = qs6 at HI6 HST
        generalize w4.setCell ⟨g, k * 2, none⟩ (.int .u8 b.toNat) = w6 at HI6 HW6 ⊢
        generalize qs.map (·.1) = ps at *
        generalize p.1 = a at *
        clear HI4 HW4 HIP
        go_loopw [56] (fun i wr => ∃ m : Nat, m ≤ n ∧ i = .int .i64 m ∧ Hid (∃ S' qs', qs'.map (·.1) = midP a b m ps ∧ IsProg wr w.heap.size S' qs' (.slice (some ⟨g, 0, none⟩) n c)) ∧ Hid (Below w.heap.size w wr)) (fun i _ => n - (intOf i).toNat)
        case atStart => exact ⟨0, Nat.zero_le _, by go_num, ⟨_, _, HST.out, HI6.out⟩, HW6.out⟩
        case round =>
          obtain ⟨m, hm, rfl, hI, hbr⟩ := hrel
          by_cases hlt : m < n
          · obtain ⟨S', qs', hmap, hP⟩ := hI.out
            have hmq : m < qs'.length := by
              have := congrArg List.length hmap
              rw [List.length_map, midP_len, HLn.out] at this
              omega
            have hmp : m < ps.length := by rw [HLn.out]; exact hlt
            have hnq' : qs'.length = n := by
              have := congrArg List.length hmap
              rw [List.length_map, midP_len, HLn.out] at this
              exact this
            have hq1 : qs'[m].1 = (renN a b ps[m].1, ps[m].2) := by
              have := midP_get a b m ps hmp
              rw [← hmap, List.getElem?_map, List.getElem?_eq_getElem hmq] at this
              injection this
            obtain ⟨g', hg', _, d0, d1⟩ := IsProg.get (hnq' ▸ hP) m hmq
            injection hg' with hg'
            injection hg' with hg'
            subst hg'
            obtain ⟨_, cur6, hcur6⟩ := hP.row_block (g := g) rfl
            have hbody := hP.body _ (List.getElem_mem hmq)
            obtain ⟨ba, bn, bc, hbv⟩ := hbody.form
            rw [hq1, hbv] at hbody
            rw [hbv] at d1
            have hgd := HGp.out ps[m] (List.getElem_mem hmp)
            have hfl := flats_le ps[m].2
            have HRC := Lib.hid (ren_calls a b ps[m].2 wr S' (.slice ba bn bc) (by have := hgd.2.2.1; omega) hP.lt hbody)
            have HSp := Lib.hid (show (qs'.set m ((qs'[m].1.1, rens a b ps[m].2), qs'[m].2)).map (·.1) = midP a b (m + 1) ps ∧ qs'[m].1.1 = renN a b ps[m].1 from by
              refine ⟨?_, by rw [hq1]⟩
              rw [List.map_set, hmap, ← midP_step a b m ps hmp, hq1])
            have HP := Lib.hid hP
            have HMQ := Lib.hid hmq
            have HMap := Lib.hid hmap
            have HC6 := Lib.hid hcur6
            have HQ1 := Lib.hid hq1
            have HD1 := Lib.hid d1
            have hmn : (m : Int) < (n : Int) := by omega
            have hm0 : (0 : Int) ≤ (m : Int) := Int.natCast_nonneg _
            have hszr := hbr.out.size
            clear hI hP hmap hbody hbv hgd hfl hcur6 d0 hq1
            go_wp2_with fail
            refine HRC.out.mono ?_
            rintro e w7 ⟨la, l1, lc, S7, rfl, hB7, hS7, hb7⟩
            have d7 : w7.cell? ⟨g, m * 2 + 1, none⟩ = some (.slice ba bn bc) := cell_later hb7 HD1.out
            have fz7 : w7.frozen? ⟨g, m * 2 + 1, none⟩ = false := Lib.frozen_of_heap ((hb7.block g (heap_lt HC6.out)).trans HC6.out) _
            have HP8 := Lib.hid (IsProg.put m HMQ.out (rens a b ps[m].2) (.slice la l1 lc) (HP.out.kept fun k hk => hb7.block k hk) hB7 (fun k hk => ⟨Nat.le_trans hszr (hS7 k hk).1, (hS7 k hk).2⟩))
            have HB8 := Lib.hid ((hbr.out.trans (hb7.mono hszr)).setCell (p := ⟨g, m * 2 + 1, none⟩) hgB (.slice la l1 lc))
            clear hB7 hS7 hb7 d1
            go_wp2_with fail
            go_roundw
            case rel =>
              refine ⟨m + 1, by omega, by go_num, ⟨_, _, ?_, HP8.out⟩, HB8.out⟩
              rw [List.map_set, HMap.out, ← midP_step a b m ps hmp, HQ1.out]
            case measure => simp [intOf]; omega
          · have hmn : m = n := by omega
            subst hmn
            obtain ⟨S', qs', hmap, hP⟩ := hI.out
            rw [← HLn.out, midP_all] at hmap
            have HMap := Lib.hid hmap
            have HSrt := Lib.hid (sort_any hP hn4)
            have HNQ := Lib.hid (show qs'.length = m by have := congrArg List.length hmap; rw [List.length_map, List.length_map, HLn.out] at this; exact this)
            clear hI hP hmap
            have hszr := hbr.out.size
            go_wp2_with fail
            refine HSrt.out.mono ?_
            rintro e w7 ⟨rfl, qs8, hpm, hso, hP8, hb8⟩
            have hS := sort_sortP (ps := ps.map (renP a b)) (by rw [← HMap.out]; exact hpm.map _) hso HRn.out.nodup HRn.out.lets
            have hgd8 : ∀ q ∈ qs8, (txts q.1.2).length ≤ 1000 := by
              intro q hq
              have h1 : q.1 ∈ ps.map (renP a b) := by rw [← HMap.out]; exact (hpm.map _).mem_iff.1 (List.mem_map.2 ⟨q, hq, rfl⟩)
              obtain ⟨p', hp', he⟩ := List.mem_map.1 h1
              rw [← he]
              show (txts (rens a b p'.2)).length ≤ 1000
              rw [(stms_ren_wf a b hlb.2 p'.2 (HGp.out p' hp').1).2.2.1]
              have := (HGp.out p' hp').2.2.1
              omega
            have HPL := Lib.hid (parts_loop hP8 (by rw [hpm.length_eq, HNQ.out]) hn4 hgd8)
            have HSo := Lib.hid hS
            have HB8 := Lib.hid (hbr.out.trans hb8)
            clear hpm hso hP8 hb8 hS hgd8
            go_wp2_with fail
            refine HPL.out.mono ?_
            rintro e w9 ⟨rfl, hb9⟩
            have HB9 := Lib.hid (HB8.out.trans (hb9.mono HB8.out.size))
            clear hb9
            rw [HSo.out]
            go_wp2_with fail
            go_ret2
            exact ⟨by rw [HV.out]; rfl, HB9.out⟩

theorem impl_ren (s nm tn : ByteArray) (w : World) (hs : s.size ≤ 1073741824) (hm : MaxCell w) :
    Calls Tryz.prog 8 #[.string s, .string nm, .string tn] w fun e w' => e = .returned (renV s nm tn) ∧ Below w.heap.size w w' := by
  cases h : lookP s nm with
  | some p => exact irn_some s nm tn w hs hm p h
  | none =>
    have hV : renV s nm tn = .tuple #[.string ⟨#[]⟩, .bool false] := by
      unfold renV
      split
      · rename_i ps a b hp hn _
        rw [lookP, hp, hn] at h
        have hna : a ∉ namesOf ps := by
          intro hm
          obtain ⟨q, hq, he⟩ := List.mem_map.1 hm
          rw [List.find?_eq_none] at h
          exact h q hq (by simp [he])
        rw [if_neg fun h => hna h.1]
      · rfl
    rw [hV]
    exact irn_none s nm tn w hs hm h
end Go.Proofs.YtfmmpahbjkiomaaGreatDoor
