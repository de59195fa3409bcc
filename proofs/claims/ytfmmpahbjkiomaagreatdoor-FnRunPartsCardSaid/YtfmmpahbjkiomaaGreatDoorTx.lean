/- The text of a program that lies in memory. Condition: at most 400 procedures, bodies of at most 2^20 bytes together. -/
import Derived.Test.YtfmmpahbjkiomaaGreatDoorQx
import Derived.Test.YtfmmpahbjkiomaaGreatDoorPx
import Derived.Test.YtfmmpahbjkiomaaGreatDoorBody
import Derived.Deep.RegionWith
import Derived.Deep.RegionHeld3
import Derived.Deep.RegionLaw
import Derived.Deep.AppendLies
namespace Go.Proofs.YtfmmpahbjkiomaaGreatDoor
open Go.RowKit Gram

def partT (p : Pr) : List UInt8 := p.1 :: 58 :: txts p.2
def partV (p : Pr) : Value := strV (partT p)

theorem body_any' {w : World} {S : Nat → Prop} {xs : List Stm} {v : Value} (hx : (txts xs).length ≤ 1048576) (hS : ∀ k, S k → k < w.heap.size) (h : IsBody w S xs v) :
    Calls Tryz.prog 47 #[v] w fun e w' => e = .returned (strV (txts xs)) ∧ Below w.heap.size w w' :=
  body_step _ (text_all _) xs w S v (Nat.le_refl _) hx hS h

theorem conv_now (nm : UInt8) (w : World) (b : Nat) (hb : b = w.heap.size) :
    (convert 22 9 (.slice (some ⟨b, 0, none⟩) 2 2)).run Tryz.prog (w.alloc (Obj.cells #[.int .u8 (nm.toNat : Int), .int .u8 58] 5)) = .ok (.string (txtOf [nm, 58])) (w.alloc (Obj.cells #[.int .u8 (nm.toNat : Int), .int .u8 58] 5)) :=
  str2 nm 58 w b hb

theorem conv_after {nm : UInt8} {Y w4 : World} (hb : Below ((Y.alloc (Obj.cells #[.int .u8 (nm.toNat : Int), .int .u8 58] 5)).drew).heap.size ((Y.alloc (Obj.cells #[.int .u8 (nm.toNat : Int), .int .u8 58] 5)).drew) w4) (b : Nat) (hbb : b = Y.heap.size) :
    (convert 22 9 (.slice (some ⟨b, 0, none⟩) 2 2)).run Tryz.prog w4 = .ok (.string (txtOf [nm, 58])) w4 := by
  subst hbb
  have h1 : w4.heap[Y.heap.size]? = some (Obj.cells #[.int .u8 (nm.toNat : Int), .int .u8 58] 5 (0, 0)) := by
    rw [hb.block _ (by show _ < (Y.alloc _).heap.size; rw [alloc_size']; omega)]; exact heap_alloc_new _ _
  exact run_convert_bytes_back (P := Tryz.prog) _ 22 9 5 ⟨Y.heap.size, 0, none⟩ 2 [nm, 58] Tryz.underlying22 Tryz.underlying5 Tryz.underlying9 (bytes_cells (e := 5) h1)

theorem new_two (w : World) (o o2 : Obj) : ((w.alloc o).alloc o2).heap[w.heap.size + 1]? = some o2 := by
  have := heap_alloc_new (w.alloc o) o2
  rw [alloc_size'] at this; exact this
theorem grown_below {w Z w5 : World} {o : Obj} {r : Option Nat} (hb : Below w.heap.size w Z) (hg : (Z.alloc o).grownBy w5 r) (hr : ∀ j, r = some j → w.heap.size ≤ j) : Below w.heap.size w w5 :=
  (hb.alloc hb.size o).grown hg (by rw [alloc_size']; have := hb.size; omega) hr
theorem join_parts : ∀ ps : List Pr, Lib.join (ps.map partT) [59] = joinP ps
  | [] => rfl
  | [p] => by simp [Lib.join, joinP, partT, List.intercalate]
  | p :: q :: r => by
    have h := join_parts (q :: r)
    simp only [Lib.join, List.map_cons] at h ⊢
    rw [joinP, ← h]
    simp [List.intercalate, List.intersperse, partT]
theorem join_map (qs : List Qr) : Lib.join ((qs.map fun q => txtOf (partT q.1)).map (·.data.toList)) (⟨#[59]⟩ : ByteArray).data.toList = Lib.join ((qs.map (·.1)).map partT) [59] := by
  rw [List.map_map, List.map_map]; rfl
theorem joinP_le : ∀ ps : List Pr, (∀ p ∈ ps, (partT p).length ≤ 1002) → (joinP ps).length ≤ ps.length * 1003
  | [], _ => by simp [joinP]
  | [p], h => by
    have := h p (by simp)
    simp only [partT] at this
    simp only [joinP, List.length_cons, List.length_nil] at this ⊢; omega
  | p :: q :: r, h => by
    have h1 := h p (by simp)
    have h2 := joinP_le (q :: r) (fun x hx => h x (List.mem_cons_of_mem _ hx))
    simp only [partT, List.length_cons] at h1 h2
    simp only [joinP, List.length_cons, List.length_append]; omega
/-- a row of texts that isn't empty -/
theorem str_row {w : World} {B n c : Nat} {a : Option Addr} {qs : List Qr} (h : w.ownsRow B 9 1 (.slice a n c) n (qs.map fun q => partV q.1)) (hn : 0 < n) :
    ∃ g, a = some ⟨g, 0, none⟩ ∧ (∀ (j : Nat) x, (qs.map fun q => txtOf (partT q.1))[j]? = some x → w.cell? ⟨g, j, none⟩ = some (.string x)) ∧ g < w.heap.size ∧ n ≤ c := by
  rcases h.2 with ⟨h1, h2⟩ | ⟨g, cap, cur, h1, hb, hg, hle, _⟩
  · omega
  · have hr := h
    rw [h1] at hr
    injection h1 with h3 h4 h5
    subst h3
    subst h5
    refine ⟨g, rfl, fun j x hx => ?_, heap_lt hg, hle⟩
    refine row_cell hr j (.string x) ?_
    rw [List.getElem?_map] at hx ⊢
    obtain ⟨q, hq, rfl⟩ := Option.map_eq_some_iff.1 hx
    rw [hq]; rfl
theorem sz_of {B : Nat} {A X : World} (h : Below B A X) (hB : B = A.heap.size) : B ≤ X.heap.size := by have := h.size; omega
/-- what holds of a world behind the copy of a procedure -/
theorem behind_copy {w wr w4 : World} {nm : UInt8} {v u : Value} {n : Nat} {xs : List Value} {e : TypeId} (hB : Below w.heap.size w wr) (hO : wr.ownsRow w.heap.size e 1 u n xs)
    (h : Below (wr.heap.size + 1) (wr.alloc (Obj.cells #[.int .u8 nm.toNat, v] 65)) w4) :
    w4.cell? ⟨wr.heap.size, 0, none⟩ = some (.int .u8 nm.toNat) ∧ w4.cell? ⟨wr.heap.size, 1, none⟩ = some v ∧ Below w.heap.size w w4 ∧ w4.ownsRow w.heap.size e 1 u n xs := by
  have h1 : w4.heap[wr.heap.size]? = some (Obj.cells #[.int .u8 nm.toNat, v] 65 (0, 0)) := by
    rw [h.block _ (by omega)]; exact heap_alloc_new _ _
  refine ⟨by rw [Lib.cell_of_heap h1]; rfl, by rw [Lib.cell_of_heap h1]; rfl, (hB.alloc hB.size _).trans (h.mono (by have := hB.size; omega)), ?_⟩
  exact ownsRow_of hO fun j hj => by
    have := (hO.lt j hj).2
    rw [h.block _ (by omega), alloc_heap _ _ this]

set_option maxHeartbeats 2000000 in
set_option maxRecDepth 100000 in
theorem parts_loop {w : World} {B : Nat} {S : Nat → Prop} {qs : List Qr} {a : Option Addr} {n c : Nat} (h : IsProg w B S qs (.slice a n c)) (hn : qs.length = n) (hl : n ≤ 401) (hg : ∀ q ∈ qs, (txts q.1.2).length ≤ 1000) :
    Calls Tryz.prog 33 #[.slice a n c] w fun e w' => e = .returned (.string (txtOf (joinP (qs.map (·.1))))) ∧ Below w.heap.size w w' := by
  have HP := Lib.hid h
  have HN := Lib.hid hn
  have HG := Lib.hid hg
  obtain ⟨i0, hi, hz0, hz1, hz2⟩ := info_parts info_str
  clear h hn hg
  go_enter Tryz.func33, Tryz.ntmps33
  go_wp2_with (at_make; refine wpList_make_own _ rfl _ _ 41 rfl w.heap.size 9 i0 (.string ⟨#[]⟩) 1 Tryz.underlying41 hi hz0 hz1 _ _ _ n rfl rfl (by omega) ?c1 ?c2 ?c3 ?_)
  case c1 => rw [hz2]; omega
  case c2 => unfold maxLen; omega
  case c3 => exact Nat.le_refl _
  intro w2 hown hgrow
  have HO := Lib.hid hown
  have HB2 := Lib.hid (show Below w.heap.size w w2 from (Below.refl _ _).grown hgrow (Nat.le_refl _) (fun k hk => by cases hk))
  clear hown hgrow
  go_wp2_with fail
  go_loopw [3, 11] (fun v i wr => ∃ k : Nat, k ≤ n ∧ i = .int .i64 k ∧ Hid (wr.ownsRow w.heap.size 9 1 v k ((qs.take k).map fun q => partV q.1)) ∧ Hid (Below w.heap.size w wr)) (fun _ i _ => n - (intOf i).toNat)
  case atStart => exact ⟨0, Nat.zero_le _, by go_num, HO.out, HB2.out⟩
  case round =>
    obtain ⟨k, hk, rfl, hO, hB⟩ := hrel
    by_cases hlt : k < n
    · have hk2 : k < qs.length := by rw [HN.out]; exact hlt
      obtain ⟨g, rfl, _, hc0, hc1⟩ := HP.out.get k hk2
      have hgl : g < w.heap.size := World.block_lt_of_cell? w _ hc0
      have d0 : wr.cell? ⟨g, k * 2, none⟩ = some (.int .u8 qs[k].1.1.toNat) := by rw [hB.out.cell (p := ⟨g, k * 2, none⟩) hgl]; exact hc0
      have d1 : wr.cell? ⟨g, k * 2 + 1, none⟩ = some qs[k].2 := by rw [hB.out.cell (p := ⟨g, k * 2 + 1, none⟩) hgl]; exact hc1
      have hbd := HP.out.body _ (List.getElem_mem hk2)
      have hlen := HG.out _ (List.getElem_mem hk2)
      have HBT : Hid (∀ w', Below w.heap.size w w' → Calls Tryz.prog 47 #[qs[k].2] w' fun e w'' => e = .returned (.string (txtOf (txts qs[k].1.2))) ∧ Below w'.heap.size w' w'') := (fun (w' : World) (hb' : Below w.heap.size w w') => body_any' (w := w') (S := S) (xs := qs[k].1.2) (v := qs[k].2) (by omega) (fun j hj => Nat.lt_of_lt_of_le (HP.out.lt j hj) hb'.size) (hbd.kept (fun j hj => hb'.block j (HP.out.lt j hj)) (fun _ h => h)))
      have HT := Lib.hid (show ((qs.take (k + 1)).map fun q => partV q.1) = ((qs.take k).map fun q => partV q.1) ++ [partV qs[k].1] by
        rw [List.take_succ_eq_append_getElem hk2, List.map_append]; rfl)
      obtain ⟨ba, bn, bc, hbf⟩ := hbd.form
      rw [hbf] at d1 HBT
      have HPt := Lib.hid (show partV qs[k].1 = .string (txtOf [qs[k].1.1, 58] ++ txtOf (txts qs[k].1.2)) by
        rw [partV, partT, strV]; congr 1)
      have e1 := str_sum (txtOf [qs[k].1.1, 58]) (txtOf (txts qs[k].1.2)) (by rw [txtOf_size, txtOf_size]; simp; omega)
      have hsz := hB.out.size
      clear hc0 hc1 hbd hlen hbf hgl
      generalize qs[k].1.1 = nm at *
      generalize txtOf (txts qs[k].1.2) = bt at *
      obtain ⟨sa, sn, sc, hv2⟩ := slice_form hO.out
      subst hv2
      have hsn : sn = k := by
        rcases hO.out.2 with ⟨h1, h2⟩ | ⟨g, cap, cur, h1, _⟩
        · injection h1 with _ h3; omega
        · injection h1 with _ h3
      subst hsn
      have hcv : (convert 22 9 (.slice (some ⟨wr.heap.size + 1, 0, none⟩) 2 2)).run Tryz.prog (((wr.alloc (Obj.cells #[.int .u8 nm.toNat, .slice ba bn bc] 65)).alloc (Obj.cells #[.int .u8 (nm.toNat : Int), .int .u8 58] 5)).drew) = .ok (.string (txtOf [nm, 58])) (((wr.alloc (Obj.cells #[.int .u8 nm.toNat, .slice ba bn bc] 65)).alloc (Obj.cells #[.int .u8 (nm.toNat : Int), .int .u8 58] 5)).drew) :=
        conv_now nm ((wr.alloc (Obj.cells #[.int .u8 nm.toNat, .slice ba bn bc] 65)).drew) (wr.heap.size + 1) (show wr.heap.size + 1 = (wr.alloc (Obj.cells #[.int .u8 nm.toNat, .slice ba bn bc] 65)).heap.size by rw [alloc_size'])
      have hX0 : Below (wr.heap.size + 1) (wr.alloc (Obj.cells #[.int .u8 nm.toNat, .slice ba bn bc] 65)) ((wr.alloc (Obj.cells #[.int .u8 nm.toNat, .slice ba bn bc] 65)).drew) := (Below.refl _ _).drew
      have hX1 : Below (wr.heap.size + 1) (wr.alloc (Obj.cells #[.int .u8 nm.toNat, .slice ba bn bc] 65)) (((wr.alloc (Obj.cells #[.int .u8 nm.toNat, .slice ba bn bc] 65)).alloc (Obj.cells #[.int .u8 (nm.toNat : Int), .int .u8 58] 5)).drew) := ((Below.refl _ _).alloc (by rw [alloc_size']; exact Nat.le_refl _) _).drew
      have HX0 := Lib.hid hX0
      have HX1 := Lib.hid hX1
      have HW0 := Lib.hid (behind_copy hB.out hO.out hX0).2.2.1
      have HW1 := Lib.hid (behind_copy hB.out hO.out hX1).2.2.1
      have HZ0 := Lib.hid (sz_of hX0 (by rw [alloc_size']))
      have HZ1 := Lib.hid (sz_of hX1 (by rw [alloc_size']))
      clear hX0 hX1
      go_wp2_with fail
      go_region_law ((first
        | (refine step_append_lies _ (by rfl) (.tmp 15) (.tmp 24) 41 (by rfl) w.heap.size 9 i0 _ 1 16 Tryz.underlying41 hi hz0 hz1 hz2 (by rfl) (by decide) _ sn _ (by simp [Act.eval]) (World.ownsRow.alloc (w := w4) HO4.out _) ⟨w4.heap.size, 0, none⟩ 1 1 [.string (txtOf [nm, 58] ++ bt)] (by simp [Act.eval]) (by rfl) (World.news_of_block (heap_alloc_new _ _)) (by simp [Value.oneCell']) (by decide) (by unfold maxLen; omega) (by omega) (by rw [alloc_size]; exact Nat.le_succ_of_le HB4.out.size) (w4.heap.size + 1) (by rw [alloc_size]) ?_; intro g' cap' w5 hown' hgrow hat hlt')
        | (refine step_append_lies _ (by rfl) (.tmp 15) (.tmp 24) 41 (by rfl) w.heap.size 9 i0 _ 1 16 Tryz.underlying41 hi hz0 hz1 hz2 (by rfl) (by decide) _ sn _ (by simp [Act.eval]) (World.ownsRow.alloc (World.ownsRow.alloc (w := w4) HO4.out _) _) ⟨w4.heap.size + 1, 0, none⟩ 1 1 [.string (txtOf [nm, 58] ++ bt)] (by simp [Act.eval]) (by rfl) (World.news_of_block (new_two _ _ _)) (by simp [Value.oneCell']) (by decide) (by unfold maxLen; omega) (by omega) (by rw [alloc_size, alloc_size]; exact Nat.le_succ_of_le (Nat.le_succ_of_le HB4.out.size)) (w4.heap.size + 1 + 1) (by rw [alloc_size, alloc_size]) ?_; intro g' cap' w5 hown' hgrow hat hlt')
        | (go_simp
           go_wp2_with (
             go_at_call 47
             refine (HBT.out _ ?_).mono ?_
             · first | exact HW0.out | exact HW1.out
             rintro e w4 ⟨rfl, hb4⟩
             have h4 : Below (wr.heap.size + 1) (wr.alloc (Obj.cells #[.int .u8 nm.toNat, .slice ba bn bc] 65)) w4 := by first | exact HX0.out.trans (hb4.mono HZ0.out) | exact HX1.out.trans (hb4.mono HZ1.out)
             have H4 := Lib.hid h4
             clear h4
             obtain ⟨c0, c1, hB4, hO4⟩ := behind_copy hB.out hO.out H4.out
             have HB4 := Lib.hid hB4
             have HO4 := Lib.hid hO4
             have hcv4 := conv_now nm w4 w4.heap.size rfl
             try have hcv5 := conv_after hb4 (wr.heap.size + 1) (by rw [alloc_size'])
             clear hB4 hO4 hb4))))
      all_goals
        have HX5 := Lib.hid (And.intro hown' (show Below w.heap.size w w5 by
          first
            | exact grown_below HB4.out hgrow (fun j hj => (HO4.out.lt j hj).1)
            | exact grown_below (HB4.out.alloc HB4.out.size _) hgrow (fun j hj => (HO4.out.lt j hj).1)))
        clear hown' hgrow hat hlt'
        go_wp2_with fail
        go_roundw
        case rel =>
          refine ⟨sn + 1, by omega, by go_num, ?_, HX5.out.2⟩
          show World.ownsRow _ _ _ _ _ _ _
          rw [HT.out, HPt.out]; exact HX5.out.1
        case measure => simp [intOf]; omega
    · have hkn : k = n := by omega
      subst hkn
      have hall : qs.take k = qs := List.take_of_length_le (by rw [HN.out]; exact Nat.le_refl _)
      rw [hall] at hO
      have HJ := Lib.hid (join_parts (qs.map (·.1)))
      obtain ⟨sa, sn, sc, hv2⟩ := slice_form hO.out
      subst hv2
      have hsn : sn = k := by
        rcases hO.out.2 with ⟨h1, h2⟩ | ⟨g, cap, cur, h1, _⟩
        · injection h1 with _ h3; omega
        · injection h1 with _ h3
      subst hsn
      have hs1 : ∀ q ∈ qs, (partT q.1).length ≤ 1002 := fun q hq => by
        have := HG.out q hq
        simp only [partT, List.length_cons]; omega
      have HLn := Lib.hid (joinP_le (qs.map (·.1)) (by
        intro p hp
        obtain ⟨q, hq, rfl⟩ := List.mem_map.1 hp
        exact hs1 q hq))
      by_cases h0 : sn = 0
      · subst h0
        have hq0 : qs = [] := List.eq_nil_of_length_eq_zero HN.out
        go_wp2_with fail
        refine (Tryz.strings_Join_none sa sc ⟨#[59]⟩ _).mono ?_
        rintro e w3 ⟨rfl, rfl⟩
        go_wp2_with fail
        go_ret
        exact ⟨by rw [hq0]; rfl, hB.out⟩
      · obtain ⟨g, rfl, hcl, hgl, hcap⟩ := str_row hO.out (by omega)
        have HC := Lib.hid hcl
        clear hcl hs1
        go_wp2_with fail
        have hJ := Tryz.strings_Join g 0 sc (qs.map fun q => txtOf (partT q.1)) ⟨#[59]⟩ wr (fun j x hx => by rw [Nat.zero_add]; exact HC.out j x hx) hgl (by rw [List.length_map, HN.out]; omega) (by rw [List.length_map, HN.out]; exact hcap) (by
          rw [join_map]; have := HLn.out; rw [HJ.out]; simp only [List.length_map, HN.out] at this; omega)
        rw [List.length_map, HN.out, join_map, HJ.out] at hJ
        refine hJ.mono ?_
        rintro e w3 ⟨rfl, hb3⟩
        have HB3 := Lib.hid (hB.out.trans (hb3.mono hB.out.size))
        clear hb3
        go_wp2_with fail
        go_ret
        exact ⟨rfl, HB3.out⟩
end Go.Proofs.YtfmmpahbjkiomaaGreatDoor
