/- The model's l1Text and l1Program: a program's text of rows; a drawn one is short, whatever the source holds. Conditions: counts up to 70000. The model's l1Name, l1With and DrawReachOf: they return short texts, whatever the bytes behind the source. The model's DrawRenameProc: three short texts, whatever the bytes. -/
import Derived.Test.YtfmmpahbjkiomaaGreatDoorDx
import Derived.Test.YtfmmpahbjkiomaaGreatDoorSx
import Derived.Deep.RegionHeldLaw
namespace Go.Proofs.YtfmmpahbjkiomaaGreatDoor
open Go.RowKit Gram

theorem Rdr.keep {w w' : World} {rb : Nat} {a : Option Addr} {n c p : Nat} (h : Rdr w rb a n c p) (hr : w'.heap[rb]? = w.heap[rb]?) (hk : ∀ g off, a = some ⟨g, off, none⟩ → w'.heap[g]? = w.heap[g]?) : Rdr w' rb a n c p := by
  refine ⟨by rw [hr]; exact h.own, fun k hk' => ?_, h.off, h.small⟩
  obtain ⟨g, off, ha, b, hc⟩ := h.bytes k hk'
  exact ⟨g, off, ha, b, by rw [← hc]; exact World.cell?_of_block (a := ⟨g, off + k, none⟩) (hk g off ha)⟩
theorem Rdr.keep' {w w' : World} {rb : Nat} {a : Option Addr} {n c p : Nat} {B : Nat} (h : Rdr w rb a n c p) (hB : rb < B) (hg : 0 < n → ∀ g off, a = some ⟨g, off, none⟩ → g < B) (hk : ∀ k, k < B → w'.heap[k]? = w.heap[k]?) : Rdr w' rb a n c p := by
  refine ⟨by rw [hk rb hB]; exact h.own, fun k hk' => ?_, h.off, h.small⟩
  obtain ⟨g, off, ha, b, hc⟩ := h.bytes k hk'
  exact ⟨g, off, ha, b, by rw [← hc]; exact World.cell?_of_block (a := ⟨g, off + k, none⟩) (hk g (hg (by omega) g off ha))⟩

theorem grown_below_row {w w4 w5 : World} {rb : Nat} (h : w.grownBy w4 (some rb)) (b : Below w.heap.size w4 w5) : w.grownBy w5 (some rb) :=
  ⟨b.os.trans h.os, b.tape.trans h.tape, b.output.trans h.output, Nat.le_trans h.size b.size, fun k hk hne => (b.block k hk).trans (h.block k hk hne)⟩
theorem draw_12 (t : Nat) (ht : t < 2) (w : World) (rb : Nat) (a : Option Addr) (n c p : Nat) (nm : ByteArray) (h : Rdr w rb a n c p) (hp : p ≤ 75000) (hnm : nm.size ≤ 10) :
    Calls Tryz.prog 86 #[.pointer (some ⟨rb, 0, none⟩), .string nm, .int .i64 (1 + (t : Int))] w (DrewS w rb a n c p 321 430) := by
  obtain rfl | rfl : t = 0 ∨ t = 1 := by omega
  · refine (draw_all 1 w rb a n c p nm _ rfl h (by omega) hnm (by decide) (by decide)).mono ?_
    rintro e w' ⟨s, q, he, hs, hq, h1, h2⟩
    exact ⟨s, q, he, Nat.le_trans hs (by decide), Nat.le_trans hq (Nat.add_le_add_left (by decide) _), h1, h2⟩
  · refine (draw_all 2 w rb a n c p nm _ rfl h (by omega) hnm (by decide) (by decide)).mono ?_
    rintro e w' ⟨s, q, he, hs, hq, h1, h2⟩
    exact ⟨s, q, he, Nat.le_trans hs (by decide), Nat.le_trans hq (Nat.add_le_add_left (by decide) _), h1, h2⟩

theorem row_grown {w w' : World} {B n rb size : Nat} {e : TypeId} {v : Value} {xs : List Value} (h : w.ownsRow B e size v n xs) (hg : w.grownBy w' (some rb)) (hB : rb < B) : w'.ownsRow B e size v n xs :=
  ownsRow_of h (fun j hj => hg.block j (h.lt j hj).2 (fun he => by have := (h.lt j hj).1; injection he with he; omega))

/-- a drawn program: at most four procedures -/
theorem info_pr6 : (Tryz.prog.info? 75).map (fun i => (i.zero, i.size, i.bytes)) = some (some (.agg #[.int .u8 0, .string ⟨#[]⟩]), 2, 24) := by kernel_rfl

set_option maxHeartbeats 4000000 in
set_option maxRecDepth 100000 in
theorem program_any (w : World) (rb : Nat) (a : Option Addr) (n c p : Nat) (h : Rdr w rb a n c p) (hp : p ≤ 70000) :
    Calls Tryz.prog 53 #[.pointer (some ⟨rb, 0, none⟩)] w (DrewS w rb a n c p 1400 2000) := by
  obtain ⟨i0, hi, hz0, hz1, hz2⟩ := info_parts info_pr6
  have hrb := heap_lt h.own
  have hga : 0 < n → ∀ g off, a = some ⟨g, off, none⟩ → g < w.heap.size := by
    intro hn g off ha
    obtain ⟨g', off', ha', b, hc⟩ := h.bytes 0 hn
    have := World.block_lt_of_cell? w _ hc
    rw [ha] at ha'
    injection ha' with ha'
    injection ha' with h1 _ _
    simp at this
    omega
  have HGa := Lib.hid hga
  have H := Lib.hid h
  clear h hga
  go_enter Tryz.func53, Tryz.ntmps53
  go_wp2_with fail
  refine (pick_to 4 H.out (by omega) (by omega)).mono ?_
  rintro e w1 ⟨v, rfl, hv, hr, hg⟩
  have HR := Lib.hid hr
  have HG := Lib.hid hg
  clear hr hg
  have hv4 : v ≤ 3 := by omega
  have hz : ((⟨#[97, 98, 99, 100]⟩ : ByteArray).extract 0 (1 + v)).size = 1 + v := by
    have h4 : (⟨#[97, 98, 99, 100]⟩ : ByteArray).size = 4 := rfl
    simp only [ByteArray.size_extract]
    omega
  have hmin : min (1 + v) 4 = 1 + v := by omega
  go_wp2_with fail
  generalize (⟨#[97, 98, 99, 100]⟩ : ByteArray).extract 0 (1 + v) = nm at *
  go_loopw [4, 14] (fun x i wr => ∃ (k q : Nat) (rs : List Rw), i = .int .i64 k ∧ k ≤ 1 + v ∧ rs.length = k ∧ q ≤ p + 1 + 480 * k ∧ Hid (Rdr wr rb a n c q) ∧ Hid (wr.ownsRow w.heap.size 75 2 x k (rVs rs)) ∧ Hid (∀ r ∈ rs, r.2.size ≤ 321) ∧ Hid (w.grownBy wr (some rb))) (fun _ i _ => 1 + v - (intOf i).toNat)
  case atStart =>
    have hz1 := HG.out.size
    refine ⟨0, p + 1, [], by go_num, Nat.zero_le _, rfl, by omega, ?_, ?_, by show ∀ r ∈ _, _; simp, ?_⟩
    · exact HR.out.later (fun k hk => Lib.alloc_old _ _ _ hk)
    · exact ⟨by simp [rVs], .inr ⟨w1.heap.size, 0, #[], rfl, hz1, heap_alloc_new _ _, Nat.le_refl _, by simp [maxLen], by simp, by simp [rVs]⟩⟩
    · exact grownBy_trans HG.out (World.grownBy_alloc _ _ _)
  case round =>
    obtain ⟨k, q, rs, rfl, hk, hrl, hq, hR, hO, hS, hGr⟩ := hrel
    by_cases hlt : k < 1 + v
    · obtain ⟨va, vn, vc, hv2⟩ := slice_form hO.out
      subst hv2
      have hvn : vn = k := by
        rcases hO.out.2 with ⟨h1, h2⟩ | ⟨g, cap, cur, h1, _⟩
        · injection h1 with _ h3; omega
        · injection h1 with _ h3
      subst hvn
      have HRl := Lib.hid hrl
      clear hrl
      go_wp2_with fail
      refine (pick_to 8 hR.out (by omega) (by omega)).mono ?_
      rintro e w2 ⟨u, rfl, hu, hr2, hg2⟩
      have HR2 := Lib.hid hr2
      have HG2 := Lib.hid hg2
      clear hr2 hg2
      by_cases hu0 : u = 0
      · subst hu0
        go_wp2_with fail
        go_region_held_law (fun _ => True) (trivial) ((first
          | (go_at_call 55; refine (pick_to 2 (HR2.out.later (w' := w2.drew) (fun _ _ => rfl)) (by omega) (by omega)).mono ?_
             rintro e w3 ⟨t, rfl, ht, hr3, hg3⟩
             have HR3 := Lib.hid hr3
             have HG3 := Lib.hid hg3
             have htw : IntKind.i64.wrap (1 + (t : Int)) = 1 + (t : Int) := IntWalk.i64_in _ (by omega)
             clear hr3 hg3)
          | (go_at_call 86; refine (draw_12 t (by omega) w3 rb a n c _ _ HR3.out (by omega) (by first | omega | (simp only [ByteArray.size_extract]; omega))).mono ?_
             rintro e w4 ⟨st, q4, rfl, hst, hq4, hr4, hg4⟩
             have HR4 := Lib.hid hr4
             have HG4 := Lib.hid (grownBy_trans (grownBy_trans (grownBy_trans HG2.out (show w2.grownBy w2.drew (some rb) from ⟨rfl, rfl, rfl, Nat.le_refl _, fun _ _ _ => rfl⟩)) HG3.out) hg4)
             have HO4 := Lib.hid (row_grown hO.out HG4.out hrb)
             have hz4 : w.heap.size ≤ w4.heap.size := Nat.le_trans hGr.out.size HG4.out.size
             clear hr4 hg4)
          | (refine step_append_lies _ (by rfl) (.tmp 25) (.tmp 36) 70 (by rfl) w.heap.size 75 i0 _ 2 24 Tryz.underlying70 hi hz0 hz1 hz2 (by rfl) (by decide) _ vn (rVs rs) (by simp [Act.eval]) (World.ownsRow.alloc (w := w4) HO4.out _) ⟨w4.heap.size, 0, none⟩ 1 1 [.int .u8 nm[vn].toNat, .string st] (by simp [Act.eval]) (by rfl) (World.news_of_block (heap_alloc_new _ _)) (by simp [Value.oneCell']) (by decide) (by unfold maxLen; omega) (by omega) (by rw [alloc_size]; omega) (w4.heap.size + 1) (by rw [alloc_size]) ?_
             intro g' cap' w5 hown' hgrow hat hlt'
             have HN5 := Lib.hid (And.intro hown' hgrow)
             clear hown' hgrow hat hlt')))
        all_goals
          obtain ⟨hown', hgrow⟩ := HN5.out
          have hrow : ∀ j, (Value.slice va vn vc).ownBlock = some j → w.heap.size ≤ j := fun j hj => (HO4.out.lt j hj).1
          have hbel : Below w.heap.size w4 w5 := ((Below.refl _ _).alloc hz4 _).grown hgrow (by rw [alloc_size]; omega) hrow
          have HX := Lib.hid (And.intro hown' hbel)
          clear hown' hgrow hrow hbel HN5
          go_wp2_with fail
          go_roundw
          case rel =>
            obtain ⟨hown', hbel⟩ := HX.out
            refine ⟨vn + 1, q4, rs ++ [((nm[vn], st) : Rw)], by go_num, by omega, by rw [List.length_append, HRl.out]; rfl, by omega, HR4.out.keep' hrb HGa.out (fun k hk => hbel.block k hk), ?_, ?_, grown_below_row (grownBy_trans hGr.out HG4.out) hbel⟩
            · show World.ownsRow _ _ _ _ _ _ _
              rw [rVs_snoc]; exact hown'
            · show ∀ r ∈ _, _
              intro r hr
              rcases List.mem_append.1 hr with hr | hr
              · exact hS.out r hr
              · rw [List.mem_singleton.1 hr]; exact hst
          case measure => simp [intOf]; omega
      · have hub : ((u : Int) == 0) = false := by rw [beq_eq_false_iff_ne]; omega
        clear hu0
        go_wp2_with fail
        go_region_held_law (fun _ => True) (trivial) ((first
          | (go_at_call 55; refine (pick_to 2 (HR2.out.later (w' := w2.drew) (fun _ _ => rfl)) (by omega) (by omega)).mono ?_
             rintro e w3 ⟨t, rfl, ht, hr3, hg3⟩
             have HR3 := Lib.hid hr3
             have HG3 := Lib.hid hg3
             have htw : IntKind.i64.wrap (1 + (t : Int)) = 1 + (t : Int) := IntWalk.i64_in _ (by omega)
             clear hr3 hg3)
          | (go_at_call 86; refine (draw_12 t (by omega) w3 rb a n c _ _ HR3.out (by omega) (by first | omega | (simp only [ByteArray.size_extract]; omega))).mono ?_
             rintro e w4 ⟨st, q4, rfl, hst, hq4, hr4, hg4⟩
             have HR4 := Lib.hid hr4
             have HG4 := Lib.hid (grownBy_trans (grownBy_trans (grownBy_trans HG2.out (show w2.grownBy w2.drew (some rb) from ⟨rfl, rfl, rfl, Nat.le_refl _, fun _ _ _ => rfl⟩)) HG3.out) hg4)
             have HO4 := Lib.hid (row_grown hO.out HG4.out hrb)
             have hz4 : w.heap.size ≤ w4.heap.size := Nat.le_trans hGr.out.size HG4.out.size
             clear hr4 hg4)
          | (refine step_append_lies _ (by rfl) (.tmp 25) (.tmp 36) 70 (by rfl) w.heap.size 75 i0 _ 2 24 Tryz.underlying70 hi hz0 hz1 hz2 (by rfl) (by decide) _ vn (rVs rs) (by simp [Act.eval]) (World.ownsRow.alloc (w := w4) HO4.out _) ⟨w4.heap.size, 0, none⟩ 1 1 [.int .u8 nm[vn].toNat, .string st] (by simp [Act.eval]) (by rfl) (World.news_of_block (heap_alloc_new _ _)) (by simp [Value.oneCell']) (by decide) (by unfold maxLen; omega) (by omega) (by rw [alloc_size]; omega) (w4.heap.size + 1) (by rw [alloc_size]) ?_
             intro g' cap' w5 hown' hgrow hat hlt'
             have HN5 := Lib.hid (And.intro hown' hgrow)
             clear hown' hgrow hat hlt')))
        all_goals
          obtain ⟨hown', hgrow⟩ := HN5.out
          have hrow : ∀ j, (Value.slice va vn vc).ownBlock = some j → w.heap.size ≤ j := fun j hj => (HO4.out.lt j hj).1
          have hbel : Below w.heap.size w4 w5 := ((Below.refl _ _).alloc hz4 _).grown hgrow (by rw [alloc_size]; omega) hrow
          have HX := Lib.hid (And.intro hown' hbel)
          clear hown' hgrow hrow hbel HN5
          go_wp2_with fail
          go_roundw
          case rel =>
            obtain ⟨hown', hbel⟩ := HX.out
            refine ⟨vn + 1, q4, rs ++ [((nm[vn], st) : Rw)], by go_num, by omega, by rw [List.length_append, HRl.out]; rfl, by omega, HR4.out.keep' hrb HGa.out (fun k hk => hbel.block k hk), ?_, ?_, grown_below_row (grownBy_trans hGr.out HG4.out) hbel⟩
            · show World.ownsRow _ _ _ _ _ _ _
              rw [rVs_snoc]; exact hown'
            · show ∀ r ∈ _, _
              intro r hr
              rcases List.mem_append.1 hr with hr | hr
              · exact hS.out r hr
              · rw [List.mem_singleton.1 hr]; exact hst
          case measure => simp [intOf]; omega
    · have hv1 : k = 1 + v := by omega
      subst hv1
      obtain ⟨va, vn, vc, hv2⟩ := slice_form hO.out
      subst hv2
      have hvn : vn = 1 + v := by
        rcases hO.out.2 with ⟨h1, h2⟩ | ⟨g, cap, cur, h1, _⟩
        · injection h1 with _ h3; omega
        · injection h1 with _ h3
      subst hvn
      have hO2 := hO.out
      rw [← hrl] at hO2
      have HT := Lib.hid (text_rows hO2 hrl (by omega) hS.out (by omega))
      have HLe := Lib.hid (rowT_le 321 rs hS.out)
      have HRl := Lib.hid hrl
      clear hO2 hrl
      go_wp2_with fail
      refine HT.out.mono ?_
      rintro e w2 ⟨rfl, hb2⟩
      have HB2 := Lib.hid hb2
      clear hb2
      go_wp2_with fail
      go_ret
      refine ⟨rowT rs, q, rfl, ?_, by omega, hR.out.later (fun k hk => HB2.out.block k hk), grownBy_trans hGr.out (grownBy_below HB2.out)⟩
      have h1 := HLe.out
      have h2 : rs.length * (321 + 3) ≤ 4 * (321 + 3) := Nat.mul_le_mul_right _ (by rw [HRl.out]; omega)
      omega

end Go.Proofs.YtfmmpahbjkiomaaGreatDoor
namespace Go.Proofs.YtfmmpahbjkiomaaGreatDoor
open Go.RowKit Gram

theorem eleven_small : ∀ s ∈ [(⟨#[97]⟩ : ByteArray), ⟨#[98]⟩, ⟨#[99]⟩, ⟨#[97]⟩, ⟨#[100]⟩, ⟨#[97]⟩, ⟨#[98]⟩, ⟨#[]⟩, ⟨#[65]⟩, ⟨#[97, 98]⟩, ⟨#[122]⟩], s.size ≤ 2 := by decide

set_option maxHeartbeats 1000000 in
set_option maxRecDepth 100000 in
theorem name_any (w : World) (rb : Nat) (a : Option Addr) (n c p : Nat) (h : Rdr w rb a n c p) (hp : p ≤ 90000) :
    Calls Tryz.prog 54 #[.pointer (some ⟨rb, 0, none⟩)] w (DrewS w rb a n c p 2 4) := by
  have H := Lib.hid h
  have hrb := heap_lt h.own
  clear h
  go_enter Tryz.func54, Tryz.ntmps54
  go_wp2_with fail
  refine (of_any _ rb a n c p w.heap.size 11 11 2 (H.out.later (alloc_heap (w := w) _)) (by omega) (by omega) (by omega) (by omega) (plus_cells w w.heap.size [⟨#[97]⟩, ⟨#[98]⟩, ⟨#[99]⟩, ⟨#[97]⟩, ⟨#[100]⟩, ⟨#[97]⟩, ⟨#[98]⟩, ⟨#[]⟩, ⟨#[65]⟩, ⟨#[97, 98]⟩, ⟨#[122]⟩] 2 eleven_small rfl)).mono ?_
  rintro e w3 ⟨t, q, rfl, ht, hq, hr3, hg3⟩
  have HR3 := Lib.hid hr3
  have HG3 := Lib.hid (grownBy_trans (World.grownBy_alloc _ _ _) hg3)
  clear hr3 hg3
  go_wp2_with fail
  go_ret
  exact ⟨t, q, rfl, ht, by omega, HR3.out, HG3.out⟩

set_option maxHeartbeats 1000000 in
theorem with_any (w : World) (rb : Nat) (a : Option Addr) (n c p : Nat) (h : Rdr w rb a n c p) (hp : p ≤ 60000) :
    Calls Tryz.prog 24 #[.pointer (some ⟨rb, 0, none⟩)] w fun e w' => ∃ (s t : ByteArray) (q : Nat), e = .returned (.tuple #[.string s, .string t]) ∧ s.size ≤ 2000 ∧ t.size ≤ 2 ∧ q ≤ p + 3000 ∧ Rdr w' rb a n c q ∧ w.grownBy w' (some rb) := by
  have H := Lib.hid h
  clear h
  go_enter Tryz.func24, Tryz.ntmps24
  go_wp2_with fail
  refine (program_any _ rb a n c p H.out (by omega)).mono ?_
  rintro e w2 ⟨s, q, rfl, hs, hq, hr2, hg2⟩
  have HR2 := Lib.hid hr2
  have HG2 := Lib.hid hg2
  clear hr2 hg2
  go_wp2_with fail
  refine (bad_any _ rb a n c q s HR2.out (by omega) (by omega)).mono ?_
  rintro e w3 ⟨t, q', rfl, ht, hq2, hr3, hg3⟩
  have HR3 := Lib.hid hr3
  have HG3 := Lib.hid (grownBy_trans HG2.out hg3)
  clear hr3 hg3
  go_wp2_with fail
  refine (name_any _ rb a n c q' HR3.out (by omega)).mono ?_
  rintro e w4 ⟨u, q4, rfl, hu, hq4, hr4, hg4⟩
  have HR4 := Lib.hid hr4
  have HG4 := Lib.hid (grownBy_trans HG3.out hg4)
  clear hr4 hg4
  go_wp2_with fail
  go_ret2
  exact ⟨t, u, q4, rfl, by omega, hu, by omega, HR4.out, HG4.out⟩

end Go.Proofs.YtfmmpahbjkiomaaGreatDoor
namespace Go.Proofs.YtfmmpahbjkiomaaGreatDoor
open Go.RowKit Gram

theorem eightR_small : ∀ s ∈ [(⟨#[122]⟩ : ByteArray), ⟨#[101]⟩, ⟨#[97]⟩, ⟨#[98]⟩, ⟨#[109]⟩, ⟨#[]⟩, ⟨#[65]⟩, ⟨#[122, 122]⟩], s.size ≤ 2 := by decide

set_option maxHeartbeats 1000000 in
set_option maxRecDepth 100000 in
theorem drawRename_any (w : World) (a : Option Addr) (n c : Nat) (h : BytesAt w a n) (hn : n ≤ c) (hc : c ≤ 9223372036854775807) (hnil : a = none → n = 0) :
    Calls Tryz.prog 7 #[.slice a n c] w fun e w' => (∃ s t u : ByteArray, e = .returned (.tuple #[.string s, .string t, .string u]) ∧ s.size ≤ 2000 ∧ t.size ≤ 2 ∧ u.size ≤ 2) ∧ Below w.heap.size w w' := by
  have H := Lib.hid (open_any w a n c h hn hc hnil)
  clear h hnil
  go_enter Tryz.func7, Tryz.ntmps7
  go_wp2_with fail
  refine H.out.mono ?_
  rintro e w1 ⟨m, rfl, hr, hb⟩
  have HR := Lib.hid hr
  have HB := Lib.hid hb
  clear hr hb
  go_wp2_with fail
  refine (with_any _ w.heap.size a m c 0 HR.out (by omega)).mono ?_
  rintro e w2 ⟨s, t, q, rfl, hs, ht, hq, hr2, hg2⟩
  have hrb := heap_lt hr2.own
  have HG2 := Lib.hid hg2
  have HR2 := Lib.hid hr2
  clear hr2 hg2
  go_wp2_with fail
  refine (of_any _ w.heap.size a m c q w2.heap.size 8 8 2 (HR2.out.later (alloc_heap (w := w2) _)) (by omega) (by omega) (by omega) (by omega) (plus_cells w2 w2.heap.size [⟨#[122]⟩, ⟨#[101]⟩, ⟨#[97]⟩, ⟨#[98]⟩, ⟨#[109]⟩, ⟨#[]⟩, ⟨#[65]⟩, ⟨#[122, 122]⟩] 2 eightR_small rfl)).mono ?_
  rintro e w3 ⟨u, q3, rfl, hu, hq3, hr3, hg3⟩
  have HG3 := Lib.hid (grownBy_trans HG2.out (grownBy_trans (World.grownBy_alloc _ _ _) hg3))
  clear hr3 hg3
  go_wp2_with fail
  first | go_ret3 | go_ret
  exact ⟨⟨s, t, u, rfl, hs, ht, hu⟩, grown_new HB.out HG3.out⟩
end Go.Proofs.YtfmmpahbjkiomaaGreatDoor
