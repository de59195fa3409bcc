/- The model's l1Text and l1Program: a program's text of rows; a drawn one is short, whatever the source holds. Conditions: counts up to 70000. The model's l1Name, l1With and DrawReachOf: they return short texts, whatever the bytes behind the source. The model's l2Loop, l2Value, l2Some and DrawRunProgram: they return short texts and a 64-bit number, whatever the bytes behind the source. The model's DrawJoinPointsOf; the laws' wvIn: whether a byte is in a text. Condition: texts of at most 2^40 bytes. The model's DrawIsPartOf: two lists of at most nine numbers, in blocks of their own. No condition but that the bytes can be read. Lists of numbers put behind lists of numbers of one's own. Condition: at most 2000 numbers together. -/
import Derived.Test.YtfmmpahbjkiomaaGreatDoorDx
import Derived.Test.YtfmmpahbjkiomaaGreatDoorSx
import Derived.Deep.RegionHeldLaw
import Derived.OwnWalk
import Derived.Test.YtfmmpahbjkiomaaGreatDoorInts
import Derived.Deep.AppendLies
import Derived.Deep.Upon
import Derived.Lib.AppendZeros
namespace Go.Proofs.YtfmmpahbjkiomaaGreatDoor
open Go.RowKit Gram

theorem Rdr.keep {w w' : World} {rb : Nat} {a : Option Addr} {n c p : Nat} (h : Rdr w rb a n c p) (hr : w'.heap[rb]? = w.heap[rb]?) (hk : ∀ g off, a = some ⟨g, off, none⟩ → w'.heap[g]? = w.heap[g]?) : Rdr w' rb a n c p := by
  refine ⟨by rw [hr]; exact h.own, fun k hk' => ?_, h.off, h.small⟩
  obtain ⟨g, off, ha, b, hc⟩ := h.bytes k hk'
  exact ⟨g, off, ha, b, by rw [← hc]; exact World.cell?_of_block (a := ⟨g, off + k, none⟩) (hk g off ha)⟩
theorem Rdr.keep' {w w' : World} {rb : Nat} {a : Option Addr} {n c p : Nat} {B : Nat} (h : Rdr w rb a n c p) (hB : rb < B) (hg : 0 < n → ∀ g off, a = some ⟨g, off, none⟩ → g < B) (hk : ∀ k, k < B → w'.heap[k]? = w.heap[k]?) : Rdr w' rb a n c p := by
  refine ⟨by rw [hk rb hB]; exact h.own, fun k hk' => ?_, h.off, h.small⟩
  obtain ⟨g, off, ha, b, hc⟩ := h.bytes k hk'
  exact ⟨g, off, ha, b, by rw [← hc]; exact World.cell?_of_block (a := ⟨g, off + k, none⟩) (hk g (hg (by omega) g off ha))⟩

theorem grown_below_row {w w4 w5 : World} {rb : Nat} (h : w.grownBy w4 (some rb)) (b : Below w.heap.size w4 w5) : w.grownBy w5 (some rb) :=
  ⟨b.os.trans h.os, b.tape.trans h.tape, b.output.trans h.output, Nat.le_trans h.size b.size, fun k hk hne => (b.block k hk).trans (h.block k hk hne)⟩
theorem draw_12 (t : Nat) (ht : t < 2) (w : World) (rb : Nat) (a : Option Addr) (n c p : Nat) (nm : ByteArray) (h : Rdr w rb a n c p) (hp : p ≤ 75000) (hnm : nm.size ≤ 10) :
    Calls Tryz.prog 86 #[.pointer (some ⟨rb, 0, none⟩), .string nm, .int .i64 (1 + (t : Int))] w (DrewS w rb a n c p 321 430) := by
  obtain rfl | rfl : t = 0 ∨ t = 1 := by omega
  · refine (draw_all 1 w rb a n c p nm _ rfl h (by omega) hnm (by decide) (by decide)).mono ?_
    rintro e w' ⟨s, q, he, hs, hq, h1, h2⟩
    exact ⟨s, q, he, Nat.le_trans hs (by decide), Nat.le_trans hq (Nat.add_le_add_left (by decide) _), h1, h2⟩
  · refine (draw_all 2 w rb a n c p nm _ rfl h (by omega) hnm (by decide) (by decide)).mono ?_
    rintro e w' ⟨s, q, he, hs, hq, h1, h2⟩
    exact ⟨s, q, he, Nat.le_trans hs (by decide), Nat.le_trans hq (Nat.add_le_add_left (by decide) _), h1, h2⟩

theorem row_grown {w w' : World} {B n rb size : Nat} {e : TypeId} {v : Value} {xs : List Value} (h : w.ownsRow B e size v n xs) (hg : w.grownBy w' (some rb)) (hB : rb < B) : w'.ownsRow B e size v n xs :=
  ownsRow_of h (fun j hj => hg.block j (h.lt j hj).2 (fun he => by have := (h.lt j hj).1; injection he with he; omega))

/-- a drawn program: at most four procedures -/
theorem info_pr6 : (Tryz.prog.info? 75).map (fun i => (i.zero, i.size, i.bytes)) = some (some (.agg #[.int .u8 0, .string ⟨#[]⟩]), 2, 24) := by kernel_rfl

set_option maxHeartbeats 4000000 in
set_option maxRecDepth 100000 in
theorem program_any (w : World) (rb : Nat) (a : Option Addr) (n c p : Nat) (h : Rdr w rb a n c p) (hp : p ≤ 70000) :
    Calls Tryz.prog 53 #[.pointer (some ⟨rb, 0, none⟩)] w (DrewS w rb a n c p 1400 2000) := by
  obtain ⟨i0, hi, hz0, hz1, hz2⟩ := info_parts info_pr6
  have hrb := heap_lt h.own
  have hga : 0 < n → ∀ g off, a = some ⟨g, off, none⟩ → g < w.heap.size := by
    intro hn g off ha
    obtain ⟨g', off', ha', b, hc⟩ := h.bytes 0 hn
    have := World.block_lt_of_cell? w _ hc
    rw [ha] at ha'
    injection ha' with ha'
    injection ha' with h1 _ _
    simp at this
    omega
  have HGa := Lib.hid hga
  have H := Lib.hid h
  clear h hga
  go_enter Tryz.func53, Tryz.ntmps53
  go_wp2_with fail
  refine (pick_to 4 H.out (by omega) (by omega)).mono ?_
  rintro e w1 ⟨v, rfl, hv, hr, hg⟩
  have HR := Lib.hid hr
  have HG := Lib.hid hg
  clear hr hg
  have hv4 : v ≤ 3 := by omega
  have hz : ((⟨#[97, 98, 99, 100]⟩ : ByteArray).extract 0 (1 + v)).size = 1 + v := by
    have h4 : (⟨#[97, 98, 99, 100]⟩ : ByteArray).size = 4 := rfl
    simp only [ByteArray.size_extract]
    omega
  have hmin : min (1 + v) 4 = 1 + v := by omega
  go_wp2_with fail
  generalize (⟨#[97, 98, 99, 100]⟩ : ByteArray).extract 0 (1 + v) = nm at *
  go_loopw [4, 14] (fun x i wr => ∃ (k q : Nat) (rs : List Rw), i = .int .i64 k ∧ k ≤ 1 + v ∧ rs.length = k ∧ q ≤ p + 1 + 480 * k ∧ Hid (Rdr wr rb a n c q) ∧ Hid (wr.ownsRow w.heap.size 75 2 x k (rVs rs)) ∧ Hid (∀ r ∈ rs, r.2.size ≤ 321) ∧ Hid (w.grownBy wr (some rb))) (fun _ i _ => 1 + v - (intOf i).toNat)
  case atStart =>
    have hz1 := HG.out.size
    refine ⟨0, p + 1, [], by go_num, Nat.zero_le _, rfl, by omega, ?_, ?_, by show ∀ r ∈ _, _; simp, ?_⟩
    · exact HR.out.later (fun k hk => Lib.alloc_old _ _ _ hk)
    · exact ⟨by simp [rVs], .inr ⟨w1.heap.size, 0, #[], rfl, hz1, heap_alloc_new _ _, Nat.le_refl _, by simp [maxLen], by simp, by simp [rVs]⟩⟩
    · exact grownBy_trans HG.out (World.grownBy_alloc _ _ _)
  case round =>
    obtain ⟨k, q, rs, rfl, hk, hrl, hq, hR, hO, hS, hGr⟩ := hrel
    by_cases hlt : k < 1 + v
    · obtain ⟨va, vn, vc, hv2⟩ := slice_form hO.out
      subst hv2
      have hvn : vn = k := by
        rcases hO.out.2 with ⟨h1, h2⟩ | ⟨g, cap, cur, h1, _⟩
        · injection h1 with _ h3; omega
        · injection h1 with _ h3
      subst hvn
      have HRl := Lib.hid hrl
      clear hrl
      go_wp2_with fail
      refine (pick_to 8 hR.out (by omega) (by omega)).mono ?_
      rintro e w2 ⟨u, rfl, hu, hr2, hg2⟩
      have HR2 := Lib.hid hr2
      have HG2 := Lib.hid hg2
      clear hr2 hg2
      by_cases hu0 : u = 0
      · subst hu0
        go_wp2_with fail
        go_region_held_law (fun _ => True) (trivial) ((first
          | (go_at_call 55; refine (pick_to 2 (HR2.out.later (w' := w2.drew) (fun _ _ => rfl)) (by omega) (by omega)).mono ?_
             rintro e w3 ⟨t, rfl, ht, hr3, hg3⟩
             have HR3 := Lib.hid hr3
             have HG3 := Lib.hid hg3
             have htw : IntKind.i64.wrap (1 + (t : Int)) = 1 + (t : Int) := IntWalk.i64_in _ (by omega)
             clear hr3 hg3)
          | (go_at_call 86; refine (draw_12 t (by omega) w3 rb a n c _ _ HR3.out (by omega) (by first | omega | (simp only [ByteArray.size_extract]; omega))).mono ?_
             rintro e w4 ⟨st, q4, rfl, hst, hq4, hr4, hg4⟩
             have HR4 := Lib.hid hr4
             have HG4 := Lib.hid (grownBy_trans (grownBy_trans (grownBy_trans HG2.out (show w2.grownBy w2.drew (some rb) from ⟨rfl, rfl, rfl, Nat.le_refl _, fun _ _ _ => rfl⟩)) HG3.out) hg4)
             have HO4 := Lib.hid (row_grown hO.out HG4.out hrb)
             have hz4 : w.heap.size ≤ w4.heap.size := Nat.le_trans hGr.out.size HG4.out.size
             clear hr4 hg4)
          | (refine step_append_lies _ (by rfl) (.tmp 25) (.tmp 36) 70 (by rfl) w.heap.size 75 i0 _ 2 24 Tryz.underlying70 hi hz0 hz1 hz2 (by rfl) (by decide) _ vn (rVs rs) (by simp [Act.eval]) (World.ownsRow.alloc (w := w4) HO4.out _) ⟨w4.heap.size, 0, none⟩ 1 1 [.int .u8 nm[vn].toNat, .string st] (by simp [Act.eval]) (by rfl) (World.news_of_block (heap_alloc_new _ _)) (by simp [Value.oneCell']) (by decide) (by unfold maxLen; omega) (by omega) (by rw [alloc_size]; omega) (w4.heap.size + 1) (by rw [alloc_size]) ?_
             intro g' cap' w5 hown' hgrow hat hlt'
             have HN5 := Lib.hid (And.intro hown' hgrow)
             clear hown' hgrow hat hlt')))
        all_goals
          obtain ⟨hown', hgrow⟩ := HN5.out
          have hrow : ∀ j, (Value.slice va vn vc).ownBlock = some j → w.heap.size ≤ j := fun j hj => (HO4.out.lt j hj).1
          have hbel : Below w.heap.size w4 w5 := ((Below.refl _ _).alloc hz4 _).grown hgrow (by rw [alloc_size]; omega) hrow
          have HX := Lib.hid (And.intro hown' hbel)
          clear hown' hgrow hrow hbel HN5
          go_wp2_with fail
          go_roundw
          case rel =>
            obtain ⟨hown', hbel⟩ := HX.out
            refine ⟨vn + 1, q4, rs ++ [((nm[vn], st) : Rw)], by go_num, by omega, by rw [List.length_append, HRl.out]; rfl, by omega, HR4.out.keep' hrb HGa.out (fun k hk => hbel.block k hk), ?_, ?_, grown_below_row (grownBy_trans hGr.out HG4.out) hbel⟩
            · show World.ownsRow _ _ _ _ _ _ _
              rw [rVs_snoc]; exact hown'
            · show ∀ r ∈ _, _
              intro r hr
              rcases List.mem_append.1 hr with hr | hr
              · exact hS.out r hr
              · rw [List.mem_singleton.1 hr]; exact hst
          case measure => simp [intOf]; omega
      · have hub : ((u : Int) == 0) = false := by rw [beq_eq_false_iff_ne]; omega
        clear hu0
        go_wp2_with fail
        go_region_held_law (fun _ => True) (trivial) ((first
          | (go_at_call 55; refine (pick_to 2 (HR2.out.later (w' := w2.drew) (fun _ _ => rfl)) (by omega) (by omega)).mono ?_
             rintro e w3 ⟨t, rfl, ht, hr3, hg3⟩
             have HR3 := Lib.hid hr3
             have HG3 := Lib.hid hg3
             have htw : IntKind.i64.wrap (1 + (t : Int)) = 1 + (t : Int) := IntWalk.i64_in _ (by omega)
             clear hr3 hg3)
          | (go_at_call 86; refine (draw_12 t (by omega) w3 rb a n c _ _ HR3.out (by omega) (by first | omega | (simp only [ByteArray.size_extract]; omega))).mono ?_
             rintro e w4 ⟨st, q4, rfl, hst, hq4, hr4, hg4⟩
             have HR4 := Lib.hid hr4
             have HG4 := Lib.hid (grownBy_trans (grownBy_trans (grownBy_trans HG2.out (show w2.grownBy w2.drew (some rb) from ⟨rfl, rfl, rfl, Nat.le_refl _, fun _ _ _ => rfl⟩)) HG3.out) hg4)
             have HO4 := Lib.hid (row_grown hO.out HG4.out hrb)
             have hz4 : w.heap.size ≤ w4.heap.size := Nat.le_trans hGr.out.size HG4.out.size
             clear hr4 hg4)
          | (refine step_append_lies _ (by rfl) (.tmp 25) (.tmp 36) 70 (by rfl) w.heap.size 75 i0 _ 2 24 Tryz.underlying70 hi hz0 hz1 hz2 (by rfl) (by decide) _ vn (rVs rs) (by simp [Act.eval]) (World.ownsRow.alloc (w := w4) HO4.out _) ⟨w4.heap.size, 0, none⟩ 1 1 [.int .u8 nm[vn].toNat, .string st] (by simp [Act.eval]) (by rfl) (World.news_of_block (heap_alloc_new _ _)) (by simp [Value.oneCell']) (by decide) (by unfold maxLen; omega) (by omega) (by rw [alloc_size]; omega) (w4.heap.size + 1) (by rw [alloc_size]) ?_
             intro g' cap' w5 hown' hgrow hat hlt'
             have HN5 := Lib.hid (And.intro hown' hgrow)
             clear hown' hgrow hat hlt')))
        all_goals
          obtain ⟨hown', hgrow⟩ := HN5.out
          have hrow : ∀ j, (Value.slice va vn vc).ownBlock = some j → w.heap.size ≤ j := fun j hj => (HO4.out.lt j hj).1
          have hbel : Below w.heap.size w4 w5 := ((Below.refl _ _).alloc hz4 _).grown hgrow (by rw [alloc_size]; omega) hrow
          have HX := Lib.hid (And.intro hown' hbel)
          clear hown' hgrow hrow hbel HN5
          go_wp2_with fail
          go_roundw
          case rel =>
            obtain ⟨hown', hbel⟩ := HX.out
            refine ⟨vn + 1, q4, rs ++ [((nm[vn], st) : Rw)], by go_num, by omega, by rw [List.length_append, HRl.out]; rfl, by omega, HR4.out.keep' hrb HGa.out (fun k hk => hbel.block k hk), ?_, ?_, grown_below_row (grownBy_trans hGr.out HG4.out) hbel⟩
            · show World.ownsRow _ _ _ _ _ _ _
              rw [rVs_snoc]; exact hown'
            · show ∀ r ∈ _, _
              intro r hr
              rcases List.mem_append.1 hr with hr | hr
              · exact hS.out r hr
              · rw [List.mem_singleton.1 hr]; exact hst
          case measure => simp [intOf]; omega
    · have hv1 : k = 1 + v := by omega
      subst hv1
      obtain ⟨va, vn, vc, hv2⟩ := slice_form hO.out
      subst hv2
      have hvn : vn = 1 + v := by
        rcases hO.out.2 with ⟨h1, h2⟩ | ⟨g, cap, cur, h1, _⟩
        · injection h1 with _ h3; omega
        · injection h1 with _ h3
      subst hvn
      have hO2 := hO.out
      rw [← hrl] at hO2
      have HT := Lib.hid (text_rows hO2 hrl (by omega) hS.out (by omega))
      have HLe := Lib.hid (rowT_le 321 rs hS.out)
      have HRl := Lib.hid hrl
      clear hO2 hrl
      go_wp2_with fail
      refine HT.out.mono ?_
      rintro e w2 ⟨rfl, hb2⟩
      have HB2 := Lib.hid hb2
      clear hb2
      go_wp2_with fail
      go_ret
      refine ⟨rowT rs, q, rfl, ?_, by omega, hR.out.later (fun k hk => HB2.out.block k hk), grownBy_trans hGr.out (grownBy_below HB2.out)⟩
      have h1 := HLe.out
      have h2 : rs.length * (321 + 3) ≤ 4 * (321 + 3) := Nat.mul_le_mul_right _ (by rw [HRl.out]; omega)
      omega

end Go.Proofs.YtfmmpahbjkiomaaGreatDoor
namespace Go.Proofs.YtfmmpahbjkiomaaGreatDoor
open Go.RowKit Gram

theorem eleven_small : ∀ s ∈ [(⟨#[97]⟩ : ByteArray), ⟨#[98]⟩, ⟨#[99]⟩, ⟨#[97]⟩, ⟨#[100]⟩, ⟨#[97]⟩, ⟨#[98]⟩, ⟨#[]⟩, ⟨#[65]⟩, ⟨#[97, 98]⟩, ⟨#[122]⟩], s.size ≤ 2 := by decide

set_option maxHeartbeats 1000000 in
set_option maxRecDepth 100000 in
theorem name_any (w : World) (rb : Nat) (a : Option Addr) (n c p : Nat) (h : Rdr w rb a n c p) (hp : p ≤ 90000) :
    Calls Tryz.prog 54 #[.pointer (some ⟨rb, 0, none⟩)] w (DrewS w rb a n c p 2 4) := by
  have H := Lib.hid h
  have hrb := heap_lt h.own
  clear h
  go_enter Tryz.func54, Tryz.ntmps54
  go_wp2_with fail
  refine (of_any _ rb a n c p w.heap.size 11 11 2 (H.out.later (alloc_heap (w := w) _)) (by omega) (by omega) (by omega) (by omega) (plus_cells w w.heap.size [⟨#[97]⟩, ⟨#[98]⟩, ⟨#[99]⟩, ⟨#[97]⟩, ⟨#[100]⟩, ⟨#[97]⟩, ⟨#[98]⟩, ⟨#[]⟩, ⟨#[65]⟩, ⟨#[97, 98]⟩, ⟨#[122]⟩] 2 eleven_small rfl)).mono ?_
  rintro e w3 ⟨t, q, rfl, ht, hq, hr3, hg3⟩
  have HR3 := Lib.hid hr3
  have HG3 := Lib.hid (grownBy_trans (World.grownBy_alloc _ _ _) hg3)
  clear hr3 hg3
  go_wp2_with fail
  go_ret
  exact ⟨t, q, rfl, ht, by omega, HR3.out, HG3.out⟩

set_option maxHeartbeats 1000000 in
theorem with_any (w : World) (rb : Nat) (a : Option Addr) (n c p : Nat) (h : Rdr w rb a n c p) (hp : p ≤ 60000) :
    Calls Tryz.prog 24 #[.pointer (some ⟨rb, 0, none⟩)] w fun e w' => ∃ (s t : ByteArray) (q : Nat), e = .returned (.tuple #[.string s, .string t]) ∧ s.size ≤ 2000 ∧ t.size ≤ 2 ∧ q ≤ p + 3000 ∧ Rdr w' rb a n c q ∧ w.grownBy w' (some rb) := by
  have H := Lib.hid h
  clear h
  go_enter Tryz.func24, Tryz.ntmps24
  go_wp2_with fail
  refine (program_any _ rb a n c p H.out (by omega)).mono ?_
  rintro e w2 ⟨s, q, rfl, hs, hq, hr2, hg2⟩
  have HR2 := Lib.hid hr2
  have HG2 := Lib.hid hg2
  clear hr2 hg2
  go_wp2_with fail
  refine (bad_any _ rb a n c q s HR2.out (by omega) (by omega)).mono ?_
  rintro e w3 ⟨t, q', rfl, ht, hq2, hr3, hg3⟩
  have HR3 := Lib.hid hr3
  have HG3 := Lib.hid (grownBy_trans HG2.out hg3)
  clear hr3 hg3
  go_wp2_with fail
  refine (name_any _ rb a n c q' HR3.out (by omega)).mono ?_
  rintro e w4 ⟨u, q4, rfl, hu, hq4, hr4, hg4⟩
  have HR4 := Lib.hid hr4
  have HG4 := Lib.hid (grownBy_trans HG3.out hg4)
  clear hr4 hg4
  go_wp2_with fail
  go_ret2
  exact ⟨t, u, q4, rfl, by omega, hu, by omega, HR4.out, HG4.out⟩

end Go.Proofs.YtfmmpahbjkiomaaGreatDoor
namespace Go.Proofs.YtfmmpahbjkiomaaGreatDoor
open Go.RowKit Gram

/-- what a draw of a number hands back -/
def DrewI (w : World) (rb : Nat) (a : Option Addr) (n c p cost : Nat) (e : Ending) (w' : World) : Prop :=
  ∃ (v : Int) (q : Nat), e = .returned (.int .i64 v) ∧ -9223372036854775808 ≤ v ∧ v ≤ 9223372036854775807 ∧ q ≤ p + cost ∧ Rdr w' rb a n c q ∧ w.grownBy w' (some rb)

set_option maxHeartbeats 400000 in
set_option maxRecDepth 100000 in
theorem num_any (w : World) (rb : Nat) (a : Option Addr) (n c p : Nat) (g ln lc : Nat) (h : Rdr w rb a n c p) (hp : p ≤ 100000) (hl : 1 ≤ ln) (hlb : ln ≤ 1000) (hg : g ≠ rb)
    (hc : ∀ i, i < ln → ∃ v : Int, w.cell? ⟨g, i, none⟩ = some (.int .i64 v) ∧ -9223372036854775808 ≤ v ∧ v ≤ 9223372036854775807) :
    Calls Tryz.prog 104 #[.pointer (some ⟨rb, 0, none⟩), .slice (some ⟨g, 0, none⟩) ln lc] w (DrewI w rb a n c p 1) := by
  have H := Lib.hid h
  have HC := Lib.hid hc
  clear h hc
  go_enter Tryz.func104, Tryz.ntmps104
  go_wp2_with fail
  refine (pick_to _ H.out hp (by omega)).mono ?_
  rintro e w1 ⟨v, rfl, hv, hr, hgr⟩
  have hv' : v < ln := by omega
  obtain ⟨s, hcs, hs1, hs2⟩ := HC.out v hv'
  have hc1 : w1.cell? ⟨g, v, none⟩ = some (.int .i64 s) := hgr.cell hcs (by simpa using hg)
  have HR := Lib.hid hr
  have HG := Lib.hid hgr
  clear hr hgr hcs
  go_wp2_with fail
  go_ret
  exact ⟨s, p + 1, rfl, hs1, hs2, Nat.le_refl _, HR.out, HG.out⟩

theorem num_cells (w : World) (g : Nat) (vs : List Int) (hM : ∀ v ∈ vs, -9223372036854775808 ≤ v ∧ v ≤ 9223372036854775807) (hg : g = w.heap.size) : ∀ i, i < vs.length → ∃ v : Int, (w.alloc (Obj.cells (vs.map (Value.int .i64)).toArray 3)).cell? ⟨g, i, none⟩ = some (.int .i64 v) ∧ -9223372036854775808 ≤ v ∧ v ≤ 9223372036854775807 := by
  subst hg
  intro i hi
  refine ⟨vs[i], ?_, hM _ (List.getElem_mem hi)⟩
  rw [Lib.cell_of_heap (heap_alloc_new w _)]
  simp [hi]

set_option maxHeartbeats 1000000 in
set_option maxRecDepth 100000 in
theorem value_any (w : World) (rb : Nat) (a : Option Addr) (n c p : Nat) (h : Rdr w rb a n c p) (hp : p ≤ 90000) :
    Calls Tryz.prog 74 #[.pointer (some ⟨rb, 0, none⟩)] w (DrewI w rb a n c p 3) := by
  have H := Lib.hid h
  have hrb := heap_lt h.own
  clear h
  go_enter Tryz.func74, Tryz.ntmps74
  go_wp2_with fail
  refine (pick_to _ H.out (by omega) (by omega)).mono ?_
  rintro e w1 ⟨u1, rfl, hu1, hr1, hg1⟩
  have HR1 := Lib.hid hr1
  have HG1 := Lib.hid hg1
  clear hr1 hg1
  go_wp2_with fail
  refine (pick_to _ HR1.out (by omega) (by omega)).mono ?_
  rintro e w2 ⟨u2, rfl, hu2, hr2, hg2⟩
  have HR2 := Lib.hid hr2
  have HG2 := Lib.hid (grownBy_trans HG1.out hg2)
  clear hr2 hg2
  have hw2 : rb < w2.heap.size := Nat.lt_of_lt_of_le hrb HG2.out.size
  go_wp2_with fail
  refine (num_any _ rb a n c (p + 1 + 1) w2.heap.size 10 10 (HR2.out.later (alloc_heap (w := w2) _)) (by omega) (by omega) (by omega) (by omega) (num_cells w2 w2.heap.size [u1, 0, -(u2 : Int), 2, 9999, -9999, 1, 3, 10000, -9223372036854775808] (by intro v hv; simp at hv; omega) rfl)).mono ?_
  rintro e w3 ⟨t, q, rfl, ht, ht2, hq, hr3, hg3⟩
  have HR3 := Lib.hid hr3
  have HG3 := Lib.hid (grownBy_trans HG2.out (grownBy_trans (World.grownBy_alloc _ _ _) hg3))
  clear hr3 hg3
  go_wp2_with fail
  go_ret
  exact ⟨t, q, rfl, ht, ht2, by omega, HR3.out, HG3.out⟩

theorem six_small : ∀ s ∈ [(⟨#[97, 58, 67, 98, 80, 59, 98, 58, 63, 91, 80, 45, 49, 67, 98, 93, 91, 93]⟩ : ByteArray), ⟨#[97, 58, 63, 91, 80, 45, 49, 67, 97, 80, 93, 91, 93]⟩, ⟨#[97, 58, 67, 98, 67, 98, 59, 98, 58, 43, 49, 80, 67, 99, 59, 99, 58, 42, 50, 80]⟩, ⟨#[97, 58, 43, 49, 67, 97]⟩, ⟨#[97, 58, 80, 67, 97, 67, 97]⟩, ⟨#[97, 58, 63, 91, 45, 49, 67, 98, 67, 97, 93, 91, 80, 93, 59, 98, 58, 80]⟩], s.size ≤ 20 := by decide

set_option maxHeartbeats 1000000 in
set_option maxRecDepth 100000 in
theorem loop_any (w : World) (rb : Nat) (a : Option Addr) (n c p : Nat) (h : Rdr w rb a n c p) (hp : p ≤ 90000) :
    Calls Tryz.prog 73 #[.pointer (some ⟨rb, 0, none⟩)] w (DrewS w rb a n c p 20 4) := by
  have H := Lib.hid h
  have hrb := heap_lt h.own
  clear h
  go_enter Tryz.func73, Tryz.ntmps73
  go_wp2_with fail
  refine (of_any _ rb a n c p w.heap.size 6 6 20 (H.out.later (alloc_heap (w := w) _)) (by omega) (by omega) (by omega) (by omega) (plus_cells w w.heap.size [⟨#[97, 58, 67, 98, 80, 59, 98, 58, 63, 91, 80, 45, 49, 67, 98, 93, 91, 93]⟩, ⟨#[97, 58, 63, 91, 80, 45, 49, 67, 97, 80, 93, 91, 93]⟩, ⟨#[97, 58, 67, 98, 67, 98, 59, 98, 58, 43, 49, 80, 67, 99, 59, 99, 58, 42, 50, 80]⟩, ⟨#[97, 58, 43, 49, 67, 97]⟩, ⟨#[97, 58, 80, 67, 97, 67, 97]⟩, ⟨#[97, 58, 63, 91, 45, 49, 67, 98, 67, 97, 93, 91, 80, 93, 59, 98, 58, 80]⟩] 20 six_small rfl)).mono ?_
  rintro e w3 ⟨t, q, rfl, ht, hq, hr3, hg3⟩
  have HR3 := Lib.hid hr3
  have HG3 := Lib.hid (grownBy_trans (World.grownBy_alloc _ _ _) hg3)
  clear hr3 hg3
  go_wp2_with fail
  go_ret
  exact ⟨t, q, rfl, ht, by omega, HR3.out, HG3.out⟩

/-- what a draw of a program, a name and a value hands back -/
def DrewR (w : World) (rb : Nat) (a : Option Addr) (n c p : Nat) (e : Ending) (w' : World) : Prop :=
  ∃ (s t : ByteArray) (v : Int) (q : Nat), e = .returned (.tuple #[.string s, .string t, .int .i64 v]) ∧ s.size ≤ 2000 ∧ t.size ≤ 2 ∧ -9223372036854775808 ≤ v ∧ v ≤ 9223372036854775807 ∧ q ≤ p + 3000 ∧ Rdr w' rb a n c q ∧ w.grownBy w' (some rb)

set_option maxHeartbeats 2000000 in
set_option maxRecDepth 100000 in
theorem some_any (w : World) (rb : Nat) (a : Option Addr) (n c p : Nat) (h : Rdr w rb a n c p) (hp : p ≤ 60000) :
    Calls Tryz.prog 44 #[.pointer (some ⟨rb, 0, none⟩)] w (DrewR w rb a n c p) := by
  have H := Lib.hid h
  clear h
  go_enter Tryz.func44, Tryz.ntmps44
  go_wp2_with fail
  refine (program_any _ rb a n c p H.out (by omega)).mono ?_
  rintro e w2 ⟨s, q, rfl, hs, hq, hr2, hg2⟩
  have HR2 := Lib.hid hr2
  have HG2 := Lib.hid hg2
  clear hr2 hg2
  go_wp2_with fail
  refine (bad_any _ rb a n c q s HR2.out (by omega) (by omega)).mono ?_
  rintro e w3 ⟨t, q', rfl, ht, hq2, hr3, hg3⟩
  have HR3 := Lib.hid hr3
  have HG3 := Lib.hid (grownBy_trans HG2.out hg3)
  clear hr3 hg3
  go_wp2_with fail
  refine (pick_to _ HR3.out (by omega) (by omega)).mono ?_
  rintro e w4 ⟨u, rfl, hu, hr4, hg4⟩
  have HR4 := Lib.hid hr4
  have HG4 := Lib.hid (grownBy_trans HG3.out hg4)
  clear hr4 hg4
  /- behind the program: a text t' at place q5 -/
  have hend : ∀ (t' nm : ByteArray) (q5 : Nat) (w5 : World), t'.size ≤ 2000 → nm.size ≤ 2 → q5 ≤ p + 2900 → Rdr w5 rb a n c q5 → w.grownBy w5 (some rb) →
      Calls Tryz.prog 74 #[.pointer (some ⟨rb, 0, none⟩)] w5 (fun e w' => ∃ (v : Int) (q : Nat), e = .returned (.int .i64 v) ∧ DrewR w rb a n c p (.returned (.tuple #[.string t', .string nm, .int .i64 v])) w') := by
    intro t' nm q5 w5 h1 h2 h3 h4 h5
    refine (value_any w5 rb a n c q5 h4 (by omega)).mono ?_
    rintro e w' ⟨v, q, rfl, v1, v2, hq, hr, hg⟩
    exact ⟨v, q, rfl, t', nm, v, q, rfl, h1, h2, v1, v2, by omega, hr, grownBy_trans h5 hg⟩
  have HE := Lib.hid hend
  clear hend
  obtain rfl | hu0 : u = 0 ∨ 0 < u := by omega
  · go_wp2_with fail
    refine (loop_any _ rb a n c (q' + 1) HR4.out (by omega)).mono ?_
    rintro e w5 ⟨t', q5, rfl, ht', hq5, hr5, hg5⟩
    have HR5 := Lib.hid hr5
    have HG5 := Lib.hid (grownBy_trans HG4.out hg5)
    clear hr5 hg5
    go_wp2_with fail
    refine (pick_to _ HR5.out (by omega) (by omega)).mono ?_
    rintro e w6 ⟨u', rfl, hu', hr6, hg6⟩
    have HR6 := Lib.hid hr6
    have HG6 := Lib.hid (grownBy_trans HG5.out hg6)
    clear hr6 hg6
    obtain rfl | hu0' : u' = 0 ∨ 0 < u' := by omega
    · go_wp2_with fail
      refine (name_any _ rb a n c (q5 + 1) HR6.out (by omega)).mono ?_
      rintro e w7 ⟨nm, q7, rfl, hnm, hq7, hr7, hg7⟩
      have HR7 := Lib.hid hr7
      have HG7 := Lib.hid (grownBy_trans HG6.out hg7)
      clear hr7 hg7
      go_wp2_with fail
      refine (HE.out t' nm q7 w7 (by omega) hnm (by omega) HR7.out HG7.out).mono ?_
      rintro e w8 ⟨v, q8, rfl, hD⟩
      have HD := Lib.hid hD
      clear hD
      go_wp2_with fail
      go_ret3
      exact HD.out
    · go_wp2_with fail
      refine (HE.out t' ⟨#[97]⟩ (q5 + 1) w6 (by omega) (by decide) (by omega) HR6.out HG6.out).mono ?_
      rintro e w8 ⟨v, q8, rfl, hD⟩
      have HD := Lib.hid hD
      clear hD
      go_wp2_with fail
      go_ret3
      exact HD.out
  · go_wp2_with fail
    refine (pick_to _ HR4.out (by omega) (by omega)).mono ?_
    rintro e w6 ⟨u', rfl, hu', hr6, hg6⟩
    have HR6 := Lib.hid hr6
    have HG6 := Lib.hid (grownBy_trans HG4.out hg6)
    clear hr6 hg6
    obtain rfl | hu0' : u' = 0 ∨ 0 < u' := by omega
    · go_wp2_with fail
      refine (name_any _ rb a n c (q' + 1 + 1) HR6.out (by omega)).mono ?_
      rintro e w7 ⟨nm, q7, rfl, hnm, hq7, hr7, hg7⟩
      have HR7 := Lib.hid hr7
      have HG7 := Lib.hid (grownBy_trans HG6.out hg7)
      clear hr7 hg7
      go_wp2_with fail
      refine (HE.out t nm q7 w7 (by omega) hnm (by omega) HR7.out HG7.out).mono ?_
      rintro e w8 ⟨v, q8, rfl, hD⟩
      have HD := Lib.hid hD
      clear hD
      go_wp2_with fail
      go_ret3
      exact HD.out
    · go_wp2_with fail
      refine (HE.out t ⟨#[97]⟩ (q' + 1 + 1) w6 (by omega) (by decide) (by omega) HR6.out HG6.out).mono ?_
      rintro e w8 ⟨v, q8, rfl, hD⟩
      have HD := Lib.hid hD
      clear hD
      go_wp2_with fail
      go_ret3
      exact HD.out

set_option maxHeartbeats 1000000 in
theorem drawRun_any (w : World) (a : Option Addr) (n c : Nat) (h : BytesAt w a n) (hn : n ≤ c) (hc : c ≤ 9223372036854775807) (hnil : a = none → n = 0) :
    Calls Tryz.prog 14 #[.slice a n c] w fun e w' => (∃ (s t : ByteArray) (v : Int), e = .returned (.tuple #[.string s, .string t, .int .i64 v]) ∧ s.size ≤ 2000 ∧ t.size ≤ 2 ∧ -9223372036854775808 ≤ v ∧ v ≤ 9223372036854775807) ∧ Below w.heap.size w w' := by
  have H := Lib.hid (open_any w a n c h hn hc hnil)
  clear h hnil
  go_enter Tryz.func14, Tryz.ntmps14
  go_wp2_with fail
  refine H.out.mono ?_
  rintro e w1 ⟨m, rfl, hr, hb⟩
  have HR := Lib.hid hr
  have HB := Lib.hid hb
  clear hr hb
  go_wp2_with fail
  refine (some_any _ w.heap.size a m c 0 HR.out (by omega)).mono ?_
  rintro e w2 ⟨s, t, v, q, rfl, hs, ht, hv1, hv2, hq, hr2, hg2⟩
  have HG2 := Lib.hid hg2
  clear hr2 hg2
  go_wp2_with fail
  go_ret3
  exact ⟨⟨s, t, v, rfl, hs, ht, hv1, hv2⟩, grown_new HB.out HG2.out⟩
end Go.Proofs.YtfmmpahbjkiomaaGreatDoor
namespace Go.Proofs.YtfmmpahbjkiomaaGreatDoor
open Go.RowKit Gram

set_option maxHeartbeats 400000 in
theorem wvIn_any (s : ByteArray) (c : UInt8) (hs : s.size ≤ 1099511627776) (w : World) :
    Calls Tryz.prog 19 #[.string s, .int .u8 c.toNat] w fun e w' => e = .returned (.bool (s.data.toList.contains c)) ∧ w = w' := by
  have H := Lib.hid (findI_has s.data.toList c)
  go_enter Tryz.func19, Tryz.ntmps19
  go_wp2_with fail
  go_loopw [8] (fun i wr => ∃ k : Nat, k ≤ s.size ∧ i = .int .i64 k ∧ Hid (∀ j (hj : j < s.data.toList.length), j < k → s.data.toList[j] ≠ c) ∧ w = wr) (fun i _ => s.size - (intOf i).toNat)
  case atStart => exact ⟨0, Nat.zero_le _, by go_num, fun j _ h => absurd h (Nat.not_lt_zero _), rfl⟩
  case round =>
    obtain ⟨k, hk, rfl, hno, rfl⟩ := hrel
    by_cases hlt : k < s.size
    · have hbq := Lib.hid (toNat_beq s[k] c)
      cases hb : ((s[k].toNat : Int) == (c.toNat : Int)) with
      | true =>
        have HY := Lib.hid (show s.data.toList.contains c = true by
          rw [hbq.out] at hb
          have e1 : s.data[k]'hlt = c := beq_iff_eq.1 hb
          rw [List.contains_iff_mem, ← e1]; simp)
        go_wp2_with fail
        go_ret
        exact ⟨by rw [HY.out]; rfl, rfl⟩
      | false =>
        have HY := Lib.hid (show s.data[k]'hlt ≠ c by
          rw [hbq.out] at hb
          exact beq_eq_false_iff_ne.1 hb)
        go_wp2_with fail
        go_roundw
        case rel =>
          refine ⟨k + 1, by omega, by go_num, fun j hj hlj => ?_, by first | rfl | trivial⟩
          by_cases h9 : j = k
          · subst h9; simpa using HY.out
          · exact hno.out j hj (by omega)
        case measure => simp [intOf]; omega
    · have HY := Lib.hid (show s.data.toList.contains c = false by
        rw [← H.out, decide_eq_false_iff_not, findI_none _ _ (fun j hj => hno.out j hj (by simp at hj; omega))]; decide)
      go_wp2_with fail
      go_ret
      exact ⟨by rw [HY.out]; rfl, rfl⟩
end Go.Proofs.YtfmmpahbjkiomaaGreatDoor
namespace Go.Proofs.YtfmmpahbjkiomaaGreatDoor
open Go.RowKit

theorem Rdr.keepB {w w' : World} {rb : Nat} {a : Option Addr} {n c p : Nat} {B : Nat} (h : Rdr w rb a n c p) (hB : rb < B) (hg : 0 < n → ∀ g off, a = some ⟨g, off, none⟩ → g < B) (hk : ∀ k, k < B → w'.heap[k]? = w.heap[k]?) : Rdr w' rb a n c p := by
  refine ⟨by rw [hk rb hB]; exact h.own, fun k hk' => ?_, h.off, h.small⟩
  obtain ⟨g, off, ha, b, hc⟩ := h.bytes k hk'
  exact ⟨g, off, ha, b, by rw [← hc]; exact World.cell?_of_block (a := ⟨g, off + k, none⟩) (hk g (hg (by omega) g off ha))⟩

/-- numbers in a block of their own, from B on -/
def Irow (w : World) (B g c : Nat) (zs : List Int) : Prop := w.ownsRow B 3 1 (.slice (some ⟨g, 0, none⟩) zs.length c) zs.length (intVs zs)
theorem Irow.lt {w : World} {B g c : Nat} {zs : List Int} (h : Irow w B g c zs) : B ≤ g ∧ g < w.heap.size := World.ownsRow.lt h g rfl
theorem Irow.room {w : World} {B g c : Nat} {zs : List Int} (h : Irow w B g c zs) : zs.length ≤ c ∧ c ≤ maxLen := by
  rcases h.2 with ⟨hv, _⟩ | ⟨g', cap, cur, hv, _, _, h1, h2, _⟩
  · cases hv
  · injection hv with _ _ hc; subst hc; exact ⟨h1, h2⟩
theorem Irow.ints {w : World} {B g c : Nat} {zs : List Int} (h : Irow w B g c zs) : Ints w (some ⟨g, 0, none⟩) zs.length zs :=
  ⟨rfl, fun i hi => ⟨g, 0, rfl, by
    have := World.ownsRow.cellAt h i (by omega)
    rw [Nat.zero_add, this]
    simp [intVs, hi]⟩⟩
theorem Irow.keep {w w' : World} {B g c : Nat} {zs : List Int} (h : Irow w B g c zs) (hk : w'.heap[g]? = w.heap[g]?) : Irow w' B g c zs := by
  refine ⟨h.1, ?_⟩
  rcases h.2 with h1 | ⟨g', cap, cur, hv, h1, h2, h3⟩
  · exact .inl h1
  · refine .inr ⟨g', cap, cur, hv, h1, ?_, h3⟩
    injection hv with hv _ _; injection hv with hv; injection hv with hv _ _; subst hv
    rw [hk]; exact h2
theorem Irow.made (w : World) (B : Nat) (hB : B ≤ w.heap.size) : Irow (w.alloc (Obj.cells #[] 3)) B w.heap.size 0 [] :=
  ⟨by simp [intVs], .inr ⟨w.heap.size, 0, #[], rfl, hB, heap_alloc_new w _, Nat.le_refl _, by simp [maxLen], by simp, by simp [intVs]⟩⟩
theorem intVs_snoc (zs : List Int) (x : Int) : intVs (zs ++ [x]) = intVs zs ++ [.int .i64 x] := by simp [intVs]

theorem irow_mono {w : World} {B B' g c : Nat} {zs : List Int} (h : Irow w B g c zs) (hb : B' ≤ B) : Irow w B' g c zs := by
  refine ⟨h.1, ?_⟩
  rcases h.2 with h1 | ⟨g', cap, cur, hv, h1, h2⟩
  · exact .inl h1
  · exact .inr ⟨g', cap, cur, hv, Nat.le_trans hb h1, h2⟩

/-- how a run of the draw may go on: the source, two rows -/
structure Two (w : World) (S : Nat) (a : Option Addr) (n c : Nat) (wr : World) (rb q ga gb ca cb : Nat) (zs ws : List Int) : Prop where
  rdr : Rdr wr rb a n c q
  ra : Irow wr S ga ca zs
  rB : Irow wr S gb cb ws
  ne : ga ≠ gb
  at_ : w.heap.size ≤ rb
  lo : rb < S
  low : 0 < n → ∀ g off, a = some ⟨g, off, none⟩ → g < S
  bel : Below w.heap.size w wr

theorem Two.picked {w wr w' : World} {S : Nat} {a : Option Addr} {n c rb q ga gb ca cb : Nat} {zs ws : List Int} (h : Two w S a n c wr rb q ga gb ca cb zs ws) (hr : Rdr w' rb a n c (q + 1)) (hg : wr.grownBy w' (some rb)) :
    Two w S a n c w' rb (q + 1) ga gb ca cb zs ws := by
  have e := h.at_
  have el := h.lo
  have la := h.ra.lt
  have lb := h.rB.lt
  exact ⟨hr, h.ra.keep (hg.block ga la.2 (fun e' => by injection e' with e'; omega)), h.rB.keep (hg.block gb lb.2 (fun e' => by injection e' with e'; omega)), h.ne, e, h.lo, h.low,
    h.bel.grown hg h.bel.size (fun k hk => by simp at hk; omega)⟩
/-- the second row is longer now -/
theorem Two.moreB {w wr w' : World} {S : Nat} {a : Option Addr} {n c rb q ga gb ca cb : Nat} {zs ws : List Int} {x : Int} {o : Obj} {g' cap' : Nat} (h : Two w S a n c wr rb q ga gb ca cb zs ws)
    (ho : w'.ownsRow S 3 1 (.slice (some ⟨g', 0, none⟩) (ws.length + 1) cap') (ws.length + 1) (intVs ws ++ [.int .i64 x]))
    (hg : (wr.alloc o).grownBy w' (some gb)) (hw : some gb = some g' ∨ g' = wr.heap.size + 1) : Two w S a n c w' rb q ga g' ca cap' zs (ws ++ [x]) := by
  have e := h.at_
  have el := h.lo
  have la := h.ra.lt
  have lb := h.rB.lt
  have hne := h.ne
  have hold : ∀ k, k < wr.heap.size → k ≠ gb → w'.heap[k]? = wr.heap[k]? := fun k hk hk' =>
    (hg.block k (by rw [alloc_size']; omega) (fun e' => by injection e' with e'; omega)).trans (alloc_heap o k hk)
  have hbel : Below w.heap.size w w' := (h.bel.alloc h.bel.size _).grown hg (by rw [alloc_size']; have := h.bel.size; omega) (fun k hk => by injection hk with hk; omega)
  refine ⟨h.rdr.keepB (B := S) h.lo h.low (fun k hk => hold k (by omega) (by omega)), h.ra.keep (hold ga la.2 hne), ?_, ?_, e, h.lo, h.low, hbel⟩
  · show World.ownsRow _ _ _ _ _ _ _
    rw [intVs_snoc, List.length_append]; exact ho
  · rcases hw with hw | hw
    · injection hw with hw; omega
    · omega
theorem Two.moreA {w wr w' : World} {S : Nat} {a : Option Addr} {n c rb q ga gb ca cb : Nat} {zs ws : List Int} {x : Int} {o : Obj} {g' cap' : Nat} (h : Two w S a n c wr rb q ga gb ca cb zs ws)
    (ho : w'.ownsRow S 3 1 (.slice (some ⟨g', 0, none⟩) (zs.length + 1) cap') (zs.length + 1) (intVs zs ++ [.int .i64 x]))
    (hg : (wr.alloc o).grownBy w' (some ga)) (hw : some ga = some g' ∨ g' = wr.heap.size + 1) : Two w S a n c w' rb q g' gb cap' cb (zs ++ [x]) ws := by
  have e := h.at_
  have el := h.lo
  have la := h.ra.lt
  have lb := h.rB.lt
  have hne := h.ne
  have hold : ∀ k, k < wr.heap.size → k ≠ ga → w'.heap[k]? = wr.heap[k]? := fun k hk hk' =>
    (hg.block k (by rw [alloc_size']; omega) (fun e' => by injection e' with e'; omega)).trans (alloc_heap o k hk)
  have hbel : Below w.heap.size w w' := (h.bel.alloc h.bel.size _).grown hg (by rw [alloc_size']; have := h.bel.size; omega) (fun k hk => by injection hk with hk; omega)
  refine ⟨h.rdr.keepB (B := S) h.lo h.low (fun k hk => hold k (by omega) (by omega)), ?_, h.rB.keep (hold gb lb.2 hne.symm), ?_, e, h.lo, h.low, hbel⟩
  · show World.ownsRow _ _ _ _ _ _ _
    rw [intVs_snoc, List.length_append]; exact ho
  · rcases hw with hw | hw
    · injection hw with hw; omega
    · omega

/-- what the draw hands back -/
def DrewTwo (w : World) (e : Ending) (w' : World) : Prop := ∃ (ga gb ca cb : Nat) (zs ws : List Int), e = .returned (.tuple #[.slice (some ⟨ga, 0, none⟩) zs.length ca, .slice (some ⟨gb, 0, none⟩) ws.length cb]) ∧
  Irow w' w.heap.size ga ca zs ∧ Irow w' w.heap.size gb cb ws ∧ ws.length ≤ 8 ∧ zs.length ≤ 9 ∧ Below w.heap.size w w'

end Go.Proofs.YtfmmpahbjkiomaaGreatDoor
namespace Go.Proofs.YtfmmpahbjkiomaaGreatDoor
open Go.RowKit

theorem Ints.nil_of {w : World} {a : Option Addr} {zs : List Int} (h : Ints w a 0 zs) : zs = [] := List.length_eq_zero_iff.1 h.len

set_option maxRecDepth 100000 in
/-- numbers put behind a row of numbers -/
theorem more_ints (w : World) (B g c : Nat) (zs : List Int) (hR : Irow w B g c zs) (a : Option Addr) (m d : Nat) (ws : List Int) (hI : Ints w a m ws) (hmax : zs.length + m ≤ 2000) (hB : B ≤ w.heap.size) :
    ∃ g' c' w', (Builtin.append_ #[35, 35] 35 #[.slice (some ⟨g, 0, none⟩) zs.length c, .slice a m d]).run Tryz.prog w = .ok (.slice (some ⟨g', 0, none⟩) (zs.length + m) c') w' ∧
      Irow w' B g' c' (zs ++ ws) ∧ w.grownBy w' (some g) ∧ (g' = g ∨ g' = w.heap.size) := by
  obtain ⟨i0, hi, hz0, hz1, hz2⟩ := info_parts info_int
  by_cases h0 : m = 0
  · subst h0
    have hws := hI.nil_of
    subst hws
    have hsrc : Src Tryz.prog i0.size 35 (.slice a 0 d) 0 [] w := by
      cases a with
      | none => exact Src.ofNil w Tryz.underlying35 d
      | some a => exact Src.ofSlice w Tryz.underlying35 a 0 d [] (by simp) (fun j u h => by simp at h) (fun _ h => by cases h)
    exact ⟨g, c, w, run_append_nothing w _ _ _ 3 i0 Tryz.underlying35 hi (some ⟨g, 0, none⟩) zs.length c hR.room.1 _ hsrc, by simpa using hR, ⟨rfl, rfl, rfl, Nat.le_refl _, fun _ _ _ => rfl⟩, .inl rfl⟩
  · obtain ⟨gs, off, rfl, _⟩ := hI.at_ 0 (by rw [hI.len]; omega)
    obtain ⟨g', c', w', hrun, h2, h3, h4, _⟩ := run_append_lies (P := Tryz.prog) w 35 35 B 3 i0 (.int .i64 0) 1 8 Tryz.underlying35 hi hz0 hz1 hz2 rfl (by decide) (.slice (some ⟨g, 0, none⟩) zs.length c) zs.length (intVs zs) hR ⟨gs, off, none⟩ m d (intVs ws) (by rw [intVs_len, hI.len]; omega)
      (fun j u hj => by
        have hj' : j < ws.length := by
          have := (List.getElem?_eq_some_iff.1 hj).1
          rwa [intVs_len] at this
        obtain ⟨g'', off'', ha, hc⟩ := hI.at_ j hj'
        injection ha with ha; injection ha with e1 e2; subst e1; subst e2
        have hu : u = .int .i64 ws[j] := by simpa [intVs, hj'] using hj.symm
        rw [Addr.add_lit, hu]; exact hc)
      (fun u hu => by
        simp only [intVs, List.mem_map] at hu
        obtain ⟨x, _, rfl⟩ := hu
        rfl) (by omega) (by unfold maxLen; omega) (by omega) hB w.heap.size rfl
    refine ⟨g', c', w', hrun, ?_, h3, ?_⟩
    · have e : intVs (zs ++ ws) = intVs zs ++ intVs ws := by simp [intVs]
      show World.ownsRow _ _ _ _ _ _ _
      rw [e, List.length_append, hI.len]
      exact h2
    · rcases h4 with h4 | h4
      · left; injection h4 with h4; exact h4.symm
      · right; exact h4

set_option maxRecDepth 100000 in
/-- one number in a block of its own -/
theorem Irow.one (w : World) (B : Nat) (x : Int) (hB : B ≤ w.heap.size) : Irow (w.alloc (Obj.cells #[.int .i64 x] 3)) B w.heap.size 1 [x] :=
  ⟨by simp [intVs], .inr ⟨w.heap.size, 1, #[.int .i64 x], rfl, hB, heap_alloc_new w _, Nat.le_refl _, by simp [maxLen], by simp, by simp [intVs]⟩⟩

theorem Ints.take {w : World} {a : Option Addr} {m : Nat} {ws : List Int} (h : Ints w a m ws) (k : Nat) (hk : k ≤ m) : Ints w a k (ws.take k) :=
  ⟨by rw [List.length_take, h.len]; omega, fun i hi => by
    have hi' : i < ws.length := by rw [List.length_take] at hi; omega
    obtain ⟨g, off, ha, hc⟩ := h.at_ i hi'
    exact ⟨g, off, ha, by rw [hc, List.getElem_take]⟩⟩

theorem sub_self (ws : List Int) : ws.isSublist ws = true := List.isSublist_iff_sublist.2 (List.Sublist.refl _)
theorem sub_behind (ws : List Int) (x : Int) : ws.isSublist (ws ++ [x]) = true := List.isSublist_iff_sublist.2 (List.sublist_append_left _ _)
theorem sub_long (ws : List Int) (x : Int) : (ws ++ [x]).isSublist ws = false := by
  cases h : (ws ++ [x]).isSublist ws with
  | false => rfl
  | true =>
    have := (List.isSublist_iff_sublist.1 h).length_le
    simp at this
    omega
theorem sub_take (ws : List Int) (k : Nat) : (ws.take k).isSublist ws = true := List.isSublist_iff_sublist.2 (List.take_sublist _ _)
theorem sub_more {zs ws : List Int} (x : Int) (h : zs.isSublist ws = true) : zs.length ≤ ws.length ∧ zs.isSublist (ws ++ [x]) = true ∧ zs.isSublist ([x] ++ ws) = true := by
  have hs := List.isSublist_iff_sublist.1 h
  exact ⟨hs.length_le, List.isSublist_iff_sublist.2 (hs.trans (List.sublist_append_left _ _)), List.isSublist_iff_sublist.2 (hs.trans (List.sublist_append_right _ _))⟩
end Go.Proofs.YtfmmpahbjkiomaaGreatDoor
