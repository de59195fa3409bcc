/- The model's l1Text: a program's text of rows. Condition: at most 30 rows. The model's l1Text and l1Program: a program's text of rows; a drawn one is short, whatever the source holds. Conditions: counts up to 70000. The model's l1Name, l1With and DrawReachOf: they return short texts, whatever the bytes behind the source. The model's DrawWithBody: it returns short texts, whatever the bytes behind the source. -/
import Derived.Test.YthkokokeppoieaaGreatDoorOpen1
import Derived.Test.YthkokokeppoieaaGreatDoorText
import Derived.Test.YthkokokeppoieaaGreatDoorJoin
import Derived.Test.YthkokokeppoieaaGreatDoorDx
import Derived.Deep.RegionHeldLaw
import Derived.OwnWalk
namespace Go.Proofs.YthkokokeppoieaaGreatDoor
open Go.RowKit Gram

/-- rows of names and bodies, whatever these are -/
abbrev Rw := UInt8 × ByteArray
def rV (r : Rw) : List Value := [.int .u8 r.1.toNat, .string r.2]
def rVs (rs : List Rw) : List Value := rs.flatMap rV
theorem rVs_snoc (rs : List Rw) (r : Rw) : rVs (rs ++ [r]) = rVs rs ++ rV r := by simp [rVs]
theorem rVs_get (rs : List Rw) (k : Nat) (hk : k < rs.length) : (rVs rs)[k * 2]? = some (.int .u8 rs[k].1.toNat) ∧ (rVs rs)[k * 2 + 1]? = some (.string rs[k].2) := by
  induction rs generalizing k with
  | nil => simp at hk
  | cons p t ih =>
    cases k with
    | zero => exact ⟨rfl, rfl⟩
    | succ k =>
      have := ih k (by simpa using hk)
      simp only [rVs, List.flatMap_cons, rV] at this ⊢
      rw [show (k + 1) * 2 = k * 2 + 2 by omega, show k * 2 + 2 + 1 = (k * 2 + 1) + 2 by omega]
      simpa using this
theorem rw_get {w : World} {B c : Nat} {e : TypeId} {a : Option Addr} {rs : List Rw} (h : w.ownsRow B e 2 (.slice a rs.length c) rs.length (rVs rs)) (k : Nat) (hk : k < rs.length) :
    ∃ g, a = some ⟨g, 0, none⟩ ∧ B ≤ g ∧ w.cell? ⟨g, k * 2, none⟩ = some (.int .u8 rs[k].1.toNat) ∧ w.cell? ⟨g, k * 2 + 1, none⟩ = some (.string rs[k].2) := by
  rcases h.2 with ⟨h1, h2⟩ | ⟨g, cap, cur, h1, hb, _⟩
  · omega
  · injection h1 with h1 h3 h4
    subst h1
    subst h4
    exact ⟨g, rfl, hb, row_cell h _ _ (rVs_get rs k hk).1, row_cell h _ _ (rVs_get rs k hk).2⟩

/-- the text of rows, each behind a ';' but the first one -/
def rowT (rs : List Rw) : ByteArray := rs.foldl (fun t r => (if t.size = 0 then t else t ++ ⟨#[59]⟩) ++ ⟨#[r.1, 58]⟩ ++ r.2) ⟨#[]⟩
theorem rowT_snoc (rs : List Rw) (r : Rw) : rowT (rs ++ [r]) = (if (rowT rs).size = 0 then rowT rs else rowT rs ++ ⟨#[59]⟩) ++ ⟨#[r.1, 58]⟩ ++ r.2 := by simp [rowT]
theorem rowT_zero (rs : List Rw) : (rowT rs).size = 0 ↔ rs = [] := by
  constructor
  · intro h
    rcases List.eq_nil_or_concat rs with rfl | ⟨qs, q, rfl⟩
    · rfl
    · rw [List.concat_eq_append, rowT_snoc] at h
      simp only [ByteArray.size_append] at h
      have : (⟨#[q.1, 58]⟩ : ByteArray).size = 2 := rfl
      omega
  · rintro rfl; rfl
theorem rowT_take (rs : List Rw) (k : Nat) (hk : k < rs.length) : rowT (rs.take (k + 1)) = (if k = 0 then rowT (rs.take k) else rowT (rs.take k) ++ ⟨#[59]⟩) ++ ⟨#[rs[k].1, 58]⟩ ++ rs[k].2 := by
  rw [List.take_succ_eq_append_getElem hk, rowT_snoc]
  congr 2
  have : (rowT (rs.take k)).size = 0 ↔ k = 0 := by
    rw [rowT_zero]
    constructor
    · intro h
      have h2 : (rs.take k).length = k := by rw [List.length_take]; omega
      rw [h] at h2; exact h2.symm
    · rintro rfl; rfl
  by_cases h0 : k = 0
  · rw [if_pos h0, if_pos (this.2 h0)]
  · rw [if_neg h0, if_neg (fun h => h0 (this.1 h))]
theorem rowT_le (M : Nat) (rs : List Rw) (h : ∀ r ∈ rs, r.2.size ≤ M) : (rowT rs).size ≤ rs.length * (M + 3) := by
  have key : ∀ n (rs : List Rw), rs.length = n → (∀ r ∈ rs, r.2.size ≤ M) → (rowT rs).size ≤ n * (M + 3) := by
    intro n
    induction n with
    | zero => intro rs hn _; rw [List.length_eq_zero_iff.1 hn]; exact Nat.zero_le _
    | succ n ih =>
      intro rs hn h
      rcases List.eq_nil_or_concat rs with rfl | ⟨qs, q, rfl⟩
      · simp at hn
      · rw [List.concat_eq_append] at hn h ⊢
        have h1 := ih qs (by simpa using hn) fun r hr => h r (List.mem_append.2 (.inl hr))
        have h2 := h q (by simp)
        rw [rowT_snoc]
        simp only [ByteArray.size_append]
        have e1 : (⟨#[q.1, 58]⟩ : ByteArray).size = 2 := rfl
        have e2 : (⟨#[59]⟩ : ByteArray).size = 1 := rfl
        rw [Nat.add_mul, Nat.one_mul]
        split
        · omega
        · rw [ByteArray.size_append]; omega
  exact key _ rs rfl h

set_option maxHeartbeats 2000000 in
set_option maxRecDepth 100000 in
theorem text_rows {w : World} {B n c M : Nat} {a : Option Addr} {rs : List Rw} (ho : w.ownsRow B 69 2 (.slice a rs.length c) rs.length (rVs rs)) (hn : rs.length = n) (hl : n ≤ 30) (hM : ∀ r ∈ rs, r.2.size ≤ M) (hMb : M ≤ 4194304) :
    Calls Tryz.prog 31 #[.slice a n c] w fun e w' => e = .returned (.string (rowT rs)) ∧ Below w.heap.size w w' := by
  have HO := Lib.hid ho
  have HN := Lib.hid hn
  have HM := Lib.hid hM
  have HBd : Hid (∀ k, k ≤ 30 → (rowT (rs.take k)).size ≤ 30 * (M + 3)) := fun k hk => Nat.le_trans (rowT_le M (rs.take k) fun r hr => hM r (List.mem_of_mem_take hr)) (Nat.mul_le_mul_right _ (by rw [List.length_take]; omega))
  clear ho hn hM
  go_enter Tryz.func31, Tryz.ntmps31
  go_wp2_with fail
  go_loopw [3, 8] (fun o i wr => ∃ k : Nat, i = .int .i64 k ∧ k ≤ n ∧ o = .string (rowT (rs.take k)) ∧ Hid (Below w.heap.size w wr)) (fun _ i _ => n - (intOf i).toNat)
  case atStart => exact ⟨0, by go_num, Nat.zero_le _, rfl, Below.refl _ _⟩
  case round =>
    obtain ⟨k, rfl, hk, rfl, hb⟩ := hrel
    by_cases hlt : k < n
    · have hkp : k < rs.length := by rw [HN.out]; exact hlt
      obtain ⟨g, rfl, _, c0, c1⟩ := rw_get HO.out k hkp
      have hgl : g < w.heap.size := World.block_lt_of_cell? w _ c0
      have d0 : wr.cell? ⟨g, k * 2, none⟩ = some (.int .u8 rs[k].1.toNat) := by rw [hb.out.cell (p := ⟨g, k * 2, none⟩) hgl]; exact c0
      have d1 : wr.cell? ⟨g, k * 2 + 1, none⟩ = some (.string rs[k].2) := by rw [hb.out.cell (p := ⟨g, k * 2 + 1, none⟩) hgl]; exact c1
      have hMk := HM.out rs[k] (List.getElem_mem hkp)
      have hbd := HBd.out k (by omega)
      have HT := Lib.hid (rowT_take rs k hkp)
      have hs2 := fun o : Obj => str2 rs[k].1 58 (wr.alloc o) (wr.heap.size + 1) (by rw [alloc_size])
      simp only [UInt8.reduceToNat, Int.cast_ofNat_Int, strV] at hs2
      have z1 : (⟨#[59]⟩ : ByteArray).size = 1 := rfl
      clear c0 c1 hgl
      generalize rs[k].1 = nm at *
      generalize rs[k].2 = bd at *
      have z2 : (⟨#[nm, 58]⟩ : ByteArray).size = 2 := rfl
      generalize rowT (rs.take k) = t at *
      by_cases h0 : k = 0
      · rw [if_pos h0] at HT
        have e2 := str_add t ⟨#[nm, 58]⟩ (by omega)
        have e3 := str_add (t ++ ⟨#[nm, 58]⟩) bd (by rw [ByteArray.size_append]; omega)
        have hk0 : ¬ (0 : Int) < (k : Int) := by omega
        have HK0 := Lib.hid h0
        clear h0 z1 z2
        go_wp2_with fail
        go_roundw
        case rel => exact ⟨k + 1, by go_num, by omega, by rw [HT.out], (hb.out.alloc hb.out.size _).alloc (by rw [alloc_size]; exact Nat.le_succ_of_le hb.out.size) _⟩
        case measure => simp [intOf]; omega
      · rw [if_neg h0] at HT
        have e1 := str_add t ⟨#[59]⟩ (by omega)
        have e2 := str_add (t ++ ⟨#[59]⟩) ⟨#[nm, 58]⟩ (by rw [ByteArray.size_append]; omega)
        have e3 := str_add (t ++ ⟨#[59]⟩ ++ ⟨#[nm, 58]⟩) bd (by rw [ByteArray.size_append, ByteArray.size_append]; omega)
        have hk0 : (0 : Int) < (k : Int) := by omega
        clear z1 z2
        go_wp2_with fail
        go_roundw
        case rel => exact ⟨k + 1, by go_num, by omega, by rw [HT.out], (hb.out.alloc hb.out.size _).alloc (by rw [alloc_size]; exact Nat.le_succ_of_le hb.out.size) _⟩
        case measure => simp [intOf]; omega
    · have hall : rs.take k = rs := List.take_of_length_le (by rw [HN.out]; omega)
      rw [hall]
      go_wp2_with fail
      go_ret
      exact ⟨rfl, hb.out⟩

/-- a procedure's row -/
def rwOf (p : Pr) : Rw := (p.1, txtOf (txts p.2))
theorem rowT_join (ps : List Pr) : rowT (ps.map rwOf) = txtOf (joinP ps) := by
  have key : ∀ n (ps : List Pr), ps.length = n → rowT (ps.map rwOf) = txtOf (joinP ps) := by
    intro n
    induction n with
    | zero => intro ps h; rw [List.length_eq_zero_iff.1 h]; rfl
    | succ n ih =>
      intro ps h
      rcases List.eq_nil_or_concat ps with rfl | ⟨qs, q, rfl⟩
      · simp at h
      · rw [List.concat_eq_append] at h ⊢
        have h1 := ih qs (by simpa using h)
        rw [List.map_append, List.map_cons, List.map_nil, rowT_snoc, joinP_snoc]
        have h0 : (rowT (qs.map rwOf)).size = 0 ↔ qs = [] := by rw [rowT_zero]; simp
        by_cases hq : qs = []
        · subst hq
          rw [if_pos (h0.2 rfl), if_pos rfl, h1]
          apply ByteArray.ext; apply Array.ext'; simp [txtOf, rwOf]
        · rw [if_neg (fun h => hq (h0.1 h)), if_neg hq, h1]
          apply ByteArray.ext; apply Array.ext'; simp [txtOf, rwOf]
  exact key _ ps rfl
end Go.Proofs.YthkokokeppoieaaGreatDoor
namespace Go.Proofs.YthkokokeppoieaaGreatDoor
open Go.RowKit Gram

theorem Rdr.keep {w w' : World} {rb : Nat} {a : Option Addr} {n c p : Nat} (h : Rdr w rb a n c p) (hr : w'.heap[rb]? = w.heap[rb]?) (hk : ∀ g off, a = some ⟨g, off, none⟩ → w'.heap[g]? = w.heap[g]?) : Rdr w' rb a n c p := by
  refine ⟨by rw [hr]; exact h.own, fun k hk' => ?_, h.off, h.small⟩
  obtain ⟨g, off, ha, b, hc⟩ := h.bytes k hk'
  exact ⟨g, off, ha, b, by rw [← hc]; exact World.cell?_of_block (a := ⟨g, off + k, none⟩) (hk g off ha)⟩
theorem Rdr.keep' {w w' : World} {rb : Nat} {a : Option Addr} {n c p : Nat} {B : Nat} (h : Rdr w rb a n c p) (hB : rb < B) (hg : 0 < n → ∀ g off, a = some ⟨g, off, none⟩ → g < B) (hk : ∀ k, k < B → w'.heap[k]? = w.heap[k]?) : Rdr w' rb a n c p := by
  refine ⟨by rw [hk rb hB]; exact h.own, fun k hk' => ?_, h.off, h.small⟩
  obtain ⟨g, off, ha, b, hc⟩ := h.bytes k hk'
  exact ⟨g, off, ha, b, by rw [← hc]; exact World.cell?_of_block (a := ⟨g, off + k, none⟩) (hk g (hg (by omega) g off ha))⟩

theorem grown_below_row {w w4 w5 : World} {rb : Nat} (h : w.grownBy w4 (some rb)) (b : Below w.heap.size w4 w5) : w.grownBy w5 (some rb) :=
  ⟨b.os.trans h.os, b.tape.trans h.tape, b.output.trans h.output, Nat.le_trans h.size b.size, fun k hk hne => (b.block k hk).trans (h.block k hk hne)⟩
theorem draw_12 (t : Nat) (ht : t < 2) (w : World) (rb : Nat) (a : Option Addr) (n c p : Nat) (nm : ByteArray) (h : Rdr w rb a n c p) (hp : p ≤ 75000) (hnm : nm.size ≤ 10) :
    Calls Tryz.prog 20 #[.pointer (some ⟨rb, 0, none⟩), .string nm, .int .i64 (1 + (t : Int))] w (DrewS w rb a n c p 321 430) := by
  obtain rfl | rfl : t = 0 ∨ t = 1 := by omega
  · refine (draw_all 1 w rb a n c p nm _ rfl h (by omega) hnm (by decide) (by decide)).mono ?_
    rintro e w' ⟨s, q, he, hs, hq, h1, h2⟩
    exact ⟨s, q, he, Nat.le_trans hs (by decide), Nat.le_trans hq (Nat.add_le_add_left (by decide) _), h1, h2⟩
  · refine (draw_all 2 w rb a n c p nm _ rfl h (by omega) hnm (by decide) (by decide)).mono ?_
    rintro e w' ⟨s, q, he, hs, hq, h1, h2⟩
    exact ⟨s, q, he, Nat.le_trans hs (by decide), Nat.le_trans hq (Nat.add_le_add_left (by decide) _), h1, h2⟩

theorem row_grown {w w' : World} {B n rb size : Nat} {e : TypeId} {v : Value} {xs : List Value} (h : w.ownsRow B e size v n xs) (hg : w.grownBy w' (some rb)) (hB : rb < B) : w'.ownsRow B e size v n xs :=
  ownsRow_of h (fun j hj => hg.block j (h.lt j hj).2 (fun he => by have := (h.lt j hj).1; injection he with he; omega))

/-- a drawn program: at most four procedures -/
theorem info_pr6 : (Tryz.prog.info? 69).map (fun i => (i.zero, i.size, i.bytes)) = some (some (.agg #[.int .u8 0, .string ⟨#[]⟩]), 2, 24) := by kernel_rfl

set_option maxHeartbeats 4000000 in
set_option maxRecDepth 100000 in
theorem program_any (w : World) (rb : Nat) (a : Option Addr) (n c p : Nat) (h : Rdr w rb a n c p) (hp : p ≤ 70000) :
    Calls Tryz.prog 42 #[.pointer (some ⟨rb, 0, none⟩)] w (DrewS w rb a n c p 1400 2000) := by
  obtain ⟨i0, hi, hz0, hz1, hz2⟩ := info_parts info_pr6
  have hrb := heap_lt h.own
  have hga : 0 < n → ∀ g off, a = some ⟨g, off, none⟩ → g < w.heap.size := by
    intro hn g off ha
    obtain ⟨g', off', ha', b, hc⟩ := h.bytes 0 hn
    have := World.block_lt_of_cell? w _ hc
    rw [ha] at ha'
    injection ha' with ha'
    injection ha' with h1 _ _
    simp at this
    omega
  have HGa := Lib.hid hga
  have H := Lib.hid h
  clear h hga
  go_enter Tryz.func42, Tryz.ntmps42
  go_wp2_with fail
  refine (pick_to 4 H.out (by omega) (by omega)).mono ?_
  rintro e w1 ⟨v, rfl, hv, hr, hg⟩
  have HR := Lib.hid hr
  have HG := Lib.hid hg
  clear hr hg
  have hv4 : v ≤ 3 := by omega
  have hz : ((⟨#[97, 98, 99, 100]⟩ : ByteArray).extract 0 (1 + v)).size = 1 + v := by
    have h4 : (⟨#[97, 98, 99, 100]⟩ : ByteArray).size = 4 := rfl
    simp only [ByteArray.size_extract]
    omega
  have hmin : min (1 + v) 4 = 1 + v := by omega
  go_wp2_with fail
  generalize (⟨#[97, 98, 99, 100]⟩ : ByteArray).extract 0 (1 + v) = nm at *
  go_loopw [4, 14] (fun x i wr => ∃ (k q : Nat) (rs : List Rw), i = .int .i64 k ∧ k ≤ 1 + v ∧ rs.length = k ∧ q ≤ p + 1 + 480 * k ∧ Hid (Rdr wr rb a n c q) ∧ Hid (wr.ownsRow w.heap.size 69 2 x k (rVs rs)) ∧ Hid (∀ r ∈ rs, r.2.size ≤ 321) ∧ Hid (w.grownBy wr (some rb))) (fun _ i _ => 1 + v - (intOf i).toNat)
  case atStart =>
    have hz1 := HG.out.size
    refine ⟨0, p + 1, [], by go_num, Nat.zero_le _, rfl, by omega, ?_, ?_, by show ∀ r ∈ _, _; simp, ?_⟩
    · exact HR.out.later (fun k hk => Lib.alloc_old _ _ _ hk)
    · exact ⟨by simp [rVs], .inr ⟨w1.heap.size, 0, #[], rfl, hz1, heap_alloc_new _ _, Nat.le_refl _, by simp [maxLen], by simp, by simp [rVs]⟩⟩
    · exact grownBy_trans HG.out (World.grownBy_alloc _ _ _)
  case round =>
    obtain ⟨k, q, rs, rfl, hk, hrl, hq, hR, hO, hS, hGr⟩ := hrel
    by_cases hlt : k < 1 + v
    · obtain ⟨va, vn, vc, hv2⟩ := slice_form hO.out
      subst hv2
      have hvn : vn = k := by
        rcases hO.out.2 with ⟨h1, h2⟩ | ⟨g, cap, cur, h1, _⟩
        · injection h1 with _ h3; omega
        · injection h1 with _ h3
      subst hvn
      have HRl := Lib.hid hrl
      clear hrl
      go_wp2_with fail
      refine (pick_to 8 hR.out (by omega) (by omega)).mono ?_
      rintro e w2 ⟨u, rfl, hu, hr2, hg2⟩
      have HR2 := Lib.hid hr2
      have HG2 := Lib.hid hg2
      clear hr2 hg2
      by_cases hu0 : u = 0
      · subst hu0
        go_wp2_with fail
        go_region_held_law (fun _ => True) (trivial) ((first
          | (go_at_call 44; refine (pick_to 2 (HR2.out.later (w' := w2.drew) (fun _ _ => rfl)) (by omega) (by omega)).mono ?_
             rintro e w3 ⟨t, rfl, ht, hr3, hg3⟩
             have HR3 := Lib.hid hr3
             have HG3 := Lib.hid hg3
             have htw : IntKind.i64.wrap (1 + (t : Int)) = 1 + (t : Int) := IntWalk.i64_in _ (by omega)
             clear hr3 hg3)
          | (go_at_call 20; refine (draw_12 t (by omega) w3 rb a n c _ _ HR3.out (by omega) (by first | omega | (simp only [ByteArray.size_extract]; omega))).mono ?_
             rintro e w4 ⟨st, q4, rfl, hst, hq4, hr4, hg4⟩
             have HR4 := Lib.hid hr4
             have HG4 := Lib.hid (grownBy_trans (grownBy_trans (grownBy_trans HG2.out (show w2.grownBy w2.drew (some rb) from ⟨rfl, rfl, rfl, Nat.le_refl _, fun _ _ _ => rfl⟩)) HG3.out) hg4)
             have HO4 := Lib.hid (row_grown hO.out HG4.out hrb)
             have hz4 : w.heap.size ≤ w4.heap.size := Nat.le_trans hGr.out.size HG4.out.size
             clear hr4 hg4)
          | (refine step_append_lies _ (by rfl) (.tmp 25) (.tmp 36) 61 (by rfl) w.heap.size 69 i0 _ 2 24 Tryz.underlying61 hi hz0 hz1 hz2 (by rfl) (by decide) _ vn (rVs rs) (by simp [Act.eval]) (World.ownsRow.alloc (w := w4) HO4.out _) ⟨w4.heap.size, 0, none⟩ 1 1 [.int .u8 nm[vn].toNat, .string st] (by simp [Act.eval]) (by rfl) (World.news_of_block (heap_alloc_new _ _)) (by simp [Value.oneCell']) (by decide) (by unfold maxLen; omega) (by omega) (by rw [alloc_size]; omega) (w4.heap.size + 1) (by rw [alloc_size]) ?_
             intro g' cap' w5 hown' hgrow hat hlt'
             have HN5 := Lib.hid (And.intro hown' hgrow)
             clear hown' hgrow hat hlt')))
        all_goals
          obtain ⟨hown', hgrow⟩ := HN5.out
          have hrow : ∀ j, (Value.slice va vn vc).ownBlock = some j → w.heap.size ≤ j := fun j hj => (HO4.out.lt j hj).1
          have hbel : Below w.heap.size w4 w5 := ((Below.refl _ _).alloc hz4 _).grown hgrow (by rw [alloc_size]; omega) hrow
          have HX := Lib.hid (And.intro hown' hbel)
          clear hown' hgrow hrow hbel HN5
          go_wp2_with fail
          go_roundw
          case rel =>
            obtain ⟨hown', hbel⟩ := HX.out
            refine ⟨vn + 1, q4, rs ++ [((nm[vn], st) : Rw)], by go_num, by omega, by rw [List.length_append, HRl.out]; rfl, by omega, HR4.out.keep' hrb HGa.out (fun k hk => hbel.block k hk), ?_, ?_, grown_below_row (grownBy_trans hGr.out HG4.out) hbel⟩
            · show World.ownsRow _ _ _ _ _ _ _
              rw [rVs_snoc]; exact hown'
            · show ∀ r ∈ _, _
              intro r hr
              rcases List.mem_append.1 hr with hr | hr
              · exact hS.out r hr
              · rw [List.mem_singleton.1 hr]; exact hst
          case measure => simp [intOf]; omega
      · have hub : ((u : Int) == 0) = false := by rw [beq_eq_false_iff_ne]; omega
        clear hu0
        go_wp2_with fail
        go_region_held_law (fun _ => True) (trivial) ((first
          | (go_at_call 44; refine (pick_to 2 (HR2.out.later (w' := w2.drew) (fun _ _ => rfl)) (by omega) (by omega)).mono ?_
             rintro e w3 ⟨t, rfl, ht, hr3, hg3⟩
             have HR3 := Lib.hid hr3
             have HG3 := Lib.hid hg3
             have htw : IntKind.i64.wrap (1 + (t : Int)) = 1 + (t : Int) := IntWalk.i64_in _ (by omega)
             clear hr3 hg3)
          | (go_at_call 20; refine (draw_12 t (by omega) w3 rb a n c _ _ HR3.out (by omega) (by first | omega | (simp only [ByteArray.size_extract]; omega))).mono ?_
             rintro e w4 ⟨st, q4, rfl, hst, hq4, hr4, hg4⟩
             have HR4 := Lib.hid hr4
             have HG4 := Lib.hid (grownBy_trans (grownBy_trans (grownBy_trans HG2.out (show w2.grownBy w2.drew (some rb) from ⟨rfl, rfl, rfl, Nat.le_refl _, fun _ _ _ => rfl⟩)) HG3.out) hg4)
             have HO4 := Lib.hid (row_grown hO.out HG4.out hrb)
             have hz4 : w.heap.size ≤ w4.heap.size := Nat.le_trans hGr.out.size HG4.out.size
             clear hr4 hg4)
          | (refine step_append_lies _ (by rfl) (.tmp 25) (.tmp 36) 61 (by rfl) w.heap.size 69 i0 _ 2 24 Tryz.underlying61 hi hz0 hz1 hz2 (by rfl) (by decide) _ vn (rVs rs) (by simp [Act.eval]) (World.ownsRow.alloc (w := w4) HO4.out _) ⟨w4.heap.size, 0, none⟩ 1 1 [.int .u8 nm[vn].toNat, .string st] (by simp [Act.eval]) (by rfl) (World.news_of_block (heap_alloc_new _ _)) (by simp [Value.oneCell']) (by decide) (by unfold maxLen; omega) (by omega) (by rw [alloc_size]; omega) (w4.heap.size + 1) (by rw [alloc_size]) ?_
             intro g' cap' w5 hown' hgrow hat hlt'
             have HN5 := Lib.hid (And.intro hown' hgrow)
             clear hown' hgrow hat hlt')))
        all_goals
          obtain ⟨hown', hgrow⟩ := HN5.out
          have hrow : ∀ j, (Value.slice va vn vc).ownBlock = some j → w.heap.size ≤ j := fun j hj => (HO4.out.lt j hj).1
          have hbel : Below w.heap.size w4 w5 := ((Below.refl _ _).alloc hz4 _).grown hgrow (by rw [alloc_size]; omega) hrow
          have HX := Lib.hid (And.intro hown' hbel)
          clear hown' hgrow hrow hbel HN5
          go_wp2_with fail
          go_roundw
          case rel =>
            obtain ⟨hown', hbel⟩ := HX.out
            refine ⟨vn + 1, q4, rs ++ [((nm[vn], st) : Rw)], by go_num, by omega, by rw [List.length_append, HRl.out]; rfl, by omega, HR4.out.keep' hrb HGa.out (fun k hk => hbel.block k hk), ?_, ?_, grown_below_row (grownBy_trans hGr.out HG4.out) hbel⟩
            · show World.ownsRow _ _ _ _ _ _ _
              rw [rVs_snoc]; exact hown'
            · show ∀ r ∈ _, _
              intro r hr
              rcases List.mem_append.1 hr with hr | hr
              · exact hS.out r hr
              · rw [List.mem_singleton.1 hr]; exact hst
          case measure => simp [intOf]; omega
    · have hv1 : k = 1 + v := by omega
      subst hv1
      obtain ⟨va, vn, vc, hv2⟩ := slice_form hO.out
      subst hv2
      have hvn : vn = 1 + v := by
        rcases hO.out.2 with ⟨h1, h2⟩ | ⟨g, cap, cur, h1, _⟩
        · injection h1 with _ h3; omega
        · injection h1 with _ h3
      subst hvn
      have hO2 := hO.out
      rw [← hrl] at hO2
      have HT := Lib.hid (text_rows hO2 hrl (by omega) hS.out (by omega))
      have HLe := Lib.hid (rowT_le 321 rs hS.out)
      have HRl := Lib.hid hrl
      clear hO2 hrl
      go_wp2_with fail
      refine HT.out.mono ?_
      rintro e w2 ⟨rfl, hb2⟩
      have HB2 := Lib.hid hb2
      clear hb2
      go_wp2_with fail
      go_ret
      refine ⟨rowT rs, q, rfl, ?_, by omega, hR.out.later (fun k hk => HB2.out.block k hk), grownBy_trans hGr.out (grownBy_below HB2.out)⟩
      have h1 := HLe.out
      have h2 : rs.length * (321 + 3) ≤ 4 * (321 + 3) := Nat.mul_le_mul_right _ (by rw [HRl.out]; omega)
      omega

end Go.Proofs.YthkokokeppoieaaGreatDoor
namespace Go.Proofs.YthkokokeppoieaaGreatDoor
open Go.RowKit Gram

theorem eleven_small : ∀ s ∈ [(⟨#[97]⟩ : ByteArray), ⟨#[98]⟩, ⟨#[99]⟩, ⟨#[97]⟩, ⟨#[100]⟩, ⟨#[97]⟩, ⟨#[98]⟩, ⟨#[]⟩, ⟨#[65]⟩, ⟨#[97, 98]⟩, ⟨#[122]⟩], s.size ≤ 2 := by decide

set_option maxHeartbeats 1000000 in
set_option maxRecDepth 100000 in
theorem name_any (w : World) (rb : Nat) (a : Option Addr) (n c p : Nat) (h : Rdr w rb a n c p) (hp : p ≤ 90000) :
    Calls Tryz.prog 43 #[.pointer (some ⟨rb, 0, none⟩)] w (DrewS w rb a n c p 2 4) := by
  have H := Lib.hid h
  have hrb := heap_lt h.own
  clear h
  go_enter Tryz.func43, Tryz.ntmps43
  go_wp2_with fail
  refine (of_any _ rb a n c p w.heap.size 11 11 2 (H.out.later (alloc_heap (w := w) _)) (by omega) (by omega) (by omega) (by omega) (plus_cells w w.heap.size [⟨#[97]⟩, ⟨#[98]⟩, ⟨#[99]⟩, ⟨#[97]⟩, ⟨#[100]⟩, ⟨#[97]⟩, ⟨#[98]⟩, ⟨#[]⟩, ⟨#[65]⟩, ⟨#[97, 98]⟩, ⟨#[122]⟩] 2 eleven_small rfl)).mono ?_
  rintro e w3 ⟨t, q, rfl, ht, hq, hr3, hg3⟩
  have HR3 := Lib.hid hr3
  have HG3 := Lib.hid (grownBy_trans (World.grownBy_alloc _ _ _) hg3)
  clear hr3 hg3
  go_wp2_with fail
  go_ret
  exact ⟨t, q, rfl, ht, by omega, HR3.out, HG3.out⟩

set_option maxHeartbeats 1000000 in
theorem with_any (w : World) (rb : Nat) (a : Option Addr) (n c p : Nat) (h : Rdr w rb a n c p) (hp : p ≤ 60000) :
    Calls Tryz.prog 18 #[.pointer (some ⟨rb, 0, none⟩)] w fun e w' => ∃ (s t : ByteArray) (q : Nat), e = .returned (.tuple #[.string s, .string t]) ∧ s.size ≤ 2000 ∧ t.size ≤ 2 ∧ q ≤ p + 3000 ∧ Rdr w' rb a n c q ∧ w.grownBy w' (some rb) := by
  have H := Lib.hid h
  clear h
  go_enter Tryz.func18, Tryz.ntmps18
  go_wp2_with fail
  refine (program_any _ rb a n c p H.out (by omega)).mono ?_
  rintro e w2 ⟨s, q, rfl, hs, hq, hr2, hg2⟩
  have HR2 := Lib.hid hr2
  have HG2 := Lib.hid hg2
  clear hr2 hg2
  go_wp2_with fail
  refine (bad_any _ rb a n c q s HR2.out (by omega) (by omega)).mono ?_
  rintro e w3 ⟨t, q', rfl, ht, hq2, hr3, hg3⟩
  have HR3 := Lib.hid hr3
  have HG3 := Lib.hid (grownBy_trans HG2.out hg3)
  clear hr3 hg3
  go_wp2_with fail
  refine (name_any _ rb a n c q' HR3.out (by omega)).mono ?_
  rintro e w4 ⟨u, q4, rfl, hu, hq4, hr4, hg4⟩
  have HR4 := Lib.hid hr4
  have HG4 := Lib.hid (grownBy_trans HG3.out hg4)
  clear hr4 hg4
  go_wp2_with fail
  go_ret2
  exact ⟨t, u, q4, rfl, by omega, hu, by omega, HR4.out, HG4.out⟩

end Go.Proofs.YthkokokeppoieaaGreatDoor
namespace Go.Proofs.YthkokokeppoieaaGreatDoor
open Go.RowKit Gram

set_option maxHeartbeats 1000000 in
theorem drawWith_any (w : World) (a : Option Addr) (n c : Nat) (h : BytesAt w a n) (hn : n ≤ c) (hc : c ≤ 9223372036854775807) (hnil : a = none → n = 0) :
    Calls Tryz.prog 5 #[.slice a n c] w fun e w' => (∃ s t b : ByteArray, e = .returned (.tuple #[.string s, .string t, .string b]) ∧ s.size ≤ 2000 ∧ t.size ≤ 2 ∧ b.size ≤ 53) ∧ Below w.heap.size w w' := by
  have H := Lib.hid (open_any w a n c h hn hc hnil)
  clear h hnil
  go_enter Tryz.func5, Tryz.ntmps5
  go_wp2_with fail
  refine H.out.mono ?_
  rintro e w1 ⟨m, rfl, hr, hb⟩
  have HR := Lib.hid hr
  have HB := Lib.hid hb
  clear hr hb
  go_wp2_with fail
  refine (with_any _ w.heap.size a m c 0 HR.out (by omega)).mono ?_
  rintro e w2 ⟨s, t, q, rfl, hs, ht, hq, hr2, hg2⟩
  have HR2 := Lib.hid hr2
  have HG2 := Lib.hid hg2
  clear hr2 hg2
  go_wp2_with fail
  refine (draw_all 1 _ w.heap.size a m c q ⟨#[97]⟩ 1 rfl HR2.out (by omega) (by decide) (by decide) (by decide)).mono ?_
  rintro e w3 ⟨u, q3, rfl, hu, hq3, hr3, hg3⟩
  have HR3 := Lib.hid hr3
  have HG3 := Lib.hid (grownBy_trans HG2.out hg3)
  have hu' : u.size ≤ 51 := hu
  have hq3' : q3 ≤ q + 70 := hq3
  clear hr3 hg3 hu hq3
  go_wp2_with fail
  refine (bad_any _ w.heap.size a m c q3 u HR3.out (by omega) (by omega)).mono ?_
  rintro e w4 ⟨v, q4, rfl, hv, hq4, hr4, hg4⟩
  have HG4 := Lib.hid (grownBy_trans HG3.out hg4)
  clear hr4 hg4
  go_wp2_with fail
  go_ret3
  exact ⟨⟨s, t, v, rfl, hs, ht, by omega⟩, grown_new HB.out HG4.out⟩
end Go.Proofs.YthkokokeppoieaaGreatDoor
