/- The law FnExactProcsOf answers true at every text. Condition: the library's own number can be read. -/
import Derived.Test.YtjomgdekkfabhaaDoorSize
import Derived.Test.YtjomgdekkfabhaaDoorByte
namespace Go.Proofs.YtjomgdekkfabhaaDoor
open Go.RowKit Gram

def procsP (s : ByteArray) : ByteArray := match progOf s with | none => ⟨#[]⟩ | some ps => txtOf (namesOf ps)

set_option maxHeartbeats 1000000 in
theorem impl_procs (s : ByteArray) (w : World) (hs : s.size ≤ 1073741824) (hm : MaxCell w) :
    Calls Tryd.prog 14 #[.string s] w fun e w' => e = .returned (.string (procsP s)) ∧ Below w.heap.size w w' := by
  have HR := Lib.hid ((read_prog s w hs hm).mono fun _ _ h => h.cases)
  clear hm
  cases hp : progOf s with
  | none =>
    rw [hp] at HR
    have HZ := Lib.hid (by rw [procsP, hp] : procsP s = ⟨#[]⟩)
    clear hp
    go_enter Tryd.func14, Tryd.ntmps14
    go_wp2_with fail
    refine HR.out.mono ?_
    rintro e w2 ⟨a, n, c, rfl, hb, _⟩
    have HB := Lib.hid hb
    clear hb
    go_wp2_with fail
    go_ret
    exact ⟨by rw [HZ.out]; rfl, HB.out⟩
  | some ps =>
    rw [hp] at HR
    have hf := prog_facts hp
    have HZ := Lib.hid (by rw [procsP, hp] : procsP s = txtOf (namesOf ps))
    clear hp
    go_enter Tryd.func14, Tryd.ntmps14
    go_wp2_with fail
    refine HR.out.mono ?_
    rintro e w2 ⟨a, n, c, rfl, hb, hq⟩
    obtain ⟨S, qs, hqp, hP, hG⟩ := hq ps rfl
    have hnq : qs.length ≤ 1048576 := by rw [← List.length_map (f := fun q : Qr => q.1), hqp]; exact Nat.le_trans hf.1 (by decide)
    have HN := Lib.hid (names_set hP hG hnq)
    have hnm : namesQ qs = namesOf ps := by rw [← hqp, namesOf, List.map_map]; rfl
    rw [hnm] at HN
    have hlets : lets (namesOf ps) := by rw [← hnm]; exact namesQ_lets hG
    have HT := Lib.hid (fun w => text_set (namesOf ps) hlets w)
    rw [upTo_asc _ (procs_asc _ _ _ hf.2.2.2 (by simp [asc, namesOf])) hlets] at HT
    have HB := Lib.hid hb
    clear hb hq hqp hP hG hnq hnm hlets hf
    generalize namesOf ps = nm at *
    go_wp2_with fail
    refine HN.out.mono ?_
    rintro e w3 ⟨rfl, hb3⟩
    have HB3 := Lib.hid (HB.out.trans (hb3.mono HB.out.size))
    clear hb3
    go_wp2_with fail
    refine (HT.out _).mono ?_
    rintro e w4 ⟨rfl, hb4⟩
    have HB4 := Lib.hid (HB3.out.trans (hb4.mono HB3.out.size))
    clear hb4
    go_wp2_with fail
    go_ret
    exact ⟨by rw [HZ.out]; rfl, HB4.out⟩

theorem names_take (ps : List Pr) (k : Nat) (hk : k < ps.length) : txtOf (namesOf (ps.take (k + 1))) = txtOf (namesOf (ps.take k)) ++ ⟨#[ps[k].1]⟩ := by
  have h1 : namesOf (ps.take (k + 1)) = namesOf (ps.take k) ++ [ps[k].1] := by rw [List.take_succ_eq_append_getElem hk, namesOf, List.map_append]; rfl
  rw [h1]
  apply ByteArray.ext
  apply Array.ext'
  simp [txtOf]
theorem row_max {w : World} {B n c : Nat} {a : Option Addr} {e : TypeId} {xs : List Value} (h : w.ownsRow B e 2 (.slice a n c) n xs) : n ≤ 9223372036854775807 := by
  rcases h.2 with ⟨h1, h2⟩ | ⟨g, cap, cur, h1, _, _, h3, h4, _⟩
  · omega
  · unfold maxLen at h4; omega

set_option maxHeartbeats 1000000 in
theorem spec_procs (s : ByteArray) (w : World) (hs : s.size ≤ 1048576) :
    Calls Tryd.prog 17 #[.string s] w fun e w' => e = .returned (.string (procsP s)) ∧ Below w.heap.size w w' := by
  have HR := Lib.hid ((open_prog s w (by omega)).mono fun _ _ h => h.cases)
  cases hp : progOf s with
  | none =>
    rw [hp] at HR
    have HZ := Lib.hid (by rw [procsP, hp] : procsP s = ⟨#[]⟩)
    clear hp
    go_enter Tryd.func17, Tryd.ntmps17
    go_wp2_with fail
    refine HR.out.mono ?_
    rintro e w2 ⟨a, n, c, qs, rfl, hb, hnl, ho, _⟩
    have HB := Lib.hid hb
    rw [← hnl] at ho
    have HO := Lib.hid ho
    have HN := Lib.hid hnl
    clear hb ho hnl
    have hn63 := row_max HO.out
    rw [HN.out] at hn63
    go_wp2_with fail
    go_loopw [3, 15] (fun o i wr => ∃ k : Nat, i = .int .i64 k ∧ k ≤ n ∧ o = .string ⟨#[]⟩ ∧ Hid (Below w2.heap.size w2 wr)) (fun _ i _ => n - (intOf i).toNat)
    case atStart => exact ⟨0, by go_num, Nat.zero_le _, rfl, Below.refl _ _⟩
    case round =>
      obtain ⟨k, rfl, hk, rfl, hb⟩ := hrel
      by_cases hlt : k < n
      · have hkp : k < qs.length := by rw [HN.out]; exact hlt
        obtain ⟨g, rfl, c0, c1⟩ := pr_get HO.out k hkp
        have hgl : g < w2.heap.size := World.block_lt_of_cell? w2 _ c0
        have d0 : wr.cell? ⟨g, k * 2, none⟩ = some (.int .u8 qs[k].1.toNat) := by rw [hb.out.cell (p := ⟨g, k * 2, none⟩) hgl]; exact c0
        have d1 : wr.cell? ⟨g, k * 2 + 1, none⟩ = some (.string (txtOf (txts qs[k].2))) := by rw [hb.out.cell (p := ⟨g, k * 2 + 1, none⟩) hgl]; exact c1
        clear c0 c1 hgl
        generalize txtOf (txts qs[k].2) = tx at *
        go_wp2_with fail
        go_roundw
        case rel => exact ⟨k + 1, by go_num, by omega, rfl, hb.out.alloc hb.out.size _⟩
        case measure => simp [intOf]; omega
      · go_wp2_with fail
        go_ret
        exact ⟨by rw [HZ.out]; rfl, HB.out.trans (hb.out.mono HB.out.size)⟩
  | some ps =>
    rw [hp] at HR
    have hf := prog_facts hp
    have HZ := Lib.hid (by rw [procsP, hp] : procsP s = txtOf (namesOf ps))
    clear hp
    go_enter Tryd.func17, Tryd.ntmps17
    go_wp2_with fail
    refine HR.out.mono ?_
    rintro e w2 ⟨a, n, c, qs, rfl, hb, hnl, ho, hq⟩
    have hqp := hq ps rfl
    subst hqp
    have hln : n ≤ 401 := by rw [← hnl]; exact hf.1
    have HN := Lib.hid hnl
    rw [← hnl] at ho
    have HO := Lib.hid ho
    have HB := Lib.hid hb
    clear ho hb hf hq hnl
    go_wp2_with fail
    go_loopw [3, 15] (fun o i wr => ∃ k : Nat, i = .int .i64 k ∧ k ≤ n ∧ o = .string (txtOf (namesOf (qs.take k))) ∧ Hid (Below w2.heap.size w2 wr)) (fun _ i _ => n - (intOf i).toNat)
    case atStart => exact ⟨0, by go_num, Nat.zero_le _, rfl, Below.refl _ _⟩
    case round =>
      obtain ⟨k, rfl, hk, rfl, hb⟩ := hrel
      by_cases hlt : k < n
      · have hkp : k < qs.length := by rw [HN.out]; exact hlt
        obtain ⟨g, rfl, c0, c1⟩ := pr_get HO.out k hkp
        have hgl : g < w2.heap.size := World.block_lt_of_cell? w2 _ c0
        have d0 : wr.cell? ⟨g, k * 2, none⟩ = some (.int .u8 qs[k].1.toNat) := by rw [hb.out.cell (p := ⟨g, k * 2, none⟩) hgl]; exact c0
        have d1 : wr.cell? ⟨g, k * 2 + 1, none⟩ = some (.string (txtOf (txts qs[k].2))) := by rw [hb.out.cell (p := ⟨g, k * 2 + 1, none⟩) hgl]; exact c1
        have HT := Lib.hid (names_take qs k hkp)
        have e1 := str_sum (txtOf (namesOf (qs.take k))) ⟨#[qs[k].1]⟩ (by rw [txtOf_size, show (⟨#[qs[k].1]⟩ : ByteArray).size = 1 from rfl]; simp [namesOf]; omega)
        have e2 := fun o : Obj => chr1 qs[k].1 (wr.alloc o) (wr.heap.size + 1) (by rw [alloc_size'])
        clear c0 c1 hgl
        generalize txtOf (txts qs[k].2) = tx at *
        generalize txtOf (namesOf (qs.take k)) = nm at *
        generalize qs[k].1 = ch at *
        go_wp2_with fail
        go_roundw
        case rel => exact ⟨k + 1, by go_num, by omega, by rw [HT.out], (hb.out.alloc hb.out.size _).alloc (by rw [alloc_size']; exact Nat.le_succ_of_le hb.out.size) _⟩
        case measure => simp [intOf]; omega
      · have hall : qs.take k = qs := List.take_of_length_le (by rw [HN.out]; omega)
        rw [hall]
        go_wp2_with fail
        go_ret
        exact ⟨by rw [HZ.out]; rfl, HB.out.trans (hb.out.mono HB.out.size)⟩

set_option maxHeartbeats 400000 in
theorem procs_long (s : ByteArray) (w : World) (hl : 1048576 < s.size) (hx : s.size ≤ maxLen) :
    Calls Tryd.prog 6 #[.string s] w fun e w' => e = .returned (.bool true) ∧ Below w.heap.size w w' := by
  unfold maxLen at hx
  go_enter Tryd.func6, Tryd.ntmps6
  go_wp2_with fail
  go_ret
  exact ⟨rfl, Below.refl _ _⟩
set_option maxHeartbeats 400000 in
theorem procs_short (s : ByteArray) (w : World) (hl : s.size ≤ 1048576) (hm : MaxCell w) :
    Calls Tryd.prog 6 #[.string s] w fun e w' => e = .returned (.bool true) ∧ Below w.heap.size w w' := by
  have HI := Lib.hid (fun w => impl_procs s w (by omega))
  have HS := Lib.hid (fun w => spec_procs s w hl)
  have HM := Lib.hid hm
  generalize procsP s = b at *
  clear hm
  go_enter Tryd.func6, Tryd.ntmps6
  go_wp2_with fail
  refine (HS.out _).mono ?_
  rintro e w1 ⟨rfl, b1⟩
  have B1 := Lib.hid b1
  clear b1
  go_wp2_with fail
  refine (HI.out _ (HM.out.later B1.out)).mono ?_
  rintro e w2 ⟨rfl, b2⟩
  have B2 := Lib.hid (B1.out.trans (b2.mono B1.out.size))
  clear b2
  go_wp2_with fail
  go_ret
  exact ⟨rfl, B2.out⟩
theorem procs_of_any (s : ByteArray) (w : World) (hx : s.size ≤ maxLen) (hm : MaxCell w) :
    Calls Tryd.prog 6 #[.string s] w fun e w' => e = .returned (.bool true) ∧ Below w.heap.size w w' := by
  by_cases h : s.size ≤ 1048576
  · exact procs_short s w h hm
  · exact procs_long s w (by omega) hx
end Go.Proofs.YtjomgdekkfabhaaDoor
