/- The law FnProgram answers true, whatever bytes it is given. Condition: the library's own number can be read. -/
import Derived.Test.YtjomgdekkfabhaaDoorZx
import Derived.Test.YtjomgdekkfabhaaDoorDraw6
import Derived.Test.YtjomgdekkfabhaaDoorJoin
import Derived.Test.YtjomgdekkfabhaaDoorVx
import Derived.Test.YtjomgdekkfabhaaDoorBodyOf
import Derived.Test.YtjomgdekkfabhaaDoorImpl
namespace Go.Proofs.YtjomgdekkfabhaaDoor
open Go.RowKit Gram

theorem look_at {s : ByteArray} {ps : List Pr} (h : progOf s = some ps) (p : Pr) (hp : p ∈ ps) : lookP s (txtOf [p.1]) = some p := by
  have hf := prog_facts h
  have hasc : asc (namesOf ps) := procs_asc _ _ _ hf.2.2.2 (by simp [asc, namesOf])
  have hno : nameOf (txtOf [p.1]).data.toList = some p.1 := by rw [txtOf_data, nameOf, if_pos (hf.2.1 p hp).2.2.2]
  rw [lookP, h, hno]
  dsimp only
  cases hq : ps.find? (fun q => q.1 == p.1) with
  | none =>
    rw [List.find?_eq_none] at hq
    exact absurd (by simp) (hq p hp)
  | some q =>
    have h1 := List.find?_some hq
    have h2 := List.mem_of_find?_eq_some hq
    rw [asc_unique hasc q h2 p hp (by simpa using h1)]
theorem body_text {p : Pr} (h : Good p) : bodyOf (txtOf (txts p.2)) = some p.2 := by
  have h1 : (txtOf (txts p.2)).size ≤ 400 := h.2.2.1
  rw [bodyOf, if_pos h1]
  exact reads_complete false p.2 h.1 (by rw [fks_false]; exact h.2.1)

def lenSum (ps : List Pr) : Nat := (ps.map fun p => p.2.length).sum
theorem lenSum_take (ps : List Pr) (k : Nat) (hk : k < ps.length) : lenSum (ps.take (k + 1)) = lenSum (ps.take k) + ps[k].2.length := by
  rw [List.take_succ_eq_append_getElem hk, lenSum, List.map_append, List.sum_append]; simp [lenSum]
theorem lenSum_le (ps : List Pr) : lenSum ps ≤ sizeSum ps := by
  induction ps with
  | nil => simp [lenSum, sizeSum]
  | cons p t ih =>
    have := flats_ge p.2
    simp only [lenSum, sizeSum, List.map_cons, List.sum_cons] at ih ⊢
    omega

theorem StmsTo.some {s : ByteArray} {w w' : World} {e : Ending} {xs : List Stm} (h : StmsTo s w e w') (hb : bodyOf s = some xs) : ∃ a c, e = .returned (.tuple #[.slice a xs.length c, .bool true]) ∧
    w'.ownsRow w.heap.size 9 1 (.slice a xs.length c) xs.length (stmVs xs) ∧ Below w.heap.size w w' := by
  obtain ⟨v, b, ys, rfl, hd, ho, hbw⟩ := h
  rcases hd.out with ⟨_, h2, _⟩ | ⟨h1, h2⟩
  · rw [hb] at h2; cases h2
  · rw [hb] at h2
    injection h2 with h2
    subst h2
    subst h1
    obtain ⟨a, n, c, rfl⟩ := slice_form ho
    have hn : n = xs.length := by
      rcases ho.2 with ⟨h1, h2⟩ | ⟨g, cap, cur, h1, _⟩
      · injection h1 with _ h3; omega
      · injection h1 with _ h3
    subst hn
    exact ⟨a, c, rfl, ho, hbw⟩

theorem txts_cut (xs : List Stm) (j : Nat) (h : j < xs.length) : txtOf (txts (xs.take (j + 1))) = txtOf (txts (xs.take j)) ++ txtOf xs[j].txt := by
  rw [ttxts_take xs j xs[j] (List.getElem?_eq_getElem h)]
  apply ByteArray.ext
  apply Array.ext'
  simp [txtOf]
theorem stm_get {w : World} {B : Nat} {v : Value} {xs : List Stm} (h : w.ownsRow B 9 1 v xs.length (stmVs xs)) (j : Nat) (hj : j < xs.length) :
    ∃ g c, v = .slice (some ⟨g, 0, none⟩) xs.length c ∧ w.cell? ⟨g, j, none⟩ = some (.string (txtOf xs[j].txt)) := by
  rcases h.2 with ⟨h1, h2⟩ | ⟨g, cap, cur, h1, _, _⟩
  · omega
  · subst h1
    exact ⟨g, cap, rfl, row_cell h j _ (by rw [stmVs, List.getElem?_map, List.getElem?_eq_getElem hj]; rfl)⟩

set_option maxHeartbeats 16000000 in
set_option maxRecDepth 100000 in
theorem program_short (w : World) (a : Option Addr) (n c : Nat) (hn : n ≤ 1048576) (hm : MaxCell w)
    (hd : Calls Tryd.prog 12 #[.slice a n c] w fun e w' => (∃ s : ByteArray, e = .returned (.string s) ∧ s.size ≤ 2000) ∧ Below w.heap.size w w') :
    Calls Tryd.prog 3 #[.slice a n c] w fun e w' => e = .returned (.bool true) ∧ Below w.heap.size w w' := by
  have HD := Lib.hid hd
  have HM := Lib.hid hm
  clear hd hm
  go_enter Tryd.func3, Tryd.ntmps3
  go_wp2_with fail
  refine HD.out.mono ?_
  rintro e w1 ⟨⟨s, rfl, hs⟩, b1⟩
  have B1 := Lib.hid b1
  have M1 := Lib.hid (HM.out.later b1)
  clear b1
  cases h : progOf s with
  | none =>
    have hIV := fun w hm => impl_valid s w (by omega) hm
    have hIP := fun w hm => impl_procs s w (by omega) hm
    have hIS := fun w hm => impl_size s w (by omega) hm
    have hSV := fun w => spec_valid s w (by omega)
    have hSP := fun w => spec_procs s w (by omega)
    have hSS := fun w => spec_size s w (by omega)
    rw [show (progOf s).isSome = false from by rw [h]; rfl] at hIV hSV
    rw [show procsP s = ⟨#[]⟩ from by rw [procsP, h]] at hIP hSP
    rw [show sizeP s = -1 from by rw [sizeP, h]] at hIS hSS
    have HIV := Lib.hid hIV
    have HIP := Lib.hid hIP
    have HIS := Lib.hid hIS
    have HSV := Lib.hid hSV
    have HSP := Lib.hid hSP
    have HSS := Lib.hid hSS
    clear hIV hIP hIS hSV hSP hSS h
    go_wp2_with fail
    refine (HIV.out _ M1.out).mono ?_
    rintro e w2 ⟨rfl, b2⟩
    have B2 := Lib.hid (B1.out.trans (b2.mono B1.out.size))
    have M2 := Lib.hid (M1.out.later b2)
    clear b2
    go_wp2_with fail
    refine (HIP.out _ M2.out).mono ?_
    rintro e w3 ⟨rfl, b3⟩
    have B3 := Lib.hid (B2.out.trans (b3.mono B2.out.size))
    have M3 := Lib.hid (M2.out.later b3)
    clear b3
    go_wp2_with fail
    refine (HIS.out _ M3.out).mono ?_
    rintro e w4 ⟨rfl, b4⟩
    have B4 := Lib.hid (B3.out.trans (b4.mono B3.out.size))
    have M4 := Lib.hid (M3.out.later b4)
    clear b4
    go_wp2_with fail
    refine (HSV.out _).mono ?_
    rintro e w5 ⟨rfl, b5⟩
    have B5 := Lib.hid (B4.out.trans (b5.mono B4.out.size))
    have M5 := Lib.hid (M4.out.later b5)
    clear b5
    go_wp2_with fail
    refine (HSP.out _).mono ?_
    rintro e w6 ⟨rfl, b6⟩
    have B6 := Lib.hid (B5.out.trans (b6.mono B5.out.size))
    have M6 := Lib.hid (M5.out.later b6)
    clear b6
    go_wp2_with fail
    refine (HSS.out _).mono ?_
    rintro e w7 ⟨rfl, b7⟩
    have B7 := Lib.hid (B6.out.trans (b7.mono B6.out.size))
    have M7 := Lib.hid (M6.out.later b7)
    clear b7
    go_wp2_with fail
    refine wp_loop_rounds 1 ?_
    rw [rounds_succ]
    go_wp2_with fail
    go_ret
    exact ⟨rfl, B7.out⟩
  | some ps =>
    have hIV := fun w hm => impl_valid s w (by omega) hm
    have hIP := fun w hm => impl_procs s w (by omega) hm
    have hIS := fun w hm => impl_size s w (by omega) hm
    have hSV := fun w => spec_valid s w (by omega)
    have hSP := fun w => spec_procs s w (by omega)
    have hSS := fun w => spec_size s w (by omega)
    rw [show (progOf s).isSome = true from by rw [h]; rfl] at hIV hSV
    rw [show procsP s = txtOf (namesOf ps) from by rw [procsP, h]] at hIP hSP
    rw [show sizeP s = (sizeSum ps : Int) from by rw [sizeP, h]] at hIS hSS
    have hf := prog_facts h
    obtain ⟨htx, hne⟩ := prog_text h
    have HIV := Lib.hid hIV
    have HIP := Lib.hid hIP
    have HIS := Lib.hid hIS
    have HSV := Lib.hid hSV
    have HSP := Lib.hid hSP
    have HSS := Lib.hid hSS
    have HF := Lib.hid hf
    have HTx := Lib.hid htx
    have HP := Lib.hid h
    have hnz : (txtOf (namesOf ps)).size = ps.length := by rw [txtOf_size, namesOf, List.length_map]
    have hlen := hf.1
    have hel : (txtOf (namesOf ps)).toList.isEmpty = false := text_some (by rw [hnz]; exact List.length_pos_iff.2 hne)
    have hsz := sizeSum_le ps hf.2.1
    have hls := lenSum_le ps
    clear hIV hIP hIS hSV hSP hSS h hf htx hne
    generalize hnm : txtOf (namesOf ps) = nm at *
    have HNm := Lib.hid hnm
    clear hnm
    generalize hss : sizeSum ps = ss at *
    have HSs := Lib.hid hss
    clear hss
    go_wp2_with fail
    refine (HIV.out _ M1.out).mono ?_
    rintro e w2 ⟨rfl, b2⟩
    have B2 := Lib.hid (B1.out.trans (b2.mono B1.out.size))
    have M2 := Lib.hid (M1.out.later b2)
    clear b2
    go_wp2_with fail
    refine (HIP.out _ M2.out).mono ?_
    rintro e w3 ⟨rfl, b3⟩
    have B3 := Lib.hid (B2.out.trans (b3.mono B2.out.size))
    have M3 := Lib.hid (M2.out.later b3)
    clear b3
    go_wp2_with fail
    refine (HIS.out _ M3.out).mono ?_
    rintro e w4 ⟨rfl, b4⟩
    have B4 := Lib.hid (B3.out.trans (b4.mono B3.out.size))
    have M4 := Lib.hid (M3.out.later b4)
    clear b4
    go_wp2_with fail
    refine (HSV.out _).mono ?_
    rintro e w5 ⟨rfl, b5⟩
    have B5 := Lib.hid (B4.out.trans (b5.mono B4.out.size))
    have M5 := Lib.hid (M4.out.later b5)
    clear b5
    go_wp2_with fail
    refine (HSP.out _).mono ?_
    rintro e w6 ⟨rfl, b6⟩
    have B6 := Lib.hid (B5.out.trans (b6.mono B5.out.size))
    have M6 := Lib.hid (M5.out.later b6)
    clear b6
    go_wp2_with fail
    refine (HSS.out _).mono ?_
    rintro e w7 ⟨rfl, b7⟩
    have B7 := Lib.hid (B6.out.trans (b7.mono B6.out.size))
    have M7 := Lib.hid (M6.out.later b7)
    clear b7
    go_wp2_with fail
    go_loopw [7, 8, 58] (fun x z i wr => ∃ k m : Nat, i = .int .i64 k ∧ k ≤ ps.length ∧ x = .string (txtOf (textTo ps k)) ∧ z = .int .i64 m ∧ m ≤ 400 * k ∧ Hid (m = lenSum (ps.take k)) ∧ Hid (Below w.heap.size w wr)) (fun _ _ i _ => ps.length - (intOf i).toNat)
    case atStart => exact ⟨0, 0, by go_num, Nat.zero_le _, rfl, by go_num, by omega, by show _ = _; simp [lenSum], B7.out⟩
    case round =>
      obtain ⟨k, m, rfl, hk, rfl, rfl, hm, hM, hb⟩ := hrel
      obtain ⟨w8, hw8⟩ : ∃ x, x = wr := ⟨_, rfl⟩
      subst hw8
      by_cases hlt : k < ps.length
      · obtain ⟨p, hp⟩ : ∃ p, p = ps[k] := ⟨_, rfl⟩
        have hpm : p ∈ ps := by rw [hp]; exact List.getElem_mem hlt
        have hgood := HF.out.2.1 p hpm
        have hex : nm.extract k (k + 1) = txtOf [p.1] := by
          rw [← HNm.out, hp]
          apply ByteArray.ext
          apply Array.ext'
          simp [txtOf, namesOf, List.extract_eq_take_drop]
          rw [List.take_one, List.head?_drop, List.getElem?_map, List.getElem?_eq_getElem hlt]; rfl
        have hB := impl_body s (nm.extract k (k + 1)) w8 (by omega) (HM.out.later hb.out)
        rw [show lookP s (nm.extract k (k + 1)) = some p from by rw [hex]; exact look_at HP.out p hpm] at hB
        have HB := Lib.hid (show Calls Tryd.prog 19 #[.string s, .string (nm.extract k (k + 1))] w8 fun e w' => e = .returned (.tuple #[.string (txtOf (txts p.2)), .bool true]) ∧ Below w8.heap.size w8 w' from hB)
        have HSt := Lib.hid (fun w => (impl_statements (txtOf (txts p.2)) w (by have := hgood.2.2.1; rw [txtOf_size]; omega)).mono fun _ _ h => h.some (body_text hgood))
        have hbz : (txtOf (txts p.2)).size ≤ 400 := hgood.2.2.1
        have hxl : p.2.length ≤ 400 := Nat.le_trans (txts_ge p.2) hgood.2.2.1
        have HL := Lib.hid (by rw [lenSum_take ps k hlt, ← hM.out, ← hp] : lenSum (ps.take (k + 1)) = m + p.2.length)
        have hts := textTo_step ps k hlt
        rw [← hp] at hts
        have HT := Lib.hid hts
        have htl : (txtOf (textTo ps k)).size ≤ 400 := by
          have h1 := joinP_len ps k
          rw [← HTx.out] at h1
          have h2 := HF.out.2.2.1
          rw [txtOf_size]; simp at h1; omega
        have htz : (nm.extract k (k + 1)).size = 1 := by rw [hex]; rfl
        have HEx := Lib.hid hex
        have HPk := Lib.hid hp
        clear hex hB hgood hts hp hpm
        generalize htt : txtOf (textTo ps k) = tt at *
        have HTt := Lib.hid htt
        clear htt
        generalize htk : nm.extract k (k + 1) = tk at *
        generalize hbd : txtOf (txts p.2) = bd at *
        have HBd := Lib.hid hbd
        clear hbd
        go_wp2_with fail
        refine HB.out.mono ?_
        rintro e w9 ⟨rfl, b9⟩
        have B9 := Lib.hid (hb.out.trans (b9.mono hb.out.size))
        clear b9
        go_wp2_with fail
        refine (HSt.out _).mono ?_
        rintro e w10 ⟨sa, sc, rfl, so, b10⟩
        have B10 := Lib.hid (B9.out.trans (b10.mono B9.out.size))
        have HSo := Lib.hid so
        clear b10 so
        go_wp2_with fail
        go_loopw [14, 78] (fun x i wr => ∃ j : Nat, i = .int .i64 j ∧ j ≤ p.2.length ∧ x = .string (txtOf (txts (p.2.take j))) ∧ Hid (Below w10.heap.size w10 wr)) (fun _ i _ => p.2.length - (intOf i).toNat)
        case atStart => exact ⟨0, by go_num, Nat.zero_le _, rfl, Below.refl _ _⟩
        case round =>
          obtain ⟨j, rfl, hj, rfl, hb2⟩ := hrel
          by_cases hlt2 : j < p.2.length
          · obtain ⟨g, c', hv, c0⟩ := stm_get HSo.out j hlt2
            injection hv with hv1 hv2 hv3
            subst hv1
            have hgl : g < w10.heap.size := World.block_lt_of_cell? w10 _ c0
            have d0 : wr.cell? ⟨g, j, none⟩ = some (.string (txtOf p.2[j].txt)) := by rw [hb2.out.cell (p := ⟨g, j, none⟩) hgl]; exact c0
            have HC := Lib.hid (txts_cut p.2 j hlt2)
            have hjl := txts_le p.2 (j + 1)
            have hbz2 : (txts p.2).length ≤ 400 := by have := HBd.out; rw [← this] at hbz; exact hbz
            have e1 := str_sum (txtOf (txts (p.2.take j))) (txtOf p.2[j].txt) (by
              have h1 := congrArg ByteArray.size HC.out
              rw [ByteArray.size_append, txtOf_size] at h1
              omega)
            clear c0 hgl hjl hbz2
            generalize txtOf (txts (p.2.take j)) = jt at *
            generalize txtOf p.2[j].txt = xt at *
            go_wp2_with fail
            go_roundw
            case rel => exact ⟨j + 1, by go_num, by omega, by rw [HC.out], hb2.out⟩
            case measure => simp [intOf]; omega
          · have hall : txtOf (txts (p.2.take j)) = bd := by rw [List.take_of_length_le (by omega)]; exact HBd.out
            rw [hall]
            have z1 : (⟨#[59]⟩ : ByteArray).size = 1 := rfl
            have z2 : (⟨#[58]⟩ : ByteArray).size = 1 := rfl
            have HBb := Lib.hid (B10.out.trans (hb2.out.mono B10.out.size))
            clear hall
            by_cases h0 : k = 0
            · have e2 := str_sum tt tk (by omega)
              have e3 := str_sum (tt ++ tk) ⟨#[58]⟩ (by rw [ByteArray.size_append]; omega)
              have e4 := str_sum (tt ++ tk ++ ⟨#[58]⟩) bd (by rw [ByteArray.size_append, ByteArray.size_append]; omega)
              have HT2 := Lib.hid (by
                rw [HT.out, if_pos h0, ← HTt.out, HEx.out, ← HBd.out]
                apply ByteArray.ext; apply Array.ext'; simp [txtOf] : txtOf (textTo ps (k + 1)) = tt ++ tk ++ ⟨#[58]⟩ ++ bd)
              have hk0 : ¬ (0 : Int) < (k : Int) := by omega
              have hkn : ¬ 0 < k := by omega
              clear h0 z1 z2
              go_wp2_with fail
              go_roundw
              case rel => exact ⟨k + 1, m + p.2.length, by go_num, by omega, by rw [HT2.out], by go_num, by omega, HL.out.symm, HBb.out⟩
              case measure => simp [intOf]; omega
            · have e1 := str_sum tt ⟨#[59]⟩ (by omega)
              have e2 := str_sum (tt ++ ⟨#[59]⟩) tk (by rw [ByteArray.size_append]; omega)
              have e3 := str_sum (tt ++ ⟨#[59]⟩ ++ tk) ⟨#[58]⟩ (by rw [ByteArray.size_append, ByteArray.size_append]; omega)
              have e4 := str_sum (tt ++ ⟨#[59]⟩ ++ tk ++ ⟨#[58]⟩) bd (by rw [ByteArray.size_append, ByteArray.size_append, ByteArray.size_append]; omega)
              have HT2 := Lib.hid (by
                rw [HT.out, if_neg h0, ← HTt.out, HEx.out, ← HBd.out]
                apply ByteArray.ext; apply Array.ext'; simp [txtOf] : txtOf (textTo ps (k + 1)) = tt ++ ⟨#[59]⟩ ++ tk ++ ⟨#[58]⟩ ++ bd)
              have hk0 : (0 : Int) < (k : Int) := by omega
              have hkn : 0 < k := by omega
              clear z1 z2
              go_wp2_with fail
              go_roundw
              case rel => exact ⟨k + 1, m + p.2.length, by go_num, by omega, by rw [HT2.out], by go_num, by omega, HL.out.symm, HBb.out⟩
              case measure => simp [intOf]; omega
      · have hke : k = ps.length := by omega
        have hts : txtOf (textTo ps k) = s := by
          rw [textTo, List.take_of_length_le (by omega), ← HTx.out]; rfl
        have hml : m ≤ ss := by rw [hM.out, List.take_of_length_le (by omega)]; omega
        rw [hts]
        have hmi : (m : Int) ≤ (ss : Int) := by omega
        clear hts
        go_wp2_with fail
        go_ret
        exact ⟨rfl, hb.out⟩

set_option maxHeartbeats 400000 in
theorem program_long (w : World) (a : Option Addr) (n c : Nat) (hn : 1048576 < n) (hx : n ≤ 9223372036854775807) :
    Calls Tryd.prog 3 #[.slice a n c] w fun e w' => e = .returned (.bool true) ∧ Below w.heap.size w w' := by
  go_enter Tryd.func3, Tryd.ntmps3
  go_wp2_with fail
  go_ret
  exact ⟨rfl, Below.refl _ _⟩
theorem law_program (w : World) (a : Option Addr) (n c : Nat) (h : BytesAt w a n) (hn : n ≤ c) (hc : c ≤ 9223372036854775807) (hnil : a = none → n = 0) (hm : MaxCell w) :
    Calls Tryd.prog 3 #[.slice a n c] w fun e w' => e = .returned (.bool true) ∧ Below w.heap.size w w' := by
  by_cases hs : n ≤ 1048576
  · exact program_short w a n c hs hm (drawProgram_any w a n c h hn hc hnil)
  · exact program_long w a n c (by omega) (by omega)
end Go.Proofs.YtjomgdekkfabhaaDoor
