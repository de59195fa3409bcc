/- The law FnRename answers true, whatever bytes it is given. Condition: the library's own number can be read. -/
import Derived.Test.YtfmmpahbjkiomaaGreatDoorJx
import Derived.Test.YtfmmpahbjkiomaaGreatDoorSx
namespace Go.Proofs.YtfmmpahbjkiomaaGreatDoor
open Go.RowKit Gram

/-- the renamed program, read back -/
theorem renV_back {s nm tn : ByteArray} {ps : List Pr} {a b : UInt8} (hp : progOf s = some ps) (hn : nameOf nm.data.toList = some a) (ht : nameOf tn.data.toList = some b) (R : RnF s ps a b) (ha : a ∈ namesOf ps) :
    renV (rnT ps a b) tn nm = .tuple #[.string s, .bool true] := by
  have hb : b ∈ namesOf (sortP (ps.map (renP a b))) := by
    have h1 : b ∈ namesOf (ps.map (renP a b)) := by
      rw [R.names]; exact List.mem_map.2 ⟨a, ha, by rw [renN, if_pos rfl]⟩
    exact ((sortP_perm R.nodup R.lets).map _).mem_iff.2 h1
  have hpr : progOf (rnT ps a b) = some (sortP (ps.map (renP a b))) := R.prog
  simp only [renV, hpr, hn, ht]
  rw [if_pos ⟨hb, R.free⟩]
  have hs : rnT (sortP (ps.map (renP a b))) b a = s := by
    rw [rnT, R.back]
    obtain ⟨htx, _⟩ := prog_text hp
    apply ByteArray.ext
    apply Array.ext'
    rw [← htx]; rfl
  rw [hs]
theorem rnT_size {s : ByteArray} {ps : List Pr} {a b : UInt8} (R : RnF s ps a b) : (rnT ps a b).size ≤ 400 := (prog_facts R.prog).2.2.1
theorem procsP_len {s : ByteArray} {ps : List Pr} (hp : progOf s = some ps) : (procsP s).size = (namesOf ps).length := by
  rw [procsP, hp]; simp [txtOf_size, namesOf]

set_option maxHeartbeats 2000000 in
set_option maxRecDepth 100000 in
theorem frn_short (w : World) (a : Option Addr) (n c : Nat) (hs : n ≤ 1048576) (hm : MaxCell w)
    (hd : Calls Tryz.prog 7 #[.slice a n c] w fun e w' => (∃ s t u : ByteArray, e = .returned (.tuple #[.string s, .string t, .string u]) ∧ s.size ≤ 2000 ∧ t.size ≤ 2 ∧ u.size ≤ 2) ∧ Below w.heap.size w w') :
    Calls Tryz.prog 3 #[.slice a n c] w fun e w' => e = .returned (.bool true) ∧ Below w.heap.size w w' := by
  have HD := Lib.hid hd
  have HM := Lib.hid hm
  clear hd hm
  go_enter Tryz.func3, Tryz.ntmps3
  go_wp2_with fail
  refine HD.out.mono ?_
  rintro e w1 ⟨⟨s, t, u, rfl, hz, ht, hu⟩, hb1⟩
  have B1 := Lib.hid hb1
  have M1 := Lib.hid (HM.out.later hb1)
  have hI := fun w hm => impl_ren s t u w (by omega) hm
  have hS := fun w => spec_ren s t u w (by omega)
  clear hb1
  by_cases hok : renOk s t u
  · obtain ⟨ps, x, y, hp, hn, htn, hx, hy⟩ := hok
    have hly := (nameOf_some htn).2
    have R := ren_facts hp hx hly hy
    have hV : renV s t u = .tuple #[.string (rnT ps x y), .bool true] := by simp only [renV, hp, hn, htn]; rw [if_pos ⟨hx, hy⟩]
    rw [hV] at hI hS
    have hk := rnT_size R
    have hIb := fun w hm => impl_ren (rnT ps x y) u t w (by omega) hm
    rw [renV_back hp hn htn R hx] at hIb
    have hIv := fun w hm => impl_valid (rnT ps x y) w (by omega) hm
    have hpr : progOf (rnT ps x y) = some (sortP (ps.map (renP x y))) := R.prog
    rw [show (progOf (rnT ps x y)).isSome = true by rw [hpr]; rfl] at hIv
    have hIz := fun w hm => impl_size (rnT ps x y) w (by omega) hm
    have hIz2 := fun w hm => impl_size s w (by omega) hm
    have hzz : sizeP (rnT ps x y) = sizeP s := by simp only [sizeP, hpr, hp, sizeSum_ren R]
    rw [hzz] at hIz
    have hIr := fun w hm => impl_reach (rnT ps x y) u w (by omega) hm
    have hIr2 := fun w hm => impl_reach s t w (by omega) hm
    have hIp := fun w hm => impl_procs (rnT ps x y) w (by omega) hm
    have hIp2 := fun w hm => impl_procs s w (by omega) hm
    have hpp : (procsP (rnT ps x y)).size = (procsP s).size := by rw [procsP_len hpr, procsP_len hp, names_ren R]
    have htx : t = txtOf [x] := by apply ByteArray.ext; apply Array.ext'; rw [(nameOf_some hn).1]; rfl
    have huy : u = txtOf [y] := by apply ByteArray.ext; apply Array.ext'; rw [(nameOf_some htn).1]; rfl
    have HRL := Lib.hid (fun (l l' : List UInt8) (h : RT s t l) (h' : RT (rnT ps x y) u l') => (show (txtOf l').size = (txtOf l).size by
      rw [htx] at h; rw [huy] at h'
      rw [txtOf_size, txtOf_size]; exact reach_ren hp R hy hx h h'))
    generalize rnT ps x y = k at *
    generalize procsP k = pk at *
    generalize procsP s = pq at *
    generalize sizeP s = zs at *
    have HI := Lib.hid hI
    have HS := Lib.hid hS
    have HIb := Lib.hid hIb
    have HIv := Lib.hid hIv
    have HIz := Lib.hid hIz
    have HIz2 := Lib.hid hIz2
    have HIr := Lib.hid hIr
    have HIr2 := Lib.hid hIr2
    have HIp := Lib.hid hIp
    have HIp2 := Lib.hid hIp2
    have HPP := Lib.hid hpp
    clear hI hS hIb hIv hIz hIz2 hIr hIr2 hIp hIp2 hpp hp hn htn hx hy R hV hpr htx huy hly hzz
    go_wp2_with fail
    refine (HI.out _ M1.out).mono ?_
    rintro e w2 ⟨rfl, b2⟩
    have B2 := Lib.hid (B1.out.trans (b2.mono B1.out.size))
    have M2 := Lib.hid (M1.out.later b2)
    clear b2
    go_wp2_with fail
    refine (HS.out _).mono ?_
    rintro e w3 ⟨rfl, b3⟩
    have B3 := Lib.hid (B2.out.trans (b3.mono B2.out.size))
    have M3 := Lib.hid (M2.out.later b3)
    clear b3
    go_wp2_with fail
    refine (HIb.out _ M3.out).mono ?_
    rintro e w4 ⟨rfl, b4⟩
    have B4 := Lib.hid (B3.out.trans (b4.mono B3.out.size))
    have M4 := Lib.hid (M3.out.later b4)
    clear b4
    go_wp2_with fail
    refine (HIv.out _ M4.out).mono ?_
    rintro e w5 ⟨rfl, b5⟩
    have B5 := Lib.hid (B4.out.trans (b5.mono B4.out.size))
    have M5 := Lib.hid (M4.out.later b5)
    clear b5
    go_wp2_with fail
    refine (HIz.out _ M5.out).mono ?_
    rintro e w6 ⟨rfl, b6⟩
    have B6 := Lib.hid (B5.out.trans (b6.mono B5.out.size))
    have M6 := Lib.hid (M5.out.later b6)
    clear b6
    go_wp2_with fail
    refine (HIz2.out _ M6.out).mono ?_
    rintro e w7 ⟨rfl, b7⟩
    have B7 := Lib.hid (B6.out.trans (b7.mono B6.out.size))
    have M7 := Lib.hid (M6.out.later b7)
    clear b7
    go_wp2_with fail
    refine (HIr.out _ M7.out).mono ?_
    rintro e w8 ⟨⟨l1, hl1, rfl⟩, b8⟩
    have B8 := Lib.hid (B7.out.trans (b8.mono B7.out.size))
    have M8 := Lib.hid (M7.out.later b8)
    clear b8
    go_wp2_with fail
    refine (HIr2.out _ M8.out).mono ?_
    rintro e w9 ⟨⟨l2, hl2, rfl⟩, b9⟩
    have B9 := Lib.hid (B8.out.trans (b9.mono B8.out.size))
    have M9 := Lib.hid (M8.out.later b9)
    have hll := HRL.out _ _ hl2 hl1
    have HLL := Lib.hid hll
    clear b9 hl1 hl2
    go_wp2_with fail
    refine (HIp.out _ M9.out).mono ?_
    rintro e w10 ⟨rfl, b10⟩
    have B10 := Lib.hid (B9.out.trans (b10.mono B9.out.size))
    have M10 := Lib.hid (M9.out.later b10)
    clear b10
    go_wp2_with fail
    refine (HIp2.out _ M10.out).mono ?_
    rintro e w11 ⟨rfl, b11⟩
    have B11 := Lib.hid (B10.out.trans (b11.mono B10.out.size))
    clear b11
    have hpp := HPP.out
    go_wp2_with fail
    go_ret
    exact ⟨rfl, B11.out⟩
  · have hV := renV_no hok
    rw [hV] at hI hS
    have HI := Lib.hid hI
    have HS := Lib.hid hS
    clear hI hS hok hV
    go_wp2_with fail
    refine (HI.out _ M1.out).mono ?_
    rintro e w2 ⟨rfl, b2⟩
    have B2 := Lib.hid (B1.out.trans (b2.mono B1.out.size))
    have M2 := Lib.hid (M1.out.later b2)
    clear b2
    go_wp2_with fail
    refine (HS.out _).mono ?_
    rintro e w3 ⟨rfl, b3⟩
    have B3 := Lib.hid (B2.out.trans (b3.mono B2.out.size))
    clear b3
    go_wp2_with fail
    go_ret
    exact ⟨rfl, B3.out⟩

set_option maxHeartbeats 400000 in
theorem frn_long (w : World) (a : Option Addr) (n c : Nat) (hn : 1048576 < n) (hx : n ≤ 9223372036854775807) :
    Calls Tryz.prog 3 #[.slice a n c] w fun e w' => e = .returned (.bool true) ∧ Below w.heap.size w w' := by
  go_enter Tryz.func3, Tryz.ntmps3
  go_wp2_with fail
  go_ret
  exact ⟨rfl, Below.refl _ _⟩
theorem law_rename (w : World) (a : Option Addr) (n c : Nat) (h : BytesAt w a n) (hn : n ≤ c) (hc : c ≤ 9223372036854775807) (hnil : a = none → n = 0) (hm : MaxCell w) :
    Calls Tryz.prog 3 #[.slice a n c] w fun e w' => e = .returned (.bool true) ∧ Below w.heap.size w w' := by
  by_cases hs : n ≤ 1048576
  · exact frn_short w a n c hs hm (drawRename_any w a n c h hn hc hnil)
  · exact frn_long w a n c (by omega) (by omega)
end Go.Proofs.YtfmmpahbjkiomaaGreatDoor
