/- The law FnExactBodyOf answers true at every pair of texts. Condition: the library's own number can be read. -/
import Derived.Test.YtjomgdekkfabhaaDoorBody
import Derived.Test.YtjomgdekkfabhaaDoorByte
import Derived.Test.YtjomgdekkfabhaaDoorText
namespace Go.Proofs.YtjomgdekkfabhaaDoor
open Go.RowKit Gram

def bodyT (o : Option Pr) : ByteArray := match o with | some p => txtOf (txts p.2) | none => ⟨#[]⟩

set_option maxHeartbeats 1000000 in
theorem impl_body (s nm : ByteArray) (w : World) (hs : s.size ≤ 1073741824) (hm : MaxCell w) :
    Calls Tryd.prog 19 #[.string s, .string nm] w fun e w' => e = .returned (.tuple #[.string (bodyT (lookP s nm)), .bool (lookP s nm).isSome]) ∧ Below w.heap.size w w' := by
  have hF := find_proc s nm w hs hm
  clear hm
  unfold FindTo at hF
  cases hl : lookP s nm with
  | none =>
    rw [hl] at hF
    have HF := Lib.hid hF
    clear hF hl
    go_enter Tryd.func19, Tryd.ntmps19
    go_wp2_with fail
    refine HF.out.mono ?_
    rintro e w2 ⟨⟨a, n, c, k, rfl⟩, hb⟩
    have HB := Lib.hid hb
    clear hb
    go_wp2_with fail
    go_ret2
    exact ⟨rfl, HB.out⟩
  | some p =>
    rw [hl] at hF
    have HF := Lib.hid hF
    clear hF hl
    go_enter Tryd.func19, Tryd.ntmps19
    go_wp2_with fail
    refine HF.out.mono ?_
    rintro e w2 ⟨⟨a, n, c, k, S, qs, hk, rfl, hpo, hP, hG, hqk, hn, hn4, hnm⟩, hb⟩
    have hkn : k < n := by omega
    obtain ⟨g, rfl, _, c0, c1⟩ := hP.get k hk
    have hbody := prog_body hP k hk
    obtain ⟨ba, bn, bc, hbv⟩ := hbody.form
    rw [hbv] at c1 hbody
    rw [hqk] at hbody
    have hgood := hG qs[k] (List.getElem_mem hk)
    rw [hqk] at hgood
    have HT := Lib.hid (body_step 400 (text_all 400) p.2 w2 S (.slice ba bn bc) hgood.2.2.1 (by decide) hP.lt hbody)
    have HB := Lib.hid hb
    clear hb hbody hbv hP hG hpo hnm hqk hgood
    go_wp2_with fail
    refine HT.out.mono ?_
    rintro e w3 ⟨rfl, hb3⟩
    have HB3 := Lib.hid (HB.out.trans (hb3.mono HB.out.size))
    clear hb3
    unfold strV
    go_wp2_with fail
    go_ret2
    exact ⟨rfl, HB3.out⟩

def namedIn (ps : List Pr) (nm : ByteArray) : Option Pr := ps.find? fun p => nm.data.toList == [p.1]
theorem namedIn_look {s nm : ByteArray} {ps : List Pr} (h : progOf s = some ps) : namedIn ps nm = lookP s nm := by
  have hf := prog_facts h
  rw [lookP, h]
  cases hno : nameOf nm.data.toList with
  | some c =>
    have := (nameOf_some hno).1
    dsimp only
    rw [namedIn, this]
    congr 1
    funext p
    rw [Bool.eq_iff_iff]
    simp only [beq_iff_eq, List.cons.injEq, and_true]
    exact eq_comm
  | none =>
    dsimp only
    rw [namedIn, List.find?_eq_none]
    intro p hp he
    have he2 : nm.data.toList = [p.1] := by simpa using he
    rw [he2, nameOf, if_pos (hf.2.1 p hp).2.2.2] at hno
    cases hno

set_option maxHeartbeats 1000000 in
theorem l1body_any {w : World} {B n c : Nat} {a : Option Addr} {ps : List Pr} (ho : w.ownsRow B 60 2 (.slice a ps.length c) ps.length (prVs ps)) (hn : ps.length = n) (hl : n ≤ 9223372036854775807) (nm : ByteArray) :
    Calls Tryd.prog 48 #[.slice a n c, .string nm] w fun e w' => e = .returned (.tuple #[.string (bodyT (namedIn ps nm)), .bool (namedIn ps nm).isSome]) ∧ Below w.heap.size w w' := by
  have HO := Lib.hid ho
  have HN := Lib.hid hn
  clear ho hn
  go_enter Tryd.func48, Tryd.ntmps48
  go_wp2_with fail
  go_loopw [10] (fun i wr => ∃ k : Nat, i = .int .i64 k ∧ k ≤ n ∧ Hid (namedIn ps nm = namedIn (ps.drop k) nm) ∧ Hid (Below w.heap.size w wr)) (fun i _ => n - (intOf i).toNat)
  case atStart => exact ⟨0, by go_num, Nat.zero_le _, rfl, Below.refl _ _⟩
  case round =>
    obtain ⟨k, rfl, hk, hE, hb⟩ := hrel
    by_cases hlt : k < n
    · have hkp : k < ps.length := by rw [HN.out]; exact hlt
      obtain ⟨g, rfl, c0, c1⟩ := pr_get HO.out k hkp
      have hgl : g < w.heap.size := World.block_lt_of_cell? w _ c0
      have d0 : wr.cell? ⟨g, k * 2, none⟩ = some (.int .u8 ps[k].1.toNat) := by rw [hb.out.cell (p := ⟨g, k * 2, none⟩) hgl]; exact c0
      have d1 : wr.cell? ⟨g, k * 2 + 1, none⟩ = some (.string (txtOf (txts ps[k].2))) := by rw [hb.out.cell (p := ⟨g, k * 2 + 1, none⟩) hgl]; exact c1
      have e2 := fun o : Obj => chr1 ps[k].1 (wr.alloc o) (wr.heap.size + 1) (by rw [alloc_size'])
      have hst : namedIn (ps.drop k) nm = if (nm.data.toList == [ps[k].1]) = true then some ps[k] else namedIn (ps.drop (k + 1)) nm := by
        rw [List.drop_eq_getElem_cons hkp, namedIn, List.find?_cons]
        split <;> simp_all [namedIn]
      rw [← ByteArray.toList_eq] at hst
      have HE2 := Lib.hid (hE.out.trans hst)
      clear c0 c1 hgl hst hE
      cases hq : (nm.toList == [ps[k].1]) with
      | true =>
        rw [hq] at HE2
        have HF := Lib.hid (HE2.out.trans (if_pos rfl))
        clear HE2
        go_wp2_with fail
        go_ret2
        refine ⟨?_, hb.out.alloc hb.out.size _ |>.alloc (by rw [alloc_size']; exact Nat.le_succ_of_le hb.out.size) _⟩
        rw [HF.out]; rfl
      | false =>
        rw [hq] at HE2
        have HF := Lib.hid (HE2.out.trans (if_neg (by decide)))
        clear HE2
        go_wp2_with fail
        go_roundw
        case rel => exact ⟨k + 1, by go_num, by omega, HF.out, hb.out.alloc hb.out.size _ |>.alloc (by rw [alloc_size']; exact Nat.le_succ_of_le hb.out.size) _⟩
        case measure => simp [intOf]; omega
    · have HF := Lib.hid (by rw [hE.out, List.drop_of_length_le (by rw [HN.out]; omega)]; rfl : namedIn ps nm = none)
      clear hE
      go_wp2_with fail
      go_ret2
      exact ⟨by rw [HF.out]; rfl, hb.out⟩

set_option maxHeartbeats 1000000 in
theorem spec_body (s nm : ByteArray) (w : World) (hs : s.size ≤ 1073741824) :
    Calls Tryd.prog 27 #[.string s, .string nm] w fun e w' => e = .returned (.tuple #[.string (bodyT (lookP s nm)), .bool (lookP s nm).isSome]) ∧ Below w.heap.size w w' := by
  have HR := Lib.hid ((open_prog s w hs).mono fun _ _ h => h.cases)
  cases hp : progOf s with
  | none =>
    rw [hp] at HR
    have HZ := Lib.hid (by rw [lookP, hp] : lookP s nm = none)
    clear hp
    go_enter Tryd.func27, Tryd.ntmps27
    go_wp2_with fail
    refine HR.out.mono ?_
    rintro e w2 ⟨a, n, c, qs, rfl, hb, _⟩
    have HB := Lib.hid hb
    clear hb
    go_wp2_with fail
    go_ret2
    exact ⟨by rw [HZ.out]; rfl, HB.out⟩
  | some ps =>
    rw [hp] at HR
    have hf := prog_facts hp
    have HZ := Lib.hid (namedIn_look (nm := nm) hp)
    clear hp
    go_enter Tryd.func27, Tryd.ntmps27
    go_wp2_with fail
    refine HR.out.mono ?_
    rintro e w2 ⟨a, n, c, qs, rfl, hb, hnl, ho, hq⟩
    have hqp := hq ps rfl
    subst hqp
    have hln : n ≤ 401 := by rw [← hnl]; exact hf.1
    rw [← hnl] at ho
    have HL := Lib.hid (l1body_any ho hnl (by omega) nm)
    rw [HZ.out] at HL
    have HB := Lib.hid hb
    clear ho hb hf hq hnl
    go_wp2_with fail
    refine HL.out.mono ?_
    rintro e w3 ⟨rfl, hb3⟩
    have HB3 := Lib.hid (HB.out.trans (hb3.mono HB.out.size))
    clear hb3
    go_wp2_with fail
    go_ret2
    exact ⟨rfl, HB3.out⟩

set_option maxHeartbeats 400000 in
theorem body_long1 (s nm : ByteArray) (w : World) (hl : 1048576 < s.size) (hx : s.size ≤ maxLen) :
    Calls Tryd.prog 7 #[.string s, .string nm] w fun e w' => e = .returned (.bool true) ∧ Below w.heap.size w w' := by
  unfold maxLen at hx
  go_enter Tryd.func7, Tryd.ntmps7
  go_wp2_with fail
  go_ret
  exact ⟨rfl, Below.refl _ _⟩
set_option maxHeartbeats 400000 in
theorem body_long2 (s nm : ByteArray) (w : World) (hs : s.size ≤ 1048576) (hl : 1048576 < nm.size) (hx : nm.size ≤ maxLen) :
    Calls Tryd.prog 7 #[.string s, .string nm] w fun e w' => e = .returned (.bool true) ∧ Below w.heap.size w w' := by
  unfold maxLen at hx
  go_enter Tryd.func7, Tryd.ntmps7
  go_wp2_with fail
  go_ret
  exact ⟨rfl, Below.refl _ _⟩
set_option maxHeartbeats 400000 in
theorem body_short (s nm : ByteArray) (w : World) (hl : s.size ≤ 1048576) (hl2 : nm.size ≤ 1048576) (hm : MaxCell w) :
    Calls Tryd.prog 7 #[.string s, .string nm] w fun e w' => e = .returned (.bool true) ∧ Below w.heap.size w w' := by
  have HI := Lib.hid (fun w => impl_body s nm w (by omega))
  have HS := Lib.hid (fun w => spec_body s nm w (by omega))
  have HM := Lib.hid hm
  generalize bodyT (lookP s nm) = bt at *
  generalize (lookP s nm).isSome = b at *
  clear hm
  go_enter Tryd.func7, Tryd.ntmps7
  go_wp2_with fail
  refine (HS.out _).mono ?_
  rintro e w1 ⟨rfl, b1⟩
  have B1 := Lib.hid b1
  clear b1
  go_wp2_with fail
  refine (HI.out _ (HM.out.later B1.out)).mono ?_
  rintro e w2 ⟨rfl, b2⟩
  have B2 := Lib.hid (B1.out.trans (b2.mono B1.out.size))
  clear b2
  cases b
  all_goals
    go_wp2_with fail
    go_ret
    exact ⟨rfl, B2.out⟩
theorem body_of_any (s nm : ByteArray) (w : World) (hx : s.size ≤ maxLen) (hx2 : nm.size ≤ maxLen) (hm : MaxCell w) :
    Calls Tryd.prog 7 #[.string s, .string nm] w fun e w' => e = .returned (.bool true) ∧ Below w.heap.size w w' := by
  by_cases h : s.size ≤ 1048576
  · by_cases h2 : nm.size ≤ 1048576
    · exact body_short s nm w h h2 hm
    · exact body_long2 s nm w h (by omega) hx2
  · exact body_long1 s nm w (by omega) hx
end Go.Proofs.YtjomgdekkfabhaaDoor
