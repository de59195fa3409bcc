/- The law FnExactCallsOf answers true at every pair of texts. Condition: the library's own number can be read. -/
import Derived.Test.YtjomgdekkfabhaaDoorLset
import Derived.Test.YtjomgdekkfabhaaDoorBodyOf
namespace Go.Proofs.YtjomgdekkfabhaaDoor
open Go.RowKit Gram

def callsT (o : Option Pr) : ByteArray := match o with | some p => txtOf (setText (callsIn p.2)) | none => ⟨#[]⟩

set_option maxHeartbeats 1000000 in
theorem impl_calls (s nm : ByteArray) (w : World) (hs : s.size ≤ 1073741824) (hm : MaxCell w) :
    Calls Tryd.prog 23 #[.string s, .string nm] w fun e w' => e = .returned (.string (callsT (lookP s nm))) ∧ Below w.heap.size w w' := by
  have hF := find_proc s nm w hs hm
  clear hm
  unfold FindTo at hF
  cases hl : lookP s nm with
  | none =>
    rw [hl] at hF
    have HF := Lib.hid hF
    clear hF hl
    go_enter Tryd.func23, Tryd.ntmps23
    go_wp2_with fail
    refine HF.out.mono ?_
    rintro e w2 ⟨⟨a, n, c, k, rfl⟩, hb⟩
    have HB := Lib.hid hb
    clear hb
    go_wp2_with fail
    go_ret
    exact ⟨rfl, HB.out⟩
  | some p =>
    rw [hl] at hF
    have HF := Lib.hid hF
    clear hF hl
    go_enter Tryd.func23, Tryd.ntmps23
    go_wp2_with fail
    refine HF.out.mono ?_
    rintro e w2 ⟨⟨a, n, c, k, S, qs, hk, rfl, hpo, hP, hG, hqk, hn, hn4, hnm⟩, hb⟩
    have hkn : k < n := by omega
    obtain ⟨g, rfl, _, c0, c1⟩ := hP.get k hk
    have hbody := prog_body hP k hk
    obtain ⟨ba, bn, bc, hbv⟩ := hbody.form
    rw [hbv] at c1 hbody
    rw [hqk] at hbody c0
    have hgood := hG qs[k] (List.getElem_mem hk)
    rw [hqk] at hgood
    have HC := Lib.hid (calls_any hbody hP.lt hgood)
    have HT := Lib.hid (fun w => text_set (callsIn p.2) (callsIn_lets p.2 hgood.1) w)
    have HB := Lib.hid hb
    clear hb hbody hbv hP hG hpo hnm hqk hgood
    go_wp2_with fail
    refine HC.out.mono ?_
    rintro e w3 ⟨rfl, hb3⟩
    have HB3 := Lib.hid (HB.out.trans (hb3.mono HB.out.size))
    clear hb3
    go_wp2_with fail
    refine (HT.out _).mono ?_
    rintro e w4 ⟨rfl, hb4⟩
    have HB4 := Lib.hid (HB3.out.trans (hb4.mono HB3.out.size))
    clear hb4
    go_wp2_with fail
    go_ret
    exact ⟨rfl, HB4.out⟩

theorem calls_text (o : Option Pr) (h : ∀ p, o = some p → Good p) : ∃ b : List Stm, bodyT o = txtOf (txts b) ∧ wfs b = true ∧ callsT o = txtOf (setText (callsIn b)) := by
  cases o with
  | none => exact ⟨[], rfl, rfl, rfl⟩
  | some p => exact ⟨p.2, rfl, (h p rfl).1, rfl⟩
theorem look_good {s nm : ByteArray} : ∀ p, lookP s nm = some p → Good p := by
  intro p h
  unfold lookP at h
  split at h
  · rename_i ps c hp _
    exact (prog_facts hp).2.1 p (List.mem_of_find?_eq_some h)
  · cases h

set_option maxHeartbeats 1000000 in
theorem spec_calls (s nm : ByteArray) (w : World) (hs : s.size ≤ 1073741824) :
    Calls Tryd.prog 25 #[.string s, .string nm] w fun e w' => e = .returned (.string (callsT (lookP s nm))) ∧ Below w.heap.size w w' := by
  have hB := spec_body s nm w hs
  have hg : ∀ p, lookP s nm = some p → Good p := look_good
  have hsz : (bodyT (lookP s nm)).size ≤ 400 := by
    cases hl : lookP s nm with
    | none => exact Nat.zero_le _
    | some p => exact (hg p hl).2.2.1
  obtain ⟨b, hb1, hb2, hb3⟩ := calls_text (lookP s nm) hg
  rw [hb1] at hB hsz
  have HB := Lib.hid hB
  have HZ := Lib.hid hb3
  have HN := Lib.hid (fun w => names_any b (txtOf (txts b)) w (by omega) rfl hb2)
  have hcl : (callsIn b).length ≤ 400 := Nat.le_trans (calls_le b) hsz
  have HS := Lib.hid (fun w => l1set_any (txtOf (callsIn b)) w (by rw [txtOf_size]; omega))
  clear hB hg hsz hb1 hb2 hb3 hcl
  generalize txtOf (txts b) = tb at *
  go_enter Tryd.func25, Tryd.ntmps25
  go_wp2_with fail
  refine HB.out.mono ?_
  rintro e w2 ⟨rfl, hb⟩
  have HB2 := Lib.hid hb
  clear hb
  go_wp2_with fail
  refine (HN.out _).mono ?_
  rintro e w3 ⟨rfl, rfl⟩
  go_wp2_with fail
  refine (HS.out _).mono ?_
  rintro e w4 ⟨rfl, hb4⟩
  have HB4 := Lib.hid (HB2.out.trans (hb4.mono HB2.out.size))
  clear hb4
  go_wp2_with fail
  go_ret
  exact ⟨by rw [HZ.out]; rfl, HB4.out⟩

set_option maxHeartbeats 400000 in
theorem calls_long1 (s nm : ByteArray) (w : World) (hl : 1048576 < s.size) (hx : s.size ≤ maxLen) :
    Calls Tryd.prog 10 #[.string s, .string nm] w fun e w' => e = .returned (.bool true) ∧ Below w.heap.size w w' := by
  unfold maxLen at hx
  go_enter Tryd.func10, Tryd.ntmps10
  go_wp2_with fail
  go_ret
  exact ⟨rfl, Below.refl _ _⟩
set_option maxHeartbeats 400000 in
theorem calls_long2 (s nm : ByteArray) (w : World) (hs : s.size ≤ 1048576) (hl : 1048576 < nm.size) (hx : nm.size ≤ maxLen) :
    Calls Tryd.prog 10 #[.string s, .string nm] w fun e w' => e = .returned (.bool true) ∧ Below w.heap.size w w' := by
  unfold maxLen at hx
  go_enter Tryd.func10, Tryd.ntmps10
  go_wp2_with fail
  go_ret
  exact ⟨rfl, Below.refl _ _⟩
set_option maxHeartbeats 400000 in
theorem calls_short (s nm : ByteArray) (w : World) (hl : s.size ≤ 1048576) (hl2 : nm.size ≤ 1048576) (hm : MaxCell w) :
    Calls Tryd.prog 10 #[.string s, .string nm] w fun e w' => e = .returned (.bool true) ∧ Below w.heap.size w w' := by
  have HI := Lib.hid (fun w => impl_calls s nm w (by omega))
  have HS := Lib.hid (fun w => spec_calls s nm w (by omega))
  have HM := Lib.hid hm
  generalize callsT (lookP s nm) = bt at *
  clear hm
  go_enter Tryd.func10, Tryd.ntmps10
  go_wp2_with fail
  refine (HS.out _).mono ?_
  rintro e w1 ⟨rfl, b1⟩
  have B1 := Lib.hid b1
  clear b1
  go_wp2_with fail
  refine (HI.out _ (HM.out.later B1.out)).mono ?_
  rintro e w2 ⟨rfl, b2⟩
  have B2 := Lib.hid (B1.out.trans (b2.mono B1.out.size))
  clear b2
  go_wp2_with fail
  go_ret
  exact ⟨rfl, B2.out⟩
theorem calls_of_any (s nm : ByteArray) (w : World) (hx : s.size ≤ maxLen) (hx2 : nm.size ≤ maxLen) (hm : MaxCell w) :
    Calls Tryd.prog 10 #[.string s, .string nm] w fun e w' => e = .returned (.bool true) ∧ Below w.heap.size w w' := by
  by_cases h : s.size ≤ 1048576
  · by_cases h2 : nm.size ≤ 1048576
    · exact calls_short s nm w h h2 hm
    · exact calls_long2 s nm w h (by omega) hx2
  · exact calls_long1 s nm w (by omega) hx
end Go.Proofs.YtjomgdekkfabhaaDoor
