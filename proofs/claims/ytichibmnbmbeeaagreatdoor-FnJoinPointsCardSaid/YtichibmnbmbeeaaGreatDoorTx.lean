/- The law FnExactBodyOf answers true at every pair of texts. Condition: the library's own number can be read. The law FnExactCallsOf answers true at every pair of texts. Condition: the library's own number can be read. -/
import Derived.Test.YtichibmnbmbeeaaGreatDoorMx
import Derived.Test.YtichibmnbmbeeaaGreatDoorCx
import Derived.Test.YtichibmnbmbeeaaGreatDoorText
namespace Go.Proofs.YtichibmnbmbeeaaGreatDoor
open Go.RowKit Gram


end Go.Proofs.YtichibmnbmbeeaaGreatDoor
namespace Go.Proofs.YtichibmnbmbeeaaGreatDoor
open Go.RowKit Gram

def callsT (o : Option Pr) : ByteArray := match o with | some p => txtOf (setText (callsIn p.2)) | none => ⟨#[]⟩

set_option maxHeartbeats 1000000 in
theorem impl_calls (s nm : ByteArray) (w : World) (hs : s.size ≤ 1073741824) (hm : MaxCell w) :
    Calls Tryz.prog 14 #[.string s, .string nm] w fun e w' => e = .returned (.string (callsT (lookP s nm))) ∧ Below w.heap.size w w' := by
  have hF := find_proc s nm w hs hm
  clear hm
  unfold FindTo at hF
  cases hl : lookP s nm with
  | none =>
    rw [hl] at hF
    have HF := Lib.hid hF
    clear hF hl
    go_enter Tryz.func14, Tryz.ntmps14
    go_wp2_with fail
    refine HF.out.mono ?_
    rintro e w2 ⟨⟨a, n, c, k, rfl⟩, hb⟩
    have HB := Lib.hid hb
    clear hb
    go_wp2_with fail
    go_ret
    exact ⟨rfl, HB.out⟩
  | some p =>
    rw [hl] at hF
    have HF := Lib.hid hF
    clear hF hl
    go_enter Tryz.func14, Tryz.ntmps14
    go_wp2_with fail
    refine HF.out.mono ?_
    rintro e w2 ⟨⟨a, n, c, k, S, qs, hk, rfl, hpo, hP, hG, hqk, hn, hn4, hnm⟩, hb⟩
    have hkn : k < n := by omega
    obtain ⟨g, rfl, _, c0, c1⟩ := hP.get k hk
    have hbody := prog_body hP k hk
    obtain ⟨ba, bn, bc, hbv⟩ := hbody.form
    rw [hbv] at c1 hbody
    rw [hqk] at hbody c0
    have hgood := hG qs[k] (List.getElem_mem hk)
    rw [hqk] at hgood
    have HC := Lib.hid (calls_any hbody hP.lt hgood)
    have HT := Lib.hid (fun w => text_set (callsIn p.2) (callsIn_lets p.2 hgood.1) w)
    have HB := Lib.hid hb
    clear hb hbody hbv hP hG hpo hnm hqk hgood
    go_wp2_with fail
    refine HC.out.mono ?_
    rintro e w3 ⟨rfl, hb3⟩
    have HB3 := Lib.hid (HB.out.trans (hb3.mono HB.out.size))
    clear hb3
    go_wp2_with fail
    refine (HT.out _).mono ?_
    rintro e w4 ⟨rfl, hb4⟩
    have HB4 := Lib.hid (HB3.out.trans (hb4.mono HB3.out.size))
    clear hb4
    go_wp2_with fail
    go_ret
    exact ⟨rfl, HB4.out⟩

theorem calls_text (o : Option Pr) (h : ∀ p, o = some p → Good p) : ∃ b : List Stm, bodyT o = txtOf (txts b) ∧ wfs b = true ∧ callsT o = txtOf (setText (callsIn b)) := by
  cases o with
  | none => exact ⟨[], rfl, rfl, rfl⟩
  | some p => exact ⟨p.2, rfl, (h p rfl).1, rfl⟩
theorem look_good {s nm : ByteArray} : ∀ p, lookP s nm = some p → Good p := by
  intro p h
  unfold lookP at h
  split at h
  · rename_i ps c hp _
    exact (prog_facts hp).2.1 p (List.mem_of_find?_eq_some h)
  · cases h

end Go.Proofs.YtichibmnbmbeeaaGreatDoor
