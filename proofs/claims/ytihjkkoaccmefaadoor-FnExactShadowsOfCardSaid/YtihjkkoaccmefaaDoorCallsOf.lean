/- The law FnExactCallsOf answers true at every pair of texts. Condition: the library's own number can be read. -/
import Derived.Test.YtihjkkoaccmefaaDoorLset
import Derived.Test.YtihjkkoaccmefaaDoorBodyOf
namespace Go.Proofs.YtihjkkoaccmefaaDoor
open Go.RowKit Gram

def callsT (o : Option Pr) : ByteArray := match o with | some p => txtOf (setText (callsIn p.2)) | none => ⟨#[]⟩

theorem calls_text (o : Option Pr) (h : ∀ p, o = some p → Good p) : ∃ b : List Stm, bodyT o = txtOf (txts b) ∧ wfs b = true ∧ callsT o = txtOf (setText (callsIn b)) := by
  cases o with
  | none => exact ⟨[], rfl, rfl, rfl⟩
  | some p => exact ⟨p.2, rfl, (h p rfl).1, rfl⟩
theorem look_good {s nm : ByteArray} : ∀ p, lookP s nm = some p → Good p := by
  intro p h
  unfold lookP at h
  split at h
  · rename_i ps c hp _
    exact (prog_facts hp).2.1 p (List.mem_of_find?_eq_some h)
  · cases h

set_option maxHeartbeats 1000000 in
theorem spec_calls (s nm : ByteArray) (w : World) (hs : s.size ≤ 1073741824) :
    Calls Tryd.prog 38 #[.string s, .string nm] w fun e w' => e = .returned (.string (callsT (lookP s nm))) ∧ Below w.heap.size w w' := by
  have hB := spec_body s nm w hs
  have hg : ∀ p, lookP s nm = some p → Good p := look_good
  have hsz : (bodyT (lookP s nm)).size ≤ 400 := by
    cases hl : lookP s nm with
    | none => exact Nat.zero_le _
    | some p => exact (hg p hl).2.2.1
  obtain ⟨b, hb1, hb2, hb3⟩ := calls_text (lookP s nm) hg
  rw [hb1] at hB hsz
  have HB := Lib.hid hB
  have HZ := Lib.hid hb3
  have HN := Lib.hid (fun w => names_any b (txtOf (txts b)) w (by omega) rfl hb2)
  have hcl : (callsIn b).length ≤ 400 := Nat.le_trans (calls_le b) hsz
  have HS := Lib.hid (fun w => l1set_any (txtOf (callsIn b)) w (by rw [txtOf_size]; omega))
  clear hB hg hsz hb1 hb2 hb3 hcl
  generalize txtOf (txts b) = tb at *
  go_enter Tryd.func38, Tryd.ntmps38
  go_wp2_with fail
  refine HB.out.mono ?_
  rintro e w2 ⟨rfl, hb⟩
  have HB2 := Lib.hid hb
  clear hb
  go_wp2_with fail
  refine (HN.out _).mono ?_
  rintro e w3 ⟨rfl, rfl⟩
  go_wp2_with fail
  refine (HS.out _).mono ?_
  rintro e w4 ⟨rfl, hb4⟩
  have HB4 := Lib.hid (HB2.out.trans (hb4.mono HB2.out.size))
  clear hb4
  go_wp2_with fail
  go_ret
  exact ⟨by rw [HZ.out]; rfl, HB4.out⟩

end Go.Proofs.YtihjkkoaccmefaaDoor
