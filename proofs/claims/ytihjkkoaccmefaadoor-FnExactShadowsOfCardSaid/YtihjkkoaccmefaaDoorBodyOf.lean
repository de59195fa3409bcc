/- The law FnExactBodyOf answers true at every pair of texts. Condition: the library's own number can be read. -/
import Derived.Test.YtihjkkoaccmefaaDoorSbod
import Derived.Test.YtihjkkoaccmefaaDoorByte
import Derived.Test.YtihjkkoaccmefaaDoorText
namespace Go.Proofs.YtihjkkoaccmefaaDoor
open Go.RowKit Gram


set_option maxHeartbeats 1000000 in
theorem spec_body (s nm : ByteArray) (w : World) (hs : s.size ≤ 1073741824) :
    Calls Tryd.prog 37 #[.string s, .string nm] w fun e w' => e = .returned (.tuple #[.string (bodyT (lookP s nm)), .bool (lookP s nm).isSome]) ∧ Below w.heap.size w w' := by
  have HR := Lib.hid ((open_prog s w hs).mono fun _ _ h => h.cases)
  cases hp : progOf s with
  | none =>
    rw [hp] at HR
    have HZ := Lib.hid (by rw [lookP, hp] : lookP s nm = none)
    clear hp
    go_enter Tryd.func37, Tryd.ntmps37
    go_wp2_with fail
    refine HR.out.mono ?_
    rintro e w2 ⟨a, n, c, qs, rfl, hb, _⟩
    have HB := Lib.hid hb
    clear hb
    go_wp2_with fail
    go_ret2
    exact ⟨by rw [HZ.out]; rfl, HB.out⟩
  | some ps =>
    rw [hp] at HR
    have hf := prog_facts hp
    have HZ := Lib.hid (namedIn_look (nm := nm) hp)
    clear hp
    go_enter Tryd.func37, Tryd.ntmps37
    go_wp2_with fail
    refine HR.out.mono ?_
    rintro e w2 ⟨a, n, c, qs, rfl, hb, hnl, ho, hq⟩
    have hqp := hq ps rfl
    subst hqp
    have hln : n ≤ 401 := by rw [← hnl]; exact hf.1
    rw [← hnl] at ho
    have HL := Lib.hid (l1body_any ho hnl (by omega) nm)
    rw [HZ.out] at HL
    have HB := Lib.hid hb
    clear ho hb hf hq hnl
    go_wp2_with fail
    refine HL.out.mono ?_
    rintro e w3 ⟨rfl, hb3⟩
    have HB3 := Lib.hid (HB.out.trans (hb3.mono HB.out.size))
    clear hb3
    go_wp2_with fail
    go_ret2
    exact ⟨rfl, HB3.out⟩

end Go.Proofs.YtihjkkoaccmefaaDoor
