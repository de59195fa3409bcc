/- readBody: the statements that a text tells. Condition: texts of at most 2^30 bytes. -/
import Derived.Test.YtfmmpahbjkiomaaGreatDoorRead
namespace Go.Proofs.YtfmmpahbjkiomaaGreatDoor
open Go.RowKit Gram

set_option maxHeartbeats 400000 in
theorem body_any (s : ByteArray) (w : World) (hm : s.size ≤ 1073741824) : Calls Tryz.prog 48 #[.string s] w (ReadTo (bodyOf s) w) := by
  have HR := Lib.hid (read_any s 400 false w hm (by decide))
  change Hid (Calls Tryz.prog _ _ w (ReadTo (bodyOf s) w)) at HR
  cases hb : bodyOf s with
  | none =>
    rw [hb] at HR
    go_enter Tryz.func48, Tryz.ntmps48
    go_wp2_with fail
    refine HR.out.mono ?_
    rintro e w1 ⟨rfl, hb⟩
    go_wp2_with fail
    go_ret2
    exact ⟨rfl, hb⟩
  | some xs =>
    rw [hb] at HR
    go_enter Tryz.func48, Tryz.ntmps48
    go_wp2_with fail
    refine HR.out.mono ?_
    rintro e w1 ⟨⟨v, S, rfl, hB, hS⟩, hb⟩
    obtain ⟨va, vn, vc, rfl⟩ := hB.form
    have HB := Lib.hid hB
    have HS := Lib.hid hS
    clear hB hS
    go_wp2_with fail
    go_ret2
    exact ⟨⟨_, S, rfl, HB.out, HS.out⟩, hb⟩
end Go.Proofs.YtfmmpahbjkiomaaGreatDoor
