/- The program's DepthOf: how many procedures were active at most. Conditions: as of runOf. -/
import Derived.Test.YtdalffpjfoaijaaDoorRx
namespace Go.Proofs.YtdalffpjfoaijaaDoor
open Go.RowKit Gram

/-- the greatest depth of a run, -1 if there is none -/
def depP (s nm : ByteArray) (v : Int) : Int := match runP s nm v with | some r => (r.1.deep : Int) | none => -1

set_option maxHeartbeats 2000000 in
set_option maxRecDepth 100000 in
theorem impl_dep (s nm : ByteArray) (v : Int) (w : World) (hs : s.size ≤ 1073741824) (hm : MaxCell w) :
    Calls Tryd.prog 5 #[.string s, .string nm, .int .i64 v] w fun e w' => e = .returned (.int .i64 (depP s nm v)) ∧ Below w.heap.size w w' := by
  have HF := Lib.hid (run_of s nm v w hs hm)
  clear hm hs
  cases hr : runP s nm v with
  | none =>
    have HR := Lib.hid (show depP s nm v = -1 by rw [depP, hr])
    go_enter Tryd.func5, Tryd.ntmps5
    go_wp2_with fail
    refine HF.out.mono ?_
    rintro e w1 ⟨hx, hb⟩
    rw [hr] at hx
    subst hx
    have HB := Lib.hid hb
    clear hb hr
    go_wp2_with fail
    go_ret
    exact ⟨ret_int HR.out.symm, HB.out⟩
  | some r =>
    have HR := Lib.hid (show depP s nm v = (r.1.deep : Int) by rw [depP, hr])
    go_enter Tryd.func5, Tryd.ntmps5
    go_wp2_with fail
    refine HF.out.mono ?_
    rintro e w1 ⟨hx, hb⟩
    rw [hr] at hx
    obtain ⟨B, rb, S, qs, pv, oa, ja, oc, jc, rfl, hB, hD, hPw, hpr⟩ := hx
    have c7 : w1.cell? ⟨rb, 7, none⟩ = some (.int .i64 r.1.deep) := hD.cell 7
    have HB := Lib.hid hb
    clear hb hr hB hD hPw hpr
    go_wp2_with fail
    go_ret
    exact ⟨ret_int HR.out.symm, HB.out⟩
end Go.Proofs.YtdalffpjfoaijaaDoor
