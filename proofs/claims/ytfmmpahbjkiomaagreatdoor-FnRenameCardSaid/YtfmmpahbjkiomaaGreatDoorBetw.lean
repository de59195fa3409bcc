/- The program's signBetween: a sign between two others as a byte, else a panic. No condition. -/
import Derived.Test.YtfmmpahbjkiomaaGreatDoorLow
import Derived.Deep.QuietTactic
import Derived.BigQuiet
namespace Go.Proofs.YtfmmpahbjkiomaaGreatDoor
open Go.RowKit Gram

/-- the reader's own panic -/
def Panics (e : Ending) : Prop := ∃ u pv, e = .panicked [{ v := .iface u pv, recovered := false }]

set_option maxHeartbeats 400000 in
theorem between_yes (sg lo hi : Int) (h0 : 0 ≤ lo) (h1 : lo ≤ sg) (h2 : sg ≤ hi) (h3 : hi < 256) (w : World) :
    Calls Tryz.prog 134 #[.int .i32 sg, .int .i32 lo, .int .i32 hi] w fun e w' => e = .returned (.int .u8 sg) ∧ w = w' := by
  go_enter Tryz.func134, Tryz.ntmps134
  go_wp2_with fail
  go_ret
  exact ⟨rfl, rfl⟩
set_option maxHeartbeats 400000 in
theorem between_no (sg lo hi : Int) (h : sg < lo ∨ hi < sg) (w : World) :
    Calls Tryz.prog 134 #[.int .i32 sg, .int .i32 lo, .int .i32 hi] w fun e w' => Panics e ∧ w = w' := by
  go_enter Tryz.func134, Tryz.ntmps134
  go_wp2_with fail
  all_goals exact ⟨rfl, ⟨_, _, rfl⟩, rfl⟩
end Go.Proofs.YtfmmpahbjkiomaaGreatDoor
