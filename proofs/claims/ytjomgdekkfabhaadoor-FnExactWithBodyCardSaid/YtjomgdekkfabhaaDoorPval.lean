/- ProgramValid of the program and of the model. Condition: for the program's, the library's own number can be read. -/
import Derived.Test.YtjomgdekkfabhaaDoorFacts
namespace Go.Proofs.YtjomgdekkfabhaaDoor
open Go.RowKit Gram

set_option maxHeartbeats 400000 in
theorem impl_valid (s : ByteArray) (w : World) (hs : s.size ≤ 1073741824) (hm : MaxCell w) :
    Calls Tryd.prog 13 #[.string s] w fun e w' => e = .returned (.bool (progOf s).isSome) ∧ Below w.heap.size w w' := by
  have HR := Lib.hid ((read_prog s w hs hm).mono fun _ _ h => h.cases)
  generalize (progOf s).isSome = b at *
  clear hm
  go_enter Tryd.func13, Tryd.ntmps13
  go_wp2_with fail
  refine HR.out.mono ?_
  rintro e w2 ⟨a, n, c, rfl, hb, _⟩
  have HB := Lib.hid hb
  clear hb
  go_wp2_with fail
  go_ret
  exact ⟨rfl, HB.out⟩
set_option maxHeartbeats 400000 in
theorem spec_valid (s : ByteArray) (w : World) (hs : s.size ≤ 1073741824) :
    Calls Tryd.prog 16 #[.string s] w fun e w' => e = .returned (.bool (progOf s).isSome) ∧ Below w.heap.size w w' := by
  have HR := Lib.hid ((open_prog s w hs).mono fun _ _ h => h.cases)
  generalize (progOf s).isSome = b at *
  go_enter Tryd.func16, Tryd.ntmps16
  go_wp2_with fail
  refine HR.out.mono ?_
  rintro e w2 ⟨a, n, c, ps, rfl, hb, _⟩
  have HB := Lib.hid hb
  clear hb
  go_wp2_with fail
  go_ret
  exact ⟨rfl, HB.out⟩
end Go.Proofs.YtjomgdekkfabhaaDoor
