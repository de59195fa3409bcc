/- Two words on endings, for seats of few functions. Plain. -/
import Derived.Test.YtcahnffgpmanpaaProg
import Derived.Test.YtcahnffgpmanpaaGram
import Derived.WalkKit
import Derived.WalkSpells
import Derived.WalkLawsBesides
import Derived.Lib.Hide
namespace Go.Proofs.Ytcahnffgpmanpaa
open Go.RowKit Gram

theorem ret_bool {a b : Bool} (h : a = b) : Ending.returned (.bool a) = .returned (.bool b) := by rw [h]
theorem ret_int {k : IntKind} {a b : Int} (h : a = b) : Ending.returned (.int k a) = .returned (.int k b) := by rw [h]
end Go.Proofs.Ytcahnffgpmanpaa
