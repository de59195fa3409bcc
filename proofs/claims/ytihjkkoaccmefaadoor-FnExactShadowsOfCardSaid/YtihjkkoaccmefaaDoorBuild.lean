/- A strings.Builder that a call has made: copyCheck and WriteString, walked in this translation; String by the library's contract. Condition: what is held and written takes at most 2^47 bytes. -/
import Derived.Test.YtihjkkoaccmefaaDoorBuild0
import Derived.Test.YtihjkkoaccmefaaDoorShelf
import Derived.Test.YtihjkkoaccmefaaDoorProg
import Derived.Lib.Builder
import Derived.Lib.AppendStr
import Derived.WalkKit
import Derived.WalkSpells
import Derived.WalkLawsBesides
import Derived.Laws.Externs
import Derived.Lib.Hide
namespace Go.Proofs.YtihjkkoaccmefaaDoor
open Go.RowKit

end Go.Proofs.YtihjkkoaccmefaaDoor
