/-
  No cell of these rows narrows 'for every input' (looked for: loops, veiled, ifaces, maps, wideKeys, modest, calm, conditions, laid).
  DERIVED. THE GIVEN ROWS OF THIS SEAT. 3 by the template 'for every input the law returns true; each argument reads behind the call as it read before'; 0 by the template 'total and deterministic' (their statements: YtfmbfbbmhnplcaaTotals.lean).
  GIVEN WITH THE SEED: the statements are not yours to turn. If you find one false, say at which input.
  Laid BY PROGRAM, IN A SANDBOX (cutbox-rows.mjs): the forced cells as the released guide's own fill.sh prints them over the translation c85bdd3b0b4ad118… (all of the seat's roots in one cut). By AI agents, Wed Nov 11 2026. No macro, syntax, notation, axiom, sorry.
-/
import Derived.Test.YtfmbfbbmhnplcaaChecked
import GoSem.Claim
import GoSem.ClaimJoined
import GoSem.ClaimMapViews
import Derived.JoinedTies
import Derived.KernelRfl
namespace Go.Proofs.Ytfmbfbbmhnplcaa
/- THE CELL 'sum', in the pinned program and in every row, IS THE sha256 OF THE DUMP (.gsa) THAT YtfmbfbbmhnplcaaProg.lean LOADS. Nothing in Lean hashes anything: it is a label: what it is worth is what the hold of that sum in a sandbox is worth. -/
noncomputable def Try.pinned : Pinned := { name := "ytfmbfbbmhnplcaa", sum := "c85bdd3b0b4ad11812b5e52eee79d8d061dd0fbbe157b10d11b56598e646c1c9", checked := Try.checked }
namespace Rows
def none {H : Type} : Left H := { results := [], args := [] }

/-- 'laws.FnExactCanCompare': WHATEVER THE INPUT: true; the input reads as it did. -/
def fnExactCanCompareSpec : ChangeSpec := { name := "fnExactCanCompare", fn := fun _ => fun
  | [d1, d2] => { results := [.lit (.bool true)], args := [d1, d2] }
  | _ => none }
def fnExactCanCompareRow : OpenClaim := { program := "ytfmbfbbmhnplcaa", sum := "c85bdd3b0b4ad11812b5e52eee79d8d061dd0fbbe157b10d11b56598e646c1c9", func := "loop.example/wovenprograms/laws.FnExactCanCompare", spec := "fnExactCanCompare", inPlace := ["internal/bytealg.IndexByteString", "internal/abi.NoEscape"], unfollowed := true, recurses := true, apart := false }
def FnExactCanCompareSaid : Prop := fnExactCanCompareRow.holds Try.pinned (OpenSpec.ofChange fnExactCanCompareSpec)

/-- ITS FALSE NEIGHBOUR: 'it returns false'. Refute it at one input. -/
def fnExactCanCompareWrong : ChangeSpec := { name := "fnExactCanCompare", fn := fun _ => fun
  | [d1, d2] => { results := [.lit (.bool false)], args := [d1, d2] }
  | _ => none }
def FnExactCanCompareWrongFalsely : Prop := fnExactCanCompareRow.holds Try.pinned (OpenSpec.ofChange fnExactCanCompareWrong)

/-- 'laws.FnExactOppositeOf': WHATEVER THE INPUT: true; the input reads as it did. -/
def fnExactOppositeOfSpec : ChangeSpec := { name := "fnExactOppositeOf", fn := fun _ => fun
  | [d] => { results := [.lit (.bool true)], args := [d] }
  | _ => none }
def fnExactOppositeOfRow : OpenClaim := { program := "ytfmbfbbmhnplcaa", sum := "c85bdd3b0b4ad11812b5e52eee79d8d061dd0fbbe157b10d11b56598e646c1c9", func := "loop.example/wovenprograms/laws.FnExactOppositeOf", spec := "fnExactOppositeOf", inPlace := ["internal/abi.NoEscape", "internal/bytealg.MakeNoZero"], unfollowed := true, recurses := true, apart := false }
def FnExactOppositeOfSaid : Prop := fnExactOppositeOfRow.holds Try.pinned (OpenSpec.ofChange fnExactOppositeOfSpec)

/-- ITS FALSE NEIGHBOUR: 'it returns false'. Refute it at one input. -/
def fnExactOppositeOfWrong : ChangeSpec := { name := "fnExactOppositeOf", fn := fun _ => fun
  | [d] => { results := [.lit (.bool false)], args := [d] }
  | _ => none }
def FnExactOppositeOfWrongFalsely : Prop := fnExactOppositeOfRow.holds Try.pinned (OpenSpec.ofChange fnExactOppositeOfWrong)

/-- 'laws.FnExactCutNames': WHATEVER THE INPUT: true; the input reads as it did. -/
def fnExactCutNamesSpec : ChangeSpec := { name := "fnExactCutNames", fn := fun _ => fun
  | [d] => { results := [.lit (.bool true)], args := [d] }
  | _ => none }
def fnExactCutNamesRow : OpenClaim := { program := "ytfmbfbbmhnplcaa", sum := "c85bdd3b0b4ad11812b5e52eee79d8d061dd0fbbe157b10d11b56598e646c1c9", func := "loop.example/wovenprograms/laws.FnExactCutNames", spec := "fnExactCutNames", inPlace := ["internal/bytealg.IndexByteString", "internal/abi.NoEscape"], unfollowed := true, recurses := true, apart := false }
def FnExactCutNamesSaid : Prop := fnExactCutNamesRow.holds Try.pinned (OpenSpec.ofChange fnExactCutNamesSpec)

/-- ITS FALSE NEIGHBOUR: 'it returns false'. Refute it at one input. -/
def fnExactCutNamesWrong : ChangeSpec := { name := "fnExactCutNames", fn := fun _ => fun
  | [d] => { results := [.lit (.bool false)], args := [d] }
  | _ => none }
def FnExactCutNamesWrongFalsely : Prop := fnExactCutNamesRow.holds Try.pinned (OpenSpec.ofChange fnExactCutNamesWrong)

/- THE SECOND FORM. 'bulk': how many values and letters a reading holds, each counted each time it is reached (what is shared counts as often as it is met; a slice's spare places count too). A statement '..UptoSaid' is the law's where the arguments, and the package variables that the reading takes, are together of bulk at most 1048576: NARROWER than '..Said'. Prove '..Said' where nothing that the law and all that it calls make is longer than what came in: it says more and counts as full. Else prove '..UptoSaid'. A law counts once. -/
mutual
def uptoBulk {H : Type} : DataW H → Nat
  | .lit (.string bytes) => bytes.length + 1
  | .lit _ => 1
  | .nil => 1
  | .ptr d => uptoBulk d + 1
  | .slice elems spare => uptoBulkAll elems + uptoBulkAll spare + 1
  | .agg parts => uptoBulkAll parts + 1
  | .iface _ d => uptoBulk d + 1
  | .map entries => uptoBulkEntries entries + 1
  | .held _ => 1
def uptoBulkAll {H : Type} : List (DataW H) → Nat
  | [] => 0
  | d :: r => uptoBulk d + uptoBulkAll r
def uptoBulkEntries {H : Type} : List (Lit × DataW H) → Nat
  | [] => 0
  | x :: r => uptoBulkEntry x + uptoBulkEntries r
def uptoBulkEntry {H : Type} : Lit × DataW H → Nat
  | (.string bytes, d) => bytes.length + uptoBulk d + 1
  | (_, d) => uptoBulk d + 1
 end
def uptoSmall : (H : Type) → List (DataW H) → Bool := fun _ ds => decide (uptoBulkAll ds ≤ 1048576)
def OpenSpec.upto (s : _root_.Go.ChangeSpec) : _root_.Go.OpenSpec := { _root_.Go.OpenSpec.ofChange s with cond := some uptoSmall }

/-- 'laws.FnExactCanCompare', WHERE WHAT IT READS IS OF BULK AT MOST 1048576: true; the input reads as it did. -/
def fnExactCanCompareUptoRow : OpenClaim := { program := "ytfmbfbbmhnplcaa", sum := "c85bdd3b0b4ad11812b5e52eee79d8d061dd0fbbe157b10d11b56598e646c1c9", func := "loop.example/wovenprograms/laws.FnExactCanCompare", spec := "fnExactCanCompare", inPlace := ["internal/bytealg.IndexByteString", "internal/abi.NoEscape"], unfollowed := true, recurses := true, apart := false, narrowed := true }
def FnExactCanCompareUptoSaid : Prop := fnExactCanCompareUptoRow.holds Try.pinned (OpenSpec.upto fnExactCanCompareSpec)

/-- 'laws.FnExactOppositeOf', WHERE WHAT IT READS IS OF BULK AT MOST 1048576: true; the input reads as it did. -/
def fnExactOppositeOfUptoRow : OpenClaim := { program := "ytfmbfbbmhnplcaa", sum := "c85bdd3b0b4ad11812b5e52eee79d8d061dd0fbbe157b10d11b56598e646c1c9", func := "loop.example/wovenprograms/laws.FnExactOppositeOf", spec := "fnExactOppositeOf", inPlace := ["internal/abi.NoEscape", "internal/bytealg.MakeNoZero"], unfollowed := true, recurses := true, apart := false, narrowed := true }
def FnExactOppositeOfUptoSaid : Prop := fnExactOppositeOfUptoRow.holds Try.pinned (OpenSpec.upto fnExactOppositeOfSpec)

/-- 'laws.FnExactCutNames', WHERE WHAT IT READS IS OF BULK AT MOST 1048576: true; the input reads as it did. -/
def fnExactCutNamesUptoRow : OpenClaim := { program := "ytfmbfbbmhnplcaa", sum := "c85bdd3b0b4ad11812b5e52eee79d8d061dd0fbbe157b10d11b56598e646c1c9", func := "loop.example/wovenprograms/laws.FnExactCutNames", spec := "fnExactCutNames", inPlace := ["internal/bytealg.IndexByteString", "internal/abi.NoEscape"], unfollowed := true, recurses := true, apart := false, narrowed := true }
def FnExactCutNamesUptoSaid : Prop := fnExactCutNamesUptoRow.holds Try.pinned (OpenSpec.upto fnExactCutNamesSpec)

end Rows
end Go.Proofs.Ytfmbfbbmhnplcaa
