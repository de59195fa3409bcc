/-
  NARROWER THAN 'FOR EVERY INPUT', by the rows' own cells (each row's printed sentence says how): FnProceeds: ifaces, laid · FnExactAroundOf: ifaces, laid.
  DERIVED. THE GIVEN ROWS OF THIS SEAT. 2 by the template 'for every input the law returns true; each argument reads behind the call as it read before'; 0 by the template 'total and deterministic' (their statements: YtecifbncfglckaaDoorTotals.lean).
  GIVEN WITH THE SEED: the statements are not yours to turn. If you find one false, say at which input.
  Laid BY PROGRAM, IN A SANDBOX (cutbox-rows.mjs): the forced cells as the released guide's own fill.sh prints them over the translation 61a81f1dda160995… (all of the seat's roots in one cut). By AI agents, Wed Nov 11 2026. No macro, syntax, notation, axiom, sorry.
-/
import Derived.Test.YtecifbncfglckaaDoorChecked
import GoSem.Claim
import GoSem.ClaimJoined
import GoSem.ClaimMapViews
import Derived.JoinedTies
import Derived.KernelRfl
namespace Go.Proofs.YtecifbncfglckaaDoor
/- THE CELL 'sum', in the pinned program and in every row, IS THE sha256 OF THE DUMP (.gsa) THAT YtecifbncfglckaaDoorProg.lean LOADS. Nothing in Lean hashes anything: it is a label: what it is worth is what the hold of that sum in a sandbox is worth. -/
noncomputable def Tryd.pinned : Pinned := { name := "ytecifbncfglckaadoor", sum := "61a81f1dda160995ec3dce21f7d3281d669bf502dbb4ffa4a1e7a319b8131c29", checked := Tryd.checked }
namespace Rows
def none {H : Type} : Left H := { results := [], args := [] }

/- WHAT THE LISTED PACKAGE-LEVEL VARIABLES READ AS WHEN THE CALL BEGINS. Each datum BY PROGRAM (the guide's laid-datum.mjs) off the statement by which the dump's own 'gosem.cut.vars' lays the variable. In a bare row this is a premise. The card (YtecifbncfglckaaDoorCards.lean) ties it to the program's text. -/
def laid_loop_example_wovenprograms_impl_errKind {H : Type} : DataW H := .iface "*errors.errorString" (.ptr (.agg [.lit (.string [110, 111, 32, 107, 105, 110, 100, 32, 111, 102, 32, 97, 100, 118, 105, 99, 101])]))
def laid_loop_example_wovenprograms_impl_errCut {H : Type} : DataW H := .iface "*errors.errorString" (.ptr (.agg [.lit (.string [110, 111, 32, 99, 117, 116])]))
def laid_loop_example_wovenprograms_impl_errBody {H : Type} : DataW H := .iface "*errors.errorString" (.ptr (.agg [.lit (.string [110, 111, 32, 98, 111, 100, 121, 32, 111, 102, 32, 97, 100, 118, 105, 99, 101])]))
def laid_loop_example_wovenprograms_impl_errCalls {H : Type} : DataW H := .iface "*errors.errorString" (.ptr (.agg [.lit (.string [97, 32, 98, 111, 100, 121, 32, 116, 104, 97, 116, 32, 99, 97, 108, 108, 115])]))
def laid_loop_example_wovenprograms_impl_errProceeds {H : Type} : DataW H := .iface "*errors.errorString" (.ptr (.agg [.lit (.string [97, 32, 98, 111, 100, 121, 32, 116, 104, 97, 116, 32, 112, 114, 111, 99, 101, 101, 100, 115])]))

/-- 'laws.FnProceeds': WHATEVER THE INPUT: true; the input reads as it did. -/
def fnProceedsSpec : ChangeSpec := { name := "fnProceeds", vars := ["loop.example/wovenprograms/impl.errCut", "loop.example/wovenprograms/impl.errBody", "loop.example/wovenprograms/impl.errKind", "loop.example/wovenprograms/impl.errCalls", "loop.example/wovenprograms/impl.errProceeds"], fn := fun _ => fun
  | [d, g1, g2, g3, g4, g5] => { results := [.lit (.bool true)], args := [d], vars := [g1, g2, g3, g4, g5] }
  | _ => none }
def fnProceedsRow : OpenClaim := { program := "ytecifbncfglckaadoor", sum := "61a81f1dda160995ec3dce21f7d3281d669bf502dbb4ffa4a1e7a319b8131c29", func := "loop.example/wovenprograms/laws.FnProceeds", spec := "fnProceeds", inPlace := ["internal/bytealg.IndexByteString", "internal/bytealg.IndexString", "internal/reflectlite.TypeOf"], unfollowed := true, recurses := true, named := ["loop.example/wovenprograms/impl.errCut", "loop.example/wovenprograms/impl.errBody", "loop.example/wovenprograms/impl.errKind", "loop.example/wovenprograms/impl.errCalls", "loop.example/wovenprograms/impl.errProceeds", "internal/bytealg.MaxLen"], ifaces := true, apart := false, laid := [("loop.example/wovenprograms/impl.errKind", laid_loop_example_wovenprograms_impl_errKind), ("loop.example/wovenprograms/impl.errCut", laid_loop_example_wovenprograms_impl_errCut), ("loop.example/wovenprograms/impl.errBody", laid_loop_example_wovenprograms_impl_errBody), ("loop.example/wovenprograms/impl.errCalls", laid_loop_example_wovenprograms_impl_errCalls), ("loop.example/wovenprograms/impl.errProceeds", laid_loop_example_wovenprograms_impl_errProceeds)] }
def FnProceedsSaid : Prop := fnProceedsRow.holds Tryd.pinned (OpenSpec.ofChange fnProceedsSpec)

/-- ITS FALSE NEIGHBOUR: 'it returns false'. Refute it at one input. -/
def fnProceedsWrong : ChangeSpec := { name := "fnProceeds", vars := ["loop.example/wovenprograms/impl.errCut", "loop.example/wovenprograms/impl.errBody", "loop.example/wovenprograms/impl.errKind", "loop.example/wovenprograms/impl.errCalls", "loop.example/wovenprograms/impl.errProceeds"], fn := fun _ => fun
  | [d, g1, g2, g3, g4, g5] => { results := [.lit (.bool false)], args := [d], vars := [g1, g2, g3, g4, g5] }
  | _ => none }
def FnProceedsWrongFalsely : Prop := fnProceedsRow.holds Tryd.pinned (OpenSpec.ofChange fnProceedsWrong)

/-- 'laws.FnExactAroundOf': WHATEVER THE INPUT: true; the input reads as it did. -/
def fnExactAroundOfSpec : ChangeSpec := { name := "fnExactAroundOf", vars := ["loop.example/wovenprograms/impl.errCut", "loop.example/wovenprograms/impl.errBody", "loop.example/wovenprograms/impl.errKind", "loop.example/wovenprograms/impl.errCalls", "loop.example/wovenprograms/impl.errProceeds"], fn := fun _ => fun
  | [d, g1, g2, g3, g4, g5] => { results := [.lit (.bool true)], args := [d], vars := [g1, g2, g3, g4, g5] }
  | _ => none }
def fnExactAroundOfRow : OpenClaim := { program := "ytecifbncfglckaadoor", sum := "61a81f1dda160995ec3dce21f7d3281d669bf502dbb4ffa4a1e7a319b8131c29", func := "loop.example/wovenprograms/laws.FnExactAroundOf", spec := "fnExactAroundOf", inPlace := ["internal/bytealg.IndexByteString", "internal/bytealg.IndexString", "internal/reflectlite.TypeOf", "internal/abi.NoEscape"], unfollowed := true, recurses := true, named := ["loop.example/wovenprograms/impl.errCut", "loop.example/wovenprograms/impl.errBody", "loop.example/wovenprograms/impl.errKind", "loop.example/wovenprograms/impl.errCalls", "loop.example/wovenprograms/impl.errProceeds", "internal/bytealg.MaxLen"], ifaces := true, apart := false, laid := [("loop.example/wovenprograms/impl.errKind", laid_loop_example_wovenprograms_impl_errKind), ("loop.example/wovenprograms/impl.errCut", laid_loop_example_wovenprograms_impl_errCut), ("loop.example/wovenprograms/impl.errBody", laid_loop_example_wovenprograms_impl_errBody), ("loop.example/wovenprograms/impl.errCalls", laid_loop_example_wovenprograms_impl_errCalls), ("loop.example/wovenprograms/impl.errProceeds", laid_loop_example_wovenprograms_impl_errProceeds)] }
def FnExactAroundOfSaid : Prop := fnExactAroundOfRow.holds Tryd.pinned (OpenSpec.ofChange fnExactAroundOfSpec)

/-- ITS FALSE NEIGHBOUR: 'it returns false'. Refute it at one input. -/
def fnExactAroundOfWrong : ChangeSpec := { name := "fnExactAroundOf", vars := ["loop.example/wovenprograms/impl.errCut", "loop.example/wovenprograms/impl.errBody", "loop.example/wovenprograms/impl.errKind", "loop.example/wovenprograms/impl.errCalls", "loop.example/wovenprograms/impl.errProceeds"], fn := fun _ => fun
  | [d, g1, g2, g3, g4, g5] => { results := [.lit (.bool false)], args := [d], vars := [g1, g2, g3, g4, g5] }
  | _ => none }
def FnExactAroundOfWrongFalsely : Prop := fnExactAroundOfRow.holds Tryd.pinned (OpenSpec.ofChange fnExactAroundOfWrong)

/- THE SECOND FORM. 'bulk': how many values and letters a reading holds, each counted each time it is reached (what is shared counts as often as it is met; a slice's spare places count too). A statement '..UptoSaid' is the law's where the arguments, and the package variables that the reading takes, are together of bulk at most 1048576: NARROWER than '..Said'. Prove '..Said' where nothing that the law and all that it calls make is longer than what came in: it says more and counts as full. Else prove '..UptoSaid'. A law counts once. -/
mutual
def uptoBulk {H : Type} : DataW H → Nat
  | .lit (.string bytes) => bytes.length + 1
  | .lit _ => 1
  | .nil => 1
  | .ptr d => uptoBulk d + 1
  | .slice elems spare => uptoBulkAll elems + uptoBulkAll spare + 1
  | .agg parts => uptoBulkAll parts + 1
  | .iface _ d => uptoBulk d + 1
  | .map entries => uptoBulkEntries entries + 1
  | .held _ => 1
def uptoBulkAll {H : Type} : List (DataW H) → Nat
  | [] => 0
  | d :: r => uptoBulk d + uptoBulkAll r
def uptoBulkEntries {H : Type} : List (Lit × DataW H) → Nat
  | [] => 0
  | x :: r => uptoBulkEntry x + uptoBulkEntries r
def uptoBulkEntry {H : Type} : Lit × DataW H → Nat
  | (.string bytes, d) => bytes.length + uptoBulk d + 1
  | (_, d) => uptoBulk d + 1
 end
def uptoSmall : (H : Type) → List (DataW H) → Bool := fun _ ds => decide (uptoBulkAll ds ≤ 1048576)
def OpenSpec.upto (s : _root_.Go.ChangeSpec) : _root_.Go.OpenSpec := { _root_.Go.OpenSpec.ofChange s with cond := some uptoSmall }

/-- 'laws.FnProceeds', WHERE WHAT IT READS IS OF BULK AT MOST 1048576: true; the input reads as it did. -/
def fnProceedsUptoRow : OpenClaim := { program := "ytecifbncfglckaadoor", sum := "61a81f1dda160995ec3dce21f7d3281d669bf502dbb4ffa4a1e7a319b8131c29", func := "loop.example/wovenprograms/laws.FnProceeds", spec := "fnProceeds", inPlace := ["internal/bytealg.IndexByteString", "internal/bytealg.IndexString", "internal/reflectlite.TypeOf"], unfollowed := true, recurses := true, named := ["loop.example/wovenprograms/impl.errCut", "loop.example/wovenprograms/impl.errBody", "loop.example/wovenprograms/impl.errKind", "loop.example/wovenprograms/impl.errCalls", "loop.example/wovenprograms/impl.errProceeds", "internal/bytealg.MaxLen"], ifaces := true, apart := false, laid := [("loop.example/wovenprograms/impl.errKind", laid_loop_example_wovenprograms_impl_errKind), ("loop.example/wovenprograms/impl.errCut", laid_loop_example_wovenprograms_impl_errCut), ("loop.example/wovenprograms/impl.errBody", laid_loop_example_wovenprograms_impl_errBody), ("loop.example/wovenprograms/impl.errCalls", laid_loop_example_wovenprograms_impl_errCalls), ("loop.example/wovenprograms/impl.errProceeds", laid_loop_example_wovenprograms_impl_errProceeds)], narrowed := true }
def FnProceedsUptoSaid : Prop := fnProceedsUptoRow.holds Tryd.pinned (OpenSpec.upto fnProceedsSpec)

/-- 'laws.FnExactAroundOf', WHERE WHAT IT READS IS OF BULK AT MOST 1048576: true; the input reads as it did. -/
def fnExactAroundOfUptoRow : OpenClaim := { program := "ytecifbncfglckaadoor", sum := "61a81f1dda160995ec3dce21f7d3281d669bf502dbb4ffa4a1e7a319b8131c29", func := "loop.example/wovenprograms/laws.FnExactAroundOf", spec := "fnExactAroundOf", inPlace := ["internal/bytealg.IndexByteString", "internal/bytealg.IndexString", "internal/reflectlite.TypeOf", "internal/abi.NoEscape"], unfollowed := true, recurses := true, named := ["loop.example/wovenprograms/impl.errCut", "loop.example/wovenprograms/impl.errBody", "loop.example/wovenprograms/impl.errKind", "loop.example/wovenprograms/impl.errCalls", "loop.example/wovenprograms/impl.errProceeds", "internal/bytealg.MaxLen"], ifaces := true, apart := false, laid := [("loop.example/wovenprograms/impl.errKind", laid_loop_example_wovenprograms_impl_errKind), ("loop.example/wovenprograms/impl.errCut", laid_loop_example_wovenprograms_impl_errCut), ("loop.example/wovenprograms/impl.errBody", laid_loop_example_wovenprograms_impl_errBody), ("loop.example/wovenprograms/impl.errCalls", laid_loop_example_wovenprograms_impl_errCalls), ("loop.example/wovenprograms/impl.errProceeds", laid_loop_example_wovenprograms_impl_errProceeds)], narrowed := true }
def FnExactAroundOfUptoSaid : Prop := fnExactAroundOfUptoRow.holds Tryd.pinned (OpenSpec.upto fnExactAroundOfSpec)

end Rows
end Go.Proofs.YtecifbncfglckaaDoor
