/-
  NARROWER THAN 'FOR EVERY INPUT', by the rows' own cells (each row's printed sentence says how): FnWithBody: laid · FnExactMergeAdvice: ifaces, laid.
  DERIVED. THE GIVEN ROWS OF THIS SEAT. 2 by the template 'for every input the law returns true; each argument reads behind the call as it read before'; 0 by the template 'total and deterministic' (their statements: YthkokokeppoieaaGreatDoorTotals.lean).
  GIVEN WITH THE SEED: the statements are not yours to turn. If you find one false, say at which input.
  Laid BY PROGRAM, IN A SANDBOX (cutbox-rows.mjs): the forced cells as the released guide's own fill.sh prints them over the translation dbd06c5b97164200… (all of the seat's roots in one cut). By AI agents, Wed Nov 11 2026. No macro, syntax, notation, axiom, sorry.
-/
import Derived.Test.YthkokokeppoieaaGreatDoorChecked
import GoSem.PinnedTables
import GoSem.Claim
import GoSem.ClaimJoined
import GoSem.ClaimMapViews
import Derived.JoinedTies
import Derived.KernelRfl
namespace Go.Proofs.YthkokokeppoieaaGreatDoor
/- THE CELL 'sum', in the pinned program and in every row, IS THE sha256 OF THE DUMP (.gsa) THAT YthkokokeppoieaaGreatDoorProg.lean LOADS. Nothing in Lean hashes anything: it is a label: what it is worth is what the hold of that sum in a sandbox is worth. -/
noncomputable def Tryz.pinned : Pinned := { name := "ythkokokeppoieaagreatdoor", sum := "dbd06c5b9716420033391b6b484d43a2abe221e73cfd7b1aa730d3dc5d51590d", checked := Tryz.checked }
namespace Rows
def none {H : Type} : Left H := { results := [], args := [] }

/- WHAT THE LISTED PACKAGE-LEVEL VARIABLES READ AS WHEN THE CALL BEGINS. Each datum BY PROGRAM (the guide's laid-datum.mjs) off the statement by which the dump's own 'gosem.cut.vars' lays the variable. In a bare row this is a premise. The card (YthkokokeppoieaaGreatDoorCards.lean) ties it to the program's text. -/
def laid_unicode_utf8_acceptRanges {H : Type} : DataW H := .agg [.agg [.lit (.int .u8 128), .lit (.int .u8 191)], .agg [.lit (.int .u8 160), .lit (.int .u8 191)], .agg [.lit (.int .u8 128), .lit (.int .u8 159)], .agg [.lit (.int .u8 144), .lit (.int .u8 191)], .agg [.lit (.int .u8 128), .lit (.int .u8 143)], .agg [.lit (.int .u8 0), .lit (.int .u8 0)], .agg [.lit (.int .u8 0), .lit (.int .u8 0)], .agg [.lit (.int .u8 0), .lit (.int .u8 0)], .agg [.lit (.int .u8 0), .lit (.int .u8 0)], .agg [.lit (.int .u8 0), .lit (.int .u8 0)], .agg [.lit (.int .u8 0), .lit (.int .u8 0)], .agg [.lit (.int .u8 0), .lit (.int .u8 0)], .agg [.lit (.int .u8 0), .lit (.int .u8 0)], .agg [.lit (.int .u8 0), .lit (.int .u8 0)], .agg [.lit (.int .u8 0), .lit (.int .u8 0)], .agg [.lit (.int .u8 0), .lit (.int .u8 0)]]
/-- One of Go's own tables, pinned by name: the form's constant. -/
def laid_unicode_utf8_first : DataW Unit := Go.Pinned.utf8First
def laid_loop_example_wovenprograms_impl_errKind {H : Type} : DataW H := .iface "*errors.errorString" (.ptr (.agg [.lit (.string [110, 111, 32, 107, 105, 110, 100, 32, 111, 102, 32, 97, 100, 118, 105, 99, 101])]))
def laid_loop_example_wovenprograms_impl_errCut {H : Type} : DataW H := .iface "*errors.errorString" (.ptr (.agg [.lit (.string [110, 111, 32, 99, 117, 116])]))
def laid_loop_example_wovenprograms_impl_errBody {H : Type} : DataW H := .iface "*errors.errorString" (.ptr (.agg [.lit (.string [110, 111, 32, 98, 111, 100, 121, 32, 111, 102, 32, 97, 100, 118, 105, 99, 101])]))
def laid_loop_example_wovenprograms_impl_errCalls {H : Type} : DataW H := .iface "*errors.errorString" (.ptr (.agg [.lit (.string [97, 32, 98, 111, 100, 121, 32, 116, 104, 97, 116, 32, 99, 97, 108, 108, 115])]))
def laid_loop_example_wovenprograms_impl_errProceeds {H : Type} : DataW H := .iface "*errors.errorString" (.ptr (.agg [.lit (.string [97, 32, 98, 111, 100, 121, 32, 116, 104, 97, 116, 32, 112, 114, 111, 99, 101, 101, 100, 115])]))

/-- 'laws.FnWithBody': WHATEVER THE INPUT: true; the input reads as it did. -/
def fnWithBodySpec : ChangeSpec := { name := "fnWithBody", fn := fun _ => fun
  | [d] => { results := [.lit (.bool true)], args := [d] }
  | _ => none }
def fnWithBodyRow : OpenClaim := { program := "ythkokokeppoieaagreatdoor", sum := "dbd06c5b9716420033391b6b484d43a2abe221e73cfd7b1aa730d3dc5d51590d", func := "loop.example/wovenprograms/laws.FnWithBody", spec := "fnWithBody", inPlace := ["internal/bytealg.CountString", "internal/bytealg.IndexByteString", "internal/bytealg.IndexString", "slices.overlaps[loop.example/wovenprograms/impl.procedure]", "internal/abi.NoEscape", "internal/bytealg.MakeNoZero"], unfollowed := true, recurses := true, named := ["unicode/utf8.first", "unicode/utf8.acceptRanges", "internal/bytealg.MaxLen"], apart := false, laid := [("unicode/utf8.acceptRanges", laid_unicode_utf8_acceptRanges), ("unicode/utf8.first", laid_unicode_utf8_first)] }
def FnWithBodySaid : Prop := fnWithBodyRow.holds Tryz.pinned (OpenSpec.ofChange fnWithBodySpec)

/-- ITS FALSE NEIGHBOUR: 'it returns false'. Refute it at one input. -/
def fnWithBodyWrong : ChangeSpec := { name := "fnWithBody", fn := fun _ => fun
  | [d] => { results := [.lit (.bool false)], args := [d] }
  | _ => none }
def FnWithBodyWrongFalsely : Prop := fnWithBodyRow.holds Tryz.pinned (OpenSpec.ofChange fnWithBodyWrong)

/-- 'laws.FnExactMergeAdvice': WHATEVER THE INPUT: true; the input reads as it did. -/
def fnExactMergeAdviceSpec : ChangeSpec := { name := "fnExactMergeAdvice", vars := ["loop.example/wovenprograms/impl.errCut", "loop.example/wovenprograms/impl.errBody", "loop.example/wovenprograms/impl.errKind", "loop.example/wovenprograms/impl.errCalls", "loop.example/wovenprograms/impl.errProceeds"], fn := fun _ => fun
  | [d1, d2, g1, g2, g3, g4, g5] => { results := [.lit (.bool true)], args := [d1, d2], vars := [g1, g2, g3, g4, g5] }
  | _ => none }
def fnExactMergeAdviceRow : OpenClaim := { program := "ythkokokeppoieaagreatdoor", sum := "dbd06c5b9716420033391b6b484d43a2abe221e73cfd7b1aa730d3dc5d51590d", func := "loop.example/wovenprograms/laws.FnExactMergeAdvice", spec := "fnExactMergeAdvice", inPlace := ["internal/bytealg.IndexByteString", "internal/bytealg.IndexString", "internal/reflectlite.TypeOf", "internal/bytealg.CountString", "internal/abi.NoEscape", "internal/bytealg.MakeNoZero"], unfollowed := true, recurses := true, named := ["loop.example/wovenprograms/impl.errCut", "loop.example/wovenprograms/impl.errBody", "loop.example/wovenprograms/impl.errKind", "loop.example/wovenprograms/impl.errCalls", "loop.example/wovenprograms/impl.errProceeds", "internal/bytealg.MaxLen", "unicode/utf8.first", "unicode/utf8.acceptRanges"], ifaces := true, apart := false, laid := [("unicode/utf8.acceptRanges", laid_unicode_utf8_acceptRanges), ("loop.example/wovenprograms/impl.errKind", laid_loop_example_wovenprograms_impl_errKind), ("loop.example/wovenprograms/impl.errCut", laid_loop_example_wovenprograms_impl_errCut), ("loop.example/wovenprograms/impl.errBody", laid_loop_example_wovenprograms_impl_errBody), ("loop.example/wovenprograms/impl.errCalls", laid_loop_example_wovenprograms_impl_errCalls), ("loop.example/wovenprograms/impl.errProceeds", laid_loop_example_wovenprograms_impl_errProceeds), ("unicode/utf8.first", laid_unicode_utf8_first)] }
def FnExactMergeAdviceSaid : Prop := fnExactMergeAdviceRow.holds Tryz.pinned (OpenSpec.ofChange fnExactMergeAdviceSpec)

/-- ITS FALSE NEIGHBOUR: 'it returns false'. Refute it at one input. -/
def fnExactMergeAdviceWrong : ChangeSpec := { name := "fnExactMergeAdvice", vars := ["loop.example/wovenprograms/impl.errCut", "loop.example/wovenprograms/impl.errBody", "loop.example/wovenprograms/impl.errKind", "loop.example/wovenprograms/impl.errCalls", "loop.example/wovenprograms/impl.errProceeds"], fn := fun _ => fun
  | [d1, d2, g1, g2, g3, g4, g5] => { results := [.lit (.bool false)], args := [d1, d2], vars := [g1, g2, g3, g4, g5] }
  | _ => none }
def FnExactMergeAdviceWrongFalsely : Prop := fnExactMergeAdviceRow.holds Tryz.pinned (OpenSpec.ofChange fnExactMergeAdviceWrong)

/- THE SECOND FORM. 'bulk': how many values and letters a reading holds, each counted each time it is reached (what is shared counts as often as it is met; a slice's spare places count too). A statement '..UptoSaid' is the law's where the arguments, and the package variables that the reading takes, are together of bulk at most 1048576: NARROWER than '..Said'. Prove '..Said' where nothing that the law and all that it calls make is longer than what came in: it says more and counts as full. Else prove '..UptoSaid'. A law counts once. -/
mutual
def uptoBulk {H : Type} : DataW H → Nat
  | .lit (.string bytes) => bytes.length + 1
  | .lit _ => 1
  | .nil => 1
  | .ptr d => uptoBulk d + 1
  | .slice elems spare => uptoBulkAll elems + uptoBulkAll spare + 1
  | .agg parts => uptoBulkAll parts + 1
  | .iface _ d => uptoBulk d + 1
  | .map entries => uptoBulkEntries entries + 1
  | .held _ => 1
def uptoBulkAll {H : Type} : List (DataW H) → Nat
  | [] => 0
  | d :: r => uptoBulk d + uptoBulkAll r
def uptoBulkEntries {H : Type} : List (Lit × DataW H) → Nat
  | [] => 0
  | x :: r => uptoBulkEntry x + uptoBulkEntries r
def uptoBulkEntry {H : Type} : Lit × DataW H → Nat
  | (.string bytes, d) => bytes.length + uptoBulk d + 1
  | (_, d) => uptoBulk d + 1
 end
def uptoSmall : (H : Type) → List (DataW H) → Bool := fun _ ds => decide (uptoBulkAll ds ≤ 1048576)
def OpenSpec.upto (s : _root_.Go.ChangeSpec) : _root_.Go.OpenSpec := { _root_.Go.OpenSpec.ofChange s with cond := some uptoSmall }

/-- 'laws.FnWithBody', WHERE WHAT IT READS IS OF BULK AT MOST 1048576: true; the input reads as it did. -/
def fnWithBodyUptoRow : OpenClaim := { program := "ythkokokeppoieaagreatdoor", sum := "dbd06c5b9716420033391b6b484d43a2abe221e73cfd7b1aa730d3dc5d51590d", func := "loop.example/wovenprograms/laws.FnWithBody", spec := "fnWithBody", inPlace := ["internal/bytealg.CountString", "internal/bytealg.IndexByteString", "internal/bytealg.IndexString", "slices.overlaps[loop.example/wovenprograms/impl.procedure]", "internal/abi.NoEscape", "internal/bytealg.MakeNoZero"], unfollowed := true, recurses := true, named := ["unicode/utf8.first", "unicode/utf8.acceptRanges", "internal/bytealg.MaxLen"], apart := false, laid := [("unicode/utf8.acceptRanges", laid_unicode_utf8_acceptRanges), ("unicode/utf8.first", laid_unicode_utf8_first)], narrowed := true }
def FnWithBodyUptoSaid : Prop := fnWithBodyUptoRow.holds Tryz.pinned (OpenSpec.upto fnWithBodySpec)

/-- 'laws.FnExactMergeAdvice', WHERE WHAT IT READS IS OF BULK AT MOST 1048576: true; the input reads as it did. -/
def fnExactMergeAdviceUptoRow : OpenClaim := { program := "ythkokokeppoieaagreatdoor", sum := "dbd06c5b9716420033391b6b484d43a2abe221e73cfd7b1aa730d3dc5d51590d", func := "loop.example/wovenprograms/laws.FnExactMergeAdvice", spec := "fnExactMergeAdvice", inPlace := ["internal/bytealg.IndexByteString", "internal/bytealg.IndexString", "internal/reflectlite.TypeOf", "internal/bytealg.CountString", "internal/abi.NoEscape", "internal/bytealg.MakeNoZero"], unfollowed := true, recurses := true, named := ["loop.example/wovenprograms/impl.errCut", "loop.example/wovenprograms/impl.errBody", "loop.example/wovenprograms/impl.errKind", "loop.example/wovenprograms/impl.errCalls", "loop.example/wovenprograms/impl.errProceeds", "internal/bytealg.MaxLen", "unicode/utf8.first", "unicode/utf8.acceptRanges"], ifaces := true, apart := false, laid := [("unicode/utf8.acceptRanges", laid_unicode_utf8_acceptRanges), ("loop.example/wovenprograms/impl.errKind", laid_loop_example_wovenprograms_impl_errKind), ("loop.example/wovenprograms/impl.errCut", laid_loop_example_wovenprograms_impl_errCut), ("loop.example/wovenprograms/impl.errBody", laid_loop_example_wovenprograms_impl_errBody), ("loop.example/wovenprograms/impl.errCalls", laid_loop_example_wovenprograms_impl_errCalls), ("loop.example/wovenprograms/impl.errProceeds", laid_loop_example_wovenprograms_impl_errProceeds), ("unicode/utf8.first", laid_unicode_utf8_first)], narrowed := true }
def FnExactMergeAdviceUptoSaid : Prop := fnExactMergeAdviceUptoRow.holds Tryz.pinned (OpenSpec.upto fnExactMergeAdviceSpec)

end Rows
end Go.Proofs.YthkokokeppoieaaGreatDoor
