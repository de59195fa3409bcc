/-
  NARROWER THAN 'FOR EVERY INPUT', by the rows' own cells (each row's printed sentence says how): FnAspectText: ifaces, laid · FnPlaceAdvice: ifaces, laid · FnExactPlaceAdvice: ifaces, laid.
  DERIVED. THE GIVEN ROWS OF THIS SEAT. 3 by the template 'for every input the law returns true; each argument reads behind the call as it read before'; 0 by the template 'total and deterministic' (their statements: YtkdnbdgpcgookaaGreatDoorTotals.lean).
  GIVEN WITH THE SEED: the statements are not yours to turn. If you find one false, say at which input.
  Laid BY PROGRAM, IN A SANDBOX (cutbox-rows.mjs): the forced cells as the released guide's own fill.sh prints them over the translation fdb4f50ea70effa2… (all of the seat's roots in one cut). By AI agents, Wed Nov 11 2026. No macro, syntax, notation, axiom, sorry.
-/
import Derived.Test.YtkdnbdgpcgookaaGreatDoorChecked
import GoSem.Claim
import GoSem.ClaimJoined
import GoSem.ClaimMapViews
import Derived.JoinedTies
import Derived.KernelRfl
namespace Go.Proofs.YtkdnbdgpcgookaaGreatDoor
/- THE CELL 'sum', in the pinned program and in every row, IS THE sha256 OF THE DUMP (.gsa) THAT YtkdnbdgpcgookaaGreatDoorProg.lean LOADS. Nothing in Lean hashes anything: it is a label: what it is worth is what the hold of that sum in a sandbox is worth. -/
noncomputable def Tryz.pinned : Pinned := { name := "ytkdnbdgpcgookaagreatdoor", sum := "fdb4f50ea70effa267c60c5a7ad5139329aea87d0ced0ad7f64573df4607adfd", checked := Tryz.checked }
namespace Rows
def none {H : Type} : Left H := { results := [], args := [] }

/- WHAT THE LISTED PACKAGE-LEVEL VARIABLES READ AS WHEN THE CALL BEGINS. Each datum BY PROGRAM (the guide's laid-datum.mjs) off the statement by which the dump's own 'gosem.cut.vars' lays the variable. In a bare row this is a premise. The card (YtkdnbdgpcgookaaGreatDoorCards.lean) ties it to the program's text. -/
def laid_loop_example_wovenprograms_impl_errKind {H : Type} : DataW H := .iface "*errors.errorString" (.ptr (.agg [.lit (.string [110, 111, 32, 107, 105, 110, 100, 32, 111, 102, 32, 97, 100, 118, 105, 99, 101])]))
def laid_loop_example_wovenprograms_impl_errCut {H : Type} : DataW H := .iface "*errors.errorString" (.ptr (.agg [.lit (.string [110, 111, 32, 99, 117, 116])]))
def laid_loop_example_wovenprograms_impl_errBody {H : Type} : DataW H := .iface "*errors.errorString" (.ptr (.agg [.lit (.string [110, 111, 32, 98, 111, 100, 121, 32, 111, 102, 32, 97, 100, 118, 105, 99, 101])]))
def laid_loop_example_wovenprograms_impl_errCalls {H : Type} : DataW H := .iface "*errors.errorString" (.ptr (.agg [.lit (.string [97, 32, 98, 111, 100, 121, 32, 116, 104, 97, 116, 32, 99, 97, 108, 108, 115])]))
def laid_loop_example_wovenprograms_impl_errProceeds {H : Type} : DataW H := .iface "*errors.errorString" (.ptr (.agg [.lit (.string [97, 32, 98, 111, 100, 121, 32, 116, 104, 97, 116, 32, 112, 114, 111, 99, 101, 101, 100, 115])]))

/-- 'laws.FnAspectText': WHATEVER THE INPUT: true; the input reads as it did. -/
def fnAspectTextSpec : ChangeSpec := { name := "fnAspectText", vars := ["loop.example/wovenprograms/impl.errCut", "loop.example/wovenprograms/impl.errBody", "loop.example/wovenprograms/impl.errKind", "loop.example/wovenprograms/impl.errCalls", "loop.example/wovenprograms/impl.errProceeds"], fn := fun _ => fun
  | [d1, d2, g1, g2, g3, g4, g5] => { results := [.lit (.bool true)], args := [d1, d2], vars := [g1, g2, g3, g4, g5] }
  | _ => none }
def fnAspectTextRow : OpenClaim := { program := "ytkdnbdgpcgookaagreatdoor", sum := "fdb4f50ea70effa267c60c5a7ad5139329aea87d0ced0ad7f64573df4607adfd", func := "loop.example/wovenprograms/laws.FnAspectText", spec := "fnAspectText", inPlace := ["internal/bytealg.IndexByteString", "internal/bytealg.IndexString", "internal/reflectlite.TypeOf"], unfollowed := true, recurses := true, named := ["loop.example/wovenprograms/impl.errCut", "loop.example/wovenprograms/impl.errBody", "loop.example/wovenprograms/impl.errKind", "loop.example/wovenprograms/impl.errCalls", "loop.example/wovenprograms/impl.errProceeds", "internal/bytealg.MaxLen"], ifaces := true, apart := false, laid := [("loop.example/wovenprograms/impl.errKind", laid_loop_example_wovenprograms_impl_errKind), ("loop.example/wovenprograms/impl.errCut", laid_loop_example_wovenprograms_impl_errCut), ("loop.example/wovenprograms/impl.errBody", laid_loop_example_wovenprograms_impl_errBody), ("loop.example/wovenprograms/impl.errCalls", laid_loop_example_wovenprograms_impl_errCalls), ("loop.example/wovenprograms/impl.errProceeds", laid_loop_example_wovenprograms_impl_errProceeds)] }
def FnAspectTextSaid : Prop := fnAspectTextRow.holds Tryz.pinned (OpenSpec.ofChange fnAspectTextSpec)

/-- ITS FALSE NEIGHBOUR: 'it returns false'. Refute it at one input. -/
def fnAspectTextWrong : ChangeSpec := { name := "fnAspectText", vars := ["loop.example/wovenprograms/impl.errCut", "loop.example/wovenprograms/impl.errBody", "loop.example/wovenprograms/impl.errKind", "loop.example/wovenprograms/impl.errCalls", "loop.example/wovenprograms/impl.errProceeds"], fn := fun _ => fun
  | [d1, d2, g1, g2, g3, g4, g5] => { results := [.lit (.bool false)], args := [d1, d2], vars := [g1, g2, g3, g4, g5] }
  | _ => none }
def FnAspectTextWrongFalsely : Prop := fnAspectTextRow.holds Tryz.pinned (OpenSpec.ofChange fnAspectTextWrong)

/-- 'laws.FnPlaceAdvice': WHATEVER THE INPUT: true; the input reads as it did. -/
def fnPlaceAdviceSpec : ChangeSpec := { name := "fnPlaceAdvice", vars := ["loop.example/wovenprograms/impl.errCut", "loop.example/wovenprograms/impl.errBody", "loop.example/wovenprograms/impl.errKind", "loop.example/wovenprograms/impl.errCalls", "loop.example/wovenprograms/impl.errProceeds"], fn := fun _ => fun
  | [d, g1, g2, g3, g4, g5] => { results := [.lit (.bool true)], args := [d], vars := [g1, g2, g3, g4, g5] }
  | _ => none }
def fnPlaceAdviceRow : OpenClaim := { program := "ytkdnbdgpcgookaagreatdoor", sum := "fdb4f50ea70effa267c60c5a7ad5139329aea87d0ced0ad7f64573df4607adfd", func := "loop.example/wovenprograms/laws.FnPlaceAdvice", spec := "fnPlaceAdvice", inPlace := ["internal/bytealg.IndexByteString", "internal/bytealg.IndexString", "internal/reflectlite.TypeOf", "internal/abi.NoEscape"], unfollowed := true, recurses := true, named := ["loop.example/wovenprograms/impl.errCut", "loop.example/wovenprograms/impl.errBody", "loop.example/wovenprograms/impl.errKind", "loop.example/wovenprograms/impl.errCalls", "loop.example/wovenprograms/impl.errProceeds", "internal/bytealg.MaxLen"], ifaces := true, apart := false, laid := [("loop.example/wovenprograms/impl.errKind", laid_loop_example_wovenprograms_impl_errKind), ("loop.example/wovenprograms/impl.errCut", laid_loop_example_wovenprograms_impl_errCut), ("loop.example/wovenprograms/impl.errBody", laid_loop_example_wovenprograms_impl_errBody), ("loop.example/wovenprograms/impl.errCalls", laid_loop_example_wovenprograms_impl_errCalls), ("loop.example/wovenprograms/impl.errProceeds", laid_loop_example_wovenprograms_impl_errProceeds)] }
def FnPlaceAdviceSaid : Prop := fnPlaceAdviceRow.holds Tryz.pinned (OpenSpec.ofChange fnPlaceAdviceSpec)

/-- ITS FALSE NEIGHBOUR: 'it returns false'. Refute it at one input. -/
def fnPlaceAdviceWrong : ChangeSpec := { name := "fnPlaceAdvice", vars := ["loop.example/wovenprograms/impl.errCut", "loop.example/wovenprograms/impl.errBody", "loop.example/wovenprograms/impl.errKind", "loop.example/wovenprograms/impl.errCalls", "loop.example/wovenprograms/impl.errProceeds"], fn := fun _ => fun
  | [d, g1, g2, g3, g4, g5] => { results := [.lit (.bool false)], args := [d], vars := [g1, g2, g3, g4, g5] }
  | _ => none }
def FnPlaceAdviceWrongFalsely : Prop := fnPlaceAdviceRow.holds Tryz.pinned (OpenSpec.ofChange fnPlaceAdviceWrong)

/-- 'laws.FnExactPlaceAdvice': WHATEVER THE INPUT: true; the input reads as it did. -/
def fnExactPlaceAdviceSpec : ChangeSpec := { name := "fnExactPlaceAdvice", vars := ["loop.example/wovenprograms/impl.errCut", "loop.example/wovenprograms/impl.errBody", "loop.example/wovenprograms/impl.errKind", "loop.example/wovenprograms/impl.errCalls", "loop.example/wovenprograms/impl.errProceeds"], fn := fun _ => fun
  | [d1, d2, g1, g2, g3, g4, g5] => { results := [.lit (.bool true)], args := [d1, d2], vars := [g1, g2, g3, g4, g5] }
  | _ => none }
def fnExactPlaceAdviceRow : OpenClaim := { program := "ytkdnbdgpcgookaagreatdoor", sum := "fdb4f50ea70effa267c60c5a7ad5139329aea87d0ced0ad7f64573df4607adfd", func := "loop.example/wovenprograms/laws.FnExactPlaceAdvice", spec := "fnExactPlaceAdvice", inPlace := ["internal/bytealg.IndexByteString", "internal/bytealg.IndexString", "internal/reflectlite.TypeOf", "internal/abi.NoEscape"], unfollowed := true, recurses := true, named := ["loop.example/wovenprograms/impl.errCut", "loop.example/wovenprograms/impl.errBody", "loop.example/wovenprograms/impl.errKind", "loop.example/wovenprograms/impl.errCalls", "loop.example/wovenprograms/impl.errProceeds", "internal/bytealg.MaxLen"], ifaces := true, apart := false, laid := [("loop.example/wovenprograms/impl.errKind", laid_loop_example_wovenprograms_impl_errKind), ("loop.example/wovenprograms/impl.errCut", laid_loop_example_wovenprograms_impl_errCut), ("loop.example/wovenprograms/impl.errBody", laid_loop_example_wovenprograms_impl_errBody), ("loop.example/wovenprograms/impl.errCalls", laid_loop_example_wovenprograms_impl_errCalls), ("loop.example/wovenprograms/impl.errProceeds", laid_loop_example_wovenprograms_impl_errProceeds)] }
def FnExactPlaceAdviceSaid : Prop := fnExactPlaceAdviceRow.holds Tryz.pinned (OpenSpec.ofChange fnExactPlaceAdviceSpec)

/-- ITS FALSE NEIGHBOUR: 'it returns false'. Refute it at one input. -/
def fnExactPlaceAdviceWrong : ChangeSpec := { name := "fnExactPlaceAdvice", vars := ["loop.example/wovenprograms/impl.errCut", "loop.example/wovenprograms/impl.errBody", "loop.example/wovenprograms/impl.errKind", "loop.example/wovenprograms/impl.errCalls", "loop.example/wovenprograms/impl.errProceeds"], fn := fun _ => fun
  | [d1, d2, g1, g2, g3, g4, g5] => { results := [.lit (.bool false)], args := [d1, d2], vars := [g1, g2, g3, g4, g5] }
  | _ => none }
def FnExactPlaceAdviceWrongFalsely : Prop := fnExactPlaceAdviceRow.holds Tryz.pinned (OpenSpec.ofChange fnExactPlaceAdviceWrong)

/- THE SECOND FORM. 'bulk': how many values and letters a reading holds, each counted each time it is reached (what is shared counts as often as it is met; a slice's spare places count too). A statement '..UptoSaid' is the law's where the arguments, and the package variables that the reading takes, are together of bulk at most 1048576: NARROWER than '..Said'. Prove '..Said' where nothing that the law and all that it calls make is longer than what came in: it says more and counts as full. Else prove '..UptoSaid'. A law counts once. -/
mutual
def uptoBulk {H : Type} : DataW H → Nat
  | .lit (.string bytes) => bytes.length + 1
  | .lit _ => 1
  | .nil => 1
  | .ptr d => uptoBulk d + 1
  | .slice elems spare => uptoBulkAll elems + uptoBulkAll spare + 1
  | .agg parts => uptoBulkAll parts + 1
  | .iface _ d => uptoBulk d + 1
  | .map entries => uptoBulkEntries entries + 1
  | .held _ => 1
def uptoBulkAll {H : Type} : List (DataW H) → Nat
  | [] => 0
  | d :: r => uptoBulk d + uptoBulkAll r
def uptoBulkEntries {H : Type} : List (Lit × DataW H) → Nat
  | [] => 0
  | x :: r => uptoBulkEntry x + uptoBulkEntries r
def uptoBulkEntry {H : Type} : Lit × DataW H → Nat
  | (.string bytes, d) => bytes.length + uptoBulk d + 1
  | (_, d) => uptoBulk d + 1
 end
def uptoSmall : (H : Type) → List (DataW H) → Bool := fun _ ds => decide (uptoBulkAll ds ≤ 1048576)
def OpenSpec.upto (s : _root_.Go.ChangeSpec) : _root_.Go.OpenSpec := { _root_.Go.OpenSpec.ofChange s with cond := some uptoSmall }

/-- 'laws.FnAspectText', WHERE WHAT IT READS IS OF BULK AT MOST 1048576: true; the input reads as it did. -/
def fnAspectTextUptoRow : OpenClaim := { program := "ytkdnbdgpcgookaagreatdoor", sum := "fdb4f50ea70effa267c60c5a7ad5139329aea87d0ced0ad7f64573df4607adfd", func := "loop.example/wovenprograms/laws.FnAspectText", spec := "fnAspectText", inPlace := ["internal/bytealg.IndexByteString", "internal/bytealg.IndexString", "internal/reflectlite.TypeOf"], unfollowed := true, recurses := true, named := ["loop.example/wovenprograms/impl.errCut", "loop.example/wovenprograms/impl.errBody", "loop.example/wovenprograms/impl.errKind", "loop.example/wovenprograms/impl.errCalls", "loop.example/wovenprograms/impl.errProceeds", "internal/bytealg.MaxLen"], ifaces := true, apart := false, laid := [("loop.example/wovenprograms/impl.errKind", laid_loop_example_wovenprograms_impl_errKind), ("loop.example/wovenprograms/impl.errCut", laid_loop_example_wovenprograms_impl_errCut), ("loop.example/wovenprograms/impl.errBody", laid_loop_example_wovenprograms_impl_errBody), ("loop.example/wovenprograms/impl.errCalls", laid_loop_example_wovenprograms_impl_errCalls), ("loop.example/wovenprograms/impl.errProceeds", laid_loop_example_wovenprograms_impl_errProceeds)], narrowed := true }
def FnAspectTextUptoSaid : Prop := fnAspectTextUptoRow.holds Tryz.pinned (OpenSpec.upto fnAspectTextSpec)

/-- 'laws.FnPlaceAdvice', WHERE WHAT IT READS IS OF BULK AT MOST 1048576: true; the input reads as it did. -/
def fnPlaceAdviceUptoRow : OpenClaim := { program := "ytkdnbdgpcgookaagreatdoor", sum := "fdb4f50ea70effa267c60c5a7ad5139329aea87d0ced0ad7f64573df4607adfd", func := "loop.example/wovenprograms/laws.FnPlaceAdvice", spec := "fnPlaceAdvice", inPlace := ["internal/bytealg.IndexByteString", "internal/bytealg.IndexString", "internal/reflectlite.TypeOf", "internal/abi.NoEscape"], unfollowed := true, recurses := true, named := ["loop.example/wovenprograms/impl.errCut", "loop.example/wovenprograms/impl.errBody", "loop.example/wovenprograms/impl.errKind", "loop.example/wovenprograms/impl.errCalls", "loop.example/wovenprograms/impl.errProceeds", "internal/bytealg.MaxLen"], ifaces := true, apart := false, laid := [("loop.example/wovenprograms/impl.errKind", laid_loop_example_wovenprograms_impl_errKind), ("loop.example/wovenprograms/impl.errCut", laid_loop_example_wovenprograms_impl_errCut), ("loop.example/wovenprograms/impl.errBody", laid_loop_example_wovenprograms_impl_errBody), ("loop.example/wovenprograms/impl.errCalls", laid_loop_example_wovenprograms_impl_errCalls), ("loop.example/wovenprograms/impl.errProceeds", laid_loop_example_wovenprograms_impl_errProceeds)], narrowed := true }
def FnPlaceAdviceUptoSaid : Prop := fnPlaceAdviceUptoRow.holds Tryz.pinned (OpenSpec.upto fnPlaceAdviceSpec)

/-- 'laws.FnExactPlaceAdvice', WHERE WHAT IT READS IS OF BULK AT MOST 1048576: true; the input reads as it did. -/
def fnExactPlaceAdviceUptoRow : OpenClaim := { program := "ytkdnbdgpcgookaagreatdoor", sum := "fdb4f50ea70effa267c60c5a7ad5139329aea87d0ced0ad7f64573df4607adfd", func := "loop.example/wovenprograms/laws.FnExactPlaceAdvice", spec := "fnExactPlaceAdvice", inPlace := ["internal/bytealg.IndexByteString", "internal/bytealg.IndexString", "internal/reflectlite.TypeOf", "internal/abi.NoEscape"], unfollowed := true, recurses := true, named := ["loop.example/wovenprograms/impl.errCut", "loop.example/wovenprograms/impl.errBody", "loop.example/wovenprograms/impl.errKind", "loop.example/wovenprograms/impl.errCalls", "loop.example/wovenprograms/impl.errProceeds", "internal/bytealg.MaxLen"], ifaces := true, apart := false, laid := [("loop.example/wovenprograms/impl.errKind", laid_loop_example_wovenprograms_impl_errKind), ("loop.example/wovenprograms/impl.errCut", laid_loop_example_wovenprograms_impl_errCut), ("loop.example/wovenprograms/impl.errBody", laid_loop_example_wovenprograms_impl_errBody), ("loop.example/wovenprograms/impl.errCalls", laid_loop_example_wovenprograms_impl_errCalls), ("loop.example/wovenprograms/impl.errProceeds", laid_loop_example_wovenprograms_impl_errProceeds)], narrowed := true }
def FnExactPlaceAdviceUptoSaid : Prop := fnExactPlaceAdviceUptoRow.holds Tryz.pinned (OpenSpec.upto fnExactPlaceAdviceSpec)

end Rows
end Go.Proofs.YtkdnbdgpcgookaaGreatDoor
