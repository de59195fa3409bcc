/-
  NARROWER THAN 'FOR EVERY INPUT', by the rows' own cells (each row's printed sentence says how): FnExactSwapAspects: ifaces, laid.
  DERIVED. THE GIVEN ROWS OF THIS SEAT. 1 by the template 'for every input the law returns true; each argument reads behind the call as it read before'; 0 by the template 'total and deterministic' (their statements: YtcahnffgpmanpaaDoorTotals.lean).
  GIVEN WITH THE SEED: the statements are not yours to turn. If you find one false, say at which input.
  Laid BY PROGRAM, IN A SANDBOX (cutbox-rows.mjs): the forced cells as the released guide's own fill.sh prints them over the translation 503810071aa13ecf… (all of the seat's roots in one cut). By AI agents, Wed Nov 11 2026. No macro, syntax, notation, axiom, sorry.
-/
import Derived.Test.YtcahnffgpmanpaaDoorChecked
import GoSem.Claim
import GoSem.ClaimJoined
import GoSem.ClaimMapViews
import Derived.JoinedTies
import Derived.KernelRfl
namespace Go.Proofs.YtcahnffgpmanpaaDoor
/- THE CELL 'sum', in the pinned program and in every row, IS THE sha256 OF THE DUMP (.gsa) THAT YtcahnffgpmanpaaDoorProg.lean LOADS. Nothing in Lean hashes anything: it is a label: what it is worth is what the hold of that sum in a sandbox is worth. -/
noncomputable def Tryd.pinned : Pinned := { name := "ytcahnffgpmanpaadoor", sum := "503810071aa13ecf55e5639368ee08a6fd397a5f81f189a974314c8b638d2098", checked := Tryd.checked }
namespace Rows
def none {H : Type} : Left H := { results := [], args := [] }

/- WHAT THE LISTED PACKAGE-LEVEL VARIABLES READ AS WHEN THE CALL BEGINS. Each datum BY PROGRAM (the guide's laid-datum.mjs) off the statement by which the dump's own 'gosem.cut.vars' lays the variable. In a bare row this is a premise. The card (YtcahnffgpmanpaaDoorCards.lean) ties it to the program's text. -/
def laid_loop_example_wovenprograms_impl_errKind {H : Type} : DataW H := .iface "*errors.errorString" (.ptr (.agg [.lit (.string [110, 111, 32, 107, 105, 110, 100, 32, 111, 102, 32, 97, 100, 118, 105, 99, 101])]))
def laid_loop_example_wovenprograms_impl_errCut {H : Type} : DataW H := .iface "*errors.errorString" (.ptr (.agg [.lit (.string [110, 111, 32, 99, 117, 116])]))
def laid_loop_example_wovenprograms_impl_errBody {H : Type} : DataW H := .iface "*errors.errorString" (.ptr (.agg [.lit (.string [110, 111, 32, 98, 111, 100, 121, 32, 111, 102, 32, 97, 100, 118, 105, 99, 101])]))
def laid_loop_example_wovenprograms_impl_errCalls {H : Type} : DataW H := .iface "*errors.errorString" (.ptr (.agg [.lit (.string [97, 32, 98, 111, 100, 121, 32, 116, 104, 97, 116, 32, 99, 97, 108, 108, 115])]))
def laid_loop_example_wovenprograms_impl_errProceeds {H : Type} : DataW H := .iface "*errors.errorString" (.ptr (.agg [.lit (.string [97, 32, 98, 111, 100, 121, 32, 116, 104, 97, 116, 32, 112, 114, 111, 99, 101, 101, 100, 115])]))

/-- 'laws.FnExactSwapAspects': WHATEVER THE INPUT: true; the input reads as it did. -/
def fnExactSwapAspectsSpec : ChangeSpec := { name := "fnExactSwapAspects", vars := ["loop.example/wovenprograms/impl.errCut", "loop.example/wovenprograms/impl.errBody", "loop.example/wovenprograms/impl.errKind", "loop.example/wovenprograms/impl.errCalls", "loop.example/wovenprograms/impl.errProceeds"], fn := fun _ => fun
  | [d1, d2, g1, g2, g3, g4, g5] => { results := [.lit (.bool true)], args := [d1, d2], vars := [g1, g2, g3, g4, g5] }
  | _ => none }
def fnExactSwapAspectsRow : OpenClaim := { program := "ytcahnffgpmanpaadoor", sum := "503810071aa13ecf55e5639368ee08a6fd397a5f81f189a974314c8b638d2098", func := "loop.example/wovenprograms/laws.FnExactSwapAspects", spec := "fnExactSwapAspects", inPlace := ["internal/bytealg.IndexByteString", "internal/bytealg.IndexString", "internal/reflectlite.TypeOf"], unfollowed := true, recurses := true, named := ["loop.example/wovenprograms/impl.errCut", "loop.example/wovenprograms/impl.errBody", "loop.example/wovenprograms/impl.errKind", "loop.example/wovenprograms/impl.errCalls", "loop.example/wovenprograms/impl.errProceeds", "internal/bytealg.MaxLen"], ifaces := true, apart := false, laid := [("loop.example/wovenprograms/impl.errKind", laid_loop_example_wovenprograms_impl_errKind), ("loop.example/wovenprograms/impl.errCut", laid_loop_example_wovenprograms_impl_errCut), ("loop.example/wovenprograms/impl.errBody", laid_loop_example_wovenprograms_impl_errBody), ("loop.example/wovenprograms/impl.errCalls", laid_loop_example_wovenprograms_impl_errCalls), ("loop.example/wovenprograms/impl.errProceeds", laid_loop_example_wovenprograms_impl_errProceeds)] }
def FnExactSwapAspectsSaid : Prop := fnExactSwapAspectsRow.holds Tryd.pinned (OpenSpec.ofChange fnExactSwapAspectsSpec)

/-- ITS FALSE NEIGHBOUR: 'it returns false'. Refute it at one input. -/
def fnExactSwapAspectsWrong : ChangeSpec := { name := "fnExactSwapAspects", vars := ["loop.example/wovenprograms/impl.errCut", "loop.example/wovenprograms/impl.errBody", "loop.example/wovenprograms/impl.errKind", "loop.example/wovenprograms/impl.errCalls", "loop.example/wovenprograms/impl.errProceeds"], fn := fun _ => fun
  | [d1, d2, g1, g2, g3, g4, g5] => { results := [.lit (.bool false)], args := [d1, d2], vars := [g1, g2, g3, g4, g5] }
  | _ => none }
def FnExactSwapAspectsWrongFalsely : Prop := fnExactSwapAspectsRow.holds Tryd.pinned (OpenSpec.ofChange fnExactSwapAspectsWrong)

/- THE SECOND FORM. 'bulk': how many values and letters a reading holds, each counted each time it is reached (what is shared counts as often as it is met; a slice's spare places count too). A statement '..UptoSaid' is the law's where the arguments, and the package variables that the reading takes, are together of bulk at most 1048576: NARROWER than '..Said'. Prove '..Said' where nothing that the law and all that it calls make is longer than what came in: it says more and counts as full. Else prove '..UptoSaid'. A law counts once. -/
mutual
def uptoBulk {H : Type} : DataW H → Nat
  | .lit (.string bytes) => bytes.length + 1
  | .lit _ => 1
  | .nil => 1
  | .ptr d => uptoBulk d + 1
  | .slice elems spare => uptoBulkAll elems + uptoBulkAll spare + 1
  | .agg parts => uptoBulkAll parts + 1
  | .iface _ d => uptoBulk d + 1
  | .map entries => uptoBulkEntries entries + 1
  | .held _ => 1
def uptoBulkAll {H : Type} : List (DataW H) → Nat
  | [] => 0
  | d :: r => uptoBulk d + uptoBulkAll r
def uptoBulkEntries {H : Type} : List (Lit × DataW H) → Nat
  | [] => 0
  | x :: r => uptoBulkEntry x + uptoBulkEntries r
def uptoBulkEntry {H : Type} : Lit × DataW H → Nat
  | (.string bytes, d) => bytes.length + uptoBulk d + 1
  | (_, d) => uptoBulk d + 1
 end
def uptoSmall : (H : Type) → List (DataW H) → Bool := fun _ ds => decide (uptoBulkAll ds ≤ 1048576)
def OpenSpec.upto (s : _root_.Go.ChangeSpec) : _root_.Go.OpenSpec := { _root_.Go.OpenSpec.ofChange s with cond := some uptoSmall }

/-- 'laws.FnExactSwapAspects', WHERE WHAT IT READS IS OF BULK AT MOST 1048576: true; the input reads as it did. -/
def fnExactSwapAspectsUptoRow : OpenClaim := { program := "ytcahnffgpmanpaadoor", sum := "503810071aa13ecf55e5639368ee08a6fd397a5f81f189a974314c8b638d2098", func := "loop.example/wovenprograms/laws.FnExactSwapAspects", spec := "fnExactSwapAspects", inPlace := ["internal/bytealg.IndexByteString", "internal/bytealg.IndexString", "internal/reflectlite.TypeOf"], unfollowed := true, recurses := true, named := ["loop.example/wovenprograms/impl.errCut", "loop.example/wovenprograms/impl.errBody", "loop.example/wovenprograms/impl.errKind", "loop.example/wovenprograms/impl.errCalls", "loop.example/wovenprograms/impl.errProceeds", "internal/bytealg.MaxLen"], ifaces := true, apart := false, laid := [("loop.example/wovenprograms/impl.errKind", laid_loop_example_wovenprograms_impl_errKind), ("loop.example/wovenprograms/impl.errCut", laid_loop_example_wovenprograms_impl_errCut), ("loop.example/wovenprograms/impl.errBody", laid_loop_example_wovenprograms_impl_errBody), ("loop.example/wovenprograms/impl.errCalls", laid_loop_example_wovenprograms_impl_errCalls), ("loop.example/wovenprograms/impl.errProceeds", laid_loop_example_wovenprograms_impl_errProceeds)], narrowed := true }
def FnExactSwapAspectsUptoSaid : Prop := fnExactSwapAspectsUptoRow.holds Tryd.pinned (OpenSpec.upto fnExactSwapAspectsSpec)

end Rows
end Go.Proofs.YtcahnffgpmanpaaDoor
