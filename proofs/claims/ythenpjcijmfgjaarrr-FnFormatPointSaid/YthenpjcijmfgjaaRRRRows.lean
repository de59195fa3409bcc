/-
  No cell of these rows narrows 'for every input' (looked for: loops, veiled, ifaces, maps, wideKeys, modest, calm, conditions, laid).
  DERIVED. THE GIVEN ROWS OF THIS SEAT. 7 by the template 'for every input the law returns true; each argument reads behind the call as it read before'; 0 by the template 'total and deterministic' (their statements: YthenpjcijmfgjaaRRRTotals.lean).
  GIVEN WITH THE SEED: the statements are not yours to turn. If you find one false, say at which input.
  Laid BY PROGRAM, IN A SANDBOX (cutbox-rows.mjs): the forced cells as the released guide's own fill.sh prints them over the translation 105555b92496852c… (all of the seat's roots in one cut). By AI agents, Wed Nov 11 2026. No macro, syntax, notation, axiom, sorry.
-/
import Derived.Test.YthenpjcijmfgjaaRRRChecked
import GoSem.Claim
import GoSem.ClaimJoined
import GoSem.ClaimMapViews
import Derived.JoinedTies
import Derived.KernelRfl
namespace Go.Proofs.YthenpjcijmfgjaaRRR
/- THE CELL 'sum', in the pinned program and in every row, IS THE sha256 OF THE DUMP (.gsa) THAT YthenpjcijmfgjaaRRRProg.lean LOADS. Nothing in Lean hashes anything: it is a label: what it is worth is what the hold of that sum in a sandbox is worth. -/
noncomputable def Try.pinned : Pinned := { name := "ythenpjcijmfgjaarrr", sum := "105555b92496852cd97341d9eaa465c10dc0aeeff5a08be5c7134ee0337fc82e", checked := Try.checked }
namespace Rows
def none {H : Type} : Left H := { results := [], args := [] }

/-- 'laws.FnFormatPoint': WHATEVER THE INPUT: true; the input reads as it did. -/
def fnFormatPointSpec : ChangeSpec := { name := "fnFormatPoint", fn := fun _ => fun
  | [d1, d2] => { results := [.lit (.bool true)], args := [d1, d2] }
  | _ => none }
def fnFormatPointRow : OpenClaim := { program := "ythenpjcijmfgjaarrr", sum := "105555b92496852cd97341d9eaa465c10dc0aeeff5a08be5c7134ee0337fc82e", func := "loop.example/wovenprograms/laws.FnFormatPoint", spec := "fnFormatPoint", apart := false }
def FnFormatPointSaid : Prop := fnFormatPointRow.holds Try.pinned (OpenSpec.ofChange fnFormatPointSpec)

/-- ITS FALSE NEIGHBOUR: 'it returns false'. Refute it at one input. -/
def fnFormatPointWrong : ChangeSpec := { name := "fnFormatPoint", fn := fun _ => fun
  | [d1, d2] => { results := [.lit (.bool false)], args := [d1, d2] }
  | _ => none }
def FnFormatPointWrongFalsely : Prop := fnFormatPointRow.holds Try.pinned (OpenSpec.ofChange fnFormatPointWrong)

/-- 'laws.FnExactCutValid': WHATEVER THE INPUT: true; the input reads as it did. -/
def fnExactCutValidSpec : ChangeSpec := { name := "fnExactCutValid", fn := fun _ => fun
  | [d] => { results := [.lit (.bool true)], args := [d] }
  | _ => none }
def fnExactCutValidRow : OpenClaim := { program := "ythenpjcijmfgjaarrr", sum := "105555b92496852cd97341d9eaa465c10dc0aeeff5a08be5c7134ee0337fc82e", func := "loop.example/wovenprograms/laws.FnExactCutValid", spec := "fnExactCutValid", unfollowed := true, recurses := true, apart := false }
def FnExactCutValidSaid : Prop := fnExactCutValidRow.holds Try.pinned (OpenSpec.ofChange fnExactCutValidSpec)

/-- ITS FALSE NEIGHBOUR: 'it returns false'. Refute it at one input. -/
def fnExactCutValidWrong : ChangeSpec := { name := "fnExactCutValid", fn := fun _ => fun
  | [d] => { results := [.lit (.bool false)], args := [d] }
  | _ => none }
def FnExactCutValidWrongFalsely : Prop := fnExactCutValidRow.holds Try.pinned (OpenSpec.ofChange fnExactCutValidWrong)

/-- 'laws.FnExactJoinPointValid': WHATEVER THE INPUT: true; the input reads as it did. -/
def fnExactJoinPointValidSpec : ChangeSpec := { name := "fnExactJoinPointValid", fn := fun _ => fun
  | [d] => { results := [.lit (.bool true)], args := [d] }
  | _ => none }
def fnExactJoinPointValidRow : OpenClaim := { program := "ythenpjcijmfgjaarrr", sum := "105555b92496852cd97341d9eaa465c10dc0aeeff5a08be5c7134ee0337fc82e", func := "loop.example/wovenprograms/laws.FnExactJoinPointValid", spec := "fnExactJoinPointValid", apart := false }
def FnExactJoinPointValidSaid : Prop := fnExactJoinPointValidRow.holds Try.pinned (OpenSpec.ofChange fnExactJoinPointValidSpec)

/-- ITS FALSE NEIGHBOUR: 'it returns false'. Refute it at one input. -/
def fnExactJoinPointValidWrong : ChangeSpec := { name := "fnExactJoinPointValid", fn := fun _ => fun
  | [d] => { results := [.lit (.bool false)], args := [d] }
  | _ => none }
def FnExactJoinPointValidWrongFalsely : Prop := fnExactJoinPointValidRow.holds Try.pinned (OpenSpec.ofChange fnExactJoinPointValidWrong)

/-- 'laws.FnExactShowCut': WHATEVER THE INPUT: true; the input reads as it did. -/
def fnExactShowCutSpec : ChangeSpec := { name := "fnExactShowCut", fn := fun _ => fun
  | [d] => { results := [.lit (.bool true)], args := [d] }
  | _ => none }
def fnExactShowCutRow : OpenClaim := { program := "ythenpjcijmfgjaarrr", sum := "105555b92496852cd97341d9eaa465c10dc0aeeff5a08be5c7134ee0337fc82e", func := "loop.example/wovenprograms/laws.FnExactShowCut", spec := "fnExactShowCut", unfollowed := true, recurses := true, apart := false }
def FnExactShowCutSaid : Prop := fnExactShowCutRow.holds Try.pinned (OpenSpec.ofChange fnExactShowCutSpec)

/-- ITS FALSE NEIGHBOUR: 'it returns false'. Refute it at one input. -/
def fnExactShowCutWrong : ChangeSpec := { name := "fnExactShowCut", fn := fun _ => fun
  | [d] => { results := [.lit (.bool false)], args := [d] }
  | _ => none }
def FnExactShowCutWrongFalsely : Prop := fnExactShowCutRow.holds Try.pinned (OpenSpec.ofChange fnExactShowCutWrong)

/-- 'laws.FnExactCutNames': WHATEVER THE INPUT: true; the input reads as it did. -/
def fnExactCutNamesSpec : ChangeSpec := { name := "fnExactCutNames", fn := fun _ => fun
  | [d] => { results := [.lit (.bool true)], args := [d] }
  | _ => none }
def fnExactCutNamesRow : OpenClaim := { program := "ythenpjcijmfgjaarrr", sum := "105555b92496852cd97341d9eaa465c10dc0aeeff5a08be5c7134ee0337fc82e", func := "loop.example/wovenprograms/laws.FnExactCutNames", spec := "fnExactCutNames", inPlace := ["internal/bytealg.IndexByteString", "internal/abi.NoEscape"], unfollowed := true, recurses := true, apart := false }
def FnExactCutNamesSaid : Prop := fnExactCutNamesRow.holds Try.pinned (OpenSpec.ofChange fnExactCutNamesSpec)

/-- ITS FALSE NEIGHBOUR: 'it returns false'. Refute it at one input. -/
def fnExactCutNamesWrong : ChangeSpec := { name := "fnExactCutNames", fn := fun _ => fun
  | [d] => { results := [.lit (.bool false)], args := [d] }
  | _ => none }
def FnExactCutNamesWrongFalsely : Prop := fnExactCutNamesRow.holds Try.pinned (OpenSpec.ofChange fnExactCutNamesWrong)

/-- 'laws.FnExactAsksActive': WHATEVER THE INPUT: true; the input reads as it did. -/
def fnExactAsksActiveSpec : ChangeSpec := { name := "fnExactAsksActive", fn := fun _ => fun
  | [d] => { results := [.lit (.bool true)], args := [d] }
  | _ => none }
def fnExactAsksActiveRow : OpenClaim := { program := "ythenpjcijmfgjaarrr", sum := "105555b92496852cd97341d9eaa465c10dc0aeeff5a08be5c7134ee0337fc82e", func := "loop.example/wovenprograms/laws.FnExactAsksActive", spec := "fnExactAsksActive", inPlace := ["internal/bytealg.IndexByteString"], unfollowed := true, recurses := true, apart := false }
def FnExactAsksActiveSaid : Prop := fnExactAsksActiveRow.holds Try.pinned (OpenSpec.ofChange fnExactAsksActiveSpec)

/-- ITS FALSE NEIGHBOUR: 'it returns false'. Refute it at one input. -/
def fnExactAsksActiveWrong : ChangeSpec := { name := "fnExactAsksActive", fn := fun _ => fun
  | [d] => { results := [.lit (.bool false)], args := [d] }
  | _ => none }
def FnExactAsksActiveWrongFalsely : Prop := fnExactAsksActiveRow.holds Try.pinned (OpenSpec.ofChange fnExactAsksActiveWrong)

/-- 'laws.FnExactFormatPoint': WHATEVER THE INPUT: true; the input reads as it did. -/
def fnExactFormatPointSpec : ChangeSpec := { name := "fnExactFormatPoint", fn := fun _ => fun
  | [d] => { results := [.lit (.bool true)], args := [d] }
  | _ => none }
def fnExactFormatPointRow : OpenClaim := { program := "ythenpjcijmfgjaarrr", sum := "105555b92496852cd97341d9eaa465c10dc0aeeff5a08be5c7134ee0337fc82e", func := "loop.example/wovenprograms/laws.FnExactFormatPoint", spec := "fnExactFormatPoint", apart := false }
def FnExactFormatPointSaid : Prop := fnExactFormatPointRow.holds Try.pinned (OpenSpec.ofChange fnExactFormatPointSpec)

/-- ITS FALSE NEIGHBOUR: 'it returns false'. Refute it at one input. -/
def fnExactFormatPointWrong : ChangeSpec := { name := "fnExactFormatPoint", fn := fun _ => fun
  | [d] => { results := [.lit (.bool false)], args := [d] }
  | _ => none }
def FnExactFormatPointWrongFalsely : Prop := fnExactFormatPointRow.holds Try.pinned (OpenSpec.ofChange fnExactFormatPointWrong)

/- THE SECOND FORM. 'bulk': how many values and letters a reading holds, each counted each time it is reached (what is shared counts as often as it is met; a slice's spare places count too). A statement '..UptoSaid' is the law's where the arguments, and the package variables that the reading takes, are together of bulk at most 1048576: NARROWER than '..Said'. Prove '..Said' where nothing that the law and all that it calls make is longer than what came in: it says more and counts as full. Else prove '..UptoSaid'. A law counts once. -/
mutual
def uptoBulk {H : Type} : DataW H → Nat
  | .lit (.string bytes) => bytes.length + 1
  | .lit _ => 1
  | .nil => 1
  | .ptr d => uptoBulk d + 1
  | .slice elems spare => uptoBulkAll elems + uptoBulkAll spare + 1
  | .agg parts => uptoBulkAll parts + 1
  | .iface _ d => uptoBulk d + 1
  | .map entries => uptoBulkEntries entries + 1
  | .held _ => 1
def uptoBulkAll {H : Type} : List (DataW H) → Nat
  | [] => 0
  | d :: r => uptoBulk d + uptoBulkAll r
def uptoBulkEntries {H : Type} : List (Lit × DataW H) → Nat
  | [] => 0
  | x :: r => uptoBulkEntry x + uptoBulkEntries r
def uptoBulkEntry {H : Type} : Lit × DataW H → Nat
  | (.string bytes, d) => bytes.length + uptoBulk d + 1
  | (_, d) => uptoBulk d + 1
 end
def uptoSmall : (H : Type) → List (DataW H) → Bool := fun _ ds => decide (uptoBulkAll ds ≤ 1048576)
def OpenSpec.upto (s : _root_.Go.ChangeSpec) : _root_.Go.OpenSpec := { _root_.Go.OpenSpec.ofChange s with cond := some uptoSmall }

/-- 'laws.FnFormatPoint', WHERE WHAT IT READS IS OF BULK AT MOST 1048576: true; the input reads as it did. -/
def fnFormatPointUptoRow : OpenClaim := { program := "ythenpjcijmfgjaarrr", sum := "105555b92496852cd97341d9eaa465c10dc0aeeff5a08be5c7134ee0337fc82e", func := "loop.example/wovenprograms/laws.FnFormatPoint", spec := "fnFormatPoint", apart := false, narrowed := true }
def FnFormatPointUptoSaid : Prop := fnFormatPointUptoRow.holds Try.pinned (OpenSpec.upto fnFormatPointSpec)

/-- 'laws.FnExactCutValid', WHERE WHAT IT READS IS OF BULK AT MOST 1048576: true; the input reads as it did. -/
def fnExactCutValidUptoRow : OpenClaim := { program := "ythenpjcijmfgjaarrr", sum := "105555b92496852cd97341d9eaa465c10dc0aeeff5a08be5c7134ee0337fc82e", func := "loop.example/wovenprograms/laws.FnExactCutValid", spec := "fnExactCutValid", unfollowed := true, recurses := true, apart := false, narrowed := true }
def FnExactCutValidUptoSaid : Prop := fnExactCutValidUptoRow.holds Try.pinned (OpenSpec.upto fnExactCutValidSpec)

/-- 'laws.FnExactJoinPointValid', WHERE WHAT IT READS IS OF BULK AT MOST 1048576: true; the input reads as it did. -/
def fnExactJoinPointValidUptoRow : OpenClaim := { program := "ythenpjcijmfgjaarrr", sum := "105555b92496852cd97341d9eaa465c10dc0aeeff5a08be5c7134ee0337fc82e", func := "loop.example/wovenprograms/laws.FnExactJoinPointValid", spec := "fnExactJoinPointValid", apart := false, narrowed := true }
def FnExactJoinPointValidUptoSaid : Prop := fnExactJoinPointValidUptoRow.holds Try.pinned (OpenSpec.upto fnExactJoinPointValidSpec)

/-- 'laws.FnExactShowCut', WHERE WHAT IT READS IS OF BULK AT MOST 1048576: true; the input reads as it did. -/
def fnExactShowCutUptoRow : OpenClaim := { program := "ythenpjcijmfgjaarrr", sum := "105555b92496852cd97341d9eaa465c10dc0aeeff5a08be5c7134ee0337fc82e", func := "loop.example/wovenprograms/laws.FnExactShowCut", spec := "fnExactShowCut", unfollowed := true, recurses := true, apart := false, narrowed := true }
def FnExactShowCutUptoSaid : Prop := fnExactShowCutUptoRow.holds Try.pinned (OpenSpec.upto fnExactShowCutSpec)

/-- 'laws.FnExactCutNames', WHERE WHAT IT READS IS OF BULK AT MOST 1048576: true; the input reads as it did. -/
def fnExactCutNamesUptoRow : OpenClaim := { program := "ythenpjcijmfgjaarrr", sum := "105555b92496852cd97341d9eaa465c10dc0aeeff5a08be5c7134ee0337fc82e", func := "loop.example/wovenprograms/laws.FnExactCutNames", spec := "fnExactCutNames", inPlace := ["internal/bytealg.IndexByteString", "internal/abi.NoEscape"], unfollowed := true, recurses := true, apart := false, narrowed := true }
def FnExactCutNamesUptoSaid : Prop := fnExactCutNamesUptoRow.holds Try.pinned (OpenSpec.upto fnExactCutNamesSpec)

/-- 'laws.FnExactAsksActive', WHERE WHAT IT READS IS OF BULK AT MOST 1048576: true; the input reads as it did. -/
def fnExactAsksActiveUptoRow : OpenClaim := { program := "ythenpjcijmfgjaarrr", sum := "105555b92496852cd97341d9eaa465c10dc0aeeff5a08be5c7134ee0337fc82e", func := "loop.example/wovenprograms/laws.FnExactAsksActive", spec := "fnExactAsksActive", inPlace := ["internal/bytealg.IndexByteString"], unfollowed := true, recurses := true, apart := false, narrowed := true }
def FnExactAsksActiveUptoSaid : Prop := fnExactAsksActiveUptoRow.holds Try.pinned (OpenSpec.upto fnExactAsksActiveSpec)

/-- 'laws.FnExactFormatPoint', WHERE WHAT IT READS IS OF BULK AT MOST 1048576: true; the input reads as it did. -/
def fnExactFormatPointUptoRow : OpenClaim := { program := "ythenpjcijmfgjaarrr", sum := "105555b92496852cd97341d9eaa465c10dc0aeeff5a08be5c7134ee0337fc82e", func := "loop.example/wovenprograms/laws.FnExactFormatPoint", spec := "fnExactFormatPoint", apart := false, narrowed := true }
def FnExactFormatPointUptoSaid : Prop := fnExactFormatPointUptoRow.holds Try.pinned (OpenSpec.upto fnExactFormatPointSpec)

end Rows
end Go.Proofs.YthenpjcijmfgjaaRRR
