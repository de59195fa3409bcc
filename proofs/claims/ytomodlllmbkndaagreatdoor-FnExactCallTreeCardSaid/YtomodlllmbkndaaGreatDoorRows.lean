/-
  NARROWER THAN 'FOR EVERY INPUT', by the rows' own cells (each row's printed sentence says how): FnCallTree: laid · FnBusiest: laid · FnExactCallCounts: laid · FnExactPrintCounts: laid · FnExactCallTree: laid · FnExactBusiestOf: laid.
  DERIVED. THE GIVEN ROWS OF THIS SEAT. 6 by the template 'for every input the law returns true; each argument reads behind the call as it read before'; 0 by the template 'total and deterministic' (their statements: YtomodlllmbkndaaGreatDoorTotals.lean).
  GIVEN WITH THE SEED: the statements are not yours to turn. If you find one false, say at which input.
  Laid BY PROGRAM, IN A SANDBOX (cutbox-rows.mjs): the forced cells as the released guide's own fill.sh prints them over the translation 10dfa707772ad75b… (all of the seat's roots in one cut). By AI agents, Wed Nov 11 2026. No macro, syntax, notation, axiom, sorry.
-/
import Derived.Test.YtomodlllmbkndaaGreatDoorChecked
import GoSem.PinnedTables
import GoSem.Claim
import GoSem.ClaimJoined
import GoSem.ClaimMapViews
import Derived.JoinedTies
import Derived.KernelRfl
namespace Go.Proofs.YtomodlllmbkndaaGreatDoor
/- THE CELL 'sum', in the pinned program and in every row, IS THE sha256 OF THE DUMP (.gsa) THAT YtomodlllmbkndaaGreatDoorProg.lean LOADS. Nothing in Lean hashes anything: it is a label: what it is worth is what the hold of that sum in a sandbox is worth. -/
noncomputable def Tryz.pinned : Pinned := { name := "ytomodlllmbkndaagreatdoor", sum := "10dfa707772ad75b9039568be60791d78924b9d2df2a7e4f8bfbaf91ef9d87e5", checked := Tryz.checked }
namespace Rows
def none {H : Type} : Left H := { results := [], args := [] }

/- WHAT THE LISTED PACKAGE-LEVEL VARIABLES READ AS WHEN THE CALL BEGINS. Each datum BY PROGRAM (the guide's laid-datum.mjs) off the statement by which the dump's own 'gosem.cut.vars' lays the variable. In a bare row this is a premise. The card (YtomodlllmbkndaaGreatDoorCards.lean) ties it to the program's text. -/
def laid_unicode_utf8_acceptRanges {H : Type} : DataW H := .agg [.agg [.lit (.int .u8 128), .lit (.int .u8 191)], .agg [.lit (.int .u8 160), .lit (.int .u8 191)], .agg [.lit (.int .u8 128), .lit (.int .u8 159)], .agg [.lit (.int .u8 144), .lit (.int .u8 191)], .agg [.lit (.int .u8 128), .lit (.int .u8 143)], .agg [.lit (.int .u8 0), .lit (.int .u8 0)], .agg [.lit (.int .u8 0), .lit (.int .u8 0)], .agg [.lit (.int .u8 0), .lit (.int .u8 0)], .agg [.lit (.int .u8 0), .lit (.int .u8 0)], .agg [.lit (.int .u8 0), .lit (.int .u8 0)], .agg [.lit (.int .u8 0), .lit (.int .u8 0)], .agg [.lit (.int .u8 0), .lit (.int .u8 0)], .agg [.lit (.int .u8 0), .lit (.int .u8 0)], .agg [.lit (.int .u8 0), .lit (.int .u8 0)], .agg [.lit (.int .u8 0), .lit (.int .u8 0)], .agg [.lit (.int .u8 0), .lit (.int .u8 0)]]
/-- One of Go's own tables, pinned by name: the form's constant. -/
def laid_unicode_utf8_first : DataW Unit := Go.Pinned.utf8First

/-- 'laws.FnCallTree': WHATEVER THE INPUT: true; the input reads as it did. -/
def fnCallTreeSpec : ChangeSpec := { name := "fnCallTree", fn := fun _ => fun
  | [d] => { results := [.lit (.bool true)], args := [d] }
  | _ => none }
def fnCallTreeRow : OpenClaim := { program := "ytomodlllmbkndaagreatdoor", sum := "10dfa707772ad75b9039568be60791d78924b9d2df2a7e4f8bfbaf91ef9d87e5", func := "loop.example/wovenprograms/laws.FnCallTree", spec := "fnCallTree", inPlace := ["internal/bytealg.CountString", "internal/bytealg.IndexByteString", "internal/bytealg.IndexString", "internal/abi.NoEscape"], unfollowed := true, recurses := true, named := ["unicode/utf8.first", "unicode/utf8.acceptRanges", "internal/bytealg.MaxLen"], apart := false, laid := [("unicode/utf8.acceptRanges", laid_unicode_utf8_acceptRanges), ("unicode/utf8.first", laid_unicode_utf8_first)] }
def FnCallTreeSaid : Prop := fnCallTreeRow.holds Tryz.pinned (OpenSpec.ofChange fnCallTreeSpec)

/-- ITS FALSE NEIGHBOUR: 'it returns false'. Refute it at one input. -/
def fnCallTreeWrong : ChangeSpec := { name := "fnCallTree", fn := fun _ => fun
  | [d] => { results := [.lit (.bool false)], args := [d] }
  | _ => none }
def FnCallTreeWrongFalsely : Prop := fnCallTreeRow.holds Tryz.pinned (OpenSpec.ofChange fnCallTreeWrong)

/-- 'laws.FnBusiest': WHATEVER THE INPUT: true; the input reads as it did. -/
def fnBusiestSpec : ChangeSpec := { name := "fnBusiest", fn := fun _ => fun
  | [d] => { results := [.lit (.bool true)], args := [d] }
  | _ => none }
def fnBusiestRow : OpenClaim := { program := "ytomodlllmbkndaagreatdoor", sum := "10dfa707772ad75b9039568be60791d78924b9d2df2a7e4f8bfbaf91ef9d87e5", func := "loop.example/wovenprograms/laws.FnBusiest", spec := "fnBusiest", inPlace := ["internal/bytealg.CountString", "internal/bytealg.IndexByteString", "internal/bytealg.IndexString", "internal/abi.NoEscape"], unfollowed := true, recurses := true, named := ["unicode/utf8.first", "unicode/utf8.acceptRanges", "internal/bytealg.MaxLen"], apart := false, laid := [("unicode/utf8.acceptRanges", laid_unicode_utf8_acceptRanges), ("unicode/utf8.first", laid_unicode_utf8_first)] }
def FnBusiestSaid : Prop := fnBusiestRow.holds Tryz.pinned (OpenSpec.ofChange fnBusiestSpec)

/-- ITS FALSE NEIGHBOUR: 'it returns false'. Refute it at one input. -/
def fnBusiestWrong : ChangeSpec := { name := "fnBusiest", fn := fun _ => fun
  | [d] => { results := [.lit (.bool false)], args := [d] }
  | _ => none }
def FnBusiestWrongFalsely : Prop := fnBusiestRow.holds Tryz.pinned (OpenSpec.ofChange fnBusiestWrong)

/-- 'laws.FnExactCallCounts': WHATEVER THE INPUT: true; the input reads as it did. -/
def fnExactCallCountsSpec : ChangeSpec := { name := "fnExactCallCounts", fn := fun _ => fun
  | [d1, d2, d3] => { results := [.lit (.bool true)], args := [d1, d2, d3] }
  | _ => none }
def fnExactCallCountsRow : OpenClaim := { program := "ytomodlllmbkndaagreatdoor", sum := "10dfa707772ad75b9039568be60791d78924b9d2df2a7e4f8bfbaf91ef9d87e5", func := "loop.example/wovenprograms/laws.FnExactCallCounts", spec := "fnExactCallCounts", inPlace := ["internal/bytealg.CountString", "internal/bytealg.IndexByteString", "internal/bytealg.IndexString"], unfollowed := true, recurses := true, named := ["unicode/utf8.first", "unicode/utf8.acceptRanges", "internal/bytealg.MaxLen"], apart := false, laid := [("unicode/utf8.acceptRanges", laid_unicode_utf8_acceptRanges), ("unicode/utf8.first", laid_unicode_utf8_first)] }
def FnExactCallCountsSaid : Prop := fnExactCallCountsRow.holds Tryz.pinned (OpenSpec.ofChange fnExactCallCountsSpec)

/-- ITS FALSE NEIGHBOUR: 'it returns false'. Refute it at one input. -/
def fnExactCallCountsWrong : ChangeSpec := { name := "fnExactCallCounts", fn := fun _ => fun
  | [d1, d2, d3] => { results := [.lit (.bool false)], args := [d1, d2, d3] }
  | _ => none }
def FnExactCallCountsWrongFalsely : Prop := fnExactCallCountsRow.holds Tryz.pinned (OpenSpec.ofChange fnExactCallCountsWrong)

/-- 'laws.FnExactPrintCounts': WHATEVER THE INPUT: true; the input reads as it did. -/
def fnExactPrintCountsSpec : ChangeSpec := { name := "fnExactPrintCounts", fn := fun _ => fun
  | [d1, d2, d3] => { results := [.lit (.bool true)], args := [d1, d2, d3] }
  | _ => none }
def fnExactPrintCountsRow : OpenClaim := { program := "ytomodlllmbkndaagreatdoor", sum := "10dfa707772ad75b9039568be60791d78924b9d2df2a7e4f8bfbaf91ef9d87e5", func := "loop.example/wovenprograms/laws.FnExactPrintCounts", spec := "fnExactPrintCounts", inPlace := ["internal/bytealg.CountString", "internal/bytealg.IndexByteString", "internal/bytealg.IndexString"], unfollowed := true, recurses := true, named := ["unicode/utf8.first", "unicode/utf8.acceptRanges", "internal/bytealg.MaxLen"], apart := false, laid := [("unicode/utf8.acceptRanges", laid_unicode_utf8_acceptRanges), ("unicode/utf8.first", laid_unicode_utf8_first)] }
def FnExactPrintCountsSaid : Prop := fnExactPrintCountsRow.holds Tryz.pinned (OpenSpec.ofChange fnExactPrintCountsSpec)

/-- ITS FALSE NEIGHBOUR: 'it returns false'. Refute it at one input. -/
def fnExactPrintCountsWrong : ChangeSpec := { name := "fnExactPrintCounts", fn := fun _ => fun
  | [d1, d2, d3] => { results := [.lit (.bool false)], args := [d1, d2, d3] }
  | _ => none }
def FnExactPrintCountsWrongFalsely : Prop := fnExactPrintCountsRow.holds Tryz.pinned (OpenSpec.ofChange fnExactPrintCountsWrong)

/-- 'laws.FnExactCallTree': WHATEVER THE INPUT: true; the input reads as it did. -/
def fnExactCallTreeSpec : ChangeSpec := { name := "fnExactCallTree", fn := fun _ => fun
  | [d1, d2, d3] => { results := [.lit (.bool true)], args := [d1, d2, d3] }
  | _ => none }
def fnExactCallTreeRow : OpenClaim := { program := "ytomodlllmbkndaagreatdoor", sum := "10dfa707772ad75b9039568be60791d78924b9d2df2a7e4f8bfbaf91ef9d87e5", func := "loop.example/wovenprograms/laws.FnExactCallTree", spec := "fnExactCallTree", inPlace := ["internal/bytealg.CountString", "internal/bytealg.IndexByteString", "internal/bytealg.IndexString", "internal/abi.NoEscape"], unfollowed := true, recurses := true, named := ["unicode/utf8.first", "unicode/utf8.acceptRanges", "internal/bytealg.MaxLen"], apart := false, laid := [("unicode/utf8.acceptRanges", laid_unicode_utf8_acceptRanges), ("unicode/utf8.first", laid_unicode_utf8_first)] }
def FnExactCallTreeSaid : Prop := fnExactCallTreeRow.holds Tryz.pinned (OpenSpec.ofChange fnExactCallTreeSpec)

/-- ITS FALSE NEIGHBOUR: 'it returns false'. Refute it at one input. -/
def fnExactCallTreeWrong : ChangeSpec := { name := "fnExactCallTree", fn := fun _ => fun
  | [d1, d2, d3] => { results := [.lit (.bool false)], args := [d1, d2, d3] }
  | _ => none }
def FnExactCallTreeWrongFalsely : Prop := fnExactCallTreeRow.holds Tryz.pinned (OpenSpec.ofChange fnExactCallTreeWrong)

/-- 'laws.FnExactBusiestOf': WHATEVER THE INPUT: true; the input reads as it did. -/
def fnExactBusiestOfSpec : ChangeSpec := { name := "fnExactBusiestOf", fn := fun _ => fun
  | [d1, d2, d3] => { results := [.lit (.bool true)], args := [d1, d2, d3] }
  | _ => none }
def fnExactBusiestOfRow : OpenClaim := { program := "ytomodlllmbkndaagreatdoor", sum := "10dfa707772ad75b9039568be60791d78924b9d2df2a7e4f8bfbaf91ef9d87e5", func := "loop.example/wovenprograms/laws.FnExactBusiestOf", spec := "fnExactBusiestOf", inPlace := ["internal/bytealg.CountString", "internal/bytealg.IndexByteString", "internal/bytealg.IndexString"], unfollowed := true, recurses := true, named := ["unicode/utf8.first", "unicode/utf8.acceptRanges", "internal/bytealg.MaxLen"], apart := false, laid := [("unicode/utf8.acceptRanges", laid_unicode_utf8_acceptRanges), ("unicode/utf8.first", laid_unicode_utf8_first)] }
def FnExactBusiestOfSaid : Prop := fnExactBusiestOfRow.holds Tryz.pinned (OpenSpec.ofChange fnExactBusiestOfSpec)

/-- ITS FALSE NEIGHBOUR: 'it returns false'. Refute it at one input. -/
def fnExactBusiestOfWrong : ChangeSpec := { name := "fnExactBusiestOf", fn := fun _ => fun
  | [d1, d2, d3] => { results := [.lit (.bool false)], args := [d1, d2, d3] }
  | _ => none }
def FnExactBusiestOfWrongFalsely : Prop := fnExactBusiestOfRow.holds Tryz.pinned (OpenSpec.ofChange fnExactBusiestOfWrong)

/- THE SECOND FORM. 'bulk': how many values and letters a reading holds, each counted each time it is reached (what is shared counts as often as it is met; a slice's spare places count too). A statement '..UptoSaid' is the law's where the arguments, and the package variables that the reading takes, are together of bulk at most 1048576: NARROWER than '..Said'. Prove '..Said' where nothing that the law and all that it calls make is longer than what came in: it says more and counts as full. Else prove '..UptoSaid'. A law counts once. -/
mutual
def uptoBulk {H : Type} : DataW H → Nat
  | .lit (.string bytes) => bytes.length + 1
  | .lit _ => 1
  | .nil => 1
  | .ptr d => uptoBulk d + 1
  | .slice elems spare => uptoBulkAll elems + uptoBulkAll spare + 1
  | .agg parts => uptoBulkAll parts + 1
  | .iface _ d => uptoBulk d + 1
  | .map entries => uptoBulkEntries entries + 1
  | .held _ => 1
def uptoBulkAll {H : Type} : List (DataW H) → Nat
  | [] => 0
  | d :: r => uptoBulk d + uptoBulkAll r
def uptoBulkEntries {H : Type} : List (Lit × DataW H) → Nat
  | [] => 0
  | x :: r => uptoBulkEntry x + uptoBulkEntries r
def uptoBulkEntry {H : Type} : Lit × DataW H → Nat
  | (.string bytes, d) => bytes.length + uptoBulk d + 1
  | (_, d) => uptoBulk d + 1
 end
def uptoSmall : (H : Type) → List (DataW H) → Bool := fun _ ds => decide (uptoBulkAll ds ≤ 1048576)
def OpenSpec.upto (s : _root_.Go.ChangeSpec) : _root_.Go.OpenSpec := { _root_.Go.OpenSpec.ofChange s with cond := some uptoSmall }

/-- 'laws.FnCallTree', WHERE WHAT IT READS IS OF BULK AT MOST 1048576: true; the input reads as it did. -/
def fnCallTreeUptoRow : OpenClaim := { program := "ytomodlllmbkndaagreatdoor", sum := "10dfa707772ad75b9039568be60791d78924b9d2df2a7e4f8bfbaf91ef9d87e5", func := "loop.example/wovenprograms/laws.FnCallTree", spec := "fnCallTree", inPlace := ["internal/bytealg.CountString", "internal/bytealg.IndexByteString", "internal/bytealg.IndexString", "internal/abi.NoEscape"], unfollowed := true, recurses := true, named := ["unicode/utf8.first", "unicode/utf8.acceptRanges", "internal/bytealg.MaxLen"], apart := false, laid := [("unicode/utf8.acceptRanges", laid_unicode_utf8_acceptRanges), ("unicode/utf8.first", laid_unicode_utf8_first)], narrowed := true }
def FnCallTreeUptoSaid : Prop := fnCallTreeUptoRow.holds Tryz.pinned (OpenSpec.upto fnCallTreeSpec)

/-- 'laws.FnBusiest', WHERE WHAT IT READS IS OF BULK AT MOST 1048576: true; the input reads as it did. -/
def fnBusiestUptoRow : OpenClaim := { program := "ytomodlllmbkndaagreatdoor", sum := "10dfa707772ad75b9039568be60791d78924b9d2df2a7e4f8bfbaf91ef9d87e5", func := "loop.example/wovenprograms/laws.FnBusiest", spec := "fnBusiest", inPlace := ["internal/bytealg.CountString", "internal/bytealg.IndexByteString", "internal/bytealg.IndexString", "internal/abi.NoEscape"], unfollowed := true, recurses := true, named := ["unicode/utf8.first", "unicode/utf8.acceptRanges", "internal/bytealg.MaxLen"], apart := false, laid := [("unicode/utf8.acceptRanges", laid_unicode_utf8_acceptRanges), ("unicode/utf8.first", laid_unicode_utf8_first)], narrowed := true }
def FnBusiestUptoSaid : Prop := fnBusiestUptoRow.holds Tryz.pinned (OpenSpec.upto fnBusiestSpec)

/-- 'laws.FnExactCallCounts', WHERE WHAT IT READS IS OF BULK AT MOST 1048576: true; the input reads as it did. -/
def fnExactCallCountsUptoRow : OpenClaim := { program := "ytomodlllmbkndaagreatdoor", sum := "10dfa707772ad75b9039568be60791d78924b9d2df2a7e4f8bfbaf91ef9d87e5", func := "loop.example/wovenprograms/laws.FnExactCallCounts", spec := "fnExactCallCounts", inPlace := ["internal/bytealg.CountString", "internal/bytealg.IndexByteString", "internal/bytealg.IndexString"], unfollowed := true, recurses := true, named := ["unicode/utf8.first", "unicode/utf8.acceptRanges", "internal/bytealg.MaxLen"], apart := false, laid := [("unicode/utf8.acceptRanges", laid_unicode_utf8_acceptRanges), ("unicode/utf8.first", laid_unicode_utf8_first)], narrowed := true }
def FnExactCallCountsUptoSaid : Prop := fnExactCallCountsUptoRow.holds Tryz.pinned (OpenSpec.upto fnExactCallCountsSpec)

/-- 'laws.FnExactPrintCounts', WHERE WHAT IT READS IS OF BULK AT MOST 1048576: true; the input reads as it did. -/
def fnExactPrintCountsUptoRow : OpenClaim := { program := "ytomodlllmbkndaagreatdoor", sum := "10dfa707772ad75b9039568be60791d78924b9d2df2a7e4f8bfbaf91ef9d87e5", func := "loop.example/wovenprograms/laws.FnExactPrintCounts", spec := "fnExactPrintCounts", inPlace := ["internal/bytealg.CountString", "internal/bytealg.IndexByteString", "internal/bytealg.IndexString"], unfollowed := true, recurses := true, named := ["unicode/utf8.first", "unicode/utf8.acceptRanges", "internal/bytealg.MaxLen"], apart := false, laid := [("unicode/utf8.acceptRanges", laid_unicode_utf8_acceptRanges), ("unicode/utf8.first", laid_unicode_utf8_first)], narrowed := true }
def FnExactPrintCountsUptoSaid : Prop := fnExactPrintCountsUptoRow.holds Tryz.pinned (OpenSpec.upto fnExactPrintCountsSpec)

/-- 'laws.FnExactCallTree', WHERE WHAT IT READS IS OF BULK AT MOST 1048576: true; the input reads as it did. -/
def fnExactCallTreeUptoRow : OpenClaim := { program := "ytomodlllmbkndaagreatdoor", sum := "10dfa707772ad75b9039568be60791d78924b9d2df2a7e4f8bfbaf91ef9d87e5", func := "loop.example/wovenprograms/laws.FnExactCallTree", spec := "fnExactCallTree", inPlace := ["internal/bytealg.CountString", "internal/bytealg.IndexByteString", "internal/bytealg.IndexString", "internal/abi.NoEscape"], unfollowed := true, recurses := true, named := ["unicode/utf8.first", "unicode/utf8.acceptRanges", "internal/bytealg.MaxLen"], apart := false, laid := [("unicode/utf8.acceptRanges", laid_unicode_utf8_acceptRanges), ("unicode/utf8.first", laid_unicode_utf8_first)], narrowed := true }
def FnExactCallTreeUptoSaid : Prop := fnExactCallTreeUptoRow.holds Tryz.pinned (OpenSpec.upto fnExactCallTreeSpec)

/-- 'laws.FnExactBusiestOf', WHERE WHAT IT READS IS OF BULK AT MOST 1048576: true; the input reads as it did. -/
def fnExactBusiestOfUptoRow : OpenClaim := { program := "ytomodlllmbkndaagreatdoor", sum := "10dfa707772ad75b9039568be60791d78924b9d2df2a7e4f8bfbaf91ef9d87e5", func := "loop.example/wovenprograms/laws.FnExactBusiestOf", spec := "fnExactBusiestOf", inPlace := ["internal/bytealg.CountString", "internal/bytealg.IndexByteString", "internal/bytealg.IndexString"], unfollowed := true, recurses := true, named := ["unicode/utf8.first", "unicode/utf8.acceptRanges", "internal/bytealg.MaxLen"], apart := false, laid := [("unicode/utf8.acceptRanges", laid_unicode_utf8_acceptRanges), ("unicode/utf8.first", laid_unicode_utf8_first)], narrowed := true }
def FnExactBusiestOfUptoSaid : Prop := fnExactBusiestOfUptoRow.holds Tryz.pinned (OpenSpec.upto fnExactBusiestOfSpec)

end Rows
end Go.Proofs.YtomodlllmbkndaaGreatDoor
