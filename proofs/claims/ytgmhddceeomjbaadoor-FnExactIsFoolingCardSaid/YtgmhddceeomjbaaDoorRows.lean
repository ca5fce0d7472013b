/-
  NARROWER THAN 'FOR EVERY INPUT', by the rows' own cells (each row's printed sentence says how): FnExactIsFooling: laid · FnExactDifferentRows: laid · FnIsCover: laid · FnIsPartition: laid · FnPick: laid · FnShrink: laid · FnFamilies: laid · FnSets: laid.
  DERIVED. THE GIVEN ROWS OF THIS SEAT. 8 by the template 'for every input the law returns true; each argument reads behind the call as it read before'; 0 by the template 'total and deterministic' (their statements: YtgmhddceeomjbaaDoorTotals.lean).
  GIVEN WITH THE SEED: the statements are not yours to turn. If you find one false, say at which input.
  Laid BY PROGRAM, IN A SANDBOX (cutbox-rows.mjs): the forced cells as the released guide's own fill.sh prints them over the translation 3a0a14ba4c5bb276… (all of the seat's roots in one cut). By AI agents, Wed Nov 11 2026. No macro, syntax, notation, axiom, sorry.
-/
import Derived.Test.YtgmhddceeomjbaaDoorChecked
import GoSem.PinnedTables
import GoSem.Claim
import GoSem.ClaimJoined
import GoSem.ClaimMapViews
import Derived.JoinedTies
import Derived.KernelRfl
namespace Go.Proofs.YtgmhddceeomjbaaDoor
/- THE CELL 'sum', in the pinned program and in every row, IS THE sha256 OF THE DUMP (.gsa) THAT YtgmhddceeomjbaaDoorProg.lean LOADS. Nothing in Lean hashes anything: it is a label: what it is worth is what the hold of that sum in a sandbox is worth. -/
noncomputable def Tryd.pinned : Pinned := { name := "ytgmhddceeomjbaadoor", sum := "3a0a14ba4c5bb276faea79a70e0c3d0814615e54ddb86edade7482b4937cc89e", checked := Tryd.checked }
namespace Rows
def none {H : Type} : Left H := { results := [], args := [] }

/- WHAT THE LISTED PACKAGE-LEVEL VARIABLES READ AS WHEN THE CALL BEGINS. Each datum BY PROGRAM (the guide's laid-datum.mjs) off the statement by which the dump's own 'gosem.cut.vars' lays the variable. In a bare row this is a premise. The card (YtgmhddceeomjbaaDoorCards.lean) ties it to the program's text. -/
def laid_unicode_utf8_acceptRanges {H : Type} : DataW H := .agg [.agg [.lit (.int .u8 128), .lit (.int .u8 191)], .agg [.lit (.int .u8 160), .lit (.int .u8 191)], .agg [.lit (.int .u8 128), .lit (.int .u8 159)], .agg [.lit (.int .u8 144), .lit (.int .u8 191)], .agg [.lit (.int .u8 128), .lit (.int .u8 143)], .agg [.lit (.int .u8 0), .lit (.int .u8 0)], .agg [.lit (.int .u8 0), .lit (.int .u8 0)], .agg [.lit (.int .u8 0), .lit (.int .u8 0)], .agg [.lit (.int .u8 0), .lit (.int .u8 0)], .agg [.lit (.int .u8 0), .lit (.int .u8 0)], .agg [.lit (.int .u8 0), .lit (.int .u8 0)], .agg [.lit (.int .u8 0), .lit (.int .u8 0)], .agg [.lit (.int .u8 0), .lit (.int .u8 0)], .agg [.lit (.int .u8 0), .lit (.int .u8 0)], .agg [.lit (.int .u8 0), .lit (.int .u8 0)], .agg [.lit (.int .u8 0), .lit (.int .u8 0)]]
/-- One of Go's own tables, pinned by name: the form's constant. -/
def laid_unicode_utf8_first : DataW Unit := Go.Pinned.utf8First

/-- 'laws.FnExactIsFooling': WHATEVER THE INPUT: true; the input reads as it did. -/
def fnExactIsFoolingSpec : ChangeSpec := { name := "fnExactIsFooling", fn := fun _ => fun
  | [d1, d2, d3] => { results := [.lit (.bool true)], args := [d1, d2, d3] }
  | _ => none }
def fnExactIsFoolingRow : OpenClaim := { program := "ytgmhddceeomjbaadoor", sum := "3a0a14ba4c5bb276faea79a70e0c3d0814615e54ddb86edade7482b4937cc89e", func := "loop.example/twoplayers/laws.FnExactIsFooling", spec := "fnExactIsFooling", inPlace := ["internal/bytealg.IndexByteString", "internal/bytealg.IndexString"], unfollowed := true, recurses := true, named := ["unicode/utf8.first", "unicode/utf8.acceptRanges", "internal/bytealg.MaxLen"], apart := false, laid := [("unicode/utf8.acceptRanges", laid_unicode_utf8_acceptRanges), ("unicode/utf8.first", laid_unicode_utf8_first)] }
def FnExactIsFoolingSaid : Prop := fnExactIsFoolingRow.holds Tryd.pinned (OpenSpec.ofChange fnExactIsFoolingSpec)

/-- ITS FALSE NEIGHBOUR: 'it returns false'. Refute it at one input. -/
def fnExactIsFoolingWrong : ChangeSpec := { name := "fnExactIsFooling", fn := fun _ => fun
  | [d1, d2, d3] => { results := [.lit (.bool false)], args := [d1, d2, d3] }
  | _ => none }
def FnExactIsFoolingWrongFalsely : Prop := fnExactIsFoolingRow.holds Tryd.pinned (OpenSpec.ofChange fnExactIsFoolingWrong)

/-- 'laws.FnExactDifferentRows': WHATEVER THE INPUT: true; the input reads as it did. -/
def fnExactDifferentRowsSpec : ChangeSpec := { name := "fnExactDifferentRows", fn := fun _ => fun
  | [d] => { results := [.lit (.bool true)], args := [d] }
  | _ => none }
def fnExactDifferentRowsRow : OpenClaim := { program := "ytgmhddceeomjbaadoor", sum := "3a0a14ba4c5bb276faea79a70e0c3d0814615e54ddb86edade7482b4937cc89e", func := "loop.example/twoplayers/laws.FnExactDifferentRows", spec := "fnExactDifferentRows", inPlace := ["internal/bytealg.IndexByteString", "internal/bytealg.IndexString"], unfollowed := true, recurses := true, named := ["unicode/utf8.first", "unicode/utf8.acceptRanges", "internal/bytealg.MaxLen"], apart := false, laid := [("unicode/utf8.acceptRanges", laid_unicode_utf8_acceptRanges), ("unicode/utf8.first", laid_unicode_utf8_first)] }
def FnExactDifferentRowsSaid : Prop := fnExactDifferentRowsRow.holds Tryd.pinned (OpenSpec.ofChange fnExactDifferentRowsSpec)

/-- ITS FALSE NEIGHBOUR: 'it returns false'. Refute it at one input. -/
def fnExactDifferentRowsWrong : ChangeSpec := { name := "fnExactDifferentRows", fn := fun _ => fun
  | [d] => { results := [.lit (.bool false)], args := [d] }
  | _ => none }
def FnExactDifferentRowsWrongFalsely : Prop := fnExactDifferentRowsRow.holds Tryd.pinned (OpenSpec.ofChange fnExactDifferentRowsWrong)

/-- 'laws.FnIsCover': WHATEVER THE INPUT: true; the input reads as it did. -/
def fnIsCoverSpec : ChangeSpec := { name := "fnIsCover", fn := fun _ => fun
  | [d] => { results := [.lit (.bool true)], args := [d] }
  | _ => none }
def fnIsCoverRow : OpenClaim := { program := "ytgmhddceeomjbaadoor", sum := "3a0a14ba4c5bb276faea79a70e0c3d0814615e54ddb86edade7482b4937cc89e", func := "loop.example/twoplayers/laws.FnIsCover", spec := "fnIsCover", inPlace := ["internal/bytealg.IndexByteString", "internal/bytealg.IndexString"], unfollowed := true, recurses := true, named := ["unicode/utf8.first", "unicode/utf8.acceptRanges", "internal/bytealg.MaxLen"], apart := false, laid := [("unicode/utf8.acceptRanges", laid_unicode_utf8_acceptRanges), ("unicode/utf8.first", laid_unicode_utf8_first)] }
def FnIsCoverSaid : Prop := fnIsCoverRow.holds Tryd.pinned (OpenSpec.ofChange fnIsCoverSpec)

/-- ITS FALSE NEIGHBOUR: 'it returns false'. Refute it at one input. -/
def fnIsCoverWrong : ChangeSpec := { name := "fnIsCover", fn := fun _ => fun
  | [d] => { results := [.lit (.bool false)], args := [d] }
  | _ => none }
def FnIsCoverWrongFalsely : Prop := fnIsCoverRow.holds Tryd.pinned (OpenSpec.ofChange fnIsCoverWrong)

/-- 'laws.FnIsPartition': WHATEVER THE INPUT: true; the input reads as it did. -/
def fnIsPartitionSpec : ChangeSpec := { name := "fnIsPartition", fn := fun _ => fun
  | [d] => { results := [.lit (.bool true)], args := [d] }
  | _ => none }
def fnIsPartitionRow : OpenClaim := { program := "ytgmhddceeomjbaadoor", sum := "3a0a14ba4c5bb276faea79a70e0c3d0814615e54ddb86edade7482b4937cc89e", func := "loop.example/twoplayers/laws.FnIsPartition", spec := "fnIsPartition", inPlace := ["internal/bytealg.IndexByteString", "internal/bytealg.IndexString", "internal/bytealg.CountString"], unfollowed := true, recurses := true, named := ["unicode/utf8.first", "unicode/utf8.acceptRanges", "internal/bytealg.MaxLen"], apart := false, laid := [("unicode/utf8.acceptRanges", laid_unicode_utf8_acceptRanges), ("unicode/utf8.first", laid_unicode_utf8_first)] }
def FnIsPartitionSaid : Prop := fnIsPartitionRow.holds Tryd.pinned (OpenSpec.ofChange fnIsPartitionSpec)

/-- ITS FALSE NEIGHBOUR: 'it returns false'. Refute it at one input. -/
def fnIsPartitionWrong : ChangeSpec := { name := "fnIsPartition", fn := fun _ => fun
  | [d] => { results := [.lit (.bool false)], args := [d] }
  | _ => none }
def FnIsPartitionWrongFalsely : Prop := fnIsPartitionRow.holds Tryd.pinned (OpenSpec.ofChange fnIsPartitionWrong)

/-- 'laws.FnPick': WHATEVER THE INPUT: true; the input reads as it did. -/
def fnPickSpec : ChangeSpec := { name := "fnPick", fn := fun _ => fun
  | [d] => { results := [.lit (.bool true)], args := [d] }
  | _ => none }
def fnPickRow : OpenClaim := { program := "ytgmhddceeomjbaadoor", sum := "3a0a14ba4c5bb276faea79a70e0c3d0814615e54ddb86edade7482b4937cc89e", func := "loop.example/twoplayers/laws.FnPick", spec := "fnPick", inPlace := ["internal/bytealg.IndexByteString", "internal/bytealg.IndexString"], unfollowed := true, recurses := true, named := ["unicode/utf8.first", "unicode/utf8.acceptRanges", "internal/bytealg.MaxLen"], apart := false, laid := [("unicode/utf8.acceptRanges", laid_unicode_utf8_acceptRanges), ("unicode/utf8.first", laid_unicode_utf8_first)] }
def FnPickSaid : Prop := fnPickRow.holds Tryd.pinned (OpenSpec.ofChange fnPickSpec)

/-- ITS FALSE NEIGHBOUR: 'it returns false'. Refute it at one input. -/
def fnPickWrong : ChangeSpec := { name := "fnPick", fn := fun _ => fun
  | [d] => { results := [.lit (.bool false)], args := [d] }
  | _ => none }
def FnPickWrongFalsely : Prop := fnPickRow.holds Tryd.pinned (OpenSpec.ofChange fnPickWrong)

/-- 'laws.FnShrink': WHATEVER THE INPUT: true; the input reads as it did. -/
def fnShrinkSpec : ChangeSpec := { name := "fnShrink", fn := fun _ => fun
  | [d] => { results := [.lit (.bool true)], args := [d] }
  | _ => none }
def fnShrinkRow : OpenClaim := { program := "ytgmhddceeomjbaadoor", sum := "3a0a14ba4c5bb276faea79a70e0c3d0814615e54ddb86edade7482b4937cc89e", func := "loop.example/twoplayers/laws.FnShrink", spec := "fnShrink", inPlace := ["internal/bytealg.IndexByteString", "internal/bytealg.IndexString"], unfollowed := true, recurses := true, named := ["unicode/utf8.first", "unicode/utf8.acceptRanges", "internal/bytealg.MaxLen"], apart := false, laid := [("unicode/utf8.acceptRanges", laid_unicode_utf8_acceptRanges), ("unicode/utf8.first", laid_unicode_utf8_first)] }
def FnShrinkSaid : Prop := fnShrinkRow.holds Tryd.pinned (OpenSpec.ofChange fnShrinkSpec)

/-- ITS FALSE NEIGHBOUR: 'it returns false'. Refute it at one input. -/
def fnShrinkWrong : ChangeSpec := { name := "fnShrink", fn := fun _ => fun
  | [d] => { results := [.lit (.bool false)], args := [d] }
  | _ => none }
def FnShrinkWrongFalsely : Prop := fnShrinkRow.holds Tryd.pinned (OpenSpec.ofChange fnShrinkWrong)

/-- 'laws.FnFamilies': WHATEVER THE INPUT: true; the input reads as it did. -/
def fnFamiliesSpec : ChangeSpec := { name := "fnFamilies", fn := fun _ => fun
  | [d] => { results := [.lit (.bool true)], args := [d] }
  | _ => none }
def fnFamiliesRow : OpenClaim := { program := "ytgmhddceeomjbaadoor", sum := "3a0a14ba4c5bb276faea79a70e0c3d0814615e54ddb86edade7482b4937cc89e", func := "loop.example/twoplayers/laws.FnFamilies", spec := "fnFamilies", inPlace := ["internal/bytealg.IndexByteString", "internal/bytealg.IndexString", "internal/bytealg.CountString"], unfollowed := true, recurses := true, named := ["unicode/utf8.first", "unicode/utf8.acceptRanges", "internal/bytealg.MaxLen"], apart := false, laid := [("unicode/utf8.acceptRanges", laid_unicode_utf8_acceptRanges), ("unicode/utf8.first", laid_unicode_utf8_first)] }
def FnFamiliesSaid : Prop := fnFamiliesRow.holds Tryd.pinned (OpenSpec.ofChange fnFamiliesSpec)

/-- ITS FALSE NEIGHBOUR: 'it returns false'. Refute it at one input. -/
def fnFamiliesWrong : ChangeSpec := { name := "fnFamilies", fn := fun _ => fun
  | [d] => { results := [.lit (.bool false)], args := [d] }
  | _ => none }
def FnFamiliesWrongFalsely : Prop := fnFamiliesRow.holds Tryd.pinned (OpenSpec.ofChange fnFamiliesWrong)

/-- 'laws.FnSets': WHATEVER THE INPUT: true; the input reads as it did. -/
def fnSetsSpec : ChangeSpec := { name := "fnSets", fn := fun _ => fun
  | [d] => { results := [.lit (.bool true)], args := [d] }
  | _ => none }
def fnSetsRow : OpenClaim := { program := "ytgmhddceeomjbaadoor", sum := "3a0a14ba4c5bb276faea79a70e0c3d0814615e54ddb86edade7482b4937cc89e", func := "loop.example/twoplayers/laws.FnSets", spec := "fnSets", inPlace := ["internal/bytealg.IndexByteString", "internal/bytealg.IndexString"], unfollowed := true, recurses := true, named := ["unicode/utf8.first", "unicode/utf8.acceptRanges", "internal/bytealg.MaxLen"], apart := false, laid := [("unicode/utf8.acceptRanges", laid_unicode_utf8_acceptRanges), ("unicode/utf8.first", laid_unicode_utf8_first)] }
def FnSetsSaid : Prop := fnSetsRow.holds Tryd.pinned (OpenSpec.ofChange fnSetsSpec)

/-- ITS FALSE NEIGHBOUR: 'it returns false'. Refute it at one input. -/
def fnSetsWrong : ChangeSpec := { name := "fnSets", fn := fun _ => fun
  | [d] => { results := [.lit (.bool false)], args := [d] }
  | _ => none }
def FnSetsWrongFalsely : Prop := fnSetsRow.holds Tryd.pinned (OpenSpec.ofChange fnSetsWrong)

/- THE SECOND FORM. 'bulk': how many values and letters a reading holds, each counted each time it is reached (what is shared counts as often as it is met; a slice's spare places count too). A statement '..UptoSaid' is the law's where the arguments, and the package variables that the reading takes, are together of bulk at most 1048576: NARROWER than '..Said'. Prove '..Said' where nothing that the law and all that it calls make is longer than what came in: it says more and counts as full. Else prove '..UptoSaid'. A law counts once. -/
mutual
def uptoBulk {H : Type} : DataW H → Nat
  | .lit (.string bytes) => bytes.length + 1
  | .lit _ => 1
  | .nil => 1
  | .ptr d => uptoBulk d + 1
  | .slice elems spare => uptoBulkAll elems + uptoBulkAll spare + 1
  | .agg parts => uptoBulkAll parts + 1
  | .iface _ d => uptoBulk d + 1
  | .map entries => uptoBulkEntries entries + 1
  | .held _ => 1
def uptoBulkAll {H : Type} : List (DataW H) → Nat
  | [] => 0
  | d :: r => uptoBulk d + uptoBulkAll r
def uptoBulkEntries {H : Type} : List (Lit × DataW H) → Nat
  | [] => 0
  | x :: r => uptoBulkEntry x + uptoBulkEntries r
def uptoBulkEntry {H : Type} : Lit × DataW H → Nat
  | (.string bytes, d) => bytes.length + uptoBulk d + 1
  | (_, d) => uptoBulk d + 1
 end
def uptoSmall : (H : Type) → List (DataW H) → Bool := fun _ ds => decide (uptoBulkAll ds ≤ 1048576)
def OpenSpec.upto (s : _root_.Go.ChangeSpec) : _root_.Go.OpenSpec := { _root_.Go.OpenSpec.ofChange s with cond := some uptoSmall }

/-- 'laws.FnExactIsFooling', WHERE WHAT IT READS IS OF BULK AT MOST 1048576: true; the input reads as it did. -/
def fnExactIsFoolingUptoRow : OpenClaim := { program := "ytgmhddceeomjbaadoor", sum := "3a0a14ba4c5bb276faea79a70e0c3d0814615e54ddb86edade7482b4937cc89e", func := "loop.example/twoplayers/laws.FnExactIsFooling", spec := "fnExactIsFooling", inPlace := ["internal/bytealg.IndexByteString", "internal/bytealg.IndexString"], unfollowed := true, recurses := true, named := ["unicode/utf8.first", "unicode/utf8.acceptRanges", "internal/bytealg.MaxLen"], apart := false, laid := [("unicode/utf8.acceptRanges", laid_unicode_utf8_acceptRanges), ("unicode/utf8.first", laid_unicode_utf8_first)], narrowed := true }
def FnExactIsFoolingUptoSaid : Prop := fnExactIsFoolingUptoRow.holds Tryd.pinned (OpenSpec.upto fnExactIsFoolingSpec)

/-- 'laws.FnExactDifferentRows', WHERE WHAT IT READS IS OF BULK AT MOST 1048576: true; the input reads as it did. -/
def fnExactDifferentRowsUptoRow : OpenClaim := { program := "ytgmhddceeomjbaadoor", sum := "3a0a14ba4c5bb276faea79a70e0c3d0814615e54ddb86edade7482b4937cc89e", func := "loop.example/twoplayers/laws.FnExactDifferentRows", spec := "fnExactDifferentRows", inPlace := ["internal/bytealg.IndexByteString", "internal/bytealg.IndexString"], unfollowed := true, recurses := true, named := ["unicode/utf8.first", "unicode/utf8.acceptRanges", "internal/bytealg.MaxLen"], apart := false, laid := [("unicode/utf8.acceptRanges", laid_unicode_utf8_acceptRanges), ("unicode/utf8.first", laid_unicode_utf8_first)], narrowed := true }
def FnExactDifferentRowsUptoSaid : Prop := fnExactDifferentRowsUptoRow.holds Tryd.pinned (OpenSpec.upto fnExactDifferentRowsSpec)

/-- 'laws.FnIsCover', WHERE WHAT IT READS IS OF BULK AT MOST 1048576: true; the input reads as it did. -/
def fnIsCoverUptoRow : OpenClaim := { program := "ytgmhddceeomjbaadoor", sum := "3a0a14ba4c5bb276faea79a70e0c3d0814615e54ddb86edade7482b4937cc89e", func := "loop.example/twoplayers/laws.FnIsCover", spec := "fnIsCover", inPlace := ["internal/bytealg.IndexByteString", "internal/bytealg.IndexString"], unfollowed := true, recurses := true, named := ["unicode/utf8.first", "unicode/utf8.acceptRanges", "internal/bytealg.MaxLen"], apart := false, laid := [("unicode/utf8.acceptRanges", laid_unicode_utf8_acceptRanges), ("unicode/utf8.first", laid_unicode_utf8_first)], narrowed := true }
def FnIsCoverUptoSaid : Prop := fnIsCoverUptoRow.holds Tryd.pinned (OpenSpec.upto fnIsCoverSpec)

/-- 'laws.FnIsPartition', WHERE WHAT IT READS IS OF BULK AT MOST 1048576: true; the input reads as it did. -/
def fnIsPartitionUptoRow : OpenClaim := { program := "ytgmhddceeomjbaadoor", sum := "3a0a14ba4c5bb276faea79a70e0c3d0814615e54ddb86edade7482b4937cc89e", func := "loop.example/twoplayers/laws.FnIsPartition", spec := "fnIsPartition", inPlace := ["internal/bytealg.IndexByteString", "internal/bytealg.IndexString", "internal/bytealg.CountString"], unfollowed := true, recurses := true, named := ["unicode/utf8.first", "unicode/utf8.acceptRanges", "internal/bytealg.MaxLen"], apart := false, laid := [("unicode/utf8.acceptRanges", laid_unicode_utf8_acceptRanges), ("unicode/utf8.first", laid_unicode_utf8_first)], narrowed := true }
def FnIsPartitionUptoSaid : Prop := fnIsPartitionUptoRow.holds Tryd.pinned (OpenSpec.upto fnIsPartitionSpec)

/-- 'laws.FnPick', WHERE WHAT IT READS IS OF BULK AT MOST 1048576: true; the input reads as it did. -/
def fnPickUptoRow : OpenClaim := { program := "ytgmhddceeomjbaadoor", sum := "3a0a14ba4c5bb276faea79a70e0c3d0814615e54ddb86edade7482b4937cc89e", func := "loop.example/twoplayers/laws.FnPick", spec := "fnPick", inPlace := ["internal/bytealg.IndexByteString", "internal/bytealg.IndexString"], unfollowed := true, recurses := true, named := ["unicode/utf8.first", "unicode/utf8.acceptRanges", "internal/bytealg.MaxLen"], apart := false, laid := [("unicode/utf8.acceptRanges", laid_unicode_utf8_acceptRanges), ("unicode/utf8.first", laid_unicode_utf8_first)], narrowed := true }
def FnPickUptoSaid : Prop := fnPickUptoRow.holds Tryd.pinned (OpenSpec.upto fnPickSpec)

/-- 'laws.FnShrink', WHERE WHAT IT READS IS OF BULK AT MOST 1048576: true; the input reads as it did. -/
def fnShrinkUptoRow : OpenClaim := { program := "ytgmhddceeomjbaadoor", sum := "3a0a14ba4c5bb276faea79a70e0c3d0814615e54ddb86edade7482b4937cc89e", func := "loop.example/twoplayers/laws.FnShrink", spec := "fnShrink", inPlace := ["internal/bytealg.IndexByteString", "internal/bytealg.IndexString"], unfollowed := true, recurses := true, named := ["unicode/utf8.first", "unicode/utf8.acceptRanges", "internal/bytealg.MaxLen"], apart := false, laid := [("unicode/utf8.acceptRanges", laid_unicode_utf8_acceptRanges), ("unicode/utf8.first", laid_unicode_utf8_first)], narrowed := true }
def FnShrinkUptoSaid : Prop := fnShrinkUptoRow.holds Tryd.pinned (OpenSpec.upto fnShrinkSpec)

/-- 'laws.FnFamilies', WHERE WHAT IT READS IS OF BULK AT MOST 1048576: true; the input reads as it did. -/
def fnFamiliesUptoRow : OpenClaim := { program := "ytgmhddceeomjbaadoor", sum := "3a0a14ba4c5bb276faea79a70e0c3d0814615e54ddb86edade7482b4937cc89e", func := "loop.example/twoplayers/laws.FnFamilies", spec := "fnFamilies", inPlace := ["internal/bytealg.IndexByteString", "internal/bytealg.IndexString", "internal/bytealg.CountString"], unfollowed := true, recurses := true, named := ["unicode/utf8.first", "unicode/utf8.acceptRanges", "internal/bytealg.MaxLen"], apart := false, laid := [("unicode/utf8.acceptRanges", laid_unicode_utf8_acceptRanges), ("unicode/utf8.first", laid_unicode_utf8_first)], narrowed := true }
def FnFamiliesUptoSaid : Prop := fnFamiliesUptoRow.holds Tryd.pinned (OpenSpec.upto fnFamiliesSpec)

/-- 'laws.FnSets', WHERE WHAT IT READS IS OF BULK AT MOST 1048576: true; the input reads as it did. -/
def fnSetsUptoRow : OpenClaim := { program := "ytgmhddceeomjbaadoor", sum := "3a0a14ba4c5bb276faea79a70e0c3d0814615e54ddb86edade7482b4937cc89e", func := "loop.example/twoplayers/laws.FnSets", spec := "fnSets", inPlace := ["internal/bytealg.IndexByteString", "internal/bytealg.IndexString"], unfollowed := true, recurses := true, named := ["unicode/utf8.first", "unicode/utf8.acceptRanges", "internal/bytealg.MaxLen"], apart := false, laid := [("unicode/utf8.acceptRanges", laid_unicode_utf8_acceptRanges), ("unicode/utf8.first", laid_unicode_utf8_first)], narrowed := true }
def FnSetsUptoSaid : Prop := fnSetsUptoRow.holds Tryd.pinned (OpenSpec.upto fnSetsSpec)

end Rows
end Go.Proofs.YtgmhddceeomjbaaDoor
