/-
  NARROWER THAN 'FOR EVERY INPUT', by the rows' own cells (each row's printed sentence says how): FnColour: laid · FnTurnOther: laid · FnMatrixText: laid · FnExactLargestRect: laid · FnExactIsFooling: laid · FnJoinMatrices: laid · FnPairMatrices: laid · FnIsCover: laid · FnIsPartition: laid.
  DERIVED. THE GIVEN ROWS OF THIS SEAT. 9 by the template 'for every input the law returns true; each argument reads behind the call as it read before'; 0 by the template 'total and deterministic' (their statements: YtalechngagkklaaDoorTotals.lean).
  GIVEN WITH THE SEED: the statements are not yours to turn. If you find one false, say at which input.
  Laid BY PROGRAM, IN A SANDBOX (cutbox-rows.mjs): the forced cells as the released guide's own fill.sh prints them over the translation 00785f4f266b797d… (all of the seat's roots in one cut). By AI agents, Wed Nov 11 2026. No macro, syntax, notation, axiom, sorry.
-/
import Derived.Test.YtalechngagkklaaDoorChecked
import GoSem.PinnedTables
import GoSem.Claim
import GoSem.ClaimJoined
import GoSem.ClaimMapViews
import Derived.JoinedTies
import Derived.KernelRfl
namespace Go.Proofs.YtalechngagkklaaDoor
/- THE CELL 'sum', in the pinned program and in every row, IS THE sha256 OF THE DUMP (.gsa) THAT YtalechngagkklaaDoorProg.lean LOADS. Nothing in Lean hashes anything: it is a label: what it is worth is what the hold of that sum in a sandbox is worth. -/
noncomputable def Tryd.pinned : Pinned := { name := "ytalechngagkklaadoor", sum := "00785f4f266b797dfe04be1ca93634339b89f27dbc45edc4ac87119fc14f1a9f", checked := Tryd.checked }
namespace Rows
def none {H : Type} : Left H := { results := [], args := [] }

/- WHAT THE LISTED PACKAGE-LEVEL VARIABLES READ AS WHEN THE CALL BEGINS. Each datum BY PROGRAM (the guide's laid-datum.mjs) off the statement by which the dump's own 'gosem.cut.vars' lays the variable. In a bare row this is a premise. The card (YtalechngagkklaaDoorCards.lean) ties it to the program's text. -/
def laid_unicode_utf8_acceptRanges {H : Type} : DataW H := .agg [.agg [.lit (.int .u8 128), .lit (.int .u8 191)], .agg [.lit (.int .u8 160), .lit (.int .u8 191)], .agg [.lit (.int .u8 128), .lit (.int .u8 159)], .agg [.lit (.int .u8 144), .lit (.int .u8 191)], .agg [.lit (.int .u8 128), .lit (.int .u8 143)], .agg [.lit (.int .u8 0), .lit (.int .u8 0)], .agg [.lit (.int .u8 0), .lit (.int .u8 0)], .agg [.lit (.int .u8 0), .lit (.int .u8 0)], .agg [.lit (.int .u8 0), .lit (.int .u8 0)], .agg [.lit (.int .u8 0), .lit (.int .u8 0)], .agg [.lit (.int .u8 0), .lit (.int .u8 0)], .agg [.lit (.int .u8 0), .lit (.int .u8 0)], .agg [.lit (.int .u8 0), .lit (.int .u8 0)], .agg [.lit (.int .u8 0), .lit (.int .u8 0)], .agg [.lit (.int .u8 0), .lit (.int .u8 0)], .agg [.lit (.int .u8 0), .lit (.int .u8 0)]]
/-- One of Go's own tables, pinned by name: the form's constant. -/
def laid_unicode_utf8_first : DataW Unit := Go.Pinned.utf8First

/-- 'laws.FnColour': WHATEVER THE INPUT: true; the input reads as it did. -/
def fnColourSpec : ChangeSpec := { name := "fnColour", fn := fun _ => fun
  | [d] => { results := [.lit (.bool true)], args := [d] }
  | _ => none }
def fnColourRow : OpenClaim := { program := "ytalechngagkklaadoor", sum := "00785f4f266b797dfe04be1ca93634339b89f27dbc45edc4ac87119fc14f1a9f", func := "loop.example/twoplayers/laws.FnColour", spec := "fnColour", inPlace := ["internal/bytealg.IndexByteString", "internal/bytealg.IndexString"], unfollowed := true, recurses := true, named := ["unicode/utf8.first", "unicode/utf8.acceptRanges", "internal/bytealg.MaxLen"], plainKeys := false, apart := false, laid := [("unicode/utf8.acceptRanges", laid_unicode_utf8_acceptRanges), ("unicode/utf8.first", laid_unicode_utf8_first)] }
def FnColourSaid : Prop := fnColourRow.holds Tryd.pinned (OpenSpec.ofChange fnColourSpec)

/-- ITS FALSE NEIGHBOUR: 'it returns false'. Refute it at one input. -/
def fnColourWrong : ChangeSpec := { name := "fnColour", fn := fun _ => fun
  | [d] => { results := [.lit (.bool false)], args := [d] }
  | _ => none }
def FnColourWrongFalsely : Prop := fnColourRow.holds Tryd.pinned (OpenSpec.ofChange fnColourWrong)

/-- 'laws.FnTurnOther': WHATEVER THE INPUT: true; the input reads as it did. -/
def fnTurnOtherSpec : ChangeSpec := { name := "fnTurnOther", fn := fun _ => fun
  | [d] => { results := [.lit (.bool true)], args := [d] }
  | _ => none }
def fnTurnOtherRow : OpenClaim := { program := "ytalechngagkklaadoor", sum := "00785f4f266b797dfe04be1ca93634339b89f27dbc45edc4ac87119fc14f1a9f", func := "loop.example/twoplayers/laws.FnTurnOther", spec := "fnTurnOther", inPlace := ["internal/bytealg.IndexByteString", "internal/bytealg.IndexString", "internal/bytealg.CountString"], unfollowed := true, recurses := true, named := ["unicode/utf8.first", "unicode/utf8.acceptRanges", "internal/bytealg.MaxLen"], plainKeys := false, apart := false, laid := [("unicode/utf8.acceptRanges", laid_unicode_utf8_acceptRanges), ("unicode/utf8.first", laid_unicode_utf8_first)] }
def FnTurnOtherSaid : Prop := fnTurnOtherRow.holds Tryd.pinned (OpenSpec.ofChange fnTurnOtherSpec)

/-- ITS FALSE NEIGHBOUR: 'it returns false'. Refute it at one input. -/
def fnTurnOtherWrong : ChangeSpec := { name := "fnTurnOther", fn := fun _ => fun
  | [d] => { results := [.lit (.bool false)], args := [d] }
  | _ => none }
def FnTurnOtherWrongFalsely : Prop := fnTurnOtherRow.holds Tryd.pinned (OpenSpec.ofChange fnTurnOtherWrong)

/-- 'laws.FnMatrixText': WHATEVER THE INPUT: true; the input reads as it did. -/
def fnMatrixTextSpec : ChangeSpec := { name := "fnMatrixText", fn := fun _ => fun
  | [d1, d2] => { results := [.lit (.bool true)], args := [d1, d2] }
  | _ => none }
def fnMatrixTextRow : OpenClaim := { program := "ytalechngagkklaadoor", sum := "00785f4f266b797dfe04be1ca93634339b89f27dbc45edc4ac87119fc14f1a9f", func := "loop.example/twoplayers/laws.FnMatrixText", spec := "fnMatrixText", inPlace := ["internal/bytealg.IndexByteString", "internal/bytealg.IndexString", "internal/abi.NoEscape", "internal/bytealg.MakeNoZero", "internal/bytealg.CountString"], named := ["unicode/utf8.first", "unicode/utf8.acceptRanges", "internal/bytealg.MaxLen"], plainKeys := false, apart := false, laid := [("unicode/utf8.acceptRanges", laid_unicode_utf8_acceptRanges), ("unicode/utf8.first", laid_unicode_utf8_first)] }
def FnMatrixTextSaid : Prop := fnMatrixTextRow.holds Tryd.pinned (OpenSpec.ofChange fnMatrixTextSpec)

/-- ITS FALSE NEIGHBOUR: 'it returns false'. Refute it at one input. -/
def fnMatrixTextWrong : ChangeSpec := { name := "fnMatrixText", fn := fun _ => fun
  | [d1, d2] => { results := [.lit (.bool false)], args := [d1, d2] }
  | _ => none }
def FnMatrixTextWrongFalsely : Prop := fnMatrixTextRow.holds Tryd.pinned (OpenSpec.ofChange fnMatrixTextWrong)

/-- 'laws.FnExactLargestRect': WHATEVER THE INPUT: true; the input reads as it did. -/
def fnExactLargestRectSpec : ChangeSpec := { name := "fnExactLargestRect", fn := fun _ => fun
  | [d1, d2] => { results := [.lit (.bool true)], args := [d1, d2] }
  | _ => none }
def fnExactLargestRectRow : OpenClaim := { program := "ytalechngagkklaadoor", sum := "00785f4f266b797dfe04be1ca93634339b89f27dbc45edc4ac87119fc14f1a9f", func := "loop.example/twoplayers/laws.FnExactLargestRect", spec := "fnExactLargestRect", inPlace := ["internal/bytealg.IndexByteString", "internal/bytealg.IndexString"], unfollowed := true, recurses := true, named := ["unicode/utf8.first", "unicode/utf8.acceptRanges", "internal/bytealg.MaxLen"], plainKeys := false, apart := false, laid := [("unicode/utf8.acceptRanges", laid_unicode_utf8_acceptRanges), ("unicode/utf8.first", laid_unicode_utf8_first)] }
def FnExactLargestRectSaid : Prop := fnExactLargestRectRow.holds Tryd.pinned (OpenSpec.ofChange fnExactLargestRectSpec)

/-- ITS FALSE NEIGHBOUR: 'it returns false'. Refute it at one input. -/
def fnExactLargestRectWrong : ChangeSpec := { name := "fnExactLargestRect", fn := fun _ => fun
  | [d1, d2] => { results := [.lit (.bool false)], args := [d1, d2] }
  | _ => none }
def FnExactLargestRectWrongFalsely : Prop := fnExactLargestRectRow.holds Tryd.pinned (OpenSpec.ofChange fnExactLargestRectWrong)

/-- 'laws.FnExactIsFooling': WHATEVER THE INPUT: true; the input reads as it did. -/
def fnExactIsFoolingSpec : ChangeSpec := { name := "fnExactIsFooling", fn := fun _ => fun
  | [d1, d2, d3] => { results := [.lit (.bool true)], args := [d1, d2, d3] }
  | _ => none }
def fnExactIsFoolingRow : OpenClaim := { program := "ytalechngagkklaadoor", sum := "00785f4f266b797dfe04be1ca93634339b89f27dbc45edc4ac87119fc14f1a9f", func := "loop.example/twoplayers/laws.FnExactIsFooling", spec := "fnExactIsFooling", inPlace := ["internal/bytealg.IndexByteString", "internal/bytealg.IndexString"], unfollowed := true, recurses := true, named := ["unicode/utf8.first", "unicode/utf8.acceptRanges", "internal/bytealg.MaxLen"], plainKeys := false, apart := false, laid := [("unicode/utf8.acceptRanges", laid_unicode_utf8_acceptRanges), ("unicode/utf8.first", laid_unicode_utf8_first)] }
def FnExactIsFoolingSaid : Prop := fnExactIsFoolingRow.holds Tryd.pinned (OpenSpec.ofChange fnExactIsFoolingSpec)

/-- ITS FALSE NEIGHBOUR: 'it returns false'. Refute it at one input. -/
def fnExactIsFoolingWrong : ChangeSpec := { name := "fnExactIsFooling", fn := fun _ => fun
  | [d1, d2, d3] => { results := [.lit (.bool false)], args := [d1, d2, d3] }
  | _ => none }
def FnExactIsFoolingWrongFalsely : Prop := fnExactIsFoolingRow.holds Tryd.pinned (OpenSpec.ofChange fnExactIsFoolingWrong)

/-- 'laws.FnJoinMatrices': WHATEVER THE INPUT: true; the input reads as it did. -/
def fnJoinMatricesSpec : ChangeSpec := { name := "fnJoinMatrices", fn := fun _ => fun
  | [d] => { results := [.lit (.bool true)], args := [d] }
  | _ => none }
def fnJoinMatricesRow : OpenClaim := { program := "ytalechngagkklaadoor", sum := "00785f4f266b797dfe04be1ca93634339b89f27dbc45edc4ac87119fc14f1a9f", func := "loop.example/twoplayers/laws.FnJoinMatrices", spec := "fnJoinMatrices", inPlace := ["internal/bytealg.IndexByteString", "internal/bytealg.IndexString"], unfollowed := true, recurses := true, named := ["unicode/utf8.first", "unicode/utf8.acceptRanges", "internal/bytealg.MaxLen"], plainKeys := false, apart := false, laid := [("unicode/utf8.acceptRanges", laid_unicode_utf8_acceptRanges), ("unicode/utf8.first", laid_unicode_utf8_first)] }
def FnJoinMatricesSaid : Prop := fnJoinMatricesRow.holds Tryd.pinned (OpenSpec.ofChange fnJoinMatricesSpec)

/-- ITS FALSE NEIGHBOUR: 'it returns false'. Refute it at one input. -/
def fnJoinMatricesWrong : ChangeSpec := { name := "fnJoinMatrices", fn := fun _ => fun
  | [d] => { results := [.lit (.bool false)], args := [d] }
  | _ => none }
def FnJoinMatricesWrongFalsely : Prop := fnJoinMatricesRow.holds Tryd.pinned (OpenSpec.ofChange fnJoinMatricesWrong)

/-- 'laws.FnPairMatrices': WHATEVER THE INPUT: true; the input reads as it did. -/
def fnPairMatricesSpec : ChangeSpec := { name := "fnPairMatrices", fn := fun _ => fun
  | [d] => { results := [.lit (.bool true)], args := [d] }
  | _ => none }
def fnPairMatricesRow : OpenClaim := { program := "ytalechngagkklaadoor", sum := "00785f4f266b797dfe04be1ca93634339b89f27dbc45edc4ac87119fc14f1a9f", func := "loop.example/twoplayers/laws.FnPairMatrices", spec := "fnPairMatrices", inPlace := ["internal/bytealg.IndexByteString", "internal/bytealg.IndexString", "internal/bytealg.CountString"], unfollowed := true, recurses := true, named := ["unicode/utf8.first", "unicode/utf8.acceptRanges", "internal/bytealg.MaxLen"], plainKeys := false, apart := false, laid := [("unicode/utf8.acceptRanges", laid_unicode_utf8_acceptRanges), ("unicode/utf8.first", laid_unicode_utf8_first)] }
def FnPairMatricesSaid : Prop := fnPairMatricesRow.holds Tryd.pinned (OpenSpec.ofChange fnPairMatricesSpec)

/-- ITS FALSE NEIGHBOUR: 'it returns false'. Refute it at one input. -/
def fnPairMatricesWrong : ChangeSpec := { name := "fnPairMatrices", fn := fun _ => fun
  | [d] => { results := [.lit (.bool false)], args := [d] }
  | _ => none }
def FnPairMatricesWrongFalsely : Prop := fnPairMatricesRow.holds Tryd.pinned (OpenSpec.ofChange fnPairMatricesWrong)

/-- 'laws.FnIsCover': WHATEVER THE INPUT: true; the input reads as it did. -/
def fnIsCoverSpec : ChangeSpec := { name := "fnIsCover", fn := fun _ => fun
  | [d] => { results := [.lit (.bool true)], args := [d] }
  | _ => none }
def fnIsCoverRow : OpenClaim := { program := "ytalechngagkklaadoor", sum := "00785f4f266b797dfe04be1ca93634339b89f27dbc45edc4ac87119fc14f1a9f", func := "loop.example/twoplayers/laws.FnIsCover", spec := "fnIsCover", inPlace := ["internal/bytealg.IndexByteString", "internal/bytealg.IndexString"], unfollowed := true, recurses := true, named := ["unicode/utf8.first", "unicode/utf8.acceptRanges", "internal/bytealg.MaxLen"], plainKeys := false, apart := false, laid := [("unicode/utf8.acceptRanges", laid_unicode_utf8_acceptRanges), ("unicode/utf8.first", laid_unicode_utf8_first)] }
def FnIsCoverSaid : Prop := fnIsCoverRow.holds Tryd.pinned (OpenSpec.ofChange fnIsCoverSpec)

/-- ITS FALSE NEIGHBOUR: 'it returns false'. Refute it at one input. -/
def fnIsCoverWrong : ChangeSpec := { name := "fnIsCover", fn := fun _ => fun
  | [d] => { results := [.lit (.bool false)], args := [d] }
  | _ => none }
def FnIsCoverWrongFalsely : Prop := fnIsCoverRow.holds Tryd.pinned (OpenSpec.ofChange fnIsCoverWrong)

/-- 'laws.FnIsPartition': WHATEVER THE INPUT: true; the input reads as it did. -/
def fnIsPartitionSpec : ChangeSpec := { name := "fnIsPartition", fn := fun _ => fun
  | [d] => { results := [.lit (.bool true)], args := [d] }
  | _ => none }
def fnIsPartitionRow : OpenClaim := { program := "ytalechngagkklaadoor", sum := "00785f4f266b797dfe04be1ca93634339b89f27dbc45edc4ac87119fc14f1a9f", func := "loop.example/twoplayers/laws.FnIsPartition", spec := "fnIsPartition", inPlace := ["internal/bytealg.IndexByteString", "internal/bytealg.IndexString", "internal/bytealg.CountString"], unfollowed := true, recurses := true, named := ["unicode/utf8.first", "unicode/utf8.acceptRanges", "internal/bytealg.MaxLen"], plainKeys := false, apart := false, laid := [("unicode/utf8.acceptRanges", laid_unicode_utf8_acceptRanges), ("unicode/utf8.first", laid_unicode_utf8_first)] }
def FnIsPartitionSaid : Prop := fnIsPartitionRow.holds Tryd.pinned (OpenSpec.ofChange fnIsPartitionSpec)

/-- ITS FALSE NEIGHBOUR: 'it returns false'. Refute it at one input. -/
def fnIsPartitionWrong : ChangeSpec := { name := "fnIsPartition", fn := fun _ => fun
  | [d] => { results := [.lit (.bool false)], args := [d] }
  | _ => none }
def FnIsPartitionWrongFalsely : Prop := fnIsPartitionRow.holds Tryd.pinned (OpenSpec.ofChange fnIsPartitionWrong)

/- THE SECOND FORM. 'bulk': how many values and letters a reading holds, each counted each time it is reached (what is shared counts as often as it is met; a slice's spare places count too). A statement '..UptoSaid' is the law's where the arguments, and the package variables that the reading takes, are together of bulk at most 1048576: NARROWER than '..Said'. Prove '..Said' where nothing that the law and all that it calls make is longer than what came in: it says more and counts as full. Else prove '..UptoSaid'. A law counts once. -/
mutual
def uptoBulk {H : Type} : DataW H → Nat
  | .lit (.string bytes) => bytes.length + 1
  | .lit _ => 1
  | .nil => 1
  | .ptr d => uptoBulk d + 1
  | .slice elems spare => uptoBulkAll elems + uptoBulkAll spare + 1
  | .agg parts => uptoBulkAll parts + 1
  | .iface _ d => uptoBulk d + 1
  | .map entries => uptoBulkEntries entries + 1
  | .held _ => 1
def uptoBulkAll {H : Type} : List (DataW H) → Nat
  | [] => 0
  | d :: r => uptoBulk d + uptoBulkAll r
def uptoBulkEntries {H : Type} : List (Lit × DataW H) → Nat
  | [] => 0
  | x :: r => uptoBulkEntry x + uptoBulkEntries r
def uptoBulkEntry {H : Type} : Lit × DataW H → Nat
  | (.string bytes, d) => bytes.length + uptoBulk d + 1
  | (_, d) => uptoBulk d + 1
 end
def uptoSmall : (H : Type) → List (DataW H) → Bool := fun _ ds => decide (uptoBulkAll ds ≤ 1048576)
def OpenSpec.upto (s : _root_.Go.ChangeSpec) : _root_.Go.OpenSpec := { _root_.Go.OpenSpec.ofChange s with cond := some uptoSmall }

/-- 'laws.FnColour', WHERE WHAT IT READS IS OF BULK AT MOST 1048576: true; the input reads as it did. -/
def fnColourUptoRow : OpenClaim := { program := "ytalechngagkklaadoor", sum := "00785f4f266b797dfe04be1ca93634339b89f27dbc45edc4ac87119fc14f1a9f", func := "loop.example/twoplayers/laws.FnColour", spec := "fnColour", inPlace := ["internal/bytealg.IndexByteString", "internal/bytealg.IndexString"], unfollowed := true, recurses := true, named := ["unicode/utf8.first", "unicode/utf8.acceptRanges", "internal/bytealg.MaxLen"], plainKeys := false, apart := false, laid := [("unicode/utf8.acceptRanges", laid_unicode_utf8_acceptRanges), ("unicode/utf8.first", laid_unicode_utf8_first)], narrowed := true }
def FnColourUptoSaid : Prop := fnColourUptoRow.holds Tryd.pinned (OpenSpec.upto fnColourSpec)

/-- 'laws.FnTurnOther', WHERE WHAT IT READS IS OF BULK AT MOST 1048576: true; the input reads as it did. -/
def fnTurnOtherUptoRow : OpenClaim := { program := "ytalechngagkklaadoor", sum := "00785f4f266b797dfe04be1ca93634339b89f27dbc45edc4ac87119fc14f1a9f", func := "loop.example/twoplayers/laws.FnTurnOther", spec := "fnTurnOther", inPlace := ["internal/bytealg.IndexByteString", "internal/bytealg.IndexString", "internal/bytealg.CountString"], unfollowed := true, recurses := true, named := ["unicode/utf8.first", "unicode/utf8.acceptRanges", "internal/bytealg.MaxLen"], plainKeys := false, apart := false, laid := [("unicode/utf8.acceptRanges", laid_unicode_utf8_acceptRanges), ("unicode/utf8.first", laid_unicode_utf8_first)], narrowed := true }
def FnTurnOtherUptoSaid : Prop := fnTurnOtherUptoRow.holds Tryd.pinned (OpenSpec.upto fnTurnOtherSpec)

/-- 'laws.FnMatrixText', WHERE WHAT IT READS IS OF BULK AT MOST 1048576: true; the input reads as it did. -/
def fnMatrixTextUptoRow : OpenClaim := { program := "ytalechngagkklaadoor", sum := "00785f4f266b797dfe04be1ca93634339b89f27dbc45edc4ac87119fc14f1a9f", func := "loop.example/twoplayers/laws.FnMatrixText", spec := "fnMatrixText", inPlace := ["internal/bytealg.IndexByteString", "internal/bytealg.IndexString", "internal/abi.NoEscape", "internal/bytealg.MakeNoZero", "internal/bytealg.CountString"], named := ["unicode/utf8.first", "unicode/utf8.acceptRanges", "internal/bytealg.MaxLen"], plainKeys := false, apart := false, laid := [("unicode/utf8.acceptRanges", laid_unicode_utf8_acceptRanges), ("unicode/utf8.first", laid_unicode_utf8_first)], narrowed := true }
def FnMatrixTextUptoSaid : Prop := fnMatrixTextUptoRow.holds Tryd.pinned (OpenSpec.upto fnMatrixTextSpec)

/-- 'laws.FnExactLargestRect', WHERE WHAT IT READS IS OF BULK AT MOST 1048576: true; the input reads as it did. -/
def fnExactLargestRectUptoRow : OpenClaim := { program := "ytalechngagkklaadoor", sum := "00785f4f266b797dfe04be1ca93634339b89f27dbc45edc4ac87119fc14f1a9f", func := "loop.example/twoplayers/laws.FnExactLargestRect", spec := "fnExactLargestRect", inPlace := ["internal/bytealg.IndexByteString", "internal/bytealg.IndexString"], unfollowed := true, recurses := true, named := ["unicode/utf8.first", "unicode/utf8.acceptRanges", "internal/bytealg.MaxLen"], plainKeys := false, apart := false, laid := [("unicode/utf8.acceptRanges", laid_unicode_utf8_acceptRanges), ("unicode/utf8.first", laid_unicode_utf8_first)], narrowed := true }
def FnExactLargestRectUptoSaid : Prop := fnExactLargestRectUptoRow.holds Tryd.pinned (OpenSpec.upto fnExactLargestRectSpec)

/-- 'laws.FnExactIsFooling', WHERE WHAT IT READS IS OF BULK AT MOST 1048576: true; the input reads as it did. -/
def fnExactIsFoolingUptoRow : OpenClaim := { program := "ytalechngagkklaadoor", sum := "00785f4f266b797dfe04be1ca93634339b89f27dbc45edc4ac87119fc14f1a9f", func := "loop.example/twoplayers/laws.FnExactIsFooling", spec := "fnExactIsFooling", inPlace := ["internal/bytealg.IndexByteString", "internal/bytealg.IndexString"], unfollowed := true, recurses := true, named := ["unicode/utf8.first", "unicode/utf8.acceptRanges", "internal/bytealg.MaxLen"], plainKeys := false, apart := false, laid := [("unicode/utf8.acceptRanges", laid_unicode_utf8_acceptRanges), ("unicode/utf8.first", laid_unicode_utf8_first)], narrowed := true }
def FnExactIsFoolingUptoSaid : Prop := fnExactIsFoolingUptoRow.holds Tryd.pinned (OpenSpec.upto fnExactIsFoolingSpec)

/-- 'laws.FnJoinMatrices', WHERE WHAT IT READS IS OF BULK AT MOST 1048576: true; the input reads as it did. -/
def fnJoinMatricesUptoRow : OpenClaim := { program := "ytalechngagkklaadoor", sum := "00785f4f266b797dfe04be1ca93634339b89f27dbc45edc4ac87119fc14f1a9f", func := "loop.example/twoplayers/laws.FnJoinMatrices", spec := "fnJoinMatrices", inPlace := ["internal/bytealg.IndexByteString", "internal/bytealg.IndexString"], unfollowed := true, recurses := true, named := ["unicode/utf8.first", "unicode/utf8.acceptRanges", "internal/bytealg.MaxLen"], plainKeys := false, apart := false, laid := [("unicode/utf8.acceptRanges", laid_unicode_utf8_acceptRanges), ("unicode/utf8.first", laid_unicode_utf8_first)], narrowed := true }
def FnJoinMatricesUptoSaid : Prop := fnJoinMatricesUptoRow.holds Tryd.pinned (OpenSpec.upto fnJoinMatricesSpec)

/-- 'laws.FnPairMatrices', WHERE WHAT IT READS IS OF BULK AT MOST 1048576: true; the input reads as it did. -/
def fnPairMatricesUptoRow : OpenClaim := { program := "ytalechngagkklaadoor", sum := "00785f4f266b797dfe04be1ca93634339b89f27dbc45edc4ac87119fc14f1a9f", func := "loop.example/twoplayers/laws.FnPairMatrices", spec := "fnPairMatrices", inPlace := ["internal/bytealg.IndexByteString", "internal/bytealg.IndexString", "internal/bytealg.CountString"], unfollowed := true, recurses := true, named := ["unicode/utf8.first", "unicode/utf8.acceptRanges", "internal/bytealg.MaxLen"], plainKeys := false, apart := false, laid := [("unicode/utf8.acceptRanges", laid_unicode_utf8_acceptRanges), ("unicode/utf8.first", laid_unicode_utf8_first)], narrowed := true }
def FnPairMatricesUptoSaid : Prop := fnPairMatricesUptoRow.holds Tryd.pinned (OpenSpec.upto fnPairMatricesSpec)

/-- 'laws.FnIsCover', WHERE WHAT IT READS IS OF BULK AT MOST 1048576: true; the input reads as it did. -/
def fnIsCoverUptoRow : OpenClaim := { program := "ytalechngagkklaadoor", sum := "00785f4f266b797dfe04be1ca93634339b89f27dbc45edc4ac87119fc14f1a9f", func := "loop.example/twoplayers/laws.FnIsCover", spec := "fnIsCover", inPlace := ["internal/bytealg.IndexByteString", "internal/bytealg.IndexString"], unfollowed := true, recurses := true, named := ["unicode/utf8.first", "unicode/utf8.acceptRanges", "internal/bytealg.MaxLen"], plainKeys := false, apart := false, laid := [("unicode/utf8.acceptRanges", laid_unicode_utf8_acceptRanges), ("unicode/utf8.first", laid_unicode_utf8_first)], narrowed := true }
def FnIsCoverUptoSaid : Prop := fnIsCoverUptoRow.holds Tryd.pinned (OpenSpec.upto fnIsCoverSpec)

/-- 'laws.FnIsPartition', WHERE WHAT IT READS IS OF BULK AT MOST 1048576: true; the input reads as it did. -/
def fnIsPartitionUptoRow : OpenClaim := { program := "ytalechngagkklaadoor", sum := "00785f4f266b797dfe04be1ca93634339b89f27dbc45edc4ac87119fc14f1a9f", func := "loop.example/twoplayers/laws.FnIsPartition", spec := "fnIsPartition", inPlace := ["internal/bytealg.IndexByteString", "internal/bytealg.IndexString", "internal/bytealg.CountString"], unfollowed := true, recurses := true, named := ["unicode/utf8.first", "unicode/utf8.acceptRanges", "internal/bytealg.MaxLen"], plainKeys := false, apart := false, laid := [("unicode/utf8.acceptRanges", laid_unicode_utf8_acceptRanges), ("unicode/utf8.first", laid_unicode_utf8_first)], narrowed := true }
def FnIsPartitionUptoSaid : Prop := fnIsPartitionUptoRow.holds Tryd.pinned (OpenSpec.upto fnIsPartitionSpec)

end Rows
end Go.Proofs.YtalechngagkklaaDoor
