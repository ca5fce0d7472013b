/-
  NARROWER THAN 'FOR EVERY INPUT', by the rows' own cells (each row's printed sentence says how): FnMatrixText: laid · FnTurnOther: laid · FnPick: laid · FnShrink: laid · FnJoinMatrices: laid · FnPairMatrices: laid · FnExactMatrixValid: laid · FnExactFormatMatrix: laid · FnExactParseMatrix: laid · FnExactEntryOf: laid · FnExactTurnMatrix: laid · FnExactOtherMatrix: laid.
  DERIVED. THE GIVEN ROWS OF THIS SEAT. 12 by the template 'for every input the law returns true; each argument reads behind the call as it read before'; 0 by the template 'total and deterministic' (their statements: YtkkclloabbhpdaaDoorTotals.lean).
  GIVEN WITH THE SEED: the statements are not yours to turn. If you find one false, say at which input.
  Laid BY PROGRAM, IN A SANDBOX (cutbox-rows.mjs): the forced cells as the released guide's own fill.sh prints them over the translation 20d08f724690406b… (all of the seat's roots in one cut). By AI agents, Wed Nov 11 2026. No macro, syntax, notation, axiom, sorry.
-/
import Derived.Test.YtkkclloabbhpdaaDoorChecked
import GoSem.PinnedTables
import GoSem.Claim
import GoSem.ClaimJoined
import GoSem.ClaimMapViews
import Derived.JoinedTies
import Derived.KernelRfl
namespace Go.Proofs.YtkkclloabbhpdaaDoor
/- THE CELL 'sum', in the pinned program and in every row, IS THE sha256 OF THE DUMP (.gsa) THAT YtkkclloabbhpdaaDoorProg.lean LOADS. Nothing in Lean hashes anything: it is a label: what it is worth is what the hold of that sum in a sandbox is worth. -/
noncomputable def Tryd.pinned : Pinned := { name := "ytkkclloabbhpdaadoor", sum := "20d08f724690406b5b03b4b2f1d2d3400586bb6fffe551e73a4a40e9f34a8481", checked := Tryd.checked }
namespace Rows
def none {H : Type} : Left H := { results := [], args := [] }

/- WHAT THE LISTED PACKAGE-LEVEL VARIABLES READ AS WHEN THE CALL BEGINS. Each datum BY PROGRAM (the guide's laid-datum.mjs) off the statement by which the dump's own 'gosem.cut.vars' lays the variable. In a bare row this is a premise. The card (YtkkclloabbhpdaaDoorCards.lean) ties it to the program's text. -/
def laid_unicode_utf8_acceptRanges {H : Type} : DataW H := .agg [.agg [.lit (.int .u8 128), .lit (.int .u8 191)], .agg [.lit (.int .u8 160), .lit (.int .u8 191)], .agg [.lit (.int .u8 128), .lit (.int .u8 159)], .agg [.lit (.int .u8 144), .lit (.int .u8 191)], .agg [.lit (.int .u8 128), .lit (.int .u8 143)], .agg [.lit (.int .u8 0), .lit (.int .u8 0)], .agg [.lit (.int .u8 0), .lit (.int .u8 0)], .agg [.lit (.int .u8 0), .lit (.int .u8 0)], .agg [.lit (.int .u8 0), .lit (.int .u8 0)], .agg [.lit (.int .u8 0), .lit (.int .u8 0)], .agg [.lit (.int .u8 0), .lit (.int .u8 0)], .agg [.lit (.int .u8 0), .lit (.int .u8 0)], .agg [.lit (.int .u8 0), .lit (.int .u8 0)], .agg [.lit (.int .u8 0), .lit (.int .u8 0)], .agg [.lit (.int .u8 0), .lit (.int .u8 0)], .agg [.lit (.int .u8 0), .lit (.int .u8 0)]]
/-- One of Go's own tables, pinned by name: the form's constant. -/
def laid_unicode_utf8_first : DataW Unit := Go.Pinned.utf8First

/-- 'laws.FnMatrixText': WHATEVER THE INPUT: true; the input reads as it did. -/
def fnMatrixTextSpec : ChangeSpec := { name := "fnMatrixText", fn := fun _ => fun
  | [d1, d2] => { results := [.lit (.bool true)], args := [d1, d2] }
  | _ => none }
def fnMatrixTextRow : OpenClaim := { program := "ytkkclloabbhpdaadoor", sum := "20d08f724690406b5b03b4b2f1d2d3400586bb6fffe551e73a4a40e9f34a8481", func := "loop.example/twoplayers/laws.FnMatrixText", spec := "fnMatrixText", inPlace := ["internal/bytealg.IndexByteString", "internal/bytealg.IndexString", "internal/abi.NoEscape", "internal/bytealg.MakeNoZero", "internal/bytealg.CountString"], named := ["unicode/utf8.first", "unicode/utf8.acceptRanges", "internal/bytealg.MaxLen"], apart := false, laid := [("unicode/utf8.acceptRanges", laid_unicode_utf8_acceptRanges), ("unicode/utf8.first", laid_unicode_utf8_first)] }
def FnMatrixTextSaid : Prop := fnMatrixTextRow.holds Tryd.pinned (OpenSpec.ofChange fnMatrixTextSpec)

/-- ITS FALSE NEIGHBOUR: 'it returns false'. Refute it at one input. -/
def fnMatrixTextWrong : ChangeSpec := { name := "fnMatrixText", fn := fun _ => fun
  | [d1, d2] => { results := [.lit (.bool false)], args := [d1, d2] }
  | _ => none }
def FnMatrixTextWrongFalsely : Prop := fnMatrixTextRow.holds Tryd.pinned (OpenSpec.ofChange fnMatrixTextWrong)

/-- 'laws.FnTurnOther': WHATEVER THE INPUT: true; the input reads as it did. -/
def fnTurnOtherSpec : ChangeSpec := { name := "fnTurnOther", fn := fun _ => fun
  | [d] => { results := [.lit (.bool true)], args := [d] }
  | _ => none }
def fnTurnOtherRow : OpenClaim := { program := "ytkkclloabbhpdaadoor", sum := "20d08f724690406b5b03b4b2f1d2d3400586bb6fffe551e73a4a40e9f34a8481", func := "loop.example/twoplayers/laws.FnTurnOther", spec := "fnTurnOther", inPlace := ["internal/bytealg.IndexByteString", "internal/bytealg.IndexString", "internal/bytealg.CountString"], unfollowed := true, recurses := true, named := ["unicode/utf8.first", "unicode/utf8.acceptRanges", "internal/bytealg.MaxLen"], apart := false, laid := [("unicode/utf8.acceptRanges", laid_unicode_utf8_acceptRanges), ("unicode/utf8.first", laid_unicode_utf8_first)] }
def FnTurnOtherSaid : Prop := fnTurnOtherRow.holds Tryd.pinned (OpenSpec.ofChange fnTurnOtherSpec)

/-- ITS FALSE NEIGHBOUR: 'it returns false'. Refute it at one input. -/
def fnTurnOtherWrong : ChangeSpec := { name := "fnTurnOther", fn := fun _ => fun
  | [d] => { results := [.lit (.bool false)], args := [d] }
  | _ => none }
def FnTurnOtherWrongFalsely : Prop := fnTurnOtherRow.holds Tryd.pinned (OpenSpec.ofChange fnTurnOtherWrong)

/-- 'laws.FnPick': WHATEVER THE INPUT: true; the input reads as it did. -/
def fnPickSpec : ChangeSpec := { name := "fnPick", fn := fun _ => fun
  | [d] => { results := [.lit (.bool true)], args := [d] }
  | _ => none }
def fnPickRow : OpenClaim := { program := "ytkkclloabbhpdaadoor", sum := "20d08f724690406b5b03b4b2f1d2d3400586bb6fffe551e73a4a40e9f34a8481", func := "loop.example/twoplayers/laws.FnPick", spec := "fnPick", inPlace := ["internal/bytealg.IndexByteString", "internal/bytealg.IndexString"], unfollowed := true, recurses := true, named := ["unicode/utf8.first", "unicode/utf8.acceptRanges", "internal/bytealg.MaxLen"], apart := false, laid := [("unicode/utf8.acceptRanges", laid_unicode_utf8_acceptRanges), ("unicode/utf8.first", laid_unicode_utf8_first)] }
def FnPickSaid : Prop := fnPickRow.holds Tryd.pinned (OpenSpec.ofChange fnPickSpec)

/-- ITS FALSE NEIGHBOUR: 'it returns false'. Refute it at one input. -/
def fnPickWrong : ChangeSpec := { name := "fnPick", fn := fun _ => fun
  | [d] => { results := [.lit (.bool false)], args := [d] }
  | _ => none }
def FnPickWrongFalsely : Prop := fnPickRow.holds Tryd.pinned (OpenSpec.ofChange fnPickWrong)

/-- 'laws.FnShrink': WHATEVER THE INPUT: true; the input reads as it did. -/
def fnShrinkSpec : ChangeSpec := { name := "fnShrink", fn := fun _ => fun
  | [d] => { results := [.lit (.bool true)], args := [d] }
  | _ => none }
def fnShrinkRow : OpenClaim := { program := "ytkkclloabbhpdaadoor", sum := "20d08f724690406b5b03b4b2f1d2d3400586bb6fffe551e73a4a40e9f34a8481", func := "loop.example/twoplayers/laws.FnShrink", spec := "fnShrink", inPlace := ["internal/bytealg.IndexByteString", "internal/bytealg.IndexString"], unfollowed := true, recurses := true, named := ["unicode/utf8.first", "unicode/utf8.acceptRanges", "internal/bytealg.MaxLen"], apart := false, laid := [("unicode/utf8.acceptRanges", laid_unicode_utf8_acceptRanges), ("unicode/utf8.first", laid_unicode_utf8_first)] }
def FnShrinkSaid : Prop := fnShrinkRow.holds Tryd.pinned (OpenSpec.ofChange fnShrinkSpec)

/-- ITS FALSE NEIGHBOUR: 'it returns false'. Refute it at one input. -/
def fnShrinkWrong : ChangeSpec := { name := "fnShrink", fn := fun _ => fun
  | [d] => { results := [.lit (.bool false)], args := [d] }
  | _ => none }
def FnShrinkWrongFalsely : Prop := fnShrinkRow.holds Tryd.pinned (OpenSpec.ofChange fnShrinkWrong)

/-- 'laws.FnJoinMatrices': WHATEVER THE INPUT: true; the input reads as it did. -/
def fnJoinMatricesSpec : ChangeSpec := { name := "fnJoinMatrices", fn := fun _ => fun
  | [d] => { results := [.lit (.bool true)], args := [d] }
  | _ => none }
def fnJoinMatricesRow : OpenClaim := { program := "ytkkclloabbhpdaadoor", sum := "20d08f724690406b5b03b4b2f1d2d3400586bb6fffe551e73a4a40e9f34a8481", func := "loop.example/twoplayers/laws.FnJoinMatrices", spec := "fnJoinMatrices", inPlace := ["internal/bytealg.IndexByteString", "internal/bytealg.IndexString"], unfollowed := true, recurses := true, named := ["unicode/utf8.first", "unicode/utf8.acceptRanges", "internal/bytealg.MaxLen"], apart := false, laid := [("unicode/utf8.acceptRanges", laid_unicode_utf8_acceptRanges), ("unicode/utf8.first", laid_unicode_utf8_first)] }
def FnJoinMatricesSaid : Prop := fnJoinMatricesRow.holds Tryd.pinned (OpenSpec.ofChange fnJoinMatricesSpec)

/-- ITS FALSE NEIGHBOUR: 'it returns false'. Refute it at one input. -/
def fnJoinMatricesWrong : ChangeSpec := { name := "fnJoinMatrices", fn := fun _ => fun
  | [d] => { results := [.lit (.bool false)], args := [d] }
  | _ => none }
def FnJoinMatricesWrongFalsely : Prop := fnJoinMatricesRow.holds Tryd.pinned (OpenSpec.ofChange fnJoinMatricesWrong)

/-- 'laws.FnPairMatrices': WHATEVER THE INPUT: true; the input reads as it did. -/
def fnPairMatricesSpec : ChangeSpec := { name := "fnPairMatrices", fn := fun _ => fun
  | [d] => { results := [.lit (.bool true)], args := [d] }
  | _ => none }
def fnPairMatricesRow : OpenClaim := { program := "ytkkclloabbhpdaadoor", sum := "20d08f724690406b5b03b4b2f1d2d3400586bb6fffe551e73a4a40e9f34a8481", func := "loop.example/twoplayers/laws.FnPairMatrices", spec := "fnPairMatrices", inPlace := ["internal/bytealg.IndexByteString", "internal/bytealg.IndexString", "internal/bytealg.CountString"], unfollowed := true, recurses := true, named := ["unicode/utf8.first", "unicode/utf8.acceptRanges", "internal/bytealg.MaxLen"], apart := false, laid := [("unicode/utf8.acceptRanges", laid_unicode_utf8_acceptRanges), ("unicode/utf8.first", laid_unicode_utf8_first)] }
def FnPairMatricesSaid : Prop := fnPairMatricesRow.holds Tryd.pinned (OpenSpec.ofChange fnPairMatricesSpec)

/-- ITS FALSE NEIGHBOUR: 'it returns false'. Refute it at one input. -/
def fnPairMatricesWrong : ChangeSpec := { name := "fnPairMatrices", fn := fun _ => fun
  | [d] => { results := [.lit (.bool false)], args := [d] }
  | _ => none }
def FnPairMatricesWrongFalsely : Prop := fnPairMatricesRow.holds Tryd.pinned (OpenSpec.ofChange fnPairMatricesWrong)

/-- 'laws.FnExactMatrixValid': WHATEVER THE INPUT: true; the input reads as it did. -/
def fnExactMatrixValidSpec : ChangeSpec := { name := "fnExactMatrixValid", fn := fun _ => fun
  | [d] => { results := [.lit (.bool true)], args := [d] }
  | _ => none }
def fnExactMatrixValidRow : OpenClaim := { program := "ytkkclloabbhpdaadoor", sum := "20d08f724690406b5b03b4b2f1d2d3400586bb6fffe551e73a4a40e9f34a8481", func := "loop.example/twoplayers/laws.FnExactMatrixValid", spec := "fnExactMatrixValid", inPlace := ["internal/bytealg.IndexByteString", "internal/bytealg.IndexString"], named := ["unicode/utf8.first", "unicode/utf8.acceptRanges", "internal/bytealg.MaxLen"], apart := false, laid := [("unicode/utf8.acceptRanges", laid_unicode_utf8_acceptRanges), ("unicode/utf8.first", laid_unicode_utf8_first)] }
def FnExactMatrixValidSaid : Prop := fnExactMatrixValidRow.holds Tryd.pinned (OpenSpec.ofChange fnExactMatrixValidSpec)

/-- ITS FALSE NEIGHBOUR: 'it returns false'. Refute it at one input. -/
def fnExactMatrixValidWrong : ChangeSpec := { name := "fnExactMatrixValid", fn := fun _ => fun
  | [d] => { results := [.lit (.bool false)], args := [d] }
  | _ => none }
def FnExactMatrixValidWrongFalsely : Prop := fnExactMatrixValidRow.holds Tryd.pinned (OpenSpec.ofChange fnExactMatrixValidWrong)

/-- 'laws.FnExactFormatMatrix': WHATEVER THE INPUT: true; the input reads as it did. -/
def fnExactFormatMatrixSpec : ChangeSpec := { name := "fnExactFormatMatrix", fn := fun _ => fun
  | [d] => { results := [.lit (.bool true)], args := [d] }
  | _ => none }
def fnExactFormatMatrixRow : OpenClaim := { program := "ytkkclloabbhpdaadoor", sum := "20d08f724690406b5b03b4b2f1d2d3400586bb6fffe551e73a4a40e9f34a8481", func := "loop.example/twoplayers/laws.FnExactFormatMatrix", spec := "fnExactFormatMatrix", inPlace := ["internal/bytealg.IndexByteString", "internal/bytealg.IndexString", "internal/abi.NoEscape", "internal/bytealg.MakeNoZero"], named := ["unicode/utf8.first", "unicode/utf8.acceptRanges", "internal/bytealg.MaxLen"], apart := false, laid := [("unicode/utf8.acceptRanges", laid_unicode_utf8_acceptRanges), ("unicode/utf8.first", laid_unicode_utf8_first)] }
def FnExactFormatMatrixSaid : Prop := fnExactFormatMatrixRow.holds Tryd.pinned (OpenSpec.ofChange fnExactFormatMatrixSpec)

/-- ITS FALSE NEIGHBOUR: 'it returns false'. Refute it at one input. -/
def fnExactFormatMatrixWrong : ChangeSpec := { name := "fnExactFormatMatrix", fn := fun _ => fun
  | [d] => { results := [.lit (.bool false)], args := [d] }
  | _ => none }
def FnExactFormatMatrixWrongFalsely : Prop := fnExactFormatMatrixRow.holds Tryd.pinned (OpenSpec.ofChange fnExactFormatMatrixWrong)

/-- 'laws.FnExactParseMatrix': WHATEVER THE INPUT: true; the input reads as it did. -/
def fnExactParseMatrixSpec : ChangeSpec := { name := "fnExactParseMatrix", fn := fun _ => fun
  | [d] => { results := [.lit (.bool true)], args := [d] }
  | _ => none }
def fnExactParseMatrixRow : OpenClaim := { program := "ytkkclloabbhpdaadoor", sum := "20d08f724690406b5b03b4b2f1d2d3400586bb6fffe551e73a4a40e9f34a8481", func := "loop.example/twoplayers/laws.FnExactParseMatrix", spec := "fnExactParseMatrix", inPlace := ["internal/bytealg.CountString", "internal/bytealg.IndexByteString", "internal/bytealg.IndexString", "internal/abi.NoEscape", "internal/bytealg.MakeNoZero"], named := ["unicode/utf8.first", "unicode/utf8.acceptRanges", "internal/bytealg.MaxLen"], apart := false, laid := [("unicode/utf8.acceptRanges", laid_unicode_utf8_acceptRanges), ("unicode/utf8.first", laid_unicode_utf8_first)] }
def FnExactParseMatrixSaid : Prop := fnExactParseMatrixRow.holds Tryd.pinned (OpenSpec.ofChange fnExactParseMatrixSpec)

/-- ITS FALSE NEIGHBOUR: 'it returns false'. Refute it at one input. -/
def fnExactParseMatrixWrong : ChangeSpec := { name := "fnExactParseMatrix", fn := fun _ => fun
  | [d] => { results := [.lit (.bool false)], args := [d] }
  | _ => none }
def FnExactParseMatrixWrongFalsely : Prop := fnExactParseMatrixRow.holds Tryd.pinned (OpenSpec.ofChange fnExactParseMatrixWrong)

/-- 'laws.FnExactEntryOf': WHATEVER THE INPUT: true; the input reads as it did. -/
def fnExactEntryOfSpec : ChangeSpec := { name := "fnExactEntryOf", fn := fun _ => fun
  | [d1, d2, d3] => { results := [.lit (.bool true)], args := [d1, d2, d3] }
  | _ => none }
def fnExactEntryOfRow : OpenClaim := { program := "ytkkclloabbhpdaadoor", sum := "20d08f724690406b5b03b4b2f1d2d3400586bb6fffe551e73a4a40e9f34a8481", func := "loop.example/twoplayers/laws.FnExactEntryOf", spec := "fnExactEntryOf", inPlace := ["internal/bytealg.IndexByteString", "internal/bytealg.IndexString"], named := ["unicode/utf8.first", "unicode/utf8.acceptRanges", "internal/bytealg.MaxLen"], apart := false, laid := [("unicode/utf8.acceptRanges", laid_unicode_utf8_acceptRanges), ("unicode/utf8.first", laid_unicode_utf8_first)] }
def FnExactEntryOfSaid : Prop := fnExactEntryOfRow.holds Tryd.pinned (OpenSpec.ofChange fnExactEntryOfSpec)

/-- ITS FALSE NEIGHBOUR: 'it returns false'. Refute it at one input. -/
def fnExactEntryOfWrong : ChangeSpec := { name := "fnExactEntryOf", fn := fun _ => fun
  | [d1, d2, d3] => { results := [.lit (.bool false)], args := [d1, d2, d3] }
  | _ => none }
def FnExactEntryOfWrongFalsely : Prop := fnExactEntryOfRow.holds Tryd.pinned (OpenSpec.ofChange fnExactEntryOfWrong)

/-- 'laws.FnExactTurnMatrix': WHATEVER THE INPUT: true; the input reads as it did. -/
def fnExactTurnMatrixSpec : ChangeSpec := { name := "fnExactTurnMatrix", fn := fun _ => fun
  | [d] => { results := [.lit (.bool true)], args := [d] }
  | _ => none }
def fnExactTurnMatrixRow : OpenClaim := { program := "ytkkclloabbhpdaadoor", sum := "20d08f724690406b5b03b4b2f1d2d3400586bb6fffe551e73a4a40e9f34a8481", func := "loop.example/twoplayers/laws.FnExactTurnMatrix", spec := "fnExactTurnMatrix", inPlace := ["internal/bytealg.IndexByteString", "internal/bytealg.IndexString"], unfollowed := true, recurses := true, named := ["unicode/utf8.first", "unicode/utf8.acceptRanges", "internal/bytealg.MaxLen"], apart := false, laid := [("unicode/utf8.acceptRanges", laid_unicode_utf8_acceptRanges), ("unicode/utf8.first", laid_unicode_utf8_first)] }
def FnExactTurnMatrixSaid : Prop := fnExactTurnMatrixRow.holds Tryd.pinned (OpenSpec.ofChange fnExactTurnMatrixSpec)

/-- ITS FALSE NEIGHBOUR: 'it returns false'. Refute it at one input. -/
def fnExactTurnMatrixWrong : ChangeSpec := { name := "fnExactTurnMatrix", fn := fun _ => fun
  | [d] => { results := [.lit (.bool false)], args := [d] }
  | _ => none }
def FnExactTurnMatrixWrongFalsely : Prop := fnExactTurnMatrixRow.holds Tryd.pinned (OpenSpec.ofChange fnExactTurnMatrixWrong)

/-- 'laws.FnExactOtherMatrix': WHATEVER THE INPUT: true; the input reads as it did. -/
def fnExactOtherMatrixSpec : ChangeSpec := { name := "fnExactOtherMatrix", fn := fun _ => fun
  | [d] => { results := [.lit (.bool true)], args := [d] }
  | _ => none }
def fnExactOtherMatrixRow : OpenClaim := { program := "ytkkclloabbhpdaadoor", sum := "20d08f724690406b5b03b4b2f1d2d3400586bb6fffe551e73a4a40e9f34a8481", func := "loop.example/twoplayers/laws.FnExactOtherMatrix", spec := "fnExactOtherMatrix", inPlace := ["internal/bytealg.IndexByteString", "internal/bytealg.IndexString"], unfollowed := true, recurses := true, named := ["unicode/utf8.first", "unicode/utf8.acceptRanges", "internal/bytealg.MaxLen"], apart := false, laid := [("unicode/utf8.acceptRanges", laid_unicode_utf8_acceptRanges), ("unicode/utf8.first", laid_unicode_utf8_first)] }
def FnExactOtherMatrixSaid : Prop := fnExactOtherMatrixRow.holds Tryd.pinned (OpenSpec.ofChange fnExactOtherMatrixSpec)

/-- ITS FALSE NEIGHBOUR: 'it returns false'. Refute it at one input. -/
def fnExactOtherMatrixWrong : ChangeSpec := { name := "fnExactOtherMatrix", fn := fun _ => fun
  | [d] => { results := [.lit (.bool false)], args := [d] }
  | _ => none }
def FnExactOtherMatrixWrongFalsely : Prop := fnExactOtherMatrixRow.holds Tryd.pinned (OpenSpec.ofChange fnExactOtherMatrixWrong)

/- THE SECOND FORM. 'bulk': how many values and letters a reading holds, each counted each time it is reached (what is shared counts as often as it is met; a slice's spare places count too). A statement '..UptoSaid' is the law's where the arguments, and the package variables that the reading takes, are together of bulk at most 1048576: NARROWER than '..Said'. Prove '..Said' where nothing that the law and all that it calls make is longer than what came in: it says more and counts as full. Else prove '..UptoSaid'. A law counts once. -/
mutual
def uptoBulk {H : Type} : DataW H → Nat
  | .lit (.string bytes) => bytes.length + 1
  | .lit _ => 1
  | .nil => 1
  | .ptr d => uptoBulk d + 1
  | .slice elems spare => uptoBulkAll elems + uptoBulkAll spare + 1
  | .agg parts => uptoBulkAll parts + 1
  | .iface _ d => uptoBulk d + 1
  | .map entries => uptoBulkEntries entries + 1
  | .held _ => 1
def uptoBulkAll {H : Type} : List (DataW H) → Nat
  | [] => 0
  | d :: r => uptoBulk d + uptoBulkAll r
def uptoBulkEntries {H : Type} : List (Lit × DataW H) → Nat
  | [] => 0
  | x :: r => uptoBulkEntry x + uptoBulkEntries r
def uptoBulkEntry {H : Type} : Lit × DataW H → Nat
  | (.string bytes, d) => bytes.length + uptoBulk d + 1
  | (_, d) => uptoBulk d + 1
 end
def uptoSmall : (H : Type) → List (DataW H) → Bool := fun _ ds => decide (uptoBulkAll ds ≤ 1048576)
def OpenSpec.upto (s : _root_.Go.ChangeSpec) : _root_.Go.OpenSpec := { _root_.Go.OpenSpec.ofChange s with cond := some uptoSmall }

/-- 'laws.FnMatrixText', WHERE WHAT IT READS IS OF BULK AT MOST 1048576: true; the input reads as it did. -/
def fnMatrixTextUptoRow : OpenClaim := { program := "ytkkclloabbhpdaadoor", sum := "20d08f724690406b5b03b4b2f1d2d3400586bb6fffe551e73a4a40e9f34a8481", func := "loop.example/twoplayers/laws.FnMatrixText", spec := "fnMatrixText", inPlace := ["internal/bytealg.IndexByteString", "internal/bytealg.IndexString", "internal/abi.NoEscape", "internal/bytealg.MakeNoZero", "internal/bytealg.CountString"], named := ["unicode/utf8.first", "unicode/utf8.acceptRanges", "internal/bytealg.MaxLen"], apart := false, laid := [("unicode/utf8.acceptRanges", laid_unicode_utf8_acceptRanges), ("unicode/utf8.first", laid_unicode_utf8_first)], narrowed := true }
def FnMatrixTextUptoSaid : Prop := fnMatrixTextUptoRow.holds Tryd.pinned (OpenSpec.upto fnMatrixTextSpec)

/-- 'laws.FnTurnOther', WHERE WHAT IT READS IS OF BULK AT MOST 1048576: true; the input reads as it did. -/
def fnTurnOtherUptoRow : OpenClaim := { program := "ytkkclloabbhpdaadoor", sum := "20d08f724690406b5b03b4b2f1d2d3400586bb6fffe551e73a4a40e9f34a8481", func := "loop.example/twoplayers/laws.FnTurnOther", spec := "fnTurnOther", inPlace := ["internal/bytealg.IndexByteString", "internal/bytealg.IndexString", "internal/bytealg.CountString"], unfollowed := true, recurses := true, named := ["unicode/utf8.first", "unicode/utf8.acceptRanges", "internal/bytealg.MaxLen"], apart := false, laid := [("unicode/utf8.acceptRanges", laid_unicode_utf8_acceptRanges), ("unicode/utf8.first", laid_unicode_utf8_first)], narrowed := true }
def FnTurnOtherUptoSaid : Prop := fnTurnOtherUptoRow.holds Tryd.pinned (OpenSpec.upto fnTurnOtherSpec)

/-- 'laws.FnPick', WHERE WHAT IT READS IS OF BULK AT MOST 1048576: true; the input reads as it did. -/
def fnPickUptoRow : OpenClaim := { program := "ytkkclloabbhpdaadoor", sum := "20d08f724690406b5b03b4b2f1d2d3400586bb6fffe551e73a4a40e9f34a8481", func := "loop.example/twoplayers/laws.FnPick", spec := "fnPick", inPlace := ["internal/bytealg.IndexByteString", "internal/bytealg.IndexString"], unfollowed := true, recurses := true, named := ["unicode/utf8.first", "unicode/utf8.acceptRanges", "internal/bytealg.MaxLen"], apart := false, laid := [("unicode/utf8.acceptRanges", laid_unicode_utf8_acceptRanges), ("unicode/utf8.first", laid_unicode_utf8_first)], narrowed := true }
def FnPickUptoSaid : Prop := fnPickUptoRow.holds Tryd.pinned (OpenSpec.upto fnPickSpec)

/-- 'laws.FnShrink', WHERE WHAT IT READS IS OF BULK AT MOST 1048576: true; the input reads as it did. -/
def fnShrinkUptoRow : OpenClaim := { program := "ytkkclloabbhpdaadoor", sum := "20d08f724690406b5b03b4b2f1d2d3400586bb6fffe551e73a4a40e9f34a8481", func := "loop.example/twoplayers/laws.FnShrink", spec := "fnShrink", inPlace := ["internal/bytealg.IndexByteString", "internal/bytealg.IndexString"], unfollowed := true, recurses := true, named := ["unicode/utf8.first", "unicode/utf8.acceptRanges", "internal/bytealg.MaxLen"], apart := false, laid := [("unicode/utf8.acceptRanges", laid_unicode_utf8_acceptRanges), ("unicode/utf8.first", laid_unicode_utf8_first)], narrowed := true }
def FnShrinkUptoSaid : Prop := fnShrinkUptoRow.holds Tryd.pinned (OpenSpec.upto fnShrinkSpec)

/-- 'laws.FnJoinMatrices', WHERE WHAT IT READS IS OF BULK AT MOST 1048576: true; the input reads as it did. -/
def fnJoinMatricesUptoRow : OpenClaim := { program := "ytkkclloabbhpdaadoor", sum := "20d08f724690406b5b03b4b2f1d2d3400586bb6fffe551e73a4a40e9f34a8481", func := "loop.example/twoplayers/laws.FnJoinMatrices", spec := "fnJoinMatrices", inPlace := ["internal/bytealg.IndexByteString", "internal/bytealg.IndexString"], unfollowed := true, recurses := true, named := ["unicode/utf8.first", "unicode/utf8.acceptRanges", "internal/bytealg.MaxLen"], apart := false, laid := [("unicode/utf8.acceptRanges", laid_unicode_utf8_acceptRanges), ("unicode/utf8.first", laid_unicode_utf8_first)], narrowed := true }
def FnJoinMatricesUptoSaid : Prop := fnJoinMatricesUptoRow.holds Tryd.pinned (OpenSpec.upto fnJoinMatricesSpec)

/-- 'laws.FnPairMatrices', WHERE WHAT IT READS IS OF BULK AT MOST 1048576: true; the input reads as it did. -/
def fnPairMatricesUptoRow : OpenClaim := { program := "ytkkclloabbhpdaadoor", sum := "20d08f724690406b5b03b4b2f1d2d3400586bb6fffe551e73a4a40e9f34a8481", func := "loop.example/twoplayers/laws.FnPairMatrices", spec := "fnPairMatrices", inPlace := ["internal/bytealg.IndexByteString", "internal/bytealg.IndexString", "internal/bytealg.CountString"], unfollowed := true, recurses := true, named := ["unicode/utf8.first", "unicode/utf8.acceptRanges", "internal/bytealg.MaxLen"], apart := false, laid := [("unicode/utf8.acceptRanges", laid_unicode_utf8_acceptRanges), ("unicode/utf8.first", laid_unicode_utf8_first)], narrowed := true }
def FnPairMatricesUptoSaid : Prop := fnPairMatricesUptoRow.holds Tryd.pinned (OpenSpec.upto fnPairMatricesSpec)

/-- 'laws.FnExactMatrixValid', WHERE WHAT IT READS IS OF BULK AT MOST 1048576: true; the input reads as it did. -/
def fnExactMatrixValidUptoRow : OpenClaim := { program := "ytkkclloabbhpdaadoor", sum := "20d08f724690406b5b03b4b2f1d2d3400586bb6fffe551e73a4a40e9f34a8481", func := "loop.example/twoplayers/laws.FnExactMatrixValid", spec := "fnExactMatrixValid", inPlace := ["internal/bytealg.IndexByteString", "internal/bytealg.IndexString"], named := ["unicode/utf8.first", "unicode/utf8.acceptRanges", "internal/bytealg.MaxLen"], apart := false, laid := [("unicode/utf8.acceptRanges", laid_unicode_utf8_acceptRanges), ("unicode/utf8.first", laid_unicode_utf8_first)], narrowed := true }
def FnExactMatrixValidUptoSaid : Prop := fnExactMatrixValidUptoRow.holds Tryd.pinned (OpenSpec.upto fnExactMatrixValidSpec)

/-- 'laws.FnExactFormatMatrix', WHERE WHAT IT READS IS OF BULK AT MOST 1048576: true; the input reads as it did. -/
def fnExactFormatMatrixUptoRow : OpenClaim := { program := "ytkkclloabbhpdaadoor", sum := "20d08f724690406b5b03b4b2f1d2d3400586bb6fffe551e73a4a40e9f34a8481", func := "loop.example/twoplayers/laws.FnExactFormatMatrix", spec := "fnExactFormatMatrix", inPlace := ["internal/bytealg.IndexByteString", "internal/bytealg.IndexString", "internal/abi.NoEscape", "internal/bytealg.MakeNoZero"], named := ["unicode/utf8.first", "unicode/utf8.acceptRanges", "internal/bytealg.MaxLen"], apart := false, laid := [("unicode/utf8.acceptRanges", laid_unicode_utf8_acceptRanges), ("unicode/utf8.first", laid_unicode_utf8_first)], narrowed := true }
def FnExactFormatMatrixUptoSaid : Prop := fnExactFormatMatrixUptoRow.holds Tryd.pinned (OpenSpec.upto fnExactFormatMatrixSpec)

/-- 'laws.FnExactParseMatrix', WHERE WHAT IT READS IS OF BULK AT MOST 1048576: true; the input reads as it did. -/
def fnExactParseMatrixUptoRow : OpenClaim := { program := "ytkkclloabbhpdaadoor", sum := "20d08f724690406b5b03b4b2f1d2d3400586bb6fffe551e73a4a40e9f34a8481", func := "loop.example/twoplayers/laws.FnExactParseMatrix", spec := "fnExactParseMatrix", inPlace := ["internal/bytealg.CountString", "internal/bytealg.IndexByteString", "internal/bytealg.IndexString", "internal/abi.NoEscape", "internal/bytealg.MakeNoZero"], named := ["unicode/utf8.first", "unicode/utf8.acceptRanges", "internal/bytealg.MaxLen"], apart := false, laid := [("unicode/utf8.acceptRanges", laid_unicode_utf8_acceptRanges), ("unicode/utf8.first", laid_unicode_utf8_first)], narrowed := true }
def FnExactParseMatrixUptoSaid : Prop := fnExactParseMatrixUptoRow.holds Tryd.pinned (OpenSpec.upto fnExactParseMatrixSpec)

/-- 'laws.FnExactEntryOf', WHERE WHAT IT READS IS OF BULK AT MOST 1048576: true; the input reads as it did. -/
def fnExactEntryOfUptoRow : OpenClaim := { program := "ytkkclloabbhpdaadoor", sum := "20d08f724690406b5b03b4b2f1d2d3400586bb6fffe551e73a4a40e9f34a8481", func := "loop.example/twoplayers/laws.FnExactEntryOf", spec := "fnExactEntryOf", inPlace := ["internal/bytealg.IndexByteString", "internal/bytealg.IndexString"], named := ["unicode/utf8.first", "unicode/utf8.acceptRanges", "internal/bytealg.MaxLen"], apart := false, laid := [("unicode/utf8.acceptRanges", laid_unicode_utf8_acceptRanges), ("unicode/utf8.first", laid_unicode_utf8_first)], narrowed := true }
def FnExactEntryOfUptoSaid : Prop := fnExactEntryOfUptoRow.holds Tryd.pinned (OpenSpec.upto fnExactEntryOfSpec)

/-- 'laws.FnExactTurnMatrix', WHERE WHAT IT READS IS OF BULK AT MOST 1048576: true; the input reads as it did. -/
def fnExactTurnMatrixUptoRow : OpenClaim := { program := "ytkkclloabbhpdaadoor", sum := "20d08f724690406b5b03b4b2f1d2d3400586bb6fffe551e73a4a40e9f34a8481", func := "loop.example/twoplayers/laws.FnExactTurnMatrix", spec := "fnExactTurnMatrix", inPlace := ["internal/bytealg.IndexByteString", "internal/bytealg.IndexString"], unfollowed := true, recurses := true, named := ["unicode/utf8.first", "unicode/utf8.acceptRanges", "internal/bytealg.MaxLen"], apart := false, laid := [("unicode/utf8.acceptRanges", laid_unicode_utf8_acceptRanges), ("unicode/utf8.first", laid_unicode_utf8_first)], narrowed := true }
def FnExactTurnMatrixUptoSaid : Prop := fnExactTurnMatrixUptoRow.holds Tryd.pinned (OpenSpec.upto fnExactTurnMatrixSpec)

/-- 'laws.FnExactOtherMatrix', WHERE WHAT IT READS IS OF BULK AT MOST 1048576: true; the input reads as it did. -/
def fnExactOtherMatrixUptoRow : OpenClaim := { program := "ytkkclloabbhpdaadoor", sum := "20d08f724690406b5b03b4b2f1d2d3400586bb6fffe551e73a4a40e9f34a8481", func := "loop.example/twoplayers/laws.FnExactOtherMatrix", spec := "fnExactOtherMatrix", inPlace := ["internal/bytealg.IndexByteString", "internal/bytealg.IndexString"], unfollowed := true, recurses := true, named := ["unicode/utf8.first", "unicode/utf8.acceptRanges", "internal/bytealg.MaxLen"], apart := false, laid := [("unicode/utf8.acceptRanges", laid_unicode_utf8_acceptRanges), ("unicode/utf8.first", laid_unicode_utf8_first)], narrowed := true }
def FnExactOtherMatrixUptoSaid : Prop := fnExactOtherMatrixUptoRow.holds Tryd.pinned (OpenSpec.upto fnExactOtherMatrixSpec)

end Rows
end Go.Proofs.YtkkclloabbhpdaaDoor
