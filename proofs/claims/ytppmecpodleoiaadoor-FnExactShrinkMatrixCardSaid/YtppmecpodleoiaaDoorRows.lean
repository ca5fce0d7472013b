/-
  NARROWER THAN 'FOR EVERY INPUT', by the rows' own cells (each row's printed sentence says how): FnExactParseMatrix: laid · FnExactShrinkMatrix: laid · FnExactMaximalRects: laid · FnExactLargestRect: laid · FnExactIsCover: laid · FnExactIsPartition: laid · FnExactDiscrepancyOf: laid.
  DERIVED. THE GIVEN ROWS OF THIS SEAT. 7 by the template 'for every input the law returns true; each argument reads behind the call as it read before'; 0 by the template 'total and deterministic' (their statements: YtppmecpodleoiaaDoorTotals.lean).
  GIVEN WITH THE SEED: the statements are not yours to turn. If you find one false, say at which input.
  Laid BY PROGRAM, IN A SANDBOX (cutbox-rows.mjs): the forced cells as the released guide's own fill.sh prints them over the translation dd7209ff14f633c9… (all of the seat's roots in one cut). By AI agents, Wed Nov 11 2026. No macro, syntax, notation, axiom, sorry.
-/
import Derived.Test.YtppmecpodleoiaaDoorChecked
import GoSem.PinnedTables
import GoSem.Claim
import GoSem.ClaimJoined
import GoSem.ClaimMapViews
import Derived.JoinedTies
import Derived.KernelRfl
namespace Go.Proofs.YtppmecpodleoiaaDoor
/- THE CELL 'sum', in the pinned program and in every row, IS THE sha256 OF THE DUMP (.gsa) THAT YtppmecpodleoiaaDoorProg.lean LOADS. Nothing in Lean hashes anything: it is a label: what it is worth is what the hold of that sum in a sandbox is worth. -/
noncomputable def Tryd.pinned : Pinned := { name := "ytppmecpodleoiaadoor", sum := "dd7209ff14f633c995449c050286a08adad8823faf6067b397a6b64db9611f60", checked := Tryd.checked }
namespace Rows
def none {H : Type} : Left H := { results := [], args := [] }

/- WHAT THE LISTED PACKAGE-LEVEL VARIABLES READ AS WHEN THE CALL BEGINS. Each datum BY PROGRAM (the guide's laid-datum.mjs) off the statement by which the dump's own 'gosem.cut.vars' lays the variable. In a bare row this is a premise. The card (YtppmecpodleoiaaDoorCards.lean) ties it to the program's text. -/
def laid_unicode_utf8_acceptRanges {H : Type} : DataW H := .agg [.agg [.lit (.int .u8 128), .lit (.int .u8 191)], .agg [.lit (.int .u8 160), .lit (.int .u8 191)], .agg [.lit (.int .u8 128), .lit (.int .u8 159)], .agg [.lit (.int .u8 144), .lit (.int .u8 191)], .agg [.lit (.int .u8 128), .lit (.int .u8 143)], .agg [.lit (.int .u8 0), .lit (.int .u8 0)], .agg [.lit (.int .u8 0), .lit (.int .u8 0)], .agg [.lit (.int .u8 0), .lit (.int .u8 0)], .agg [.lit (.int .u8 0), .lit (.int .u8 0)], .agg [.lit (.int .u8 0), .lit (.int .u8 0)], .agg [.lit (.int .u8 0), .lit (.int .u8 0)], .agg [.lit (.int .u8 0), .lit (.int .u8 0)], .agg [.lit (.int .u8 0), .lit (.int .u8 0)], .agg [.lit (.int .u8 0), .lit (.int .u8 0)], .agg [.lit (.int .u8 0), .lit (.int .u8 0)], .agg [.lit (.int .u8 0), .lit (.int .u8 0)]]
/-- One of Go's own tables, pinned by name: the form's constant. -/
def laid_unicode_utf8_first : DataW Unit := Go.Pinned.utf8First

/-- 'laws.FnExactParseMatrix': WHATEVER THE INPUT: true; the input reads as it did. -/
def fnExactParseMatrixSpec : ChangeSpec := { name := "fnExactParseMatrix", fn := fun _ => fun
  | [d] => { results := [.lit (.bool true)], args := [d] }
  | _ => none }
def fnExactParseMatrixRow : OpenClaim := { program := "ytppmecpodleoiaadoor", sum := "dd7209ff14f633c995449c050286a08adad8823faf6067b397a6b64db9611f60", func := "loop.example/twoplayers/laws.FnExactParseMatrix", spec := "fnExactParseMatrix", inPlace := ["internal/bytealg.CountString", "internal/bytealg.IndexByteString", "internal/bytealg.IndexString", "internal/abi.NoEscape", "internal/bytealg.MakeNoZero"], named := ["unicode/utf8.first", "unicode/utf8.acceptRanges", "internal/bytealg.MaxLen"], plainKeys := false, apart := false, laid := [("unicode/utf8.acceptRanges", laid_unicode_utf8_acceptRanges), ("unicode/utf8.first", laid_unicode_utf8_first)] }
def FnExactParseMatrixSaid : Prop := fnExactParseMatrixRow.holds Tryd.pinned (OpenSpec.ofChange fnExactParseMatrixSpec)

/-- ITS FALSE NEIGHBOUR: 'it returns false'. Refute it at one input. -/
def fnExactParseMatrixWrong : ChangeSpec := { name := "fnExactParseMatrix", fn := fun _ => fun
  | [d] => { results := [.lit (.bool false)], args := [d] }
  | _ => none }
def FnExactParseMatrixWrongFalsely : Prop := fnExactParseMatrixRow.holds Tryd.pinned (OpenSpec.ofChange fnExactParseMatrixWrong)

/-- 'laws.FnExactShrinkMatrix': WHATEVER THE INPUT: true; the input reads as it did. -/
def fnExactShrinkMatrixSpec : ChangeSpec := { name := "fnExactShrinkMatrix", fn := fun _ => fun
  | [d] => { results := [.lit (.bool true)], args := [d] }
  | _ => none }
def fnExactShrinkMatrixRow : OpenClaim := { program := "ytppmecpodleoiaadoor", sum := "dd7209ff14f633c995449c050286a08adad8823faf6067b397a6b64db9611f60", func := "loop.example/twoplayers/laws.FnExactShrinkMatrix", spec := "fnExactShrinkMatrix", inPlace := ["internal/bytealg.IndexByteString", "internal/bytealg.IndexString"], unfollowed := true, recurses := true, named := ["unicode/utf8.first", "unicode/utf8.acceptRanges", "internal/bytealg.MaxLen"], plainKeys := false, apart := false, laid := [("unicode/utf8.acceptRanges", laid_unicode_utf8_acceptRanges), ("unicode/utf8.first", laid_unicode_utf8_first)] }
def FnExactShrinkMatrixSaid : Prop := fnExactShrinkMatrixRow.holds Tryd.pinned (OpenSpec.ofChange fnExactShrinkMatrixSpec)

/-- ITS FALSE NEIGHBOUR: 'it returns false'. Refute it at one input. -/
def fnExactShrinkMatrixWrong : ChangeSpec := { name := "fnExactShrinkMatrix", fn := fun _ => fun
  | [d] => { results := [.lit (.bool false)], args := [d] }
  | _ => none }
def FnExactShrinkMatrixWrongFalsely : Prop := fnExactShrinkMatrixRow.holds Tryd.pinned (OpenSpec.ofChange fnExactShrinkMatrixWrong)

/-- 'laws.FnExactMaximalRects': WHATEVER THE INPUT: true; the input reads as it did. -/
def fnExactMaximalRectsSpec : ChangeSpec := { name := "fnExactMaximalRects", fn := fun _ => fun
  | [d1, d2] => { results := [.lit (.bool true)], args := [d1, d2] }
  | _ => none }
def fnExactMaximalRectsRow : OpenClaim := { program := "ytppmecpodleoiaadoor", sum := "dd7209ff14f633c995449c050286a08adad8823faf6067b397a6b64db9611f60", func := "loop.example/twoplayers/laws.FnExactMaximalRects", spec := "fnExactMaximalRects", inPlace := ["internal/bytealg.IndexByteString", "internal/bytealg.IndexString"], unfollowed := true, recurses := true, named := ["unicode/utf8.first", "unicode/utf8.acceptRanges", "internal/bytealg.MaxLen"], plainKeys := false, apart := false, laid := [("unicode/utf8.acceptRanges", laid_unicode_utf8_acceptRanges), ("unicode/utf8.first", laid_unicode_utf8_first)] }
def FnExactMaximalRectsSaid : Prop := fnExactMaximalRectsRow.holds Tryd.pinned (OpenSpec.ofChange fnExactMaximalRectsSpec)

/-- ITS FALSE NEIGHBOUR: 'it returns false'. Refute it at one input. -/
def fnExactMaximalRectsWrong : ChangeSpec := { name := "fnExactMaximalRects", fn := fun _ => fun
  | [d1, d2] => { results := [.lit (.bool false)], args := [d1, d2] }
  | _ => none }
def FnExactMaximalRectsWrongFalsely : Prop := fnExactMaximalRectsRow.holds Tryd.pinned (OpenSpec.ofChange fnExactMaximalRectsWrong)

/-- 'laws.FnExactLargestRect': WHATEVER THE INPUT: true; the input reads as it did. -/
def fnExactLargestRectSpec : ChangeSpec := { name := "fnExactLargestRect", fn := fun _ => fun
  | [d1, d2] => { results := [.lit (.bool true)], args := [d1, d2] }
  | _ => none }
def fnExactLargestRectRow : OpenClaim := { program := "ytppmecpodleoiaadoor", sum := "dd7209ff14f633c995449c050286a08adad8823faf6067b397a6b64db9611f60", func := "loop.example/twoplayers/laws.FnExactLargestRect", spec := "fnExactLargestRect", inPlace := ["internal/bytealg.IndexByteString", "internal/bytealg.IndexString"], unfollowed := true, recurses := true, named := ["unicode/utf8.first", "unicode/utf8.acceptRanges", "internal/bytealg.MaxLen"], plainKeys := false, apart := false, laid := [("unicode/utf8.acceptRanges", laid_unicode_utf8_acceptRanges), ("unicode/utf8.first", laid_unicode_utf8_first)] }
def FnExactLargestRectSaid : Prop := fnExactLargestRectRow.holds Tryd.pinned (OpenSpec.ofChange fnExactLargestRectSpec)

/-- ITS FALSE NEIGHBOUR: 'it returns false'. Refute it at one input. -/
def fnExactLargestRectWrong : ChangeSpec := { name := "fnExactLargestRect", fn := fun _ => fun
  | [d1, d2] => { results := [.lit (.bool false)], args := [d1, d2] }
  | _ => none }
def FnExactLargestRectWrongFalsely : Prop := fnExactLargestRectRow.holds Tryd.pinned (OpenSpec.ofChange fnExactLargestRectWrong)

/-- 'laws.FnExactIsCover': WHATEVER THE INPUT: true; the input reads as it did. -/
def fnExactIsCoverSpec : ChangeSpec := { name := "fnExactIsCover", fn := fun _ => fun
  | [d1, d2, d3] => { results := [.lit (.bool true)], args := [d1, d2, d3] }
  | _ => none }
def fnExactIsCoverRow : OpenClaim := { program := "ytppmecpodleoiaadoor", sum := "dd7209ff14f633c995449c050286a08adad8823faf6067b397a6b64db9611f60", func := "loop.example/twoplayers/laws.FnExactIsCover", spec := "fnExactIsCover", inPlace := ["internal/bytealg.IndexByteString", "internal/bytealg.IndexString"], unfollowed := true, recurses := true, named := ["unicode/utf8.first", "unicode/utf8.acceptRanges", "internal/bytealg.MaxLen"], plainKeys := false, apart := false, laid := [("unicode/utf8.acceptRanges", laid_unicode_utf8_acceptRanges), ("unicode/utf8.first", laid_unicode_utf8_first)] }
def FnExactIsCoverSaid : Prop := fnExactIsCoverRow.holds Tryd.pinned (OpenSpec.ofChange fnExactIsCoverSpec)

/-- ITS FALSE NEIGHBOUR: 'it returns false'. Refute it at one input. -/
def fnExactIsCoverWrong : ChangeSpec := { name := "fnExactIsCover", fn := fun _ => fun
  | [d1, d2, d3] => { results := [.lit (.bool false)], args := [d1, d2, d3] }
  | _ => none }
def FnExactIsCoverWrongFalsely : Prop := fnExactIsCoverRow.holds Tryd.pinned (OpenSpec.ofChange fnExactIsCoverWrong)

/-- 'laws.FnExactIsPartition': WHATEVER THE INPUT: true; the input reads as it did. -/
def fnExactIsPartitionSpec : ChangeSpec := { name := "fnExactIsPartition", fn := fun _ => fun
  | [d1, d2] => { results := [.lit (.bool true)], args := [d1, d2] }
  | _ => none }
def fnExactIsPartitionRow : OpenClaim := { program := "ytppmecpodleoiaadoor", sum := "dd7209ff14f633c995449c050286a08adad8823faf6067b397a6b64db9611f60", func := "loop.example/twoplayers/laws.FnExactIsPartition", spec := "fnExactIsPartition", inPlace := ["internal/bytealg.IndexByteString", "internal/bytealg.IndexString"], unfollowed := true, recurses := true, named := ["unicode/utf8.first", "unicode/utf8.acceptRanges", "internal/bytealg.MaxLen"], plainKeys := false, apart := false, laid := [("unicode/utf8.acceptRanges", laid_unicode_utf8_acceptRanges), ("unicode/utf8.first", laid_unicode_utf8_first)] }
def FnExactIsPartitionSaid : Prop := fnExactIsPartitionRow.holds Tryd.pinned (OpenSpec.ofChange fnExactIsPartitionSpec)

/-- ITS FALSE NEIGHBOUR: 'it returns false'. Refute it at one input. -/
def fnExactIsPartitionWrong : ChangeSpec := { name := "fnExactIsPartition", fn := fun _ => fun
  | [d1, d2] => { results := [.lit (.bool false)], args := [d1, d2] }
  | _ => none }
def FnExactIsPartitionWrongFalsely : Prop := fnExactIsPartitionRow.holds Tryd.pinned (OpenSpec.ofChange fnExactIsPartitionWrong)

/-- 'laws.FnExactDiscrepancyOf': WHATEVER THE INPUT: true; the input reads as it did. -/
def fnExactDiscrepancyOfSpec : ChangeSpec := { name := "fnExactDiscrepancyOf", fn := fun _ => fun
  | [d] => { results := [.lit (.bool true)], args := [d] }
  | _ => none }
def fnExactDiscrepancyOfRow : OpenClaim := { program := "ytppmecpodleoiaadoor", sum := "dd7209ff14f633c995449c050286a08adad8823faf6067b397a6b64db9611f60", func := "loop.example/twoplayers/laws.FnExactDiscrepancyOf", spec := "fnExactDiscrepancyOf", inPlace := ["internal/bytealg.IndexByteString", "internal/bytealg.IndexString"], unfollowed := true, recurses := true, named := ["unicode/utf8.first", "unicode/utf8.acceptRanges", "internal/bytealg.MaxLen"], plainKeys := false, apart := false, laid := [("unicode/utf8.acceptRanges", laid_unicode_utf8_acceptRanges), ("unicode/utf8.first", laid_unicode_utf8_first)] }
def FnExactDiscrepancyOfSaid : Prop := fnExactDiscrepancyOfRow.holds Tryd.pinned (OpenSpec.ofChange fnExactDiscrepancyOfSpec)

/-- ITS FALSE NEIGHBOUR: 'it returns false'. Refute it at one input. -/
def fnExactDiscrepancyOfWrong : ChangeSpec := { name := "fnExactDiscrepancyOf", fn := fun _ => fun
  | [d] => { results := [.lit (.bool false)], args := [d] }
  | _ => none }
def FnExactDiscrepancyOfWrongFalsely : Prop := fnExactDiscrepancyOfRow.holds Tryd.pinned (OpenSpec.ofChange fnExactDiscrepancyOfWrong)

/- THE SECOND FORM. 'bulk': how many values and letters a reading holds, each counted each time it is reached (what is shared counts as often as it is met; a slice's spare places count too). A statement '..UptoSaid' is the law's where the arguments, and the package variables that the reading takes, are together of bulk at most 1048576: NARROWER than '..Said'. Prove '..Said' where nothing that the law and all that it calls make is longer than what came in: it says more and counts as full. Else prove '..UptoSaid'. A law counts once. -/
mutual
def uptoBulk {H : Type} : DataW H → Nat
  | .lit (.string bytes) => bytes.length + 1
  | .lit _ => 1
  | .nil => 1
  | .ptr d => uptoBulk d + 1
  | .slice elems spare => uptoBulkAll elems + uptoBulkAll spare + 1
  | .agg parts => uptoBulkAll parts + 1
  | .iface _ d => uptoBulk d + 1
  | .map entries => uptoBulkEntries entries + 1
  | .held _ => 1
def uptoBulkAll {H : Type} : List (DataW H) → Nat
  | [] => 0
  | d :: r => uptoBulk d + uptoBulkAll r
def uptoBulkEntries {H : Type} : List (Lit × DataW H) → Nat
  | [] => 0
  | x :: r => uptoBulkEntry x + uptoBulkEntries r
def uptoBulkEntry {H : Type} : Lit × DataW H → Nat
  | (.string bytes, d) => bytes.length + uptoBulk d + 1
  | (_, d) => uptoBulk d + 1
 end
def uptoSmall : (H : Type) → List (DataW H) → Bool := fun _ ds => decide (uptoBulkAll ds ≤ 1048576)
def OpenSpec.upto (s : _root_.Go.ChangeSpec) : _root_.Go.OpenSpec := { _root_.Go.OpenSpec.ofChange s with cond := some uptoSmall }

/-- 'laws.FnExactParseMatrix', WHERE WHAT IT READS IS OF BULK AT MOST 1048576: true; the input reads as it did. -/
def fnExactParseMatrixUptoRow : OpenClaim := { program := "ytppmecpodleoiaadoor", sum := "dd7209ff14f633c995449c050286a08adad8823faf6067b397a6b64db9611f60", func := "loop.example/twoplayers/laws.FnExactParseMatrix", spec := "fnExactParseMatrix", inPlace := ["internal/bytealg.CountString", "internal/bytealg.IndexByteString", "internal/bytealg.IndexString", "internal/abi.NoEscape", "internal/bytealg.MakeNoZero"], named := ["unicode/utf8.first", "unicode/utf8.acceptRanges", "internal/bytealg.MaxLen"], plainKeys := false, apart := false, laid := [("unicode/utf8.acceptRanges", laid_unicode_utf8_acceptRanges), ("unicode/utf8.first", laid_unicode_utf8_first)], narrowed := true }
def FnExactParseMatrixUptoSaid : Prop := fnExactParseMatrixUptoRow.holds Tryd.pinned (OpenSpec.upto fnExactParseMatrixSpec)

/-- 'laws.FnExactShrinkMatrix', WHERE WHAT IT READS IS OF BULK AT MOST 1048576: true; the input reads as it did. -/
def fnExactShrinkMatrixUptoRow : OpenClaim := { program := "ytppmecpodleoiaadoor", sum := "dd7209ff14f633c995449c050286a08adad8823faf6067b397a6b64db9611f60", func := "loop.example/twoplayers/laws.FnExactShrinkMatrix", spec := "fnExactShrinkMatrix", inPlace := ["internal/bytealg.IndexByteString", "internal/bytealg.IndexString"], unfollowed := true, recurses := true, named := ["unicode/utf8.first", "unicode/utf8.acceptRanges", "internal/bytealg.MaxLen"], plainKeys := false, apart := false, laid := [("unicode/utf8.acceptRanges", laid_unicode_utf8_acceptRanges), ("unicode/utf8.first", laid_unicode_utf8_first)], narrowed := true }
def FnExactShrinkMatrixUptoSaid : Prop := fnExactShrinkMatrixUptoRow.holds Tryd.pinned (OpenSpec.upto fnExactShrinkMatrixSpec)

/-- 'laws.FnExactMaximalRects', WHERE WHAT IT READS IS OF BULK AT MOST 1048576: true; the input reads as it did. -/
def fnExactMaximalRectsUptoRow : OpenClaim := { program := "ytppmecpodleoiaadoor", sum := "dd7209ff14f633c995449c050286a08adad8823faf6067b397a6b64db9611f60", func := "loop.example/twoplayers/laws.FnExactMaximalRects", spec := "fnExactMaximalRects", inPlace := ["internal/bytealg.IndexByteString", "internal/bytealg.IndexString"], unfollowed := true, recurses := true, named := ["unicode/utf8.first", "unicode/utf8.acceptRanges", "internal/bytealg.MaxLen"], plainKeys := false, apart := false, laid := [("unicode/utf8.acceptRanges", laid_unicode_utf8_acceptRanges), ("unicode/utf8.first", laid_unicode_utf8_first)], narrowed := true }
def FnExactMaximalRectsUptoSaid : Prop := fnExactMaximalRectsUptoRow.holds Tryd.pinned (OpenSpec.upto fnExactMaximalRectsSpec)

/-- 'laws.FnExactLargestRect', WHERE WHAT IT READS IS OF BULK AT MOST 1048576: true; the input reads as it did. -/
def fnExactLargestRectUptoRow : OpenClaim := { program := "ytppmecpodleoiaadoor", sum := "dd7209ff14f633c995449c050286a08adad8823faf6067b397a6b64db9611f60", func := "loop.example/twoplayers/laws.FnExactLargestRect", spec := "fnExactLargestRect", inPlace := ["internal/bytealg.IndexByteString", "internal/bytealg.IndexString"], unfollowed := true, recurses := true, named := ["unicode/utf8.first", "unicode/utf8.acceptRanges", "internal/bytealg.MaxLen"], plainKeys := false, apart := false, laid := [("unicode/utf8.acceptRanges", laid_unicode_utf8_acceptRanges), ("unicode/utf8.first", laid_unicode_utf8_first)], narrowed := true }
def FnExactLargestRectUptoSaid : Prop := fnExactLargestRectUptoRow.holds Tryd.pinned (OpenSpec.upto fnExactLargestRectSpec)

/-- 'laws.FnExactIsCover', WHERE WHAT IT READS IS OF BULK AT MOST 1048576: true; the input reads as it did. -/
def fnExactIsCoverUptoRow : OpenClaim := { program := "ytppmecpodleoiaadoor", sum := "dd7209ff14f633c995449c050286a08adad8823faf6067b397a6b64db9611f60", func := "loop.example/twoplayers/laws.FnExactIsCover", spec := "fnExactIsCover", inPlace := ["internal/bytealg.IndexByteString", "internal/bytealg.IndexString"], unfollowed := true, recurses := true, named := ["unicode/utf8.first", "unicode/utf8.acceptRanges", "internal/bytealg.MaxLen"], plainKeys := false, apart := false, laid := [("unicode/utf8.acceptRanges", laid_unicode_utf8_acceptRanges), ("unicode/utf8.first", laid_unicode_utf8_first)], narrowed := true }
def FnExactIsCoverUptoSaid : Prop := fnExactIsCoverUptoRow.holds Tryd.pinned (OpenSpec.upto fnExactIsCoverSpec)

/-- 'laws.FnExactIsPartition', WHERE WHAT IT READS IS OF BULK AT MOST 1048576: true; the input reads as it did. -/
def fnExactIsPartitionUptoRow : OpenClaim := { program := "ytppmecpodleoiaadoor", sum := "dd7209ff14f633c995449c050286a08adad8823faf6067b397a6b64db9611f60", func := "loop.example/twoplayers/laws.FnExactIsPartition", spec := "fnExactIsPartition", inPlace := ["internal/bytealg.IndexByteString", "internal/bytealg.IndexString"], unfollowed := true, recurses := true, named := ["unicode/utf8.first", "unicode/utf8.acceptRanges", "internal/bytealg.MaxLen"], plainKeys := false, apart := false, laid := [("unicode/utf8.acceptRanges", laid_unicode_utf8_acceptRanges), ("unicode/utf8.first", laid_unicode_utf8_first)], narrowed := true }
def FnExactIsPartitionUptoSaid : Prop := fnExactIsPartitionUptoRow.holds Tryd.pinned (OpenSpec.upto fnExactIsPartitionSpec)

/-- 'laws.FnExactDiscrepancyOf', WHERE WHAT IT READS IS OF BULK AT MOST 1048576: true; the input reads as it did. -/
def fnExactDiscrepancyOfUptoRow : OpenClaim := { program := "ytppmecpodleoiaadoor", sum := "dd7209ff14f633c995449c050286a08adad8823faf6067b397a6b64db9611f60", func := "loop.example/twoplayers/laws.FnExactDiscrepancyOf", spec := "fnExactDiscrepancyOf", inPlace := ["internal/bytealg.IndexByteString", "internal/bytealg.IndexString"], unfollowed := true, recurses := true, named := ["unicode/utf8.first", "unicode/utf8.acceptRanges", "internal/bytealg.MaxLen"], plainKeys := false, apart := false, laid := [("unicode/utf8.acceptRanges", laid_unicode_utf8_acceptRanges), ("unicode/utf8.first", laid_unicode_utf8_first)], narrowed := true }
def FnExactDiscrepancyOfUptoSaid : Prop := fnExactDiscrepancyOfUptoRow.holds Tryd.pinned (OpenSpec.upto fnExactDiscrepancyOfSpec)

end Rows
end Go.Proofs.YtppmecpodleoiaaDoor
