/-
  NARROWER THAN 'FOR EVERY INPUT', by the rows' own cells (each row's printed sentence says how): FnExactLeastBits: laid · FnExactLeastEnds: laid · FnExactBestProtocol: laid · FnExactFewestEnds: laid · FnIsCover: laid · FnIsPartition: laid · FnExactRankOf: laid · FnExactSignRankOf: laid · FnExactDeterminantOf: laid · FnExactGreatestFooling: laid.
  DERIVED. THE GIVEN ROWS OF THIS SEAT. 10 by the template 'for every input the law returns true; each argument reads behind the call as it read before'; 0 by the template 'total and deterministic' (their statements: YtohkllmhknjkoaaDoorTotals.lean).
  GIVEN WITH THE SEED: the statements are not yours to turn. If you find one false, say at which input.
  Laid BY PROGRAM, IN A SANDBOX (cutbox-rows.mjs): the forced cells as the released guide's own fill.sh prints them over the translation c951f33b0e3e14ea… (all of the seat's roots in one cut). By AI agents, Wed Nov 11 2026. No macro, syntax, notation, axiom, sorry.
-/
import Derived.Test.YtohkllmhknjkoaaDoorChecked
import GoSem.PinnedTables
import GoSem.Claim
import GoSem.ClaimJoined
import GoSem.ClaimMapViews
import Derived.JoinedTies
import Derived.KernelRfl
namespace Go.Proofs.YtohkllmhknjkoaaDoor
/- THE CELL 'sum', in the pinned program and in every row, IS THE sha256 OF THE DUMP (.gsa) THAT YtohkllmhknjkoaaDoorProg.lean LOADS. Nothing in Lean hashes anything: it is a label: what it is worth is what the hold of that sum in a sandbox is worth. -/
noncomputable def Tryd.pinned : Pinned := { name := "ytohkllmhknjkoaadoor", sum := "c951f33b0e3e14eaac83aea760cbd7d28a811794508fcac392830343280683d5", checked := Tryd.checked }
namespace Rows
def none {H : Type} : Left H := { results := [], args := [] }

/- WHAT THE LISTED PACKAGE-LEVEL VARIABLES READ AS WHEN THE CALL BEGINS. Each datum BY PROGRAM (the guide's laid-datum.mjs) off the statement by which the dump's own 'gosem.cut.vars' lays the variable. In a bare row this is a premise. The card (YtohkllmhknjkoaaDoorCards.lean) ties it to the program's text. -/
def laid_unicode_utf8_acceptRanges {H : Type} : DataW H := .agg [.agg [.lit (.int .u8 128), .lit (.int .u8 191)], .agg [.lit (.int .u8 160), .lit (.int .u8 191)], .agg [.lit (.int .u8 128), .lit (.int .u8 159)], .agg [.lit (.int .u8 144), .lit (.int .u8 191)], .agg [.lit (.int .u8 128), .lit (.int .u8 143)], .agg [.lit (.int .u8 0), .lit (.int .u8 0)], .agg [.lit (.int .u8 0), .lit (.int .u8 0)], .agg [.lit (.int .u8 0), .lit (.int .u8 0)], .agg [.lit (.int .u8 0), .lit (.int .u8 0)], .agg [.lit (.int .u8 0), .lit (.int .u8 0)], .agg [.lit (.int .u8 0), .lit (.int .u8 0)], .agg [.lit (.int .u8 0), .lit (.int .u8 0)], .agg [.lit (.int .u8 0), .lit (.int .u8 0)], .agg [.lit (.int .u8 0), .lit (.int .u8 0)], .agg [.lit (.int .u8 0), .lit (.int .u8 0)], .agg [.lit (.int .u8 0), .lit (.int .u8 0)]]
/-- One of Go's own tables, pinned by name: the form's constant. -/
def laid_unicode_utf8_first : DataW Unit := Go.Pinned.utf8First

/-- 'laws.FnExactLeastBits': WHATEVER THE INPUT: true; the input reads as it did. -/
def fnExactLeastBitsSpec : ChangeSpec := { name := "fnExactLeastBits", fn := fun _ => fun
  | [d] => { results := [.lit (.bool true)], args := [d] }
  | _ => none }
def fnExactLeastBitsRow : OpenClaim := { program := "ytohkllmhknjkoaadoor", sum := "c951f33b0e3e14eaac83aea760cbd7d28a811794508fcac392830343280683d5", func := "loop.example/twoplayers/laws.FnExactLeastBits", spec := "fnExactLeastBits", inPlace := ["internal/bytealg.IndexByteString", "internal/bytealg.IndexString"], unfollowed := true, recurses := true, named := ["unicode/utf8.first", "unicode/utf8.acceptRanges", "internal/bytealg.MaxLen"], plainKeys := false, apart := false, laid := [("unicode/utf8.acceptRanges", laid_unicode_utf8_acceptRanges), ("unicode/utf8.first", laid_unicode_utf8_first)] }
def FnExactLeastBitsSaid : Prop := fnExactLeastBitsRow.holds Tryd.pinned (OpenSpec.ofChange fnExactLeastBitsSpec)

/-- ITS FALSE NEIGHBOUR: 'it returns false'. Refute it at one input. -/
def fnExactLeastBitsWrong : ChangeSpec := { name := "fnExactLeastBits", fn := fun _ => fun
  | [d] => { results := [.lit (.bool false)], args := [d] }
  | _ => none }
def FnExactLeastBitsWrongFalsely : Prop := fnExactLeastBitsRow.holds Tryd.pinned (OpenSpec.ofChange fnExactLeastBitsWrong)

/-- 'laws.FnExactLeastEnds': WHATEVER THE INPUT: true; the input reads as it did. -/
def fnExactLeastEndsSpec : ChangeSpec := { name := "fnExactLeastEnds", fn := fun _ => fun
  | [d] => { results := [.lit (.bool true)], args := [d] }
  | _ => none }
def fnExactLeastEndsRow : OpenClaim := { program := "ytohkllmhknjkoaadoor", sum := "c951f33b0e3e14eaac83aea760cbd7d28a811794508fcac392830343280683d5", func := "loop.example/twoplayers/laws.FnExactLeastEnds", spec := "fnExactLeastEnds", inPlace := ["internal/bytealg.IndexByteString", "internal/bytealg.IndexString"], unfollowed := true, recurses := true, named := ["unicode/utf8.first", "unicode/utf8.acceptRanges", "internal/bytealg.MaxLen"], plainKeys := false, apart := false, laid := [("unicode/utf8.acceptRanges", laid_unicode_utf8_acceptRanges), ("unicode/utf8.first", laid_unicode_utf8_first)] }
def FnExactLeastEndsSaid : Prop := fnExactLeastEndsRow.holds Tryd.pinned (OpenSpec.ofChange fnExactLeastEndsSpec)

/-- ITS FALSE NEIGHBOUR: 'it returns false'. Refute it at one input. -/
def fnExactLeastEndsWrong : ChangeSpec := { name := "fnExactLeastEnds", fn := fun _ => fun
  | [d] => { results := [.lit (.bool false)], args := [d] }
  | _ => none }
def FnExactLeastEndsWrongFalsely : Prop := fnExactLeastEndsRow.holds Tryd.pinned (OpenSpec.ofChange fnExactLeastEndsWrong)

/-- 'laws.FnExactBestProtocol': WHATEVER THE INPUT: true; the input reads as it did. -/
def fnExactBestProtocolSpec : ChangeSpec := { name := "fnExactBestProtocol", fn := fun _ => fun
  | [d] => { results := [.lit (.bool true)], args := [d] }
  | _ => none }
def fnExactBestProtocolRow : OpenClaim := { program := "ytohkllmhknjkoaadoor", sum := "c951f33b0e3e14eaac83aea760cbd7d28a811794508fcac392830343280683d5", func := "loop.example/twoplayers/laws.FnExactBestProtocol", spec := "fnExactBestProtocol", inPlace := ["internal/bytealg.IndexByteString", "internal/bytealg.IndexString"], unfollowed := true, recurses := true, named := ["unicode/utf8.first", "unicode/utf8.acceptRanges", "internal/bytealg.MaxLen"], plainKeys := false, apart := false, laid := [("unicode/utf8.acceptRanges", laid_unicode_utf8_acceptRanges), ("unicode/utf8.first", laid_unicode_utf8_first)] }
def FnExactBestProtocolSaid : Prop := fnExactBestProtocolRow.holds Tryd.pinned (OpenSpec.ofChange fnExactBestProtocolSpec)

/-- ITS FALSE NEIGHBOUR: 'it returns false'. Refute it at one input. -/
def fnExactBestProtocolWrong : ChangeSpec := { name := "fnExactBestProtocol", fn := fun _ => fun
  | [d] => { results := [.lit (.bool false)], args := [d] }
  | _ => none }
def FnExactBestProtocolWrongFalsely : Prop := fnExactBestProtocolRow.holds Tryd.pinned (OpenSpec.ofChange fnExactBestProtocolWrong)

/-- 'laws.FnExactFewestEnds': WHATEVER THE INPUT: true; the input reads as it did. -/
def fnExactFewestEndsSpec : ChangeSpec := { name := "fnExactFewestEnds", fn := fun _ => fun
  | [d] => { results := [.lit (.bool true)], args := [d] }
  | _ => none }
def fnExactFewestEndsRow : OpenClaim := { program := "ytohkllmhknjkoaadoor", sum := "c951f33b0e3e14eaac83aea760cbd7d28a811794508fcac392830343280683d5", func := "loop.example/twoplayers/laws.FnExactFewestEnds", spec := "fnExactFewestEnds", inPlace := ["internal/bytealg.IndexByteString", "internal/bytealg.IndexString"], unfollowed := true, recurses := true, named := ["unicode/utf8.first", "unicode/utf8.acceptRanges", "internal/bytealg.MaxLen"], plainKeys := false, apart := false, laid := [("unicode/utf8.acceptRanges", laid_unicode_utf8_acceptRanges), ("unicode/utf8.first", laid_unicode_utf8_first)] }
def FnExactFewestEndsSaid : Prop := fnExactFewestEndsRow.holds Tryd.pinned (OpenSpec.ofChange fnExactFewestEndsSpec)

/-- ITS FALSE NEIGHBOUR: 'it returns false'. Refute it at one input. -/
def fnExactFewestEndsWrong : ChangeSpec := { name := "fnExactFewestEnds", fn := fun _ => fun
  | [d] => { results := [.lit (.bool false)], args := [d] }
  | _ => none }
def FnExactFewestEndsWrongFalsely : Prop := fnExactFewestEndsRow.holds Tryd.pinned (OpenSpec.ofChange fnExactFewestEndsWrong)

/-- 'laws.FnIsCover': WHATEVER THE INPUT: true; the input reads as it did. -/
def fnIsCoverSpec : ChangeSpec := { name := "fnIsCover", fn := fun _ => fun
  | [d] => { results := [.lit (.bool true)], args := [d] }
  | _ => none }
def fnIsCoverRow : OpenClaim := { program := "ytohkllmhknjkoaadoor", sum := "c951f33b0e3e14eaac83aea760cbd7d28a811794508fcac392830343280683d5", func := "loop.example/twoplayers/laws.FnIsCover", spec := "fnIsCover", inPlace := ["internal/bytealg.IndexByteString", "internal/bytealg.IndexString"], unfollowed := true, recurses := true, named := ["unicode/utf8.first", "unicode/utf8.acceptRanges", "internal/bytealg.MaxLen"], plainKeys := false, apart := false, laid := [("unicode/utf8.acceptRanges", laid_unicode_utf8_acceptRanges), ("unicode/utf8.first", laid_unicode_utf8_first)] }
def FnIsCoverSaid : Prop := fnIsCoverRow.holds Tryd.pinned (OpenSpec.ofChange fnIsCoverSpec)

/-- ITS FALSE NEIGHBOUR: 'it returns false'. Refute it at one input. -/
def fnIsCoverWrong : ChangeSpec := { name := "fnIsCover", fn := fun _ => fun
  | [d] => { results := [.lit (.bool false)], args := [d] }
  | _ => none }
def FnIsCoverWrongFalsely : Prop := fnIsCoverRow.holds Tryd.pinned (OpenSpec.ofChange fnIsCoverWrong)

/-- 'laws.FnIsPartition': WHATEVER THE INPUT: true; the input reads as it did. -/
def fnIsPartitionSpec : ChangeSpec := { name := "fnIsPartition", fn := fun _ => fun
  | [d] => { results := [.lit (.bool true)], args := [d] }
  | _ => none }
def fnIsPartitionRow : OpenClaim := { program := "ytohkllmhknjkoaadoor", sum := "c951f33b0e3e14eaac83aea760cbd7d28a811794508fcac392830343280683d5", func := "loop.example/twoplayers/laws.FnIsPartition", spec := "fnIsPartition", inPlace := ["internal/bytealg.IndexByteString", "internal/bytealg.IndexString", "internal/bytealg.CountString"], unfollowed := true, recurses := true, named := ["unicode/utf8.first", "unicode/utf8.acceptRanges", "internal/bytealg.MaxLen"], plainKeys := false, apart := false, laid := [("unicode/utf8.acceptRanges", laid_unicode_utf8_acceptRanges), ("unicode/utf8.first", laid_unicode_utf8_first)] }
def FnIsPartitionSaid : Prop := fnIsPartitionRow.holds Tryd.pinned (OpenSpec.ofChange fnIsPartitionSpec)

/-- ITS FALSE NEIGHBOUR: 'it returns false'. Refute it at one input. -/
def fnIsPartitionWrong : ChangeSpec := { name := "fnIsPartition", fn := fun _ => fun
  | [d] => { results := [.lit (.bool false)], args := [d] }
  | _ => none }
def FnIsPartitionWrongFalsely : Prop := fnIsPartitionRow.holds Tryd.pinned (OpenSpec.ofChange fnIsPartitionWrong)

/-- 'laws.FnExactRankOf': WHATEVER THE INPUT: true; the input reads as it did. -/
def fnExactRankOfSpec : ChangeSpec := { name := "fnExactRankOf", fn := fun _ => fun
  | [d] => { results := [.lit (.bool true)], args := [d] }
  | _ => none }
def fnExactRankOfRow : OpenClaim := { program := "ytohkllmhknjkoaadoor", sum := "c951f33b0e3e14eaac83aea760cbd7d28a811794508fcac392830343280683d5", func := "loop.example/twoplayers/laws.FnExactRankOf", spec := "fnExactRankOf", inPlace := ["internal/bytealg.IndexByteString", "internal/bytealg.IndexString"], unfollowed := true, recurses := true, named := ["unicode/utf8.first", "unicode/utf8.acceptRanges", "internal/bytealg.MaxLen"], plainKeys := false, apart := false, laid := [("unicode/utf8.acceptRanges", laid_unicode_utf8_acceptRanges), ("unicode/utf8.first", laid_unicode_utf8_first)] }
def FnExactRankOfSaid : Prop := fnExactRankOfRow.holds Tryd.pinned (OpenSpec.ofChange fnExactRankOfSpec)

/-- ITS FALSE NEIGHBOUR: 'it returns false'. Refute it at one input. -/
def fnExactRankOfWrong : ChangeSpec := { name := "fnExactRankOf", fn := fun _ => fun
  | [d] => { results := [.lit (.bool false)], args := [d] }
  | _ => none }
def FnExactRankOfWrongFalsely : Prop := fnExactRankOfRow.holds Tryd.pinned (OpenSpec.ofChange fnExactRankOfWrong)

/-- 'laws.FnExactSignRankOf': WHATEVER THE INPUT: true; the input reads as it did. -/
def fnExactSignRankOfSpec : ChangeSpec := { name := "fnExactSignRankOf", fn := fun _ => fun
  | [d] => { results := [.lit (.bool true)], args := [d] }
  | _ => none }
def fnExactSignRankOfRow : OpenClaim := { program := "ytohkllmhknjkoaadoor", sum := "c951f33b0e3e14eaac83aea760cbd7d28a811794508fcac392830343280683d5", func := "loop.example/twoplayers/laws.FnExactSignRankOf", spec := "fnExactSignRankOf", inPlace := ["internal/bytealg.IndexByteString", "internal/bytealg.IndexString"], unfollowed := true, recurses := true, named := ["unicode/utf8.first", "unicode/utf8.acceptRanges", "internal/bytealg.MaxLen"], plainKeys := false, apart := false, laid := [("unicode/utf8.acceptRanges", laid_unicode_utf8_acceptRanges), ("unicode/utf8.first", laid_unicode_utf8_first)] }
def FnExactSignRankOfSaid : Prop := fnExactSignRankOfRow.holds Tryd.pinned (OpenSpec.ofChange fnExactSignRankOfSpec)

/-- ITS FALSE NEIGHBOUR: 'it returns false'. Refute it at one input. -/
def fnExactSignRankOfWrong : ChangeSpec := { name := "fnExactSignRankOf", fn := fun _ => fun
  | [d] => { results := [.lit (.bool false)], args := [d] }
  | _ => none }
def FnExactSignRankOfWrongFalsely : Prop := fnExactSignRankOfRow.holds Tryd.pinned (OpenSpec.ofChange fnExactSignRankOfWrong)

/-- 'laws.FnExactDeterminantOf': WHATEVER THE INPUT: true; the input reads as it did. -/
def fnExactDeterminantOfSpec : ChangeSpec := { name := "fnExactDeterminantOf", fn := fun _ => fun
  | [d] => { results := [.lit (.bool true)], args := [d] }
  | _ => none }
def fnExactDeterminantOfRow : OpenClaim := { program := "ytohkllmhknjkoaadoor", sum := "c951f33b0e3e14eaac83aea760cbd7d28a811794508fcac392830343280683d5", func := "loop.example/twoplayers/laws.FnExactDeterminantOf", spec := "fnExactDeterminantOf", inPlace := ["internal/bytealg.IndexByteString", "internal/bytealg.IndexString"], unfollowed := true, recurses := true, named := ["unicode/utf8.first", "unicode/utf8.acceptRanges", "internal/bytealg.MaxLen"], plainKeys := false, apart := false, laid := [("unicode/utf8.acceptRanges", laid_unicode_utf8_acceptRanges), ("unicode/utf8.first", laid_unicode_utf8_first)] }
def FnExactDeterminantOfSaid : Prop := fnExactDeterminantOfRow.holds Tryd.pinned (OpenSpec.ofChange fnExactDeterminantOfSpec)

/-- ITS FALSE NEIGHBOUR: 'it returns false'. Refute it at one input. -/
def fnExactDeterminantOfWrong : ChangeSpec := { name := "fnExactDeterminantOf", fn := fun _ => fun
  | [d] => { results := [.lit (.bool false)], args := [d] }
  | _ => none }
def FnExactDeterminantOfWrongFalsely : Prop := fnExactDeterminantOfRow.holds Tryd.pinned (OpenSpec.ofChange fnExactDeterminantOfWrong)

/-- 'laws.FnExactGreatestFooling': WHATEVER THE INPUT: true; the input reads as it did. -/
def fnExactGreatestFoolingSpec : ChangeSpec := { name := "fnExactGreatestFooling", fn := fun _ => fun
  | [d1, d2] => { results := [.lit (.bool true)], args := [d1, d2] }
  | _ => none }
def fnExactGreatestFoolingRow : OpenClaim := { program := "ytohkllmhknjkoaadoor", sum := "c951f33b0e3e14eaac83aea760cbd7d28a811794508fcac392830343280683d5", func := "loop.example/twoplayers/laws.FnExactGreatestFooling", spec := "fnExactGreatestFooling", inPlace := ["internal/bytealg.IndexByteString", "internal/bytealg.IndexString"], unfollowed := true, recurses := true, named := ["unicode/utf8.first", "unicode/utf8.acceptRanges", "internal/bytealg.MaxLen"], plainKeys := false, apart := false, laid := [("unicode/utf8.acceptRanges", laid_unicode_utf8_acceptRanges), ("unicode/utf8.first", laid_unicode_utf8_first)] }
def FnExactGreatestFoolingSaid : Prop := fnExactGreatestFoolingRow.holds Tryd.pinned (OpenSpec.ofChange fnExactGreatestFoolingSpec)

/-- ITS FALSE NEIGHBOUR: 'it returns false'. Refute it at one input. -/
def fnExactGreatestFoolingWrong : ChangeSpec := { name := "fnExactGreatestFooling", fn := fun _ => fun
  | [d1, d2] => { results := [.lit (.bool false)], args := [d1, d2] }
  | _ => none }
def FnExactGreatestFoolingWrongFalsely : Prop := fnExactGreatestFoolingRow.holds Tryd.pinned (OpenSpec.ofChange fnExactGreatestFoolingWrong)

/- THE SECOND FORM. 'bulk': how many values and letters a reading holds, each counted each time it is reached (what is shared counts as often as it is met; a slice's spare places count too). A statement '..UptoSaid' is the law's where the arguments, and the package variables that the reading takes, are together of bulk at most 1048576: NARROWER than '..Said'. Prove '..Said' where nothing that the law and all that it calls make is longer than what came in: it says more and counts as full. Else prove '..UptoSaid'. A law counts once. -/
mutual
def uptoBulk {H : Type} : DataW H → Nat
  | .lit (.string bytes) => bytes.length + 1
  | .lit _ => 1
  | .nil => 1
  | .ptr d => uptoBulk d + 1
  | .slice elems spare => uptoBulkAll elems + uptoBulkAll spare + 1
  | .agg parts => uptoBulkAll parts + 1
  | .iface _ d => uptoBulk d + 1
  | .map entries => uptoBulkEntries entries + 1
  | .held _ => 1
def uptoBulkAll {H : Type} : List (DataW H) → Nat
  | [] => 0
  | d :: r => uptoBulk d + uptoBulkAll r
def uptoBulkEntries {H : Type} : List (Lit × DataW H) → Nat
  | [] => 0
  | x :: r => uptoBulkEntry x + uptoBulkEntries r
def uptoBulkEntry {H : Type} : Lit × DataW H → Nat
  | (.string bytes, d) => bytes.length + uptoBulk d + 1
  | (_, d) => uptoBulk d + 1
 end
def uptoSmall : (H : Type) → List (DataW H) → Bool := fun _ ds => decide (uptoBulkAll ds ≤ 1048576)
def OpenSpec.upto (s : _root_.Go.ChangeSpec) : _root_.Go.OpenSpec := { _root_.Go.OpenSpec.ofChange s with cond := some uptoSmall }

/-- 'laws.FnExactLeastBits', WHERE WHAT IT READS IS OF BULK AT MOST 1048576: true; the input reads as it did. -/
def fnExactLeastBitsUptoRow : OpenClaim := { program := "ytohkllmhknjkoaadoor", sum := "c951f33b0e3e14eaac83aea760cbd7d28a811794508fcac392830343280683d5", func := "loop.example/twoplayers/laws.FnExactLeastBits", spec := "fnExactLeastBits", inPlace := ["internal/bytealg.IndexByteString", "internal/bytealg.IndexString"], unfollowed := true, recurses := true, named := ["unicode/utf8.first", "unicode/utf8.acceptRanges", "internal/bytealg.MaxLen"], plainKeys := false, apart := false, laid := [("unicode/utf8.acceptRanges", laid_unicode_utf8_acceptRanges), ("unicode/utf8.first", laid_unicode_utf8_first)], narrowed := true }
def FnExactLeastBitsUptoSaid : Prop := fnExactLeastBitsUptoRow.holds Tryd.pinned (OpenSpec.upto fnExactLeastBitsSpec)

/-- 'laws.FnExactLeastEnds', WHERE WHAT IT READS IS OF BULK AT MOST 1048576: true; the input reads as it did. -/
def fnExactLeastEndsUptoRow : OpenClaim := { program := "ytohkllmhknjkoaadoor", sum := "c951f33b0e3e14eaac83aea760cbd7d28a811794508fcac392830343280683d5", func := "loop.example/twoplayers/laws.FnExactLeastEnds", spec := "fnExactLeastEnds", inPlace := ["internal/bytealg.IndexByteString", "internal/bytealg.IndexString"], unfollowed := true, recurses := true, named := ["unicode/utf8.first", "unicode/utf8.acceptRanges", "internal/bytealg.MaxLen"], plainKeys := false, apart := false, laid := [("unicode/utf8.acceptRanges", laid_unicode_utf8_acceptRanges), ("unicode/utf8.first", laid_unicode_utf8_first)], narrowed := true }
def FnExactLeastEndsUptoSaid : Prop := fnExactLeastEndsUptoRow.holds Tryd.pinned (OpenSpec.upto fnExactLeastEndsSpec)

/-- 'laws.FnExactBestProtocol', WHERE WHAT IT READS IS OF BULK AT MOST 1048576: true; the input reads as it did. -/
def fnExactBestProtocolUptoRow : OpenClaim := { program := "ytohkllmhknjkoaadoor", sum := "c951f33b0e3e14eaac83aea760cbd7d28a811794508fcac392830343280683d5", func := "loop.example/twoplayers/laws.FnExactBestProtocol", spec := "fnExactBestProtocol", inPlace := ["internal/bytealg.IndexByteString", "internal/bytealg.IndexString"], unfollowed := true, recurses := true, named := ["unicode/utf8.first", "unicode/utf8.acceptRanges", "internal/bytealg.MaxLen"], plainKeys := false, apart := false, laid := [("unicode/utf8.acceptRanges", laid_unicode_utf8_acceptRanges), ("unicode/utf8.first", laid_unicode_utf8_first)], narrowed := true }
def FnExactBestProtocolUptoSaid : Prop := fnExactBestProtocolUptoRow.holds Tryd.pinned (OpenSpec.upto fnExactBestProtocolSpec)

/-- 'laws.FnExactFewestEnds', WHERE WHAT IT READS IS OF BULK AT MOST 1048576: true; the input reads as it did. -/
def fnExactFewestEndsUptoRow : OpenClaim := { program := "ytohkllmhknjkoaadoor", sum := "c951f33b0e3e14eaac83aea760cbd7d28a811794508fcac392830343280683d5", func := "loop.example/twoplayers/laws.FnExactFewestEnds", spec := "fnExactFewestEnds", inPlace := ["internal/bytealg.IndexByteString", "internal/bytealg.IndexString"], unfollowed := true, recurses := true, named := ["unicode/utf8.first", "unicode/utf8.acceptRanges", "internal/bytealg.MaxLen"], plainKeys := false, apart := false, laid := [("unicode/utf8.acceptRanges", laid_unicode_utf8_acceptRanges), ("unicode/utf8.first", laid_unicode_utf8_first)], narrowed := true }
def FnExactFewestEndsUptoSaid : Prop := fnExactFewestEndsUptoRow.holds Tryd.pinned (OpenSpec.upto fnExactFewestEndsSpec)

/-- 'laws.FnIsCover', WHERE WHAT IT READS IS OF BULK AT MOST 1048576: true; the input reads as it did. -/
def fnIsCoverUptoRow : OpenClaim := { program := "ytohkllmhknjkoaadoor", sum := "c951f33b0e3e14eaac83aea760cbd7d28a811794508fcac392830343280683d5", func := "loop.example/twoplayers/laws.FnIsCover", spec := "fnIsCover", inPlace := ["internal/bytealg.IndexByteString", "internal/bytealg.IndexString"], unfollowed := true, recurses := true, named := ["unicode/utf8.first", "unicode/utf8.acceptRanges", "internal/bytealg.MaxLen"], plainKeys := false, apart := false, laid := [("unicode/utf8.acceptRanges", laid_unicode_utf8_acceptRanges), ("unicode/utf8.first", laid_unicode_utf8_first)], narrowed := true }
def FnIsCoverUptoSaid : Prop := fnIsCoverUptoRow.holds Tryd.pinned (OpenSpec.upto fnIsCoverSpec)

/-- 'laws.FnIsPartition', WHERE WHAT IT READS IS OF BULK AT MOST 1048576: true; the input reads as it did. -/
def fnIsPartitionUptoRow : OpenClaim := { program := "ytohkllmhknjkoaadoor", sum := "c951f33b0e3e14eaac83aea760cbd7d28a811794508fcac392830343280683d5", func := "loop.example/twoplayers/laws.FnIsPartition", spec := "fnIsPartition", inPlace := ["internal/bytealg.IndexByteString", "internal/bytealg.IndexString", "internal/bytealg.CountString"], unfollowed := true, recurses := true, named := ["unicode/utf8.first", "unicode/utf8.acceptRanges", "internal/bytealg.MaxLen"], plainKeys := false, apart := false, laid := [("unicode/utf8.acceptRanges", laid_unicode_utf8_acceptRanges), ("unicode/utf8.first", laid_unicode_utf8_first)], narrowed := true }
def FnIsPartitionUptoSaid : Prop := fnIsPartitionUptoRow.holds Tryd.pinned (OpenSpec.upto fnIsPartitionSpec)

/-- 'laws.FnExactRankOf', WHERE WHAT IT READS IS OF BULK AT MOST 1048576: true; the input reads as it did. -/
def fnExactRankOfUptoRow : OpenClaim := { program := "ytohkllmhknjkoaadoor", sum := "c951f33b0e3e14eaac83aea760cbd7d28a811794508fcac392830343280683d5", func := "loop.example/twoplayers/laws.FnExactRankOf", spec := "fnExactRankOf", inPlace := ["internal/bytealg.IndexByteString", "internal/bytealg.IndexString"], unfollowed := true, recurses := true, named := ["unicode/utf8.first", "unicode/utf8.acceptRanges", "internal/bytealg.MaxLen"], plainKeys := false, apart := false, laid := [("unicode/utf8.acceptRanges", laid_unicode_utf8_acceptRanges), ("unicode/utf8.first", laid_unicode_utf8_first)], narrowed := true }
def FnExactRankOfUptoSaid : Prop := fnExactRankOfUptoRow.holds Tryd.pinned (OpenSpec.upto fnExactRankOfSpec)

/-- 'laws.FnExactSignRankOf', WHERE WHAT IT READS IS OF BULK AT MOST 1048576: true; the input reads as it did. -/
def fnExactSignRankOfUptoRow : OpenClaim := { program := "ytohkllmhknjkoaadoor", sum := "c951f33b0e3e14eaac83aea760cbd7d28a811794508fcac392830343280683d5", func := "loop.example/twoplayers/laws.FnExactSignRankOf", spec := "fnExactSignRankOf", inPlace := ["internal/bytealg.IndexByteString", "internal/bytealg.IndexString"], unfollowed := true, recurses := true, named := ["unicode/utf8.first", "unicode/utf8.acceptRanges", "internal/bytealg.MaxLen"], plainKeys := false, apart := false, laid := [("unicode/utf8.acceptRanges", laid_unicode_utf8_acceptRanges), ("unicode/utf8.first", laid_unicode_utf8_first)], narrowed := true }
def FnExactSignRankOfUptoSaid : Prop := fnExactSignRankOfUptoRow.holds Tryd.pinned (OpenSpec.upto fnExactSignRankOfSpec)

/-- 'laws.FnExactDeterminantOf', WHERE WHAT IT READS IS OF BULK AT MOST 1048576: true; the input reads as it did. -/
def fnExactDeterminantOfUptoRow : OpenClaim := { program := "ytohkllmhknjkoaadoor", sum := "c951f33b0e3e14eaac83aea760cbd7d28a811794508fcac392830343280683d5", func := "loop.example/twoplayers/laws.FnExactDeterminantOf", spec := "fnExactDeterminantOf", inPlace := ["internal/bytealg.IndexByteString", "internal/bytealg.IndexString"], unfollowed := true, recurses := true, named := ["unicode/utf8.first", "unicode/utf8.acceptRanges", "internal/bytealg.MaxLen"], plainKeys := false, apart := false, laid := [("unicode/utf8.acceptRanges", laid_unicode_utf8_acceptRanges), ("unicode/utf8.first", laid_unicode_utf8_first)], narrowed := true }
def FnExactDeterminantOfUptoSaid : Prop := fnExactDeterminantOfUptoRow.holds Tryd.pinned (OpenSpec.upto fnExactDeterminantOfSpec)

/-- 'laws.FnExactGreatestFooling', WHERE WHAT IT READS IS OF BULK AT MOST 1048576: true; the input reads as it did. -/
def fnExactGreatestFoolingUptoRow : OpenClaim := { program := "ytohkllmhknjkoaadoor", sum := "c951f33b0e3e14eaac83aea760cbd7d28a811794508fcac392830343280683d5", func := "loop.example/twoplayers/laws.FnExactGreatestFooling", spec := "fnExactGreatestFooling", inPlace := ["internal/bytealg.IndexByteString", "internal/bytealg.IndexString"], unfollowed := true, recurses := true, named := ["unicode/utf8.first", "unicode/utf8.acceptRanges", "internal/bytealg.MaxLen"], plainKeys := false, apart := false, laid := [("unicode/utf8.acceptRanges", laid_unicode_utf8_acceptRanges), ("unicode/utf8.first", laid_unicode_utf8_first)], narrowed := true }
def FnExactGreatestFoolingUptoSaid : Prop := fnExactGreatestFoolingUptoRow.holds Tryd.pinned (OpenSpec.upto fnExactGreatestFoolingSpec)

end Rows
end Go.Proofs.YtohkllmhknjkoaaDoor
