/-
  NARROWER THAN 'FOR EVERY INPUT', by the rows' own cells (each row's printed sentence says how): FnExactOneWayBits: laid · FnExactTogetherBits: laid · FnExactPatternsOn: laid · FnExactIsShattered: laid · FnExactShatteredCols: laid · FnExactRoundBits: laid · FnExactRoundsNeeded: laid · FnIsCover: laid.
  DERIVED. THE GIVEN ROWS OF THIS SEAT. 8 by the template 'for every input the law returns true; each argument reads behind the call as it read before'; 0 by the template 'total and deterministic' (their statements: YtffilggpimdikaaDoorTotals.lean).
  GIVEN WITH THE SEED: the statements are not yours to turn. If you find one false, say at which input.
  Laid BY PROGRAM, IN A SANDBOX (cutbox-rows.mjs): the forced cells as the released guide's own fill.sh prints them over the translation 7da92f8a7bd0b801… (all of the seat's roots in one cut). By AI agents, Wed Nov 11 2026. No macro, syntax, notation, axiom, sorry.
-/
import Derived.Test.YtffilggpimdikaaDoorChecked
import GoSem.PinnedTables
import GoSem.Claim
import GoSem.ClaimJoined
import GoSem.ClaimMapViews
import Derived.JoinedTies
import Derived.KernelRfl
namespace Go.Proofs.YtffilggpimdikaaDoor
/- THE CELL 'sum', in the pinned program and in every row, IS THE sha256 OF THE DUMP (.gsa) THAT YtffilggpimdikaaDoorProg.lean LOADS. Nothing in Lean hashes anything: it is a label: what it is worth is what the hold of that sum in a sandbox is worth. -/
noncomputable def Tryd.pinned : Pinned := { name := "ytffilggpimdikaadoor", sum := "7da92f8a7bd0b8019e8b7faf179cafeed2121245a692ed9b76dadf262e93fdae", checked := Tryd.checked }
namespace Rows
def none {H : Type} : Left H := { results := [], args := [] }

/- WHAT THE LISTED PACKAGE-LEVEL VARIABLES READ AS WHEN THE CALL BEGINS. Each datum BY PROGRAM (the guide's laid-datum.mjs) off the statement by which the dump's own 'gosem.cut.vars' lays the variable. In a bare row this is a premise. The card (YtffilggpimdikaaDoorCards.lean) ties it to the program's text. -/
def laid_unicode_utf8_acceptRanges {H : Type} : DataW H := .agg [.agg [.lit (.int .u8 128), .lit (.int .u8 191)], .agg [.lit (.int .u8 160), .lit (.int .u8 191)], .agg [.lit (.int .u8 128), .lit (.int .u8 159)], .agg [.lit (.int .u8 144), .lit (.int .u8 191)], .agg [.lit (.int .u8 128), .lit (.int .u8 143)], .agg [.lit (.int .u8 0), .lit (.int .u8 0)], .agg [.lit (.int .u8 0), .lit (.int .u8 0)], .agg [.lit (.int .u8 0), .lit (.int .u8 0)], .agg [.lit (.int .u8 0), .lit (.int .u8 0)], .agg [.lit (.int .u8 0), .lit (.int .u8 0)], .agg [.lit (.int .u8 0), .lit (.int .u8 0)], .agg [.lit (.int .u8 0), .lit (.int .u8 0)], .agg [.lit (.int .u8 0), .lit (.int .u8 0)], .agg [.lit (.int .u8 0), .lit (.int .u8 0)], .agg [.lit (.int .u8 0), .lit (.int .u8 0)], .agg [.lit (.int .u8 0), .lit (.int .u8 0)]]
/-- One of Go's own tables, pinned by name: the form's constant. -/
def laid_unicode_utf8_first : DataW Unit := Go.Pinned.utf8First

/-- 'laws.FnExactOneWayBits': WHATEVER THE INPUT: true; the input reads as it did. -/
def fnExactOneWayBitsSpec : ChangeSpec := { name := "fnExactOneWayBits", fn := fun _ => fun
  | [d] => { results := [.lit (.bool true)], args := [d] }
  | _ => none }
def fnExactOneWayBitsRow : OpenClaim := { program := "ytffilggpimdikaadoor", sum := "7da92f8a7bd0b8019e8b7faf179cafeed2121245a692ed9b76dadf262e93fdae", func := "loop.example/twoplayers/laws.FnExactOneWayBits", spec := "fnExactOneWayBits", inPlace := ["internal/bytealg.IndexByteString", "internal/bytealg.IndexString"], unfollowed := true, recurses := true, named := ["unicode/utf8.first", "unicode/utf8.acceptRanges", "internal/bytealg.MaxLen"], plainKeys := false, leaving := true, apart := false, laid := [("unicode/utf8.acceptRanges", laid_unicode_utf8_acceptRanges), ("unicode/utf8.first", laid_unicode_utf8_first)] }
def FnExactOneWayBitsSaid : Prop := fnExactOneWayBitsRow.holds Tryd.pinned (OpenSpec.ofChange fnExactOneWayBitsSpec)

/-- ITS FALSE NEIGHBOUR: 'it returns false'. Refute it at one input. -/
def fnExactOneWayBitsWrong : ChangeSpec := { name := "fnExactOneWayBits", fn := fun _ => fun
  | [d] => { results := [.lit (.bool false)], args := [d] }
  | _ => none }
def FnExactOneWayBitsWrongFalsely : Prop := fnExactOneWayBitsRow.holds Tryd.pinned (OpenSpec.ofChange fnExactOneWayBitsWrong)

/-- 'laws.FnExactTogetherBits': WHATEVER THE INPUT: true; the input reads as it did. -/
def fnExactTogetherBitsSpec : ChangeSpec := { name := "fnExactTogetherBits", fn := fun _ => fun
  | [d] => { results := [.lit (.bool true)], args := [d] }
  | _ => none }
def fnExactTogetherBitsRow : OpenClaim := { program := "ytffilggpimdikaadoor", sum := "7da92f8a7bd0b8019e8b7faf179cafeed2121245a692ed9b76dadf262e93fdae", func := "loop.example/twoplayers/laws.FnExactTogetherBits", spec := "fnExactTogetherBits", inPlace := ["internal/bytealg.IndexByteString", "internal/bytealg.IndexString"], unfollowed := true, recurses := true, named := ["unicode/utf8.first", "unicode/utf8.acceptRanges", "internal/bytealg.MaxLen"], plainKeys := false, leaving := true, apart := false, laid := [("unicode/utf8.acceptRanges", laid_unicode_utf8_acceptRanges), ("unicode/utf8.first", laid_unicode_utf8_first)] }
def FnExactTogetherBitsSaid : Prop := fnExactTogetherBitsRow.holds Tryd.pinned (OpenSpec.ofChange fnExactTogetherBitsSpec)

/-- ITS FALSE NEIGHBOUR: 'it returns false'. Refute it at one input. -/
def fnExactTogetherBitsWrong : ChangeSpec := { name := "fnExactTogetherBits", fn := fun _ => fun
  | [d] => { results := [.lit (.bool false)], args := [d] }
  | _ => none }
def FnExactTogetherBitsWrongFalsely : Prop := fnExactTogetherBitsRow.holds Tryd.pinned (OpenSpec.ofChange fnExactTogetherBitsWrong)

/-- 'laws.FnExactPatternsOn': WHATEVER THE INPUT: true; the input reads as it did. -/
def fnExactPatternsOnSpec : ChangeSpec := { name := "fnExactPatternsOn", fn := fun _ => fun
  | [d1, d2] => { results := [.lit (.bool true)], args := [d1, d2] }
  | _ => none }
def fnExactPatternsOnRow : OpenClaim := { program := "ytffilggpimdikaadoor", sum := "7da92f8a7bd0b8019e8b7faf179cafeed2121245a692ed9b76dadf262e93fdae", func := "loop.example/twoplayers/laws.FnExactPatternsOn", spec := "fnExactPatternsOn", inPlace := ["internal/bytealg.IndexByteString", "internal/bytealg.IndexString"], named := ["unicode/utf8.first", "unicode/utf8.acceptRanges", "internal/bytealg.MaxLen"], plainKeys := false, leaving := true, apart := false, laid := [("unicode/utf8.acceptRanges", laid_unicode_utf8_acceptRanges), ("unicode/utf8.first", laid_unicode_utf8_first)] }
def FnExactPatternsOnSaid : Prop := fnExactPatternsOnRow.holds Tryd.pinned (OpenSpec.ofChange fnExactPatternsOnSpec)

/-- ITS FALSE NEIGHBOUR: 'it returns false'. Refute it at one input. -/
def fnExactPatternsOnWrong : ChangeSpec := { name := "fnExactPatternsOn", fn := fun _ => fun
  | [d1, d2] => { results := [.lit (.bool false)], args := [d1, d2] }
  | _ => none }
def FnExactPatternsOnWrongFalsely : Prop := fnExactPatternsOnRow.holds Tryd.pinned (OpenSpec.ofChange fnExactPatternsOnWrong)

/-- 'laws.FnExactIsShattered': WHATEVER THE INPUT: true; the input reads as it did. -/
def fnExactIsShatteredSpec : ChangeSpec := { name := "fnExactIsShattered", fn := fun _ => fun
  | [d1, d2] => { results := [.lit (.bool true)], args := [d1, d2] }
  | _ => none }
def fnExactIsShatteredRow : OpenClaim := { program := "ytffilggpimdikaadoor", sum := "7da92f8a7bd0b8019e8b7faf179cafeed2121245a692ed9b76dadf262e93fdae", func := "loop.example/twoplayers/laws.FnExactIsShattered", spec := "fnExactIsShattered", inPlace := ["internal/bytealg.IndexByteString", "internal/bytealg.IndexString"], named := ["unicode/utf8.first", "unicode/utf8.acceptRanges", "internal/bytealg.MaxLen"], plainKeys := false, leaving := true, apart := false, laid := [("unicode/utf8.acceptRanges", laid_unicode_utf8_acceptRanges), ("unicode/utf8.first", laid_unicode_utf8_first)] }
def FnExactIsShatteredSaid : Prop := fnExactIsShatteredRow.holds Tryd.pinned (OpenSpec.ofChange fnExactIsShatteredSpec)

/-- ITS FALSE NEIGHBOUR: 'it returns false'. Refute it at one input. -/
def fnExactIsShatteredWrong : ChangeSpec := { name := "fnExactIsShattered", fn := fun _ => fun
  | [d1, d2] => { results := [.lit (.bool false)], args := [d1, d2] }
  | _ => none }
def FnExactIsShatteredWrongFalsely : Prop := fnExactIsShatteredRow.holds Tryd.pinned (OpenSpec.ofChange fnExactIsShatteredWrong)

/-- 'laws.FnExactShatteredCols': WHATEVER THE INPUT: true; the input reads as it did. -/
def fnExactShatteredColsSpec : ChangeSpec := { name := "fnExactShatteredCols", fn := fun _ => fun
  | [d] => { results := [.lit (.bool true)], args := [d] }
  | _ => none }
def fnExactShatteredColsRow : OpenClaim := { program := "ytffilggpimdikaadoor", sum := "7da92f8a7bd0b8019e8b7faf179cafeed2121245a692ed9b76dadf262e93fdae", func := "loop.example/twoplayers/laws.FnExactShatteredCols", spec := "fnExactShatteredCols", inPlace := ["internal/bytealg.IndexByteString", "internal/bytealg.IndexString"], unfollowed := true, recurses := true, named := ["unicode/utf8.first", "unicode/utf8.acceptRanges", "internal/bytealg.MaxLen"], plainKeys := false, leaving := true, apart := false, laid := [("unicode/utf8.acceptRanges", laid_unicode_utf8_acceptRanges), ("unicode/utf8.first", laid_unicode_utf8_first)] }
def FnExactShatteredColsSaid : Prop := fnExactShatteredColsRow.holds Tryd.pinned (OpenSpec.ofChange fnExactShatteredColsSpec)

/-- ITS FALSE NEIGHBOUR: 'it returns false'. Refute it at one input. -/
def fnExactShatteredColsWrong : ChangeSpec := { name := "fnExactShatteredCols", fn := fun _ => fun
  | [d] => { results := [.lit (.bool false)], args := [d] }
  | _ => none }
def FnExactShatteredColsWrongFalsely : Prop := fnExactShatteredColsRow.holds Tryd.pinned (OpenSpec.ofChange fnExactShatteredColsWrong)

/-- 'laws.FnExactRoundBits': WHATEVER THE INPUT: true; the input reads as it did. -/
def fnExactRoundBitsSpec : ChangeSpec := { name := "fnExactRoundBits", fn := fun _ => fun
  | [d1, d2, d3] => { results := [.lit (.bool true)], args := [d1, d2, d3] }
  | _ => none }
def fnExactRoundBitsRow : OpenClaim := { program := "ytffilggpimdikaadoor", sum := "7da92f8a7bd0b8019e8b7faf179cafeed2121245a692ed9b76dadf262e93fdae", func := "loop.example/twoplayers/laws.FnExactRoundBits", spec := "fnExactRoundBits", inPlace := ["internal/bytealg.IndexByteString", "internal/bytealg.IndexString"], unfollowed := true, recurses := true, named := ["unicode/utf8.first", "unicode/utf8.acceptRanges", "internal/bytealg.MaxLen"], plainKeys := false, leaving := true, apart := false, laid := [("unicode/utf8.acceptRanges", laid_unicode_utf8_acceptRanges), ("unicode/utf8.first", laid_unicode_utf8_first)] }
def FnExactRoundBitsSaid : Prop := fnExactRoundBitsRow.holds Tryd.pinned (OpenSpec.ofChange fnExactRoundBitsSpec)

/-- ITS FALSE NEIGHBOUR: 'it returns false'. Refute it at one input. -/
def fnExactRoundBitsWrong : ChangeSpec := { name := "fnExactRoundBits", fn := fun _ => fun
  | [d1, d2, d3] => { results := [.lit (.bool false)], args := [d1, d2, d3] }
  | _ => none }
def FnExactRoundBitsWrongFalsely : Prop := fnExactRoundBitsRow.holds Tryd.pinned (OpenSpec.ofChange fnExactRoundBitsWrong)

/-- 'laws.FnExactRoundsNeeded': WHATEVER THE INPUT: true; the input reads as it did. -/
def fnExactRoundsNeededSpec : ChangeSpec := { name := "fnExactRoundsNeeded", fn := fun _ => fun
  | [d] => { results := [.lit (.bool true)], args := [d] }
  | _ => none }
def fnExactRoundsNeededRow : OpenClaim := { program := "ytffilggpimdikaadoor", sum := "7da92f8a7bd0b8019e8b7faf179cafeed2121245a692ed9b76dadf262e93fdae", func := "loop.example/twoplayers/laws.FnExactRoundsNeeded", spec := "fnExactRoundsNeeded", inPlace := ["internal/bytealg.IndexByteString", "internal/bytealg.IndexString"], unfollowed := true, recurses := true, named := ["unicode/utf8.first", "unicode/utf8.acceptRanges", "internal/bytealg.MaxLen"], plainKeys := false, leaving := true, apart := false, laid := [("unicode/utf8.acceptRanges", laid_unicode_utf8_acceptRanges), ("unicode/utf8.first", laid_unicode_utf8_first)] }
def FnExactRoundsNeededSaid : Prop := fnExactRoundsNeededRow.holds Tryd.pinned (OpenSpec.ofChange fnExactRoundsNeededSpec)

/-- ITS FALSE NEIGHBOUR: 'it returns false'. Refute it at one input. -/
def fnExactRoundsNeededWrong : ChangeSpec := { name := "fnExactRoundsNeeded", fn := fun _ => fun
  | [d] => { results := [.lit (.bool false)], args := [d] }
  | _ => none }
def FnExactRoundsNeededWrongFalsely : Prop := fnExactRoundsNeededRow.holds Tryd.pinned (OpenSpec.ofChange fnExactRoundsNeededWrong)

/-- 'laws.FnIsCover': WHATEVER THE INPUT: true; the input reads as it did. -/
def fnIsCoverSpec : ChangeSpec := { name := "fnIsCover", fn := fun _ => fun
  | [d] => { results := [.lit (.bool true)], args := [d] }
  | _ => none }
def fnIsCoverRow : OpenClaim := { program := "ytffilggpimdikaadoor", sum := "7da92f8a7bd0b8019e8b7faf179cafeed2121245a692ed9b76dadf262e93fdae", func := "loop.example/twoplayers/laws.FnIsCover", spec := "fnIsCover", inPlace := ["internal/bytealg.IndexByteString", "internal/bytealg.IndexString"], unfollowed := true, recurses := true, named := ["unicode/utf8.first", "unicode/utf8.acceptRanges", "internal/bytealg.MaxLen"], plainKeys := false, leaving := true, apart := false, laid := [("unicode/utf8.acceptRanges", laid_unicode_utf8_acceptRanges), ("unicode/utf8.first", laid_unicode_utf8_first)] }
def FnIsCoverSaid : Prop := fnIsCoverRow.holds Tryd.pinned (OpenSpec.ofChange fnIsCoverSpec)

/-- ITS FALSE NEIGHBOUR: 'it returns false'. Refute it at one input. -/
def fnIsCoverWrong : ChangeSpec := { name := "fnIsCover", fn := fun _ => fun
  | [d] => { results := [.lit (.bool false)], args := [d] }
  | _ => none }
def FnIsCoverWrongFalsely : Prop := fnIsCoverRow.holds Tryd.pinned (OpenSpec.ofChange fnIsCoverWrong)

/- THE SECOND FORM. 'bulk': how many values and letters a reading holds, each counted each time it is reached (what is shared counts as often as it is met; a slice's spare places count too). A statement '..UptoSaid' is the law's where the arguments, and the package variables that the reading takes, are together of bulk at most 1048576: NARROWER than '..Said'. Prove '..Said' where nothing that the law and all that it calls make is longer than what came in: it says more and counts as full. Else prove '..UptoSaid'. A law counts once. -/
mutual
def uptoBulk {H : Type} : DataW H → Nat
  | .lit (.string bytes) => bytes.length + 1
  | .lit _ => 1
  | .nil => 1
  | .ptr d => uptoBulk d + 1
  | .slice elems spare => uptoBulkAll elems + uptoBulkAll spare + 1
  | .agg parts => uptoBulkAll parts + 1
  | .iface _ d => uptoBulk d + 1
  | .map entries => uptoBulkEntries entries + 1
  | .held _ => 1
def uptoBulkAll {H : Type} : List (DataW H) → Nat
  | [] => 0
  | d :: r => uptoBulk d + uptoBulkAll r
def uptoBulkEntries {H : Type} : List (Lit × DataW H) → Nat
  | [] => 0
  | x :: r => uptoBulkEntry x + uptoBulkEntries r
def uptoBulkEntry {H : Type} : Lit × DataW H → Nat
  | (.string bytes, d) => bytes.length + uptoBulk d + 1
  | (_, d) => uptoBulk d + 1
 end
def uptoSmall : (H : Type) → List (DataW H) → Bool := fun _ ds => decide (uptoBulkAll ds ≤ 1048576)
def OpenSpec.upto (s : _root_.Go.ChangeSpec) : _root_.Go.OpenSpec := { _root_.Go.OpenSpec.ofChange s with cond := some uptoSmall }

/-- 'laws.FnExactOneWayBits', WHERE WHAT IT READS IS OF BULK AT MOST 1048576: true; the input reads as it did. -/
def fnExactOneWayBitsUptoRow : OpenClaim := { program := "ytffilggpimdikaadoor", sum := "7da92f8a7bd0b8019e8b7faf179cafeed2121245a692ed9b76dadf262e93fdae", func := "loop.example/twoplayers/laws.FnExactOneWayBits", spec := "fnExactOneWayBits", inPlace := ["internal/bytealg.IndexByteString", "internal/bytealg.IndexString"], unfollowed := true, recurses := true, named := ["unicode/utf8.first", "unicode/utf8.acceptRanges", "internal/bytealg.MaxLen"], plainKeys := false, leaving := true, apart := false, laid := [("unicode/utf8.acceptRanges", laid_unicode_utf8_acceptRanges), ("unicode/utf8.first", laid_unicode_utf8_first)], narrowed := true }
def FnExactOneWayBitsUptoSaid : Prop := fnExactOneWayBitsUptoRow.holds Tryd.pinned (OpenSpec.upto fnExactOneWayBitsSpec)

/-- 'laws.FnExactTogetherBits', WHERE WHAT IT READS IS OF BULK AT MOST 1048576: true; the input reads as it did. -/
def fnExactTogetherBitsUptoRow : OpenClaim := { program := "ytffilggpimdikaadoor", sum := "7da92f8a7bd0b8019e8b7faf179cafeed2121245a692ed9b76dadf262e93fdae", func := "loop.example/twoplayers/laws.FnExactTogetherBits", spec := "fnExactTogetherBits", inPlace := ["internal/bytealg.IndexByteString", "internal/bytealg.IndexString"], unfollowed := true, recurses := true, named := ["unicode/utf8.first", "unicode/utf8.acceptRanges", "internal/bytealg.MaxLen"], plainKeys := false, leaving := true, apart := false, laid := [("unicode/utf8.acceptRanges", laid_unicode_utf8_acceptRanges), ("unicode/utf8.first", laid_unicode_utf8_first)], narrowed := true }
def FnExactTogetherBitsUptoSaid : Prop := fnExactTogetherBitsUptoRow.holds Tryd.pinned (OpenSpec.upto fnExactTogetherBitsSpec)

/-- 'laws.FnExactPatternsOn', WHERE WHAT IT READS IS OF BULK AT MOST 1048576: true; the input reads as it did. -/
def fnExactPatternsOnUptoRow : OpenClaim := { program := "ytffilggpimdikaadoor", sum := "7da92f8a7bd0b8019e8b7faf179cafeed2121245a692ed9b76dadf262e93fdae", func := "loop.example/twoplayers/laws.FnExactPatternsOn", spec := "fnExactPatternsOn", inPlace := ["internal/bytealg.IndexByteString", "internal/bytealg.IndexString"], named := ["unicode/utf8.first", "unicode/utf8.acceptRanges", "internal/bytealg.MaxLen"], plainKeys := false, leaving := true, apart := false, laid := [("unicode/utf8.acceptRanges", laid_unicode_utf8_acceptRanges), ("unicode/utf8.first", laid_unicode_utf8_first)], narrowed := true }
def FnExactPatternsOnUptoSaid : Prop := fnExactPatternsOnUptoRow.holds Tryd.pinned (OpenSpec.upto fnExactPatternsOnSpec)

/-- 'laws.FnExactIsShattered', WHERE WHAT IT READS IS OF BULK AT MOST 1048576: true; the input reads as it did. -/
def fnExactIsShatteredUptoRow : OpenClaim := { program := "ytffilggpimdikaadoor", sum := "7da92f8a7bd0b8019e8b7faf179cafeed2121245a692ed9b76dadf262e93fdae", func := "loop.example/twoplayers/laws.FnExactIsShattered", spec := "fnExactIsShattered", inPlace := ["internal/bytealg.IndexByteString", "internal/bytealg.IndexString"], named := ["unicode/utf8.first", "unicode/utf8.acceptRanges", "internal/bytealg.MaxLen"], plainKeys := false, leaving := true, apart := false, laid := [("unicode/utf8.acceptRanges", laid_unicode_utf8_acceptRanges), ("unicode/utf8.first", laid_unicode_utf8_first)], narrowed := true }
def FnExactIsShatteredUptoSaid : Prop := fnExactIsShatteredUptoRow.holds Tryd.pinned (OpenSpec.upto fnExactIsShatteredSpec)

/-- 'laws.FnExactShatteredCols', WHERE WHAT IT READS IS OF BULK AT MOST 1048576: true; the input reads as it did. -/
def fnExactShatteredColsUptoRow : OpenClaim := { program := "ytffilggpimdikaadoor", sum := "7da92f8a7bd0b8019e8b7faf179cafeed2121245a692ed9b76dadf262e93fdae", func := "loop.example/twoplayers/laws.FnExactShatteredCols", spec := "fnExactShatteredCols", inPlace := ["internal/bytealg.IndexByteString", "internal/bytealg.IndexString"], unfollowed := true, recurses := true, named := ["unicode/utf8.first", "unicode/utf8.acceptRanges", "internal/bytealg.MaxLen"], plainKeys := false, leaving := true, apart := false, laid := [("unicode/utf8.acceptRanges", laid_unicode_utf8_acceptRanges), ("unicode/utf8.first", laid_unicode_utf8_first)], narrowed := true }
def FnExactShatteredColsUptoSaid : Prop := fnExactShatteredColsUptoRow.holds Tryd.pinned (OpenSpec.upto fnExactShatteredColsSpec)

/-- 'laws.FnExactRoundBits', WHERE WHAT IT READS IS OF BULK AT MOST 1048576: true; the input reads as it did. -/
def fnExactRoundBitsUptoRow : OpenClaim := { program := "ytffilggpimdikaadoor", sum := "7da92f8a7bd0b8019e8b7faf179cafeed2121245a692ed9b76dadf262e93fdae", func := "loop.example/twoplayers/laws.FnExactRoundBits", spec := "fnExactRoundBits", inPlace := ["internal/bytealg.IndexByteString", "internal/bytealg.IndexString"], unfollowed := true, recurses := true, named := ["unicode/utf8.first", "unicode/utf8.acceptRanges", "internal/bytealg.MaxLen"], plainKeys := false, leaving := true, apart := false, laid := [("unicode/utf8.acceptRanges", laid_unicode_utf8_acceptRanges), ("unicode/utf8.first", laid_unicode_utf8_first)], narrowed := true }
def FnExactRoundBitsUptoSaid : Prop := fnExactRoundBitsUptoRow.holds Tryd.pinned (OpenSpec.upto fnExactRoundBitsSpec)

/-- 'laws.FnExactRoundsNeeded', WHERE WHAT IT READS IS OF BULK AT MOST 1048576: true; the input reads as it did. -/
def fnExactRoundsNeededUptoRow : OpenClaim := { program := "ytffilggpimdikaadoor", sum := "7da92f8a7bd0b8019e8b7faf179cafeed2121245a692ed9b76dadf262e93fdae", func := "loop.example/twoplayers/laws.FnExactRoundsNeeded", spec := "fnExactRoundsNeeded", inPlace := ["internal/bytealg.IndexByteString", "internal/bytealg.IndexString"], unfollowed := true, recurses := true, named := ["unicode/utf8.first", "unicode/utf8.acceptRanges", "internal/bytealg.MaxLen"], plainKeys := false, leaving := true, apart := false, laid := [("unicode/utf8.acceptRanges", laid_unicode_utf8_acceptRanges), ("unicode/utf8.first", laid_unicode_utf8_first)], narrowed := true }
def FnExactRoundsNeededUptoSaid : Prop := fnExactRoundsNeededUptoRow.holds Tryd.pinned (OpenSpec.upto fnExactRoundsNeededSpec)

/-- 'laws.FnIsCover', WHERE WHAT IT READS IS OF BULK AT MOST 1048576: true; the input reads as it did. -/
def fnIsCoverUptoRow : OpenClaim := { program := "ytffilggpimdikaadoor", sum := "7da92f8a7bd0b8019e8b7faf179cafeed2121245a692ed9b76dadf262e93fdae", func := "loop.example/twoplayers/laws.FnIsCover", spec := "fnIsCover", inPlace := ["internal/bytealg.IndexByteString", "internal/bytealg.IndexString"], unfollowed := true, recurses := true, named := ["unicode/utf8.first", "unicode/utf8.acceptRanges", "internal/bytealg.MaxLen"], plainKeys := false, leaving := true, apart := false, laid := [("unicode/utf8.acceptRanges", laid_unicode_utf8_acceptRanges), ("unicode/utf8.first", laid_unicode_utf8_first)], narrowed := true }
def FnIsCoverUptoSaid : Prop := fnIsCoverUptoRow.holds Tryd.pinned (OpenSpec.upto fnIsCoverSpec)

end Rows
end Go.Proofs.YtffilggpimdikaaDoor
