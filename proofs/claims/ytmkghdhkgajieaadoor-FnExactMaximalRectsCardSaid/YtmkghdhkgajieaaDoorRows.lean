/-
  NARROWER THAN 'FOR EVERY INPUT', by the rows' own cells (each row's printed sentence says how): FnExactMaximalRects: laid · FnExactLargestRect: laid · FnExactIsFooling: laid · FnExactGreatestFooling: laid · FnExactPartitionNumber: laid.
  DERIVED. THE GIVEN ROWS OF THIS SEAT. 5 by the template 'for every input the law returns true; each argument reads behind the call as it read before'; 0 by the template 'total and deterministic' (their statements: YtmkghdhkgajieaaDoorTotals.lean).
  GIVEN WITH THE SEED: the statements are not yours to turn. If you find one false, say at which input.
  Laid BY PROGRAM, IN A SANDBOX (cutbox-rows.mjs): the forced cells as the released guide's own fill.sh prints them over the translation 0460495e6391a889… (all of the seat's roots in one cut). By AI agents, Wed Nov 11 2026. No macro, syntax, notation, axiom, sorry.
-/
import Derived.Test.YtmkghdhkgajieaaDoorChecked
import GoSem.PinnedTables
import GoSem.Claim
import GoSem.ClaimJoined
import GoSem.ClaimMapViews
import Derived.JoinedTies
import Derived.KernelRfl
namespace Go.Proofs.YtmkghdhkgajieaaDoor
/- THE CELL 'sum', in the pinned program and in every row, IS THE sha256 OF THE DUMP (.gsa) THAT YtmkghdhkgajieaaDoorProg.lean LOADS. Nothing in Lean hashes anything: it is a label: what it is worth is what the hold of that sum in a sandbox is worth. -/
noncomputable def Tryd.pinned : Pinned := { name := "ytmkghdhkgajieaadoor", sum := "0460495e6391a88942e8ae97c19bcd1006f11f38cd4e9291943efb10bff36d97", checked := Tryd.checked }
namespace Rows
def none {H : Type} : Left H := { results := [], args := [] }

/- WHAT THE LISTED PACKAGE-LEVEL VARIABLES READ AS WHEN THE CALL BEGINS. Each datum BY PROGRAM (the guide's laid-datum.mjs) off the statement by which the dump's own 'gosem.cut.vars' lays the variable. In a bare row this is a premise. The card (YtmkghdhkgajieaaDoorCards.lean) ties it to the program's text. -/
def laid_unicode_utf8_acceptRanges {H : Type} : DataW H := .agg [.agg [.lit (.int .u8 128), .lit (.int .u8 191)], .agg [.lit (.int .u8 160), .lit (.int .u8 191)], .agg [.lit (.int .u8 128), .lit (.int .u8 159)], .agg [.lit (.int .u8 144), .lit (.int .u8 191)], .agg [.lit (.int .u8 128), .lit (.int .u8 143)], .agg [.lit (.int .u8 0), .lit (.int .u8 0)], .agg [.lit (.int .u8 0), .lit (.int .u8 0)], .agg [.lit (.int .u8 0), .lit (.int .u8 0)], .agg [.lit (.int .u8 0), .lit (.int .u8 0)], .agg [.lit (.int .u8 0), .lit (.int .u8 0)], .agg [.lit (.int .u8 0), .lit (.int .u8 0)], .agg [.lit (.int .u8 0), .lit (.int .u8 0)], .agg [.lit (.int .u8 0), .lit (.int .u8 0)], .agg [.lit (.int .u8 0), .lit (.int .u8 0)], .agg [.lit (.int .u8 0), .lit (.int .u8 0)], .agg [.lit (.int .u8 0), .lit (.int .u8 0)]]
/-- One of Go's own tables, pinned by name: the form's constant. -/
def laid_unicode_utf8_first : DataW Unit := Go.Pinned.utf8First

/-- 'laws.FnExactMaximalRects': WHATEVER THE INPUT: true; the input reads as it did. -/
def fnExactMaximalRectsSpec : ChangeSpec := { name := "fnExactMaximalRects", fn := fun _ => fun
  | [d1, d2] => { results := [.lit (.bool true)], args := [d1, d2] }
  | _ => none }
def fnExactMaximalRectsRow : OpenClaim := { program := "ytmkghdhkgajieaadoor", sum := "0460495e6391a88942e8ae97c19bcd1006f11f38cd4e9291943efb10bff36d97", func := "loop.example/twoplayers/laws.FnExactMaximalRects", spec := "fnExactMaximalRects", inPlace := ["internal/bytealg.IndexByteString", "internal/bytealg.IndexString"], unfollowed := true, recurses := true, named := ["unicode/utf8.first", "unicode/utf8.acceptRanges", "internal/bytealg.MaxLen"], plainKeys := false, apart := false, laid := [("unicode/utf8.acceptRanges", laid_unicode_utf8_acceptRanges), ("unicode/utf8.first", laid_unicode_utf8_first)] }
def FnExactMaximalRectsSaid : Prop := fnExactMaximalRectsRow.holds Tryd.pinned (OpenSpec.ofChange fnExactMaximalRectsSpec)

/-- ITS FALSE NEIGHBOUR: 'it returns false'. Refute it at one input. -/
def fnExactMaximalRectsWrong : ChangeSpec := { name := "fnExactMaximalRects", fn := fun _ => fun
  | [d1, d2] => { results := [.lit (.bool false)], args := [d1, d2] }
  | _ => none }
def FnExactMaximalRectsWrongFalsely : Prop := fnExactMaximalRectsRow.holds Tryd.pinned (OpenSpec.ofChange fnExactMaximalRectsWrong)

/-- 'laws.FnExactLargestRect': WHATEVER THE INPUT: true; the input reads as it did. -/
def fnExactLargestRectSpec : ChangeSpec := { name := "fnExactLargestRect", fn := fun _ => fun
  | [d1, d2] => { results := [.lit (.bool true)], args := [d1, d2] }
  | _ => none }
def fnExactLargestRectRow : OpenClaim := { program := "ytmkghdhkgajieaadoor", sum := "0460495e6391a88942e8ae97c19bcd1006f11f38cd4e9291943efb10bff36d97", func := "loop.example/twoplayers/laws.FnExactLargestRect", spec := "fnExactLargestRect", inPlace := ["internal/bytealg.IndexByteString", "internal/bytealg.IndexString"], unfollowed := true, recurses := true, named := ["unicode/utf8.first", "unicode/utf8.acceptRanges", "internal/bytealg.MaxLen"], plainKeys := false, apart := false, laid := [("unicode/utf8.acceptRanges", laid_unicode_utf8_acceptRanges), ("unicode/utf8.first", laid_unicode_utf8_first)] }
def FnExactLargestRectSaid : Prop := fnExactLargestRectRow.holds Tryd.pinned (OpenSpec.ofChange fnExactLargestRectSpec)

/-- ITS FALSE NEIGHBOUR: 'it returns false'. Refute it at one input. -/
def fnExactLargestRectWrong : ChangeSpec := { name := "fnExactLargestRect", fn := fun _ => fun
  | [d1, d2] => { results := [.lit (.bool false)], args := [d1, d2] }
  | _ => none }
def FnExactLargestRectWrongFalsely : Prop := fnExactLargestRectRow.holds Tryd.pinned (OpenSpec.ofChange fnExactLargestRectWrong)

/-- 'laws.FnExactIsFooling': WHATEVER THE INPUT: true; the input reads as it did. -/
def fnExactIsFoolingSpec : ChangeSpec := { name := "fnExactIsFooling", fn := fun _ => fun
  | [d1, d2, d3] => { results := [.lit (.bool true)], args := [d1, d2, d3] }
  | _ => none }
def fnExactIsFoolingRow : OpenClaim := { program := "ytmkghdhkgajieaadoor", sum := "0460495e6391a88942e8ae97c19bcd1006f11f38cd4e9291943efb10bff36d97", func := "loop.example/twoplayers/laws.FnExactIsFooling", spec := "fnExactIsFooling", inPlace := ["internal/bytealg.IndexByteString", "internal/bytealg.IndexString"], unfollowed := true, recurses := true, named := ["unicode/utf8.first", "unicode/utf8.acceptRanges", "internal/bytealg.MaxLen"], plainKeys := false, apart := false, laid := [("unicode/utf8.acceptRanges", laid_unicode_utf8_acceptRanges), ("unicode/utf8.first", laid_unicode_utf8_first)] }
def FnExactIsFoolingSaid : Prop := fnExactIsFoolingRow.holds Tryd.pinned (OpenSpec.ofChange fnExactIsFoolingSpec)

/-- ITS FALSE NEIGHBOUR: 'it returns false'. Refute it at one input. -/
def fnExactIsFoolingWrong : ChangeSpec := { name := "fnExactIsFooling", fn := fun _ => fun
  | [d1, d2, d3] => { results := [.lit (.bool false)], args := [d1, d2, d3] }
  | _ => none }
def FnExactIsFoolingWrongFalsely : Prop := fnExactIsFoolingRow.holds Tryd.pinned (OpenSpec.ofChange fnExactIsFoolingWrong)

/-- 'laws.FnExactGreatestFooling': WHATEVER THE INPUT: true; the input reads as it did. -/
def fnExactGreatestFoolingSpec : ChangeSpec := { name := "fnExactGreatestFooling", fn := fun _ => fun
  | [d1, d2] => { results := [.lit (.bool true)], args := [d1, d2] }
  | _ => none }
def fnExactGreatestFoolingRow : OpenClaim := { program := "ytmkghdhkgajieaadoor", sum := "0460495e6391a88942e8ae97c19bcd1006f11f38cd4e9291943efb10bff36d97", func := "loop.example/twoplayers/laws.FnExactGreatestFooling", spec := "fnExactGreatestFooling", inPlace := ["internal/bytealg.IndexByteString", "internal/bytealg.IndexString"], unfollowed := true, recurses := true, named := ["unicode/utf8.first", "unicode/utf8.acceptRanges", "internal/bytealg.MaxLen"], plainKeys := false, apart := false, laid := [("unicode/utf8.acceptRanges", laid_unicode_utf8_acceptRanges), ("unicode/utf8.first", laid_unicode_utf8_first)] }
def FnExactGreatestFoolingSaid : Prop := fnExactGreatestFoolingRow.holds Tryd.pinned (OpenSpec.ofChange fnExactGreatestFoolingSpec)

/-- ITS FALSE NEIGHBOUR: 'it returns false'. Refute it at one input. -/
def fnExactGreatestFoolingWrong : ChangeSpec := { name := "fnExactGreatestFooling", fn := fun _ => fun
  | [d1, d2] => { results := [.lit (.bool false)], args := [d1, d2] }
  | _ => none }
def FnExactGreatestFoolingWrongFalsely : Prop := fnExactGreatestFoolingRow.holds Tryd.pinned (OpenSpec.ofChange fnExactGreatestFoolingWrong)

/-- 'laws.FnExactPartitionNumber': WHATEVER THE INPUT: true; the input reads as it did. -/
def fnExactPartitionNumberSpec : ChangeSpec := { name := "fnExactPartitionNumber", fn := fun _ => fun
  | [d] => { results := [.lit (.bool true)], args := [d] }
  | _ => none }
def fnExactPartitionNumberRow : OpenClaim := { program := "ytmkghdhkgajieaadoor", sum := "0460495e6391a88942e8ae97c19bcd1006f11f38cd4e9291943efb10bff36d97", func := "loop.example/twoplayers/laws.FnExactPartitionNumber", spec := "fnExactPartitionNumber", inPlace := ["internal/bytealg.IndexByteString", "internal/bytealg.IndexString"], unfollowed := true, recurses := true, named := ["unicode/utf8.first", "unicode/utf8.acceptRanges", "internal/bytealg.MaxLen"], plainKeys := false, apart := false, laid := [("unicode/utf8.acceptRanges", laid_unicode_utf8_acceptRanges), ("unicode/utf8.first", laid_unicode_utf8_first)] }
def FnExactPartitionNumberSaid : Prop := fnExactPartitionNumberRow.holds Tryd.pinned (OpenSpec.ofChange fnExactPartitionNumberSpec)

/-- ITS FALSE NEIGHBOUR: 'it returns false'. Refute it at one input. -/
def fnExactPartitionNumberWrong : ChangeSpec := { name := "fnExactPartitionNumber", fn := fun _ => fun
  | [d] => { results := [.lit (.bool false)], args := [d] }
  | _ => none }
def FnExactPartitionNumberWrongFalsely : Prop := fnExactPartitionNumberRow.holds Tryd.pinned (OpenSpec.ofChange fnExactPartitionNumberWrong)

/- THE SECOND FORM. 'bulk': how many values and letters a reading holds, each counted each time it is reached (what is shared counts as often as it is met; a slice's spare places count too). A statement '..UptoSaid' is the law's where the arguments, and the package variables that the reading takes, are together of bulk at most 1048576: NARROWER than '..Said'. Prove '..Said' where nothing that the law and all that it calls make is longer than what came in: it says more and counts as full. Else prove '..UptoSaid'. A law counts once. -/
mutual
def uptoBulk {H : Type} : DataW H → Nat
  | .lit (.string bytes) => bytes.length + 1
  | .lit _ => 1
  | .nil => 1
  | .ptr d => uptoBulk d + 1
  | .slice elems spare => uptoBulkAll elems + uptoBulkAll spare + 1
  | .agg parts => uptoBulkAll parts + 1
  | .iface _ d => uptoBulk d + 1
  | .map entries => uptoBulkEntries entries + 1
  | .held _ => 1
def uptoBulkAll {H : Type} : List (DataW H) → Nat
  | [] => 0
  | d :: r => uptoBulk d + uptoBulkAll r
def uptoBulkEntries {H : Type} : List (Lit × DataW H) → Nat
  | [] => 0
  | x :: r => uptoBulkEntry x + uptoBulkEntries r
def uptoBulkEntry {H : Type} : Lit × DataW H → Nat
  | (.string bytes, d) => bytes.length + uptoBulk d + 1
  | (_, d) => uptoBulk d + 1
 end
def uptoSmall : (H : Type) → List (DataW H) → Bool := fun _ ds => decide (uptoBulkAll ds ≤ 1048576)
def OpenSpec.upto (s : _root_.Go.ChangeSpec) : _root_.Go.OpenSpec := { _root_.Go.OpenSpec.ofChange s with cond := some uptoSmall }

/-- 'laws.FnExactMaximalRects', WHERE WHAT IT READS IS OF BULK AT MOST 1048576: true; the input reads as it did. -/
def fnExactMaximalRectsUptoRow : OpenClaim := { program := "ytmkghdhkgajieaadoor", sum := "0460495e6391a88942e8ae97c19bcd1006f11f38cd4e9291943efb10bff36d97", func := "loop.example/twoplayers/laws.FnExactMaximalRects", spec := "fnExactMaximalRects", inPlace := ["internal/bytealg.IndexByteString", "internal/bytealg.IndexString"], unfollowed := true, recurses := true, named := ["unicode/utf8.first", "unicode/utf8.acceptRanges", "internal/bytealg.MaxLen"], plainKeys := false, apart := false, laid := [("unicode/utf8.acceptRanges", laid_unicode_utf8_acceptRanges), ("unicode/utf8.first", laid_unicode_utf8_first)], narrowed := true }
def FnExactMaximalRectsUptoSaid : Prop := fnExactMaximalRectsUptoRow.holds Tryd.pinned (OpenSpec.upto fnExactMaximalRectsSpec)

/-- 'laws.FnExactLargestRect', WHERE WHAT IT READS IS OF BULK AT MOST 1048576: true; the input reads as it did. -/
def fnExactLargestRectUptoRow : OpenClaim := { program := "ytmkghdhkgajieaadoor", sum := "0460495e6391a88942e8ae97c19bcd1006f11f38cd4e9291943efb10bff36d97", func := "loop.example/twoplayers/laws.FnExactLargestRect", spec := "fnExactLargestRect", inPlace := ["internal/bytealg.IndexByteString", "internal/bytealg.IndexString"], unfollowed := true, recurses := true, named := ["unicode/utf8.first", "unicode/utf8.acceptRanges", "internal/bytealg.MaxLen"], plainKeys := false, apart := false, laid := [("unicode/utf8.acceptRanges", laid_unicode_utf8_acceptRanges), ("unicode/utf8.first", laid_unicode_utf8_first)], narrowed := true }
def FnExactLargestRectUptoSaid : Prop := fnExactLargestRectUptoRow.holds Tryd.pinned (OpenSpec.upto fnExactLargestRectSpec)

/-- 'laws.FnExactIsFooling', WHERE WHAT IT READS IS OF BULK AT MOST 1048576: true; the input reads as it did. -/
def fnExactIsFoolingUptoRow : OpenClaim := { program := "ytmkghdhkgajieaadoor", sum := "0460495e6391a88942e8ae97c19bcd1006f11f38cd4e9291943efb10bff36d97", func := "loop.example/twoplayers/laws.FnExactIsFooling", spec := "fnExactIsFooling", inPlace := ["internal/bytealg.IndexByteString", "internal/bytealg.IndexString"], unfollowed := true, recurses := true, named := ["unicode/utf8.first", "unicode/utf8.acceptRanges", "internal/bytealg.MaxLen"], plainKeys := false, apart := false, laid := [("unicode/utf8.acceptRanges", laid_unicode_utf8_acceptRanges), ("unicode/utf8.first", laid_unicode_utf8_first)], narrowed := true }
def FnExactIsFoolingUptoSaid : Prop := fnExactIsFoolingUptoRow.holds Tryd.pinned (OpenSpec.upto fnExactIsFoolingSpec)

/-- 'laws.FnExactGreatestFooling', WHERE WHAT IT READS IS OF BULK AT MOST 1048576: true; the input reads as it did. -/
def fnExactGreatestFoolingUptoRow : OpenClaim := { program := "ytmkghdhkgajieaadoor", sum := "0460495e6391a88942e8ae97c19bcd1006f11f38cd4e9291943efb10bff36d97", func := "loop.example/twoplayers/laws.FnExactGreatestFooling", spec := "fnExactGreatestFooling", inPlace := ["internal/bytealg.IndexByteString", "internal/bytealg.IndexString"], unfollowed := true, recurses := true, named := ["unicode/utf8.first", "unicode/utf8.acceptRanges", "internal/bytealg.MaxLen"], plainKeys := false, apart := false, laid := [("unicode/utf8.acceptRanges", laid_unicode_utf8_acceptRanges), ("unicode/utf8.first", laid_unicode_utf8_first)], narrowed := true }
def FnExactGreatestFoolingUptoSaid : Prop := fnExactGreatestFoolingUptoRow.holds Tryd.pinned (OpenSpec.upto fnExactGreatestFoolingSpec)

/-- 'laws.FnExactPartitionNumber', WHERE WHAT IT READS IS OF BULK AT MOST 1048576: true; the input reads as it did. -/
def fnExactPartitionNumberUptoRow : OpenClaim := { program := "ytmkghdhkgajieaadoor", sum := "0460495e6391a88942e8ae97c19bcd1006f11f38cd4e9291943efb10bff36d97", func := "loop.example/twoplayers/laws.FnExactPartitionNumber", spec := "fnExactPartitionNumber", inPlace := ["internal/bytealg.IndexByteString", "internal/bytealg.IndexString"], unfollowed := true, recurses := true, named := ["unicode/utf8.first", "unicode/utf8.acceptRanges", "internal/bytealg.MaxLen"], plainKeys := false, apart := false, laid := [("unicode/utf8.acceptRanges", laid_unicode_utf8_acceptRanges), ("unicode/utf8.first", laid_unicode_utf8_first)], narrowed := true }
def FnExactPartitionNumberUptoSaid : Prop := fnExactPartitionNumberUptoRow.holds Tryd.pinned (OpenSpec.upto fnExactPartitionNumberSpec)

end Rows
end Go.Proofs.YtmkghdhkgajieaaDoor
