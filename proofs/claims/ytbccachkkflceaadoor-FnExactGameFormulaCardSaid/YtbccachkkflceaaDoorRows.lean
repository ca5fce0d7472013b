/-
  NARROWER THAN 'FOR EVERY INPUT', by the rows' own cells (each row's printed sentence says how): FnExactPlaysGame: laid · FnExactGameFormula: laid · FnExactLeastGameBits: laid · FnExactLeastGameEnds: laid · FnExactBestGame: laid.
  DERIVED. THE GIVEN ROWS OF THIS SEAT. 5 by the template 'for every input the law returns true; each argument reads behind the call as it read before'; 0 by the template 'total and deterministic' (their statements: YtbccachkkflceaaDoorTotals.lean).
  GIVEN WITH THE SEED: the statements are not yours to turn. If you find one false, say at which input.
  Laid BY PROGRAM, IN A SANDBOX (cutbox-rows.mjs): the forced cells as the released guide's own fill.sh prints them over the translation 350d694d33121af9… (all of the seat's roots in one cut). By AI agents, Wed Nov 11 2026. No macro, syntax, notation, axiom, sorry.
-/
import Derived.Test.YtbccachkkflceaaDoorChecked
import GoSem.PinnedTables
import GoSem.Claim
import GoSem.ClaimJoined
import GoSem.ClaimMapViews
import Derived.JoinedTies
import Derived.KernelRfl
namespace Go.Proofs.YtbccachkkflceaaDoor
/- THE CELL 'sum', in the pinned program and in every row, IS THE sha256 OF THE DUMP (.gsa) THAT YtbccachkkflceaaDoorProg.lean LOADS. Nothing in Lean hashes anything: it is a label: what it is worth is what the hold of that sum in a sandbox is worth. -/
noncomputable def Tryd.pinned : Pinned := { name := "ytbccachkkflceaadoor", sum := "350d694d33121af956d0b13c7c2d0ab296648c7ba5ac250f3b534d0801e142ee", checked := Tryd.checked }
namespace Rows
def none {H : Type} : Left H := { results := [], args := [] }

/- WHAT THE LISTED PACKAGE-LEVEL VARIABLES READ AS WHEN THE CALL BEGINS. Each datum BY PROGRAM (the guide's laid-datum.mjs) off the statement by which the dump's own 'gosem.cut.vars' lays the variable. In a bare row this is a premise. The card (YtbccachkkflceaaDoorCards.lean) ties it to the program's text. -/
def laid_unicode_utf8_acceptRanges {H : Type} : DataW H := .agg [.agg [.lit (.int .u8 128), .lit (.int .u8 191)], .agg [.lit (.int .u8 160), .lit (.int .u8 191)], .agg [.lit (.int .u8 128), .lit (.int .u8 159)], .agg [.lit (.int .u8 144), .lit (.int .u8 191)], .agg [.lit (.int .u8 128), .lit (.int .u8 143)], .agg [.lit (.int .u8 0), .lit (.int .u8 0)], .agg [.lit (.int .u8 0), .lit (.int .u8 0)], .agg [.lit (.int .u8 0), .lit (.int .u8 0)], .agg [.lit (.int .u8 0), .lit (.int .u8 0)], .agg [.lit (.int .u8 0), .lit (.int .u8 0)], .agg [.lit (.int .u8 0), .lit (.int .u8 0)], .agg [.lit (.int .u8 0), .lit (.int .u8 0)], .agg [.lit (.int .u8 0), .lit (.int .u8 0)], .agg [.lit (.int .u8 0), .lit (.int .u8 0)], .agg [.lit (.int .u8 0), .lit (.int .u8 0)], .agg [.lit (.int .u8 0), .lit (.int .u8 0)]]
/-- One of Go's own tables, pinned by name: the form's constant. -/
def laid_unicode_utf8_first : DataW Unit := Go.Pinned.utf8First

/-- 'laws.FnExactPlaysGame': WHATEVER THE INPUT: true; the input reads as it did. -/
def fnExactPlaysGameSpec : ChangeSpec := { name := "fnExactPlaysGame", fn := fun _ => fun
  | [d1, d2] => { results := [.lit (.bool true)], args := [d1, d2] }
  | _ => none }
def fnExactPlaysGameRow : OpenClaim := { program := "ytbccachkkflceaadoor", sum := "350d694d33121af956d0b13c7c2d0ab296648c7ba5ac250f3b534d0801e142ee", func := "loop.example/twoplayers/laws.FnExactPlaysGame", spec := "fnExactPlaysGame", inPlace := ["internal/bytealg.IndexByteString", "internal/bytealg.IndexString"], unfollowed := true, recurses := true, named := ["unicode/utf8.first", "unicode/utf8.acceptRanges", "internal/bytealg.MaxLen"], plainKeys := false, apart := false, laid := [("unicode/utf8.acceptRanges", laid_unicode_utf8_acceptRanges), ("unicode/utf8.first", laid_unicode_utf8_first)] }
def FnExactPlaysGameSaid : Prop := fnExactPlaysGameRow.holds Tryd.pinned (OpenSpec.ofChange fnExactPlaysGameSpec)

/-- ITS FALSE NEIGHBOUR: 'it returns false'. Refute it at one input. -/
def fnExactPlaysGameWrong : ChangeSpec := { name := "fnExactPlaysGame", fn := fun _ => fun
  | [d1, d2] => { results := [.lit (.bool false)], args := [d1, d2] }
  | _ => none }
def FnExactPlaysGameWrongFalsely : Prop := fnExactPlaysGameRow.holds Tryd.pinned (OpenSpec.ofChange fnExactPlaysGameWrong)

/-- 'laws.FnExactGameFormula': WHATEVER THE INPUT: true; the input reads as it did. -/
def fnExactGameFormulaSpec : ChangeSpec := { name := "fnExactGameFormula", fn := fun _ => fun
  | [d1, d2] => { results := [.lit (.bool true)], args := [d1, d2] }
  | _ => none }
def fnExactGameFormulaRow : OpenClaim := { program := "ytbccachkkflceaadoor", sum := "350d694d33121af956d0b13c7c2d0ab296648c7ba5ac250f3b534d0801e142ee", func := "loop.example/twoplayers/laws.FnExactGameFormula", spec := "fnExactGameFormula", inPlace := ["internal/bytealg.IndexByteString", "internal/bytealg.IndexString"], unfollowed := true, recurses := true, named := ["unicode/utf8.first", "unicode/utf8.acceptRanges", "internal/bytealg.MaxLen"], plainKeys := false, apart := false, laid := [("unicode/utf8.acceptRanges", laid_unicode_utf8_acceptRanges), ("unicode/utf8.first", laid_unicode_utf8_first)] }
def FnExactGameFormulaSaid : Prop := fnExactGameFormulaRow.holds Tryd.pinned (OpenSpec.ofChange fnExactGameFormulaSpec)

/-- ITS FALSE NEIGHBOUR: 'it returns false'. Refute it at one input. -/
def fnExactGameFormulaWrong : ChangeSpec := { name := "fnExactGameFormula", fn := fun _ => fun
  | [d1, d2] => { results := [.lit (.bool false)], args := [d1, d2] }
  | _ => none }
def FnExactGameFormulaWrongFalsely : Prop := fnExactGameFormulaRow.holds Tryd.pinned (OpenSpec.ofChange fnExactGameFormulaWrong)

/-- 'laws.FnExactLeastGameBits': WHATEVER THE INPUT: true; the input reads as it did. -/
def fnExactLeastGameBitsSpec : ChangeSpec := { name := "fnExactLeastGameBits", fn := fun _ => fun
  | [d] => { results := [.lit (.bool true)], args := [d] }
  | _ => none }
def fnExactLeastGameBitsRow : OpenClaim := { program := "ytbccachkkflceaadoor", sum := "350d694d33121af956d0b13c7c2d0ab296648c7ba5ac250f3b534d0801e142ee", func := "loop.example/twoplayers/laws.FnExactLeastGameBits", spec := "fnExactLeastGameBits", inPlace := ["internal/bytealg.IndexByteString", "internal/bytealg.IndexString"], unfollowed := true, recurses := true, named := ["unicode/utf8.first", "unicode/utf8.acceptRanges", "internal/bytealg.MaxLen"], plainKeys := false, apart := false, laid := [("unicode/utf8.acceptRanges", laid_unicode_utf8_acceptRanges), ("unicode/utf8.first", laid_unicode_utf8_first)] }
def FnExactLeastGameBitsSaid : Prop := fnExactLeastGameBitsRow.holds Tryd.pinned (OpenSpec.ofChange fnExactLeastGameBitsSpec)

/-- ITS FALSE NEIGHBOUR: 'it returns false'. Refute it at one input. -/
def fnExactLeastGameBitsWrong : ChangeSpec := { name := "fnExactLeastGameBits", fn := fun _ => fun
  | [d] => { results := [.lit (.bool false)], args := [d] }
  | _ => none }
def FnExactLeastGameBitsWrongFalsely : Prop := fnExactLeastGameBitsRow.holds Tryd.pinned (OpenSpec.ofChange fnExactLeastGameBitsWrong)

/-- 'laws.FnExactLeastGameEnds': WHATEVER THE INPUT: true; the input reads as it did. -/
def fnExactLeastGameEndsSpec : ChangeSpec := { name := "fnExactLeastGameEnds", fn := fun _ => fun
  | [d] => { results := [.lit (.bool true)], args := [d] }
  | _ => none }
def fnExactLeastGameEndsRow : OpenClaim := { program := "ytbccachkkflceaadoor", sum := "350d694d33121af956d0b13c7c2d0ab296648c7ba5ac250f3b534d0801e142ee", func := "loop.example/twoplayers/laws.FnExactLeastGameEnds", spec := "fnExactLeastGameEnds", inPlace := ["internal/bytealg.IndexByteString", "internal/bytealg.IndexString"], unfollowed := true, recurses := true, named := ["unicode/utf8.first", "unicode/utf8.acceptRanges", "internal/bytealg.MaxLen"], plainKeys := false, apart := false, laid := [("unicode/utf8.acceptRanges", laid_unicode_utf8_acceptRanges), ("unicode/utf8.first", laid_unicode_utf8_first)] }
def FnExactLeastGameEndsSaid : Prop := fnExactLeastGameEndsRow.holds Tryd.pinned (OpenSpec.ofChange fnExactLeastGameEndsSpec)

/-- ITS FALSE NEIGHBOUR: 'it returns false'. Refute it at one input. -/
def fnExactLeastGameEndsWrong : ChangeSpec := { name := "fnExactLeastGameEnds", fn := fun _ => fun
  | [d] => { results := [.lit (.bool false)], args := [d] }
  | _ => none }
def FnExactLeastGameEndsWrongFalsely : Prop := fnExactLeastGameEndsRow.holds Tryd.pinned (OpenSpec.ofChange fnExactLeastGameEndsWrong)

/-- 'laws.FnExactBestGame': WHATEVER THE INPUT: true; the input reads as it did. -/
def fnExactBestGameSpec : ChangeSpec := { name := "fnExactBestGame", fn := fun _ => fun
  | [d] => { results := [.lit (.bool true)], args := [d] }
  | _ => none }
def fnExactBestGameRow : OpenClaim := { program := "ytbccachkkflceaadoor", sum := "350d694d33121af956d0b13c7c2d0ab296648c7ba5ac250f3b534d0801e142ee", func := "loop.example/twoplayers/laws.FnExactBestGame", spec := "fnExactBestGame", inPlace := ["internal/bytealg.IndexByteString", "internal/bytealg.IndexString"], unfollowed := true, recurses := true, named := ["unicode/utf8.first", "unicode/utf8.acceptRanges", "internal/bytealg.MaxLen"], plainKeys := false, apart := false, laid := [("unicode/utf8.acceptRanges", laid_unicode_utf8_acceptRanges), ("unicode/utf8.first", laid_unicode_utf8_first)] }
def FnExactBestGameSaid : Prop := fnExactBestGameRow.holds Tryd.pinned (OpenSpec.ofChange fnExactBestGameSpec)

/-- ITS FALSE NEIGHBOUR: 'it returns false'. Refute it at one input. -/
def fnExactBestGameWrong : ChangeSpec := { name := "fnExactBestGame", fn := fun _ => fun
  | [d] => { results := [.lit (.bool false)], args := [d] }
  | _ => none }
def FnExactBestGameWrongFalsely : Prop := fnExactBestGameRow.holds Tryd.pinned (OpenSpec.ofChange fnExactBestGameWrong)

/- THE SECOND FORM. 'bulk': how many values and letters a reading holds, each counted each time it is reached (what is shared counts as often as it is met; a slice's spare places count too). A statement '..UptoSaid' is the law's where the arguments, and the package variables that the reading takes, are together of bulk at most 1048576: NARROWER than '..Said'. Prove '..Said' where nothing that the law and all that it calls make is longer than what came in: it says more and counts as full. Else prove '..UptoSaid'. A law counts once. -/
mutual
def uptoBulk {H : Type} : DataW H → Nat
  | .lit (.string bytes) => bytes.length + 1
  | .lit _ => 1
  | .nil => 1
  | .ptr d => uptoBulk d + 1
  | .slice elems spare => uptoBulkAll elems + uptoBulkAll spare + 1
  | .agg parts => uptoBulkAll parts + 1
  | .iface _ d => uptoBulk d + 1
  | .map entries => uptoBulkEntries entries + 1
  | .held _ => 1
def uptoBulkAll {H : Type} : List (DataW H) → Nat
  | [] => 0
  | d :: r => uptoBulk d + uptoBulkAll r
def uptoBulkEntries {H : Type} : List (Lit × DataW H) → Nat
  | [] => 0
  | x :: r => uptoBulkEntry x + uptoBulkEntries r
def uptoBulkEntry {H : Type} : Lit × DataW H → Nat
  | (.string bytes, d) => bytes.length + uptoBulk d + 1
  | (_, d) => uptoBulk d + 1
 end
def uptoSmall : (H : Type) → List (DataW H) → Bool := fun _ ds => decide (uptoBulkAll ds ≤ 1048576)
def OpenSpec.upto (s : _root_.Go.ChangeSpec) : _root_.Go.OpenSpec := { _root_.Go.OpenSpec.ofChange s with cond := some uptoSmall }

/-- 'laws.FnExactPlaysGame', WHERE WHAT IT READS IS OF BULK AT MOST 1048576: true; the input reads as it did. -/
def fnExactPlaysGameUptoRow : OpenClaim := { program := "ytbccachkkflceaadoor", sum := "350d694d33121af956d0b13c7c2d0ab296648c7ba5ac250f3b534d0801e142ee", func := "loop.example/twoplayers/laws.FnExactPlaysGame", spec := "fnExactPlaysGame", inPlace := ["internal/bytealg.IndexByteString", "internal/bytealg.IndexString"], unfollowed := true, recurses := true, named := ["unicode/utf8.first", "unicode/utf8.acceptRanges", "internal/bytealg.MaxLen"], plainKeys := false, apart := false, laid := [("unicode/utf8.acceptRanges", laid_unicode_utf8_acceptRanges), ("unicode/utf8.first", laid_unicode_utf8_first)], narrowed := true }
def FnExactPlaysGameUptoSaid : Prop := fnExactPlaysGameUptoRow.holds Tryd.pinned (OpenSpec.upto fnExactPlaysGameSpec)

/-- 'laws.FnExactGameFormula', WHERE WHAT IT READS IS OF BULK AT MOST 1048576: true; the input reads as it did. -/
def fnExactGameFormulaUptoRow : OpenClaim := { program := "ytbccachkkflceaadoor", sum := "350d694d33121af956d0b13c7c2d0ab296648c7ba5ac250f3b534d0801e142ee", func := "loop.example/twoplayers/laws.FnExactGameFormula", spec := "fnExactGameFormula", inPlace := ["internal/bytealg.IndexByteString", "internal/bytealg.IndexString"], unfollowed := true, recurses := true, named := ["unicode/utf8.first", "unicode/utf8.acceptRanges", "internal/bytealg.MaxLen"], plainKeys := false, apart := false, laid := [("unicode/utf8.acceptRanges", laid_unicode_utf8_acceptRanges), ("unicode/utf8.first", laid_unicode_utf8_first)], narrowed := true }
def FnExactGameFormulaUptoSaid : Prop := fnExactGameFormulaUptoRow.holds Tryd.pinned (OpenSpec.upto fnExactGameFormulaSpec)

/-- 'laws.FnExactLeastGameBits', WHERE WHAT IT READS IS OF BULK AT MOST 1048576: true; the input reads as it did. -/
def fnExactLeastGameBitsUptoRow : OpenClaim := { program := "ytbccachkkflceaadoor", sum := "350d694d33121af956d0b13c7c2d0ab296648c7ba5ac250f3b534d0801e142ee", func := "loop.example/twoplayers/laws.FnExactLeastGameBits", spec := "fnExactLeastGameBits", inPlace := ["internal/bytealg.IndexByteString", "internal/bytealg.IndexString"], unfollowed := true, recurses := true, named := ["unicode/utf8.first", "unicode/utf8.acceptRanges", "internal/bytealg.MaxLen"], plainKeys := false, apart := false, laid := [("unicode/utf8.acceptRanges", laid_unicode_utf8_acceptRanges), ("unicode/utf8.first", laid_unicode_utf8_first)], narrowed := true }
def FnExactLeastGameBitsUptoSaid : Prop := fnExactLeastGameBitsUptoRow.holds Tryd.pinned (OpenSpec.upto fnExactLeastGameBitsSpec)

/-- 'laws.FnExactLeastGameEnds', WHERE WHAT IT READS IS OF BULK AT MOST 1048576: true; the input reads as it did. -/
def fnExactLeastGameEndsUptoRow : OpenClaim := { program := "ytbccachkkflceaadoor", sum := "350d694d33121af956d0b13c7c2d0ab296648c7ba5ac250f3b534d0801e142ee", func := "loop.example/twoplayers/laws.FnExactLeastGameEnds", spec := "fnExactLeastGameEnds", inPlace := ["internal/bytealg.IndexByteString", "internal/bytealg.IndexString"], unfollowed := true, recurses := true, named := ["unicode/utf8.first", "unicode/utf8.acceptRanges", "internal/bytealg.MaxLen"], plainKeys := false, apart := false, laid := [("unicode/utf8.acceptRanges", laid_unicode_utf8_acceptRanges), ("unicode/utf8.first", laid_unicode_utf8_first)], narrowed := true }
def FnExactLeastGameEndsUptoSaid : Prop := fnExactLeastGameEndsUptoRow.holds Tryd.pinned (OpenSpec.upto fnExactLeastGameEndsSpec)

/-- 'laws.FnExactBestGame', WHERE WHAT IT READS IS OF BULK AT MOST 1048576: true; the input reads as it did. -/
def fnExactBestGameUptoRow : OpenClaim := { program := "ytbccachkkflceaadoor", sum := "350d694d33121af956d0b13c7c2d0ab296648c7ba5ac250f3b534d0801e142ee", func := "loop.example/twoplayers/laws.FnExactBestGame", spec := "fnExactBestGame", inPlace := ["internal/bytealg.IndexByteString", "internal/bytealg.IndexString"], unfollowed := true, recurses := true, named := ["unicode/utf8.first", "unicode/utf8.acceptRanges", "internal/bytealg.MaxLen"], plainKeys := false, apart := false, laid := [("unicode/utf8.acceptRanges", laid_unicode_utf8_acceptRanges), ("unicode/utf8.first", laid_unicode_utf8_first)], narrowed := true }
def FnExactBestGameUptoSaid : Prop := fnExactBestGameUptoRow.holds Tryd.pinned (OpenSpec.upto fnExactBestGameSpec)

end Rows
end Go.Proofs.YtbccachkkflceaaDoor
