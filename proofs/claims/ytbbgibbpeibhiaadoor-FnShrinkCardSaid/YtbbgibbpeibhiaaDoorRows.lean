/-
  NARROWER THAN 'FOR EVERY INPUT', by the rows' own cells (each row's printed sentence says how): FnShrink: laid · FnExactLeastBits: laid · FnExactLeastEnds: laid · FnExactBestProtocol: laid · FnExactFewestEnds: laid.
  DERIVED. THE GIVEN ROWS OF THIS SEAT. 5 by the template 'for every input the law returns true; each argument reads behind the call as it read before'; 0 by the template 'total and deterministic' (their statements: YtbbgibbpeibhiaaDoorTotals.lean).
  GIVEN WITH THE SEED: the statements are not yours to turn. If you find one false, say at which input.
  Laid BY PROGRAM, IN A SANDBOX (cutbox-rows.mjs): the forced cells as the released guide's own fill.sh prints them over the translation b41fbd12ffb8c756… (all of the seat's roots in one cut). By AI agents, Wed Nov 11 2026. No macro, syntax, notation, axiom, sorry.
-/
import Derived.Test.YtbbgibbpeibhiaaDoorChecked
import GoSem.PinnedTables
import GoSem.Claim
import GoSem.ClaimJoined
import GoSem.ClaimMapViews
import Derived.JoinedTies
import Derived.KernelRfl
namespace Go.Proofs.YtbbgibbpeibhiaaDoor
/- THE CELL 'sum', in the pinned program and in every row, IS THE sha256 OF THE DUMP (.gsa) THAT YtbbgibbpeibhiaaDoorProg.lean LOADS. Nothing in Lean hashes anything: it is a label: what it is worth is what the hold of that sum in a sandbox is worth. -/
noncomputable def Tryd.pinned : Pinned := { name := "ytbbgibbpeibhiaadoor", sum := "b41fbd12ffb8c7566a582b6f59c4125242c5105745e6167ffb3f941145c12c88", checked := Tryd.checked }
namespace Rows
def none {H : Type} : Left H := { results := [], args := [] }

/- WHAT THE LISTED PACKAGE-LEVEL VARIABLES READ AS WHEN THE CALL BEGINS. Each datum BY PROGRAM (the guide's laid-datum.mjs) off the statement by which the dump's own 'gosem.cut.vars' lays the variable. In a bare row this is a premise. The card (YtbbgibbpeibhiaaDoorCards.lean) ties it to the program's text. -/
def laid_unicode_utf8_acceptRanges {H : Type} : DataW H := .agg [.agg [.lit (.int .u8 128), .lit (.int .u8 191)], .agg [.lit (.int .u8 160), .lit (.int .u8 191)], .agg [.lit (.int .u8 128), .lit (.int .u8 159)], .agg [.lit (.int .u8 144), .lit (.int .u8 191)], .agg [.lit (.int .u8 128), .lit (.int .u8 143)], .agg [.lit (.int .u8 0), .lit (.int .u8 0)], .agg [.lit (.int .u8 0), .lit (.int .u8 0)], .agg [.lit (.int .u8 0), .lit (.int .u8 0)], .agg [.lit (.int .u8 0), .lit (.int .u8 0)], .agg [.lit (.int .u8 0), .lit (.int .u8 0)], .agg [.lit (.int .u8 0), .lit (.int .u8 0)], .agg [.lit (.int .u8 0), .lit (.int .u8 0)], .agg [.lit (.int .u8 0), .lit (.int .u8 0)], .agg [.lit (.int .u8 0), .lit (.int .u8 0)], .agg [.lit (.int .u8 0), .lit (.int .u8 0)], .agg [.lit (.int .u8 0), .lit (.int .u8 0)]]
/-- One of Go's own tables, pinned by name: the form's constant. -/
def laid_unicode_utf8_first : DataW Unit := Go.Pinned.utf8First

/-- 'laws.FnShrink': WHATEVER THE INPUT: true; the input reads as it did. -/
def fnShrinkSpec : ChangeSpec := { name := "fnShrink", fn := fun _ => fun
  | [d] => { results := [.lit (.bool true)], args := [d] }
  | _ => none }
def fnShrinkRow : OpenClaim := { program := "ytbbgibbpeibhiaadoor", sum := "b41fbd12ffb8c7566a582b6f59c4125242c5105745e6167ffb3f941145c12c88", func := "loop.example/twoplayers/laws.FnShrink", spec := "fnShrink", inPlace := ["internal/bytealg.IndexByteString", "internal/bytealg.IndexString"], unfollowed := true, recurses := true, named := ["unicode/utf8.first", "unicode/utf8.acceptRanges", "internal/bytealg.MaxLen"], plainKeys := false, apart := false, laid := [("unicode/utf8.acceptRanges", laid_unicode_utf8_acceptRanges), ("unicode/utf8.first", laid_unicode_utf8_first)] }
def FnShrinkSaid : Prop := fnShrinkRow.holds Tryd.pinned (OpenSpec.ofChange fnShrinkSpec)

/-- ITS FALSE NEIGHBOUR: 'it returns false'. Refute it at one input. -/
def fnShrinkWrong : ChangeSpec := { name := "fnShrink", fn := fun _ => fun
  | [d] => { results := [.lit (.bool false)], args := [d] }
  | _ => none }
def FnShrinkWrongFalsely : Prop := fnShrinkRow.holds Tryd.pinned (OpenSpec.ofChange fnShrinkWrong)

/-- 'laws.FnExactLeastBits': WHATEVER THE INPUT: true; the input reads as it did. -/
def fnExactLeastBitsSpec : ChangeSpec := { name := "fnExactLeastBits", fn := fun _ => fun
  | [d] => { results := [.lit (.bool true)], args := [d] }
  | _ => none }
def fnExactLeastBitsRow : OpenClaim := { program := "ytbbgibbpeibhiaadoor", sum := "b41fbd12ffb8c7566a582b6f59c4125242c5105745e6167ffb3f941145c12c88", func := "loop.example/twoplayers/laws.FnExactLeastBits", spec := "fnExactLeastBits", inPlace := ["internal/bytealg.IndexByteString", "internal/bytealg.IndexString"], unfollowed := true, recurses := true, named := ["unicode/utf8.first", "unicode/utf8.acceptRanges", "internal/bytealg.MaxLen"], plainKeys := false, apart := false, laid := [("unicode/utf8.acceptRanges", laid_unicode_utf8_acceptRanges), ("unicode/utf8.first", laid_unicode_utf8_first)] }
def FnExactLeastBitsSaid : Prop := fnExactLeastBitsRow.holds Tryd.pinned (OpenSpec.ofChange fnExactLeastBitsSpec)

/-- ITS FALSE NEIGHBOUR: 'it returns false'. Refute it at one input. -/
def fnExactLeastBitsWrong : ChangeSpec := { name := "fnExactLeastBits", fn := fun _ => fun
  | [d] => { results := [.lit (.bool false)], args := [d] }
  | _ => none }
def FnExactLeastBitsWrongFalsely : Prop := fnExactLeastBitsRow.holds Tryd.pinned (OpenSpec.ofChange fnExactLeastBitsWrong)

/-- 'laws.FnExactLeastEnds': WHATEVER THE INPUT: true; the input reads as it did. -/
def fnExactLeastEndsSpec : ChangeSpec := { name := "fnExactLeastEnds", fn := fun _ => fun
  | [d] => { results := [.lit (.bool true)], args := [d] }
  | _ => none }
def fnExactLeastEndsRow : OpenClaim := { program := "ytbbgibbpeibhiaadoor", sum := "b41fbd12ffb8c7566a582b6f59c4125242c5105745e6167ffb3f941145c12c88", func := "loop.example/twoplayers/laws.FnExactLeastEnds", spec := "fnExactLeastEnds", inPlace := ["internal/bytealg.IndexByteString", "internal/bytealg.IndexString"], unfollowed := true, recurses := true, named := ["unicode/utf8.first", "unicode/utf8.acceptRanges", "internal/bytealg.MaxLen"], plainKeys := false, apart := false, laid := [("unicode/utf8.acceptRanges", laid_unicode_utf8_acceptRanges), ("unicode/utf8.first", laid_unicode_utf8_first)] }
def FnExactLeastEndsSaid : Prop := fnExactLeastEndsRow.holds Tryd.pinned (OpenSpec.ofChange fnExactLeastEndsSpec)

/-- ITS FALSE NEIGHBOUR: 'it returns false'. Refute it at one input. -/
def fnExactLeastEndsWrong : ChangeSpec := { name := "fnExactLeastEnds", fn := fun _ => fun
  | [d] => { results := [.lit (.bool false)], args := [d] }
  | _ => none }
def FnExactLeastEndsWrongFalsely : Prop := fnExactLeastEndsRow.holds Tryd.pinned (OpenSpec.ofChange fnExactLeastEndsWrong)

/-- 'laws.FnExactBestProtocol': WHATEVER THE INPUT: true; the input reads as it did. -/
def fnExactBestProtocolSpec : ChangeSpec := { name := "fnExactBestProtocol", fn := fun _ => fun
  | [d] => { results := [.lit (.bool true)], args := [d] }
  | _ => none }
def fnExactBestProtocolRow : OpenClaim := { program := "ytbbgibbpeibhiaadoor", sum := "b41fbd12ffb8c7566a582b6f59c4125242c5105745e6167ffb3f941145c12c88", func := "loop.example/twoplayers/laws.FnExactBestProtocol", spec := "fnExactBestProtocol", inPlace := ["internal/bytealg.IndexByteString", "internal/bytealg.IndexString"], unfollowed := true, recurses := true, named := ["unicode/utf8.first", "unicode/utf8.acceptRanges", "internal/bytealg.MaxLen"], plainKeys := false, apart := false, laid := [("unicode/utf8.acceptRanges", laid_unicode_utf8_acceptRanges), ("unicode/utf8.first", laid_unicode_utf8_first)] }
def FnExactBestProtocolSaid : Prop := fnExactBestProtocolRow.holds Tryd.pinned (OpenSpec.ofChange fnExactBestProtocolSpec)

/-- ITS FALSE NEIGHBOUR: 'it returns false'. Refute it at one input. -/
def fnExactBestProtocolWrong : ChangeSpec := { name := "fnExactBestProtocol", fn := fun _ => fun
  | [d] => { results := [.lit (.bool false)], args := [d] }
  | _ => none }
def FnExactBestProtocolWrongFalsely : Prop := fnExactBestProtocolRow.holds Tryd.pinned (OpenSpec.ofChange fnExactBestProtocolWrong)

/-- 'laws.FnExactFewestEnds': WHATEVER THE INPUT: true; the input reads as it did. -/
def fnExactFewestEndsSpec : ChangeSpec := { name := "fnExactFewestEnds", fn := fun _ => fun
  | [d] => { results := [.lit (.bool true)], args := [d] }
  | _ => none }
def fnExactFewestEndsRow : OpenClaim := { program := "ytbbgibbpeibhiaadoor", sum := "b41fbd12ffb8c7566a582b6f59c4125242c5105745e6167ffb3f941145c12c88", func := "loop.example/twoplayers/laws.FnExactFewestEnds", spec := "fnExactFewestEnds", inPlace := ["internal/bytealg.IndexByteString", "internal/bytealg.IndexString"], unfollowed := true, recurses := true, named := ["unicode/utf8.first", "unicode/utf8.acceptRanges", "internal/bytealg.MaxLen"], plainKeys := false, apart := false, laid := [("unicode/utf8.acceptRanges", laid_unicode_utf8_acceptRanges), ("unicode/utf8.first", laid_unicode_utf8_first)] }
def FnExactFewestEndsSaid : Prop := fnExactFewestEndsRow.holds Tryd.pinned (OpenSpec.ofChange fnExactFewestEndsSpec)

/-- ITS FALSE NEIGHBOUR: 'it returns false'. Refute it at one input. -/
def fnExactFewestEndsWrong : ChangeSpec := { name := "fnExactFewestEnds", fn := fun _ => fun
  | [d] => { results := [.lit (.bool false)], args := [d] }
  | _ => none }
def FnExactFewestEndsWrongFalsely : Prop := fnExactFewestEndsRow.holds Tryd.pinned (OpenSpec.ofChange fnExactFewestEndsWrong)

/- THE SECOND FORM. 'bulk': how many values and letters a reading holds, each counted each time it is reached (what is shared counts as often as it is met; a slice's spare places count too). A statement '..UptoSaid' is the law's where the arguments, and the package variables that the reading takes, are together of bulk at most 1048576: NARROWER than '..Said'. Prove '..Said' where nothing that the law and all that it calls make is longer than what came in: it says more and counts as full. Else prove '..UptoSaid'. A law counts once. -/
mutual
def uptoBulk {H : Type} : DataW H → Nat
  | .lit (.string bytes) => bytes.length + 1
  | .lit _ => 1
  | .nil => 1
  | .ptr d => uptoBulk d + 1
  | .slice elems spare => uptoBulkAll elems + uptoBulkAll spare + 1
  | .agg parts => uptoBulkAll parts + 1
  | .iface _ d => uptoBulk d + 1
  | .map entries => uptoBulkEntries entries + 1
  | .held _ => 1
def uptoBulkAll {H : Type} : List (DataW H) → Nat
  | [] => 0
  | d :: r => uptoBulk d + uptoBulkAll r
def uptoBulkEntries {H : Type} : List (Lit × DataW H) → Nat
  | [] => 0
  | x :: r => uptoBulkEntry x + uptoBulkEntries r
def uptoBulkEntry {H : Type} : Lit × DataW H → Nat
  | (.string bytes, d) => bytes.length + uptoBulk d + 1
  | (_, d) => uptoBulk d + 1
 end
def uptoSmall : (H : Type) → List (DataW H) → Bool := fun _ ds => decide (uptoBulkAll ds ≤ 1048576)
def OpenSpec.upto (s : _root_.Go.ChangeSpec) : _root_.Go.OpenSpec := { _root_.Go.OpenSpec.ofChange s with cond := some uptoSmall }

/-- 'laws.FnShrink', WHERE WHAT IT READS IS OF BULK AT MOST 1048576: true; the input reads as it did. -/
def fnShrinkUptoRow : OpenClaim := { program := "ytbbgibbpeibhiaadoor", sum := "b41fbd12ffb8c7566a582b6f59c4125242c5105745e6167ffb3f941145c12c88", func := "loop.example/twoplayers/laws.FnShrink", spec := "fnShrink", inPlace := ["internal/bytealg.IndexByteString", "internal/bytealg.IndexString"], unfollowed := true, recurses := true, named := ["unicode/utf8.first", "unicode/utf8.acceptRanges", "internal/bytealg.MaxLen"], plainKeys := false, apart := false, laid := [("unicode/utf8.acceptRanges", laid_unicode_utf8_acceptRanges), ("unicode/utf8.first", laid_unicode_utf8_first)], narrowed := true }
def FnShrinkUptoSaid : Prop := fnShrinkUptoRow.holds Tryd.pinned (OpenSpec.upto fnShrinkSpec)

/-- 'laws.FnExactLeastBits', WHERE WHAT IT READS IS OF BULK AT MOST 1048576: true; the input reads as it did. -/
def fnExactLeastBitsUptoRow : OpenClaim := { program := "ytbbgibbpeibhiaadoor", sum := "b41fbd12ffb8c7566a582b6f59c4125242c5105745e6167ffb3f941145c12c88", func := "loop.example/twoplayers/laws.FnExactLeastBits", spec := "fnExactLeastBits", inPlace := ["internal/bytealg.IndexByteString", "internal/bytealg.IndexString"], unfollowed := true, recurses := true, named := ["unicode/utf8.first", "unicode/utf8.acceptRanges", "internal/bytealg.MaxLen"], plainKeys := false, apart := false, laid := [("unicode/utf8.acceptRanges", laid_unicode_utf8_acceptRanges), ("unicode/utf8.first", laid_unicode_utf8_first)], narrowed := true }
def FnExactLeastBitsUptoSaid : Prop := fnExactLeastBitsUptoRow.holds Tryd.pinned (OpenSpec.upto fnExactLeastBitsSpec)

/-- 'laws.FnExactLeastEnds', WHERE WHAT IT READS IS OF BULK AT MOST 1048576: true; the input reads as it did. -/
def fnExactLeastEndsUptoRow : OpenClaim := { program := "ytbbgibbpeibhiaadoor", sum := "b41fbd12ffb8c7566a582b6f59c4125242c5105745e6167ffb3f941145c12c88", func := "loop.example/twoplayers/laws.FnExactLeastEnds", spec := "fnExactLeastEnds", inPlace := ["internal/bytealg.IndexByteString", "internal/bytealg.IndexString"], unfollowed := true, recurses := true, named := ["unicode/utf8.first", "unicode/utf8.acceptRanges", "internal/bytealg.MaxLen"], plainKeys := false, apart := false, laid := [("unicode/utf8.acceptRanges", laid_unicode_utf8_acceptRanges), ("unicode/utf8.first", laid_unicode_utf8_first)], narrowed := true }
def FnExactLeastEndsUptoSaid : Prop := fnExactLeastEndsUptoRow.holds Tryd.pinned (OpenSpec.upto fnExactLeastEndsSpec)

/-- 'laws.FnExactBestProtocol', WHERE WHAT IT READS IS OF BULK AT MOST 1048576: true; the input reads as it did. -/
def fnExactBestProtocolUptoRow : OpenClaim := { program := "ytbbgibbpeibhiaadoor", sum := "b41fbd12ffb8c7566a582b6f59c4125242c5105745e6167ffb3f941145c12c88", func := "loop.example/twoplayers/laws.FnExactBestProtocol", spec := "fnExactBestProtocol", inPlace := ["internal/bytealg.IndexByteString", "internal/bytealg.IndexString"], unfollowed := true, recurses := true, named := ["unicode/utf8.first", "unicode/utf8.acceptRanges", "internal/bytealg.MaxLen"], plainKeys := false, apart := false, laid := [("unicode/utf8.acceptRanges", laid_unicode_utf8_acceptRanges), ("unicode/utf8.first", laid_unicode_utf8_first)], narrowed := true }
def FnExactBestProtocolUptoSaid : Prop := fnExactBestProtocolUptoRow.holds Tryd.pinned (OpenSpec.upto fnExactBestProtocolSpec)

/-- 'laws.FnExactFewestEnds', WHERE WHAT IT READS IS OF BULK AT MOST 1048576: true; the input reads as it did. -/
def fnExactFewestEndsUptoRow : OpenClaim := { program := "ytbbgibbpeibhiaadoor", sum := "b41fbd12ffb8c7566a582b6f59c4125242c5105745e6167ffb3f941145c12c88", func := "loop.example/twoplayers/laws.FnExactFewestEnds", spec := "fnExactFewestEnds", inPlace := ["internal/bytealg.IndexByteString", "internal/bytealg.IndexString"], unfollowed := true, recurses := true, named := ["unicode/utf8.first", "unicode/utf8.acceptRanges", "internal/bytealg.MaxLen"], plainKeys := false, apart := false, laid := [("unicode/utf8.acceptRanges", laid_unicode_utf8_acceptRanges), ("unicode/utf8.first", laid_unicode_utf8_first)], narrowed := true }
def FnExactFewestEndsUptoSaid : Prop := fnExactFewestEndsUptoRow.holds Tryd.pinned (OpenSpec.upto fnExactFewestEndsSpec)

end Rows
end Go.Proofs.YtbbgibbpeibhiaaDoor
