/-
  No cell of these rows narrows 'for every input' (looked for: loops, veiled, ifaces, maps, wideKeys, modest, calm, conditions, laid).
  DERIVED. THE GIVEN ROWS OF THIS SEAT. 9 by the template 'for every input the law returns true; each argument reads behind the call as it read before'; 0 by the template 'total and deterministic' (their statements: YtodfeaelidpckaaTotals.lean).
  GIVEN WITH THE SEED: the statements are not yours to turn. If you find one false, say at which input.
  Laid BY PROGRAM, IN A SANDBOX (cutbox-rows.mjs): the forced cells as the released guide's own fill.sh prints them over the translation 73cf0d2d5db6345e… (all of the seat's roots in one cut). By AI agents, Wed Nov 11 2026. No macro, syntax, notation, axiom, sorry.
-/
import Derived.Test.YtodfeaelidpckaaChecked
import GoSem.Claim
import GoSem.ClaimJoined
import GoSem.ClaimMapViews
import Derived.JoinedTies
import Derived.KernelRfl
namespace Go.Proofs.Ytodfeaelidpckaa
/- THE CELL 'sum', in the pinned program and in every row, IS THE sha256 OF THE DUMP (.gsa) THAT YtodfeaelidpckaaProg.lean LOADS. Nothing in Lean hashes anything: it is a label: what it is worth is what the hold of that sum in a sandbox is worth. -/
noncomputable def Try.pinned : Pinned := { name := "ytodfeaelidpckaa", sum := "73cf0d2d5db6345e9b28923ca23ae5c6c06c14e27dd864ed2c79b95544828c43", checked := Try.checked }
namespace Rows
def none {H : Type} : Left H := { results := [], args := [] }

/-- 'laws.FnExactProtocolValid': WHATEVER THE INPUT: true; the input reads as it did. -/
def fnExactProtocolValidSpec : ChangeSpec := { name := "fnExactProtocolValid", fn := fun _ => fun
  | [d] => { results := [.lit (.bool true)], args := [d] }
  | _ => none }
def fnExactProtocolValidRow : OpenClaim := { program := "ytodfeaelidpckaa", sum := "73cf0d2d5db6345e9b28923ca23ae5c6c06c14e27dd864ed2c79b95544828c43", func := "loop.example/twoplayers/laws.FnExactProtocolValid", spec := "fnExactProtocolValid", inPlace := ["internal/bytealg.IndexByteString"], recurses := true, apart := false }
def FnExactProtocolValidSaid : Prop := fnExactProtocolValidRow.holds Try.pinned (OpenSpec.ofChange fnExactProtocolValidSpec)

/-- ITS FALSE NEIGHBOUR: 'it returns false'. Refute it at one input. -/
def fnExactProtocolValidWrong : ChangeSpec := { name := "fnExactProtocolValid", fn := fun _ => fun
  | [d] => { results := [.lit (.bool false)], args := [d] }
  | _ => none }
def FnExactProtocolValidWrongFalsely : Prop := fnExactProtocolValidRow.holds Try.pinned (OpenSpec.ofChange fnExactProtocolValidWrong)

/-- 'laws.FnExactBitsOf': WHATEVER THE INPUT: true; the input reads as it did. -/
def fnExactBitsOfSpec : ChangeSpec := { name := "fnExactBitsOf", fn := fun _ => fun
  | [d] => { results := [.lit (.bool true)], args := [d] }
  | _ => none }
def fnExactBitsOfRow : OpenClaim := { program := "ytodfeaelidpckaa", sum := "73cf0d2d5db6345e9b28923ca23ae5c6c06c14e27dd864ed2c79b95544828c43", func := "loop.example/twoplayers/laws.FnExactBitsOf", spec := "fnExactBitsOf", inPlace := ["internal/bytealg.IndexByteString"], unfollowed := true, recurses := true, apart := false }
def FnExactBitsOfSaid : Prop := fnExactBitsOfRow.holds Try.pinned (OpenSpec.ofChange fnExactBitsOfSpec)

/-- ITS FALSE NEIGHBOUR: 'it returns false'. Refute it at one input. -/
def fnExactBitsOfWrong : ChangeSpec := { name := "fnExactBitsOf", fn := fun _ => fun
  | [d] => { results := [.lit (.bool false)], args := [d] }
  | _ => none }
def FnExactBitsOfWrongFalsely : Prop := fnExactBitsOfRow.holds Try.pinned (OpenSpec.ofChange fnExactBitsOfWrong)

/-- 'laws.FnExactLeavesOf': WHATEVER THE INPUT: true; the input reads as it did. -/
def fnExactLeavesOfSpec : ChangeSpec := { name := "fnExactLeavesOf", fn := fun _ => fun
  | [d] => { results := [.lit (.bool true)], args := [d] }
  | _ => none }
def fnExactLeavesOfRow : OpenClaim := { program := "ytodfeaelidpckaa", sum := "73cf0d2d5db6345e9b28923ca23ae5c6c06c14e27dd864ed2c79b95544828c43", func := "loop.example/twoplayers/laws.FnExactLeavesOf", spec := "fnExactLeavesOf", inPlace := ["internal/bytealg.IndexByteString"], unfollowed := true, recurses := true, apart := false }
def FnExactLeavesOfSaid : Prop := fnExactLeavesOfRow.holds Try.pinned (OpenSpec.ofChange fnExactLeavesOfSpec)

/-- ITS FALSE NEIGHBOUR: 'it returns false'. Refute it at one input. -/
def fnExactLeavesOfWrong : ChangeSpec := { name := "fnExactLeavesOf", fn := fun _ => fun
  | [d] => { results := [.lit (.bool false)], args := [d] }
  | _ => none }
def FnExactLeavesOfWrongFalsely : Prop := fnExactLeavesOfRow.holds Try.pinned (OpenSpec.ofChange fnExactLeavesOfWrong)

/-- 'laws.FnExactTurnProtocol': WHATEVER THE INPUT: true; the input reads as it did. -/
def fnExactTurnProtocolSpec : ChangeSpec := { name := "fnExactTurnProtocol", fn := fun _ => fun
  | [d] => { results := [.lit (.bool true)], args := [d] }
  | _ => none }
def fnExactTurnProtocolRow : OpenClaim := { program := "ytodfeaelidpckaa", sum := "73cf0d2d5db6345e9b28923ca23ae5c6c06c14e27dd864ed2c79b95544828c43", func := "loop.example/twoplayers/laws.FnExactTurnProtocol", spec := "fnExactTurnProtocol", inPlace := ["internal/bytealg.IndexByteString"], unfollowed := true, recurses := true, apart := false }
def FnExactTurnProtocolSaid : Prop := fnExactTurnProtocolRow.holds Try.pinned (OpenSpec.ofChange fnExactTurnProtocolSpec)

/-- ITS FALSE NEIGHBOUR: 'it returns false'. Refute it at one input. -/
def fnExactTurnProtocolWrong : ChangeSpec := { name := "fnExactTurnProtocol", fn := fun _ => fun
  | [d] => { results := [.lit (.bool false)], args := [d] }
  | _ => none }
def FnExactTurnProtocolWrongFalsely : Prop := fnExactTurnProtocolRow.holds Try.pinned (OpenSpec.ofChange fnExactTurnProtocolWrong)

/-- 'laws.FnExactNotProtocol': WHATEVER THE INPUT: true; the input reads as it did. -/
def fnExactNotProtocolSpec : ChangeSpec := { name := "fnExactNotProtocol", fn := fun _ => fun
  | [d] => { results := [.lit (.bool true)], args := [d] }
  | _ => none }
def fnExactNotProtocolRow : OpenClaim := { program := "ytodfeaelidpckaa", sum := "73cf0d2d5db6345e9b28923ca23ae5c6c06c14e27dd864ed2c79b95544828c43", func := "loop.example/twoplayers/laws.FnExactNotProtocol", spec := "fnExactNotProtocol", inPlace := ["internal/bytealg.IndexByteString"], unfollowed := true, recurses := true, apart := false }
def FnExactNotProtocolSaid : Prop := fnExactNotProtocolRow.holds Try.pinned (OpenSpec.ofChange fnExactNotProtocolSpec)

/-- ITS FALSE NEIGHBOUR: 'it returns false'. Refute it at one input. -/
def fnExactNotProtocolWrong : ChangeSpec := { name := "fnExactNotProtocol", fn := fun _ => fun
  | [d] => { results := [.lit (.bool false)], args := [d] }
  | _ => none }
def FnExactNotProtocolWrongFalsely : Prop := fnExactNotProtocolRow.holds Try.pinned (OpenSpec.ofChange fnExactNotProtocolWrong)

/-- 'laws.FnExactGraftProtocol': WHATEVER THE INPUT: true; the input reads as it did. -/
def fnExactGraftProtocolSpec : ChangeSpec := { name := "fnExactGraftProtocol", fn := fun _ => fun
  | [d1, d2, d3] => { results := [.lit (.bool true)], args := [d1, d2, d3] }
  | _ => none }
def fnExactGraftProtocolRow : OpenClaim := { program := "ytodfeaelidpckaa", sum := "73cf0d2d5db6345e9b28923ca23ae5c6c06c14e27dd864ed2c79b95544828c43", func := "loop.example/twoplayers/laws.FnExactGraftProtocol", spec := "fnExactGraftProtocol", inPlace := ["internal/bytealg.IndexByteString"], unfollowed := true, recurses := true, apart := false }
def FnExactGraftProtocolSaid : Prop := fnExactGraftProtocolRow.holds Try.pinned (OpenSpec.ofChange fnExactGraftProtocolSpec)

/-- ITS FALSE NEIGHBOUR: 'it returns false'. Refute it at one input. -/
def fnExactGraftProtocolWrong : ChangeSpec := { name := "fnExactGraftProtocol", fn := fun _ => fun
  | [d1, d2, d3] => { results := [.lit (.bool false)], args := [d1, d2, d3] }
  | _ => none }
def FnExactGraftProtocolWrongFalsely : Prop := fnExactGraftProtocolRow.holds Try.pinned (OpenSpec.ofChange fnExactGraftProtocolWrong)

/-- 'laws.FnExactTrimProtocol': WHATEVER THE INPUT: true; the input reads as it did. -/
def fnExactTrimProtocolSpec : ChangeSpec := { name := "fnExactTrimProtocol", fn := fun _ => fun
  | [d1, d2, d3] => { results := [.lit (.bool true)], args := [d1, d2, d3] }
  | _ => none }
def fnExactTrimProtocolRow : OpenClaim := { program := "ytodfeaelidpckaa", sum := "73cf0d2d5db6345e9b28923ca23ae5c6c06c14e27dd864ed2c79b95544828c43", func := "loop.example/twoplayers/laws.FnExactTrimProtocol", spec := "fnExactTrimProtocol", inPlace := ["internal/bytealg.IndexByteString"], unfollowed := true, recurses := true, apart := false }
def FnExactTrimProtocolSaid : Prop := fnExactTrimProtocolRow.holds Try.pinned (OpenSpec.ofChange fnExactTrimProtocolSpec)

/-- ITS FALSE NEIGHBOUR: 'it returns false'. Refute it at one input. -/
def fnExactTrimProtocolWrong : ChangeSpec := { name := "fnExactTrimProtocol", fn := fun _ => fun
  | [d1, d2, d3] => { results := [.lit (.bool false)], args := [d1, d2, d3] }
  | _ => none }
def FnExactTrimProtocolWrongFalsely : Prop := fnExactTrimProtocolRow.holds Try.pinned (OpenSpec.ofChange fnExactTrimProtocolWrong)

/-- 'laws.FnExactLeafRects': WHATEVER THE INPUT: true; the input reads as it did. -/
def fnExactLeafRectsSpec : ChangeSpec := { name := "fnExactLeafRects", fn := fun _ => fun
  | [d1, d2, d3] => { results := [.lit (.bool true)], args := [d1, d2, d3] }
  | _ => none }
def fnExactLeafRectsRow : OpenClaim := { program := "ytodfeaelidpckaa", sum := "73cf0d2d5db6345e9b28923ca23ae5c6c06c14e27dd864ed2c79b95544828c43", func := "loop.example/twoplayers/laws.FnExactLeafRects", spec := "fnExactLeafRects", inPlace := ["internal/bytealg.IndexByteString"], unfollowed := true, recurses := true, apart := false }
def FnExactLeafRectsSaid : Prop := fnExactLeafRectsRow.holds Try.pinned (OpenSpec.ofChange fnExactLeafRectsSpec)

/-- ITS FALSE NEIGHBOUR: 'it returns false'. Refute it at one input. -/
def fnExactLeafRectsWrong : ChangeSpec := { name := "fnExactLeafRects", fn := fun _ => fun
  | [d1, d2, d3] => { results := [.lit (.bool false)], args := [d1, d2, d3] }
  | _ => none }
def FnExactLeafRectsWrongFalsely : Prop := fnExactLeafRectsRow.holds Try.pinned (OpenSpec.ofChange fnExactLeafRectsWrong)

/-- 'laws.FnExactMatrixOf': WHATEVER THE INPUT: true; the input reads as it did. -/
def fnExactMatrixOfSpec : ChangeSpec := { name := "fnExactMatrixOf", fn := fun _ => fun
  | [d1, d2, d3] => { results := [.lit (.bool true)], args := [d1, d2, d3] }
  | _ => none }
def fnExactMatrixOfRow : OpenClaim := { program := "ytodfeaelidpckaa", sum := "73cf0d2d5db6345e9b28923ca23ae5c6c06c14e27dd864ed2c79b95544828c43", func := "loop.example/twoplayers/laws.FnExactMatrixOf", spec := "fnExactMatrixOf", inPlace := ["internal/bytealg.IndexByteString"], unfollowed := true, recurses := true, apart := false }
def FnExactMatrixOfSaid : Prop := fnExactMatrixOfRow.holds Try.pinned (OpenSpec.ofChange fnExactMatrixOfSpec)

/-- ITS FALSE NEIGHBOUR: 'it returns false'. Refute it at one input. -/
def fnExactMatrixOfWrong : ChangeSpec := { name := "fnExactMatrixOf", fn := fun _ => fun
  | [d1, d2, d3] => { results := [.lit (.bool false)], args := [d1, d2, d3] }
  | _ => none }
def FnExactMatrixOfWrongFalsely : Prop := fnExactMatrixOfRow.holds Try.pinned (OpenSpec.ofChange fnExactMatrixOfWrong)

/- THE SECOND FORM. 'bulk': how many values and letters a reading holds, each counted each time it is reached (what is shared counts as often as it is met; a slice's spare places count too). A statement '..UptoSaid' is the law's where the arguments, and the package variables that the reading takes, are together of bulk at most 1048576: NARROWER than '..Said'. Prove '..Said' where nothing that the law and all that it calls make is longer than what came in: it says more and counts as full. Else prove '..UptoSaid'. A law counts once. -/
mutual
def uptoBulk {H : Type} : DataW H → Nat
  | .lit (.string bytes) => bytes.length + 1
  | .lit _ => 1
  | .nil => 1
  | .ptr d => uptoBulk d + 1
  | .slice elems spare => uptoBulkAll elems + uptoBulkAll spare + 1
  | .agg parts => uptoBulkAll parts + 1
  | .iface _ d => uptoBulk d + 1
  | .map entries => uptoBulkEntries entries + 1
  | .held _ => 1
def uptoBulkAll {H : Type} : List (DataW H) → Nat
  | [] => 0
  | d :: r => uptoBulk d + uptoBulkAll r
def uptoBulkEntries {H : Type} : List (Lit × DataW H) → Nat
  | [] => 0
  | x :: r => uptoBulkEntry x + uptoBulkEntries r
def uptoBulkEntry {H : Type} : Lit × DataW H → Nat
  | (.string bytes, d) => bytes.length + uptoBulk d + 1
  | (_, d) => uptoBulk d + 1
 end
def uptoSmall : (H : Type) → List (DataW H) → Bool := fun _ ds => decide (uptoBulkAll ds ≤ 1048576)
def OpenSpec.upto (s : _root_.Go.ChangeSpec) : _root_.Go.OpenSpec := { _root_.Go.OpenSpec.ofChange s with cond := some uptoSmall }

/-- 'laws.FnExactProtocolValid', WHERE WHAT IT READS IS OF BULK AT MOST 1048576: true; the input reads as it did. -/
def fnExactProtocolValidUptoRow : OpenClaim := { program := "ytodfeaelidpckaa", sum := "73cf0d2d5db6345e9b28923ca23ae5c6c06c14e27dd864ed2c79b95544828c43", func := "loop.example/twoplayers/laws.FnExactProtocolValid", spec := "fnExactProtocolValid", inPlace := ["internal/bytealg.IndexByteString"], recurses := true, apart := false, narrowed := true }
def FnExactProtocolValidUptoSaid : Prop := fnExactProtocolValidUptoRow.holds Try.pinned (OpenSpec.upto fnExactProtocolValidSpec)

/-- 'laws.FnExactBitsOf', WHERE WHAT IT READS IS OF BULK AT MOST 1048576: true; the input reads as it did. -/
def fnExactBitsOfUptoRow : OpenClaim := { program := "ytodfeaelidpckaa", sum := "73cf0d2d5db6345e9b28923ca23ae5c6c06c14e27dd864ed2c79b95544828c43", func := "loop.example/twoplayers/laws.FnExactBitsOf", spec := "fnExactBitsOf", inPlace := ["internal/bytealg.IndexByteString"], unfollowed := true, recurses := true, apart := false, narrowed := true }
def FnExactBitsOfUptoSaid : Prop := fnExactBitsOfUptoRow.holds Try.pinned (OpenSpec.upto fnExactBitsOfSpec)

/-- 'laws.FnExactLeavesOf', WHERE WHAT IT READS IS OF BULK AT MOST 1048576: true; the input reads as it did. -/
def fnExactLeavesOfUptoRow : OpenClaim := { program := "ytodfeaelidpckaa", sum := "73cf0d2d5db6345e9b28923ca23ae5c6c06c14e27dd864ed2c79b95544828c43", func := "loop.example/twoplayers/laws.FnExactLeavesOf", spec := "fnExactLeavesOf", inPlace := ["internal/bytealg.IndexByteString"], unfollowed := true, recurses := true, apart := false, narrowed := true }
def FnExactLeavesOfUptoSaid : Prop := fnExactLeavesOfUptoRow.holds Try.pinned (OpenSpec.upto fnExactLeavesOfSpec)

/-- 'laws.FnExactTurnProtocol', WHERE WHAT IT READS IS OF BULK AT MOST 1048576: true; the input reads as it did. -/
def fnExactTurnProtocolUptoRow : OpenClaim := { program := "ytodfeaelidpckaa", sum := "73cf0d2d5db6345e9b28923ca23ae5c6c06c14e27dd864ed2c79b95544828c43", func := "loop.example/twoplayers/laws.FnExactTurnProtocol", spec := "fnExactTurnProtocol", inPlace := ["internal/bytealg.IndexByteString"], unfollowed := true, recurses := true, apart := false, narrowed := true }
def FnExactTurnProtocolUptoSaid : Prop := fnExactTurnProtocolUptoRow.holds Try.pinned (OpenSpec.upto fnExactTurnProtocolSpec)

/-- 'laws.FnExactNotProtocol', WHERE WHAT IT READS IS OF BULK AT MOST 1048576: true; the input reads as it did. -/
def fnExactNotProtocolUptoRow : OpenClaim := { program := "ytodfeaelidpckaa", sum := "73cf0d2d5db6345e9b28923ca23ae5c6c06c14e27dd864ed2c79b95544828c43", func := "loop.example/twoplayers/laws.FnExactNotProtocol", spec := "fnExactNotProtocol", inPlace := ["internal/bytealg.IndexByteString"], unfollowed := true, recurses := true, apart := false, narrowed := true }
def FnExactNotProtocolUptoSaid : Prop := fnExactNotProtocolUptoRow.holds Try.pinned (OpenSpec.upto fnExactNotProtocolSpec)

/-- 'laws.FnExactGraftProtocol', WHERE WHAT IT READS IS OF BULK AT MOST 1048576: true; the input reads as it did. -/
def fnExactGraftProtocolUptoRow : OpenClaim := { program := "ytodfeaelidpckaa", sum := "73cf0d2d5db6345e9b28923ca23ae5c6c06c14e27dd864ed2c79b95544828c43", func := "loop.example/twoplayers/laws.FnExactGraftProtocol", spec := "fnExactGraftProtocol", inPlace := ["internal/bytealg.IndexByteString"], unfollowed := true, recurses := true, apart := false, narrowed := true }
def FnExactGraftProtocolUptoSaid : Prop := fnExactGraftProtocolUptoRow.holds Try.pinned (OpenSpec.upto fnExactGraftProtocolSpec)

/-- 'laws.FnExactTrimProtocol', WHERE WHAT IT READS IS OF BULK AT MOST 1048576: true; the input reads as it did. -/
def fnExactTrimProtocolUptoRow : OpenClaim := { program := "ytodfeaelidpckaa", sum := "73cf0d2d5db6345e9b28923ca23ae5c6c06c14e27dd864ed2c79b95544828c43", func := "loop.example/twoplayers/laws.FnExactTrimProtocol", spec := "fnExactTrimProtocol", inPlace := ["internal/bytealg.IndexByteString"], unfollowed := true, recurses := true, apart := false, narrowed := true }
def FnExactTrimProtocolUptoSaid : Prop := fnExactTrimProtocolUptoRow.holds Try.pinned (OpenSpec.upto fnExactTrimProtocolSpec)

/-- 'laws.FnExactLeafRects', WHERE WHAT IT READS IS OF BULK AT MOST 1048576: true; the input reads as it did. -/
def fnExactLeafRectsUptoRow : OpenClaim := { program := "ytodfeaelidpckaa", sum := "73cf0d2d5db6345e9b28923ca23ae5c6c06c14e27dd864ed2c79b95544828c43", func := "loop.example/twoplayers/laws.FnExactLeafRects", spec := "fnExactLeafRects", inPlace := ["internal/bytealg.IndexByteString"], unfollowed := true, recurses := true, apart := false, narrowed := true }
def FnExactLeafRectsUptoSaid : Prop := fnExactLeafRectsUptoRow.holds Try.pinned (OpenSpec.upto fnExactLeafRectsSpec)

/-- 'laws.FnExactMatrixOf', WHERE WHAT IT READS IS OF BULK AT MOST 1048576: true; the input reads as it did. -/
def fnExactMatrixOfUptoRow : OpenClaim := { program := "ytodfeaelidpckaa", sum := "73cf0d2d5db6345e9b28923ca23ae5c6c06c14e27dd864ed2c79b95544828c43", func := "loop.example/twoplayers/laws.FnExactMatrixOf", spec := "fnExactMatrixOf", inPlace := ["internal/bytealg.IndexByteString"], unfollowed := true, recurses := true, apart := false, narrowed := true }
def FnExactMatrixOfUptoSaid : Prop := fnExactMatrixOfUptoRow.holds Try.pinned (OpenSpec.upto fnExactMatrixOfSpec)

end Rows
end Go.Proofs.Ytodfeaelidpckaa
