/-
  No cell of these rows narrows 'for every input' (looked for: loops, veiled, ifaces, maps, wideKeys, modest, calm, conditions, laid).
  DERIVED. THE GIVEN ROWS OF THIS SEAT. 7 by the template 'for every input the law returns true; each argument reads behind the call as it read before'; 0 by the template 'total and deterministic' (their statements: YtbhkfibbepocfaaTotals.lean).
  GIVEN WITH THE SEED: the statements are not yours to turn. If you find one false, say at which input.
  Laid BY PROGRAM, IN A SANDBOX (cutbox-rows.mjs): the forced cells as the released guide's own fill.sh prints them over the translation 9654c8dfc66b319d… (all of the seat's roots in one cut). By AI agents, Wed Nov 11 2026. No macro, syntax, notation, axiom, sorry.
-/
import Derived.Test.YtbhkfibbepocfaaChecked
import GoSem.Claim
import GoSem.ClaimJoined
import GoSem.ClaimMapViews
import Derived.JoinedTies
import Derived.KernelRfl
namespace Go.Proofs.Ytbhkfibbepocfaa
/- THE CELL 'sum', in the pinned program and in every row, IS THE sha256 OF THE DUMP (.gsa) THAT YtbhkfibbepocfaaProg.lean LOADS. Nothing in Lean hashes anything: it is a label: what it is worth is what the hold of that sum in a sandbox is worth. -/
noncomputable def Try.pinned : Pinned := { name := "ytbhkfibbepocfaa", sum := "9654c8dfc66b319d3adbd5d64c18d2e53e760d8698a6347cbe1e23be9ce2ad25", checked := Try.checked }
namespace Rows
def none {H : Type} : Left H := { results := [], args := [] }

/-- 'laws.FnFormulaValid': WHATEVER THE INPUT: true; the input reads as it did. -/
def fnFormulaValidSpec : ChangeSpec := { name := "fnFormulaValid", fn := fun _ => fun
  | [d] => { results := [.lit (.bool true)], args := [d] }
  | _ => none }
def fnFormulaValidRow : OpenClaim := { program := "ytbhkfibbepocfaa", sum := "9654c8dfc66b319d3adbd5d64c18d2e53e760d8698a6347cbe1e23be9ce2ad25", func := "loop.example/twoplayers/laws.FnFormulaValid", spec := "fnFormulaValid", inPlace := ["internal/bytealg.IndexByteString"], unfollowed := true, recurses := true, apart := false }
def FnFormulaValidSaid : Prop := fnFormulaValidRow.holds Try.pinned (OpenSpec.ofChange fnFormulaValidSpec)

/-- ITS FALSE NEIGHBOUR: 'it returns false'. Refute it at one input. -/
def fnFormulaValidWrong : ChangeSpec := { name := "fnFormulaValid", fn := fun _ => fun
  | [d] => { results := [.lit (.bool false)], args := [d] }
  | _ => none }
def FnFormulaValidWrongFalsely : Prop := fnFormulaValidRow.holds Try.pinned (OpenSpec.ofChange fnFormulaValidWrong)

/-- 'laws.FnDual': WHATEVER THE INPUT: true; the input reads as it did. -/
def fnDualSpec : ChangeSpec := { name := "fnDual", fn := fun _ => fun
  | [d] => { results := [.lit (.bool true)], args := [d] }
  | _ => none }
def fnDualRow : OpenClaim := { program := "ytbhkfibbepocfaa", sum := "9654c8dfc66b319d3adbd5d64c18d2e53e760d8698a6347cbe1e23be9ce2ad25", func := "loop.example/twoplayers/laws.FnDual", spec := "fnDual", inPlace := ["internal/bytealg.IndexByteString"], unfollowed := true, recurses := true, apart := false }
def FnDualSaid : Prop := fnDualRow.holds Try.pinned (OpenSpec.ofChange fnDualSpec)

/-- ITS FALSE NEIGHBOUR: 'it returns false'. Refute it at one input. -/
def fnDualWrong : ChangeSpec := { name := "fnDual", fn := fun _ => fun
  | [d] => { results := [.lit (.bool false)], args := [d] }
  | _ => none }
def FnDualWrongFalsely : Prop := fnDualRow.holds Try.pinned (OpenSpec.ofChange fnDualWrong)

/-- 'laws.FnExactFormulaValid': WHATEVER THE INPUT: true; the input reads as it did. -/
def fnExactFormulaValidSpec : ChangeSpec := { name := "fnExactFormulaValid", fn := fun _ => fun
  | [d1, d2] => { results := [.lit (.bool true)], args := [d1, d2] }
  | _ => none }
def fnExactFormulaValidRow : OpenClaim := { program := "ytbhkfibbepocfaa", sum := "9654c8dfc66b319d3adbd5d64c18d2e53e760d8698a6347cbe1e23be9ce2ad25", func := "loop.example/twoplayers/laws.FnExactFormulaValid", spec := "fnExactFormulaValid", inPlace := ["internal/bytealg.IndexByteString"], recurses := true, apart := false }
def FnExactFormulaValidSaid : Prop := fnExactFormulaValidRow.holds Try.pinned (OpenSpec.ofChange fnExactFormulaValidSpec)

/-- ITS FALSE NEIGHBOUR: 'it returns false'. Refute it at one input. -/
def fnExactFormulaValidWrong : ChangeSpec := { name := "fnExactFormulaValid", fn := fun _ => fun
  | [d1, d2] => { results := [.lit (.bool false)], args := [d1, d2] }
  | _ => none }
def FnExactFormulaValidWrongFalsely : Prop := fnExactFormulaValidRow.holds Try.pinned (OpenSpec.ofChange fnExactFormulaValidWrong)

/-- 'laws.FnExactTableOf': WHATEVER THE INPUT: true; the input reads as it did. -/
def fnExactTableOfSpec : ChangeSpec := { name := "fnExactTableOf", fn := fun _ => fun
  | [d1, d2] => { results := [.lit (.bool true)], args := [d1, d2] }
  | _ => none }
def fnExactTableOfRow : OpenClaim := { program := "ytbhkfibbepocfaa", sum := "9654c8dfc66b319d3adbd5d64c18d2e53e760d8698a6347cbe1e23be9ce2ad25", func := "loop.example/twoplayers/laws.FnExactTableOf", spec := "fnExactTableOf", inPlace := ["internal/bytealg.IndexByteString"], unfollowed := true, recurses := true, apart := false }
def FnExactTableOfSaid : Prop := fnExactTableOfRow.holds Try.pinned (OpenSpec.ofChange fnExactTableOfSpec)

/-- ITS FALSE NEIGHBOUR: 'it returns false'. Refute it at one input. -/
def fnExactTableOfWrong : ChangeSpec := { name := "fnExactTableOf", fn := fun _ => fun
  | [d1, d2] => { results := [.lit (.bool false)], args := [d1, d2] }
  | _ => none }
def FnExactTableOfWrongFalsely : Prop := fnExactTableOfRow.holds Try.pinned (OpenSpec.ofChange fnExactTableOfWrong)

/-- 'laws.FnExactDeepOf': WHATEVER THE INPUT: true; the input reads as it did. -/
def fnExactDeepOfSpec : ChangeSpec := { name := "fnExactDeepOf", fn := fun _ => fun
  | [d] => { results := [.lit (.bool true)], args := [d] }
  | _ => none }
def fnExactDeepOfRow : OpenClaim := { program := "ytbhkfibbepocfaa", sum := "9654c8dfc66b319d3adbd5d64c18d2e53e760d8698a6347cbe1e23be9ce2ad25", func := "loop.example/twoplayers/laws.FnExactDeepOf", spec := "fnExactDeepOf", inPlace := ["internal/bytealg.IndexByteString"], recurses := true, apart := false }
def FnExactDeepOfSaid : Prop := fnExactDeepOfRow.holds Try.pinned (OpenSpec.ofChange fnExactDeepOfSpec)

/-- ITS FALSE NEIGHBOUR: 'it returns false'. Refute it at one input. -/
def fnExactDeepOfWrong : ChangeSpec := { name := "fnExactDeepOf", fn := fun _ => fun
  | [d] => { results := [.lit (.bool false)], args := [d] }
  | _ => none }
def FnExactDeepOfWrongFalsely : Prop := fnExactDeepOfRow.holds Try.pinned (OpenSpec.ofChange fnExactDeepOfWrong)

/-- 'laws.FnExactSizeOf': WHATEVER THE INPUT: true; the input reads as it did. -/
def fnExactSizeOfSpec : ChangeSpec := { name := "fnExactSizeOf", fn := fun _ => fun
  | [d] => { results := [.lit (.bool true)], args := [d] }
  | _ => none }
def fnExactSizeOfRow : OpenClaim := { program := "ytbhkfibbepocfaa", sum := "9654c8dfc66b319d3adbd5d64c18d2e53e760d8698a6347cbe1e23be9ce2ad25", func := "loop.example/twoplayers/laws.FnExactSizeOf", spec := "fnExactSizeOf", inPlace := ["internal/bytealg.IndexByteString"], unfollowed := true, recurses := true, apart := false }
def FnExactSizeOfSaid : Prop := fnExactSizeOfRow.holds Try.pinned (OpenSpec.ofChange fnExactSizeOfSpec)

/-- ITS FALSE NEIGHBOUR: 'it returns false'. Refute it at one input. -/
def fnExactSizeOfWrong : ChangeSpec := { name := "fnExactSizeOf", fn := fun _ => fun
  | [d] => { results := [.lit (.bool false)], args := [d] }
  | _ => none }
def FnExactSizeOfWrongFalsely : Prop := fnExactSizeOfRow.holds Try.pinned (OpenSpec.ofChange fnExactSizeOfWrong)

/-- 'laws.FnExactDualFormula': WHATEVER THE INPUT: true; the input reads as it did. -/
def fnExactDualFormulaSpec : ChangeSpec := { name := "fnExactDualFormula", fn := fun _ => fun
  | [d] => { results := [.lit (.bool true)], args := [d] }
  | _ => none }
def fnExactDualFormulaRow : OpenClaim := { program := "ytbhkfibbepocfaa", sum := "9654c8dfc66b319d3adbd5d64c18d2e53e760d8698a6347cbe1e23be9ce2ad25", func := "loop.example/twoplayers/laws.FnExactDualFormula", spec := "fnExactDualFormula", inPlace := ["internal/bytealg.IndexByteString"], unfollowed := true, recurses := true, apart := false }
def FnExactDualFormulaSaid : Prop := fnExactDualFormulaRow.holds Try.pinned (OpenSpec.ofChange fnExactDualFormulaSpec)

/-- ITS FALSE NEIGHBOUR: 'it returns false'. Refute it at one input. -/
def fnExactDualFormulaWrong : ChangeSpec := { name := "fnExactDualFormula", fn := fun _ => fun
  | [d] => { results := [.lit (.bool false)], args := [d] }
  | _ => none }
def FnExactDualFormulaWrongFalsely : Prop := fnExactDualFormulaRow.holds Try.pinned (OpenSpec.ofChange fnExactDualFormulaWrong)

/- THE SECOND FORM. 'bulk': how many values and letters a reading holds, each counted each time it is reached (what is shared counts as often as it is met; a slice's spare places count too). A statement '..UptoSaid' is the law's where the arguments, and the package variables that the reading takes, are together of bulk at most 1048576: NARROWER than '..Said'. Prove '..Said' where nothing that the law and all that it calls make is longer than what came in: it says more and counts as full. Else prove '..UptoSaid'. A law counts once. -/
mutual
def uptoBulk {H : Type} : DataW H → Nat
  | .lit (.string bytes) => bytes.length + 1
  | .lit _ => 1
  | .nil => 1
  | .ptr d => uptoBulk d + 1
  | .slice elems spare => uptoBulkAll elems + uptoBulkAll spare + 1
  | .agg parts => uptoBulkAll parts + 1
  | .iface _ d => uptoBulk d + 1
  | .map entries => uptoBulkEntries entries + 1
  | .held _ => 1
def uptoBulkAll {H : Type} : List (DataW H) → Nat
  | [] => 0
  | d :: r => uptoBulk d + uptoBulkAll r
def uptoBulkEntries {H : Type} : List (Lit × DataW H) → Nat
  | [] => 0
  | x :: r => uptoBulkEntry x + uptoBulkEntries r
def uptoBulkEntry {H : Type} : Lit × DataW H → Nat
  | (.string bytes, d) => bytes.length + uptoBulk d + 1
  | (_, d) => uptoBulk d + 1
 end
def uptoSmall : (H : Type) → List (DataW H) → Bool := fun _ ds => decide (uptoBulkAll ds ≤ 1048576)
def OpenSpec.upto (s : _root_.Go.ChangeSpec) : _root_.Go.OpenSpec := { _root_.Go.OpenSpec.ofChange s with cond := some uptoSmall }

/-- 'laws.FnFormulaValid', WHERE WHAT IT READS IS OF BULK AT MOST 1048576: true; the input reads as it did. -/
def fnFormulaValidUptoRow : OpenClaim := { program := "ytbhkfibbepocfaa", sum := "9654c8dfc66b319d3adbd5d64c18d2e53e760d8698a6347cbe1e23be9ce2ad25", func := "loop.example/twoplayers/laws.FnFormulaValid", spec := "fnFormulaValid", inPlace := ["internal/bytealg.IndexByteString"], unfollowed := true, recurses := true, apart := false, narrowed := true }
def FnFormulaValidUptoSaid : Prop := fnFormulaValidUptoRow.holds Try.pinned (OpenSpec.upto fnFormulaValidSpec)

/-- 'laws.FnDual', WHERE WHAT IT READS IS OF BULK AT MOST 1048576: true; the input reads as it did. -/
def fnDualUptoRow : OpenClaim := { program := "ytbhkfibbepocfaa", sum := "9654c8dfc66b319d3adbd5d64c18d2e53e760d8698a6347cbe1e23be9ce2ad25", func := "loop.example/twoplayers/laws.FnDual", spec := "fnDual", inPlace := ["internal/bytealg.IndexByteString"], unfollowed := true, recurses := true, apart := false, narrowed := true }
def FnDualUptoSaid : Prop := fnDualUptoRow.holds Try.pinned (OpenSpec.upto fnDualSpec)

/-- 'laws.FnExactFormulaValid', WHERE WHAT IT READS IS OF BULK AT MOST 1048576: true; the input reads as it did. -/
def fnExactFormulaValidUptoRow : OpenClaim := { program := "ytbhkfibbepocfaa", sum := "9654c8dfc66b319d3adbd5d64c18d2e53e760d8698a6347cbe1e23be9ce2ad25", func := "loop.example/twoplayers/laws.FnExactFormulaValid", spec := "fnExactFormulaValid", inPlace := ["internal/bytealg.IndexByteString"], recurses := true, apart := false, narrowed := true }
def FnExactFormulaValidUptoSaid : Prop := fnExactFormulaValidUptoRow.holds Try.pinned (OpenSpec.upto fnExactFormulaValidSpec)

/-- 'laws.FnExactTableOf', WHERE WHAT IT READS IS OF BULK AT MOST 1048576: true; the input reads as it did. -/
def fnExactTableOfUptoRow : OpenClaim := { program := "ytbhkfibbepocfaa", sum := "9654c8dfc66b319d3adbd5d64c18d2e53e760d8698a6347cbe1e23be9ce2ad25", func := "loop.example/twoplayers/laws.FnExactTableOf", spec := "fnExactTableOf", inPlace := ["internal/bytealg.IndexByteString"], unfollowed := true, recurses := true, apart := false, narrowed := true }
def FnExactTableOfUptoSaid : Prop := fnExactTableOfUptoRow.holds Try.pinned (OpenSpec.upto fnExactTableOfSpec)

/-- 'laws.FnExactDeepOf', WHERE WHAT IT READS IS OF BULK AT MOST 1048576: true; the input reads as it did. -/
def fnExactDeepOfUptoRow : OpenClaim := { program := "ytbhkfibbepocfaa", sum := "9654c8dfc66b319d3adbd5d64c18d2e53e760d8698a6347cbe1e23be9ce2ad25", func := "loop.example/twoplayers/laws.FnExactDeepOf", spec := "fnExactDeepOf", inPlace := ["internal/bytealg.IndexByteString"], recurses := true, apart := false, narrowed := true }
def FnExactDeepOfUptoSaid : Prop := fnExactDeepOfUptoRow.holds Try.pinned (OpenSpec.upto fnExactDeepOfSpec)

/-- 'laws.FnExactSizeOf', WHERE WHAT IT READS IS OF BULK AT MOST 1048576: true; the input reads as it did. -/
def fnExactSizeOfUptoRow : OpenClaim := { program := "ytbhkfibbepocfaa", sum := "9654c8dfc66b319d3adbd5d64c18d2e53e760d8698a6347cbe1e23be9ce2ad25", func := "loop.example/twoplayers/laws.FnExactSizeOf", spec := "fnExactSizeOf", inPlace := ["internal/bytealg.IndexByteString"], unfollowed := true, recurses := true, apart := false, narrowed := true }
def FnExactSizeOfUptoSaid : Prop := fnExactSizeOfUptoRow.holds Try.pinned (OpenSpec.upto fnExactSizeOfSpec)

/-- 'laws.FnExactDualFormula', WHERE WHAT IT READS IS OF BULK AT MOST 1048576: true; the input reads as it did. -/
def fnExactDualFormulaUptoRow : OpenClaim := { program := "ytbhkfibbepocfaa", sum := "9654c8dfc66b319d3adbd5d64c18d2e53e760d8698a6347cbe1e23be9ce2ad25", func := "loop.example/twoplayers/laws.FnExactDualFormula", spec := "fnExactDualFormula", inPlace := ["internal/bytealg.IndexByteString"], unfollowed := true, recurses := true, apart := false, narrowed := true }
def FnExactDualFormulaUptoSaid : Prop := fnExactDualFormulaUptoRow.holds Try.pinned (OpenSpec.upto fnExactDualFormulaSpec)

end Rows
end Go.Proofs.Ytbhkfibbepocfaa
