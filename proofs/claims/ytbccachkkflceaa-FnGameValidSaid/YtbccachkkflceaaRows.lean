/-
  No cell of these rows narrows 'for every input' (looked for: loops, veiled, ifaces, maps, wideKeys, modest, calm, conditions, laid).
  DERIVED. THE GIVEN ROWS OF THIS SEAT. 5 by the template 'for every input the law returns true; each argument reads behind the call as it read before'; 0 by the template 'total and deterministic' (their statements: YtbccachkkflceaaTotals.lean).
  GIVEN WITH THE SEED: the statements are not yours to turn. If you find one false, say at which input.
  Laid BY PROGRAM, IN A SANDBOX (cutbox-rows.mjs): the forced cells as the released guide's own fill.sh prints them over the translation c0fe9fb21893fb2d… (all of the seat's roots in one cut). By AI agents, Wed Nov 11 2026. No macro, syntax, notation, axiom, sorry.
-/
import Derived.Test.YtbccachkkflceaaChecked
import GoSem.Claim
import GoSem.ClaimJoined
import GoSem.ClaimMapViews
import Derived.JoinedTies
import Derived.KernelRfl
namespace Go.Proofs.Ytbccachkkflceaa
/- THE CELL 'sum', in the pinned program and in every row, IS THE sha256 OF THE DUMP (.gsa) THAT YtbccachkkflceaaProg.lean LOADS. Nothing in Lean hashes anything: it is a label: what it is worth is what the hold of that sum in a sandbox is worth. -/
noncomputable def Try.pinned : Pinned := { name := "ytbccachkkflceaa", sum := "c0fe9fb21893fb2de18992b91a056d0d4f322fd3e69e1c6a462a6d8436fd7a3c", checked := Try.checked }
namespace Rows
def none {H : Type} : Left H := { results := [], args := [] }

/-- 'laws.FnExactGameValid': WHATEVER THE INPUT: true; the input reads as it did. -/
def fnExactGameValidSpec : ChangeSpec := { name := "fnExactGameValid", fn := fun _ => fun
  | [d] => { results := [.lit (.bool true)], args := [d] }
  | _ => none }
def fnExactGameValidRow : OpenClaim := { program := "ytbccachkkflceaa", sum := "c0fe9fb21893fb2de18992b91a056d0d4f322fd3e69e1c6a462a6d8436fd7a3c", func := "loop.example/twoplayers/laws.FnExactGameValid", spec := "fnExactGameValid", inPlace := ["internal/bytealg.IndexByteString"], recurses := true, apart := false }
def FnExactGameValidSaid : Prop := fnExactGameValidRow.holds Try.pinned (OpenSpec.ofChange fnExactGameValidSpec)

/-- ITS FALSE NEIGHBOUR: 'it returns false'. Refute it at one input. -/
def fnExactGameValidWrong : ChangeSpec := { name := "fnExactGameValid", fn := fun _ => fun
  | [d] => { results := [.lit (.bool false)], args := [d] }
  | _ => none }
def FnExactGameValidWrongFalsely : Prop := fnExactGameValidRow.holds Try.pinned (OpenSpec.ofChange fnExactGameValidWrong)

/-- 'laws.FnExactGameBits': WHATEVER THE INPUT: true; the input reads as it did. -/
def fnExactGameBitsSpec : ChangeSpec := { name := "fnExactGameBits", fn := fun _ => fun
  | [d] => { results := [.lit (.bool true)], args := [d] }
  | _ => none }
def fnExactGameBitsRow : OpenClaim := { program := "ytbccachkkflceaa", sum := "c0fe9fb21893fb2de18992b91a056d0d4f322fd3e69e1c6a462a6d8436fd7a3c", func := "loop.example/twoplayers/laws.FnExactGameBits", spec := "fnExactGameBits", inPlace := ["internal/bytealg.IndexByteString"], unfollowed := true, recurses := true, apart := false }
def FnExactGameBitsSaid : Prop := fnExactGameBitsRow.holds Try.pinned (OpenSpec.ofChange fnExactGameBitsSpec)

/-- ITS FALSE NEIGHBOUR: 'it returns false'. Refute it at one input. -/
def fnExactGameBitsWrong : ChangeSpec := { name := "fnExactGameBits", fn := fun _ => fun
  | [d] => { results := [.lit (.bool false)], args := [d] }
  | _ => none }
def FnExactGameBitsWrongFalsely : Prop := fnExactGameBitsRow.holds Try.pinned (OpenSpec.ofChange fnExactGameBitsWrong)

/-- 'laws.FnExactGameEnds': WHATEVER THE INPUT: true; the input reads as it did. -/
def fnExactGameEndsSpec : ChangeSpec := { name := "fnExactGameEnds", fn := fun _ => fun
  | [d] => { results := [.lit (.bool true)], args := [d] }
  | _ => none }
def fnExactGameEndsRow : OpenClaim := { program := "ytbccachkkflceaa", sum := "c0fe9fb21893fb2de18992b91a056d0d4f322fd3e69e1c6a462a6d8436fd7a3c", func := "loop.example/twoplayers/laws.FnExactGameEnds", spec := "fnExactGameEnds", inPlace := ["internal/bytealg.IndexByteString"], unfollowed := true, recurses := true, apart := false }
def FnExactGameEndsSaid : Prop := fnExactGameEndsRow.holds Try.pinned (OpenSpec.ofChange fnExactGameEndsSpec)

/-- ITS FALSE NEIGHBOUR: 'it returns false'. Refute it at one input. -/
def fnExactGameEndsWrong : ChangeSpec := { name := "fnExactGameEnds", fn := fun _ => fun
  | [d] => { results := [.lit (.bool false)], args := [d] }
  | _ => none }
def FnExactGameEndsWrongFalsely : Prop := fnExactGameEndsRow.holds Try.pinned (OpenSpec.ofChange fnExactGameEndsWrong)

/-- 'laws.FnExactFormulaGame': WHATEVER THE INPUT: true; the input reads as it did. -/
def fnExactFormulaGameSpec : ChangeSpec := { name := "fnExactFormulaGame", fn := fun _ => fun
  | [d] => { results := [.lit (.bool true)], args := [d] }
  | _ => none }
def fnExactFormulaGameRow : OpenClaim := { program := "ytbccachkkflceaa", sum := "c0fe9fb21893fb2de18992b91a056d0d4f322fd3e69e1c6a462a6d8436fd7a3c", func := "loop.example/twoplayers/laws.FnExactFormulaGame", spec := "fnExactFormulaGame", inPlace := ["internal/bytealg.IndexByteString"], unfollowed := true, recurses := true, apart := false }
def FnExactFormulaGameSaid : Prop := fnExactFormulaGameRow.holds Try.pinned (OpenSpec.ofChange fnExactFormulaGameSpec)

/-- ITS FALSE NEIGHBOUR: 'it returns false'. Refute it at one input. -/
def fnExactFormulaGameWrong : ChangeSpec := { name := "fnExactFormulaGame", fn := fun _ => fun
  | [d] => { results := [.lit (.bool false)], args := [d] }
  | _ => none }
def FnExactFormulaGameWrongFalsely : Prop := fnExactFormulaGameRow.holds Try.pinned (OpenSpec.ofChange fnExactFormulaGameWrong)

/-- 'laws.FnGameValid': WHATEVER THE INPUT: true; the input reads as it did. -/
def fnGameValidSpec : ChangeSpec := { name := "fnGameValid", fn := fun _ => fun
  | [d] => { results := [.lit (.bool true)], args := [d] }
  | _ => none }
def fnGameValidRow : OpenClaim := { program := "ytbccachkkflceaa", sum := "c0fe9fb21893fb2de18992b91a056d0d4f322fd3e69e1c6a462a6d8436fd7a3c", func := "loop.example/twoplayers/laws.FnGameValid", spec := "fnGameValid", inPlace := ["internal/bytealg.IndexByteString"], unfollowed := true, recurses := true, apart := false }
def FnGameValidSaid : Prop := fnGameValidRow.holds Try.pinned (OpenSpec.ofChange fnGameValidSpec)

/-- ITS FALSE NEIGHBOUR: 'it returns false'. Refute it at one input. -/
def fnGameValidWrong : ChangeSpec := { name := "fnGameValid", fn := fun _ => fun
  | [d] => { results := [.lit (.bool false)], args := [d] }
  | _ => none }
def FnGameValidWrongFalsely : Prop := fnGameValidRow.holds Try.pinned (OpenSpec.ofChange fnGameValidWrong)

/- THE SECOND FORM. 'bulk': how many values and letters a reading holds, each counted each time it is reached (what is shared counts as often as it is met; a slice's spare places count too). A statement '..UptoSaid' is the law's where the arguments, and the package variables that the reading takes, are together of bulk at most 1048576: NARROWER than '..Said'. Prove '..Said' where nothing that the law and all that it calls make is longer than what came in: it says more and counts as full. Else prove '..UptoSaid'. A law counts once. -/
mutual
def uptoBulk {H : Type} : DataW H → Nat
  | .lit (.string bytes) => bytes.length + 1
  | .lit _ => 1
  | .nil => 1
  | .ptr d => uptoBulk d + 1
  | .slice elems spare => uptoBulkAll elems + uptoBulkAll spare + 1
  | .agg parts => uptoBulkAll parts + 1
  | .iface _ d => uptoBulk d + 1
  | .map entries => uptoBulkEntries entries + 1
  | .held _ => 1
def uptoBulkAll {H : Type} : List (DataW H) → Nat
  | [] => 0
  | d :: r => uptoBulk d + uptoBulkAll r
def uptoBulkEntries {H : Type} : List (Lit × DataW H) → Nat
  | [] => 0
  | x :: r => uptoBulkEntry x + uptoBulkEntries r
def uptoBulkEntry {H : Type} : Lit × DataW H → Nat
  | (.string bytes, d) => bytes.length + uptoBulk d + 1
  | (_, d) => uptoBulk d + 1
 end
def uptoSmall : (H : Type) → List (DataW H) → Bool := fun _ ds => decide (uptoBulkAll ds ≤ 1048576)
def OpenSpec.upto (s : _root_.Go.ChangeSpec) : _root_.Go.OpenSpec := { _root_.Go.OpenSpec.ofChange s with cond := some uptoSmall }

/-- 'laws.FnExactGameValid', WHERE WHAT IT READS IS OF BULK AT MOST 1048576: true; the input reads as it did. -/
def fnExactGameValidUptoRow : OpenClaim := { program := "ytbccachkkflceaa", sum := "c0fe9fb21893fb2de18992b91a056d0d4f322fd3e69e1c6a462a6d8436fd7a3c", func := "loop.example/twoplayers/laws.FnExactGameValid", spec := "fnExactGameValid", inPlace := ["internal/bytealg.IndexByteString"], recurses := true, apart := false, narrowed := true }
def FnExactGameValidUptoSaid : Prop := fnExactGameValidUptoRow.holds Try.pinned (OpenSpec.upto fnExactGameValidSpec)

/-- 'laws.FnExactGameBits', WHERE WHAT IT READS IS OF BULK AT MOST 1048576: true; the input reads as it did. -/
def fnExactGameBitsUptoRow : OpenClaim := { program := "ytbccachkkflceaa", sum := "c0fe9fb21893fb2de18992b91a056d0d4f322fd3e69e1c6a462a6d8436fd7a3c", func := "loop.example/twoplayers/laws.FnExactGameBits", spec := "fnExactGameBits", inPlace := ["internal/bytealg.IndexByteString"], unfollowed := true, recurses := true, apart := false, narrowed := true }
def FnExactGameBitsUptoSaid : Prop := fnExactGameBitsUptoRow.holds Try.pinned (OpenSpec.upto fnExactGameBitsSpec)

/-- 'laws.FnExactGameEnds', WHERE WHAT IT READS IS OF BULK AT MOST 1048576: true; the input reads as it did. -/
def fnExactGameEndsUptoRow : OpenClaim := { program := "ytbccachkkflceaa", sum := "c0fe9fb21893fb2de18992b91a056d0d4f322fd3e69e1c6a462a6d8436fd7a3c", func := "loop.example/twoplayers/laws.FnExactGameEnds", spec := "fnExactGameEnds", inPlace := ["internal/bytealg.IndexByteString"], unfollowed := true, recurses := true, apart := false, narrowed := true }
def FnExactGameEndsUptoSaid : Prop := fnExactGameEndsUptoRow.holds Try.pinned (OpenSpec.upto fnExactGameEndsSpec)

/-- 'laws.FnExactFormulaGame', WHERE WHAT IT READS IS OF BULK AT MOST 1048576: true; the input reads as it did. -/
def fnExactFormulaGameUptoRow : OpenClaim := { program := "ytbccachkkflceaa", sum := "c0fe9fb21893fb2de18992b91a056d0d4f322fd3e69e1c6a462a6d8436fd7a3c", func := "loop.example/twoplayers/laws.FnExactFormulaGame", spec := "fnExactFormulaGame", inPlace := ["internal/bytealg.IndexByteString"], unfollowed := true, recurses := true, apart := false, narrowed := true }
def FnExactFormulaGameUptoSaid : Prop := fnExactFormulaGameUptoRow.holds Try.pinned (OpenSpec.upto fnExactFormulaGameSpec)

/-- 'laws.FnGameValid', WHERE WHAT IT READS IS OF BULK AT MOST 1048576: true; the input reads as it did. -/
def fnGameValidUptoRow : OpenClaim := { program := "ytbccachkkflceaa", sum := "c0fe9fb21893fb2de18992b91a056d0d4f322fd3e69e1c6a462a6d8436fd7a3c", func := "loop.example/twoplayers/laws.FnGameValid", spec := "fnGameValid", inPlace := ["internal/bytealg.IndexByteString"], unfollowed := true, recurses := true, apart := false, narrowed := true }
def FnGameValidUptoSaid : Prop := fnGameValidUptoRow.holds Try.pinned (OpenSpec.upto fnGameValidSpec)

end Rows
end Go.Proofs.Ytbccachkkflceaa
