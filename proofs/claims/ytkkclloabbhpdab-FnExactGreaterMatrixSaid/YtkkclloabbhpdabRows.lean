/-
  No cell of these rows narrows 'for every input' (looked for: loops, veiled, ifaces, maps, wideKeys, modest, calm, conditions, laid).
  DERIVED. THE GIVEN ROWS OF THIS SEAT. 5 by the template 'for every input the law returns true; each argument reads behind the call as it read before'; 0 by the template 'total and deterministic' (their statements: YtkkclloabbhpdabTotals.lean).
  GIVEN WITH THE SEED: the statements are not yours to turn. If you find one false, say at which input.
  Laid BY PROGRAM, IN A SANDBOX (cutbox-rows.mjs): the forced cells as the released guide's own fill.sh prints them over the translation 89c56de14dff4260… (all of the seat's roots in one cut). By AI agents, Wed Nov 11 2026. No macro, syntax, notation, axiom, sorry.
-/
import Derived.Test.YtkkclloabbhpdabChecked
import GoSem.Claim
import GoSem.ClaimJoined
import GoSem.ClaimMapViews
import Derived.JoinedTies
import Derived.KernelRfl
namespace Go.Proofs.Ytkkclloabbhpdab
/- THE CELL 'sum', in the pinned program and in every row, IS THE sha256 OF THE DUMP (.gsa) THAT YtkkclloabbhpdabProg.lean LOADS. Nothing in Lean hashes anything: it is a label: what it is worth is what the hold of that sum in a sandbox is worth. -/
noncomputable def Try.pinned : Pinned := { name := "ytkkclloabbhpdab", sum := "89c56de14dff42605bcb1a940d48becf45f21d338578ddd46d64485474de49c8", checked := Try.checked }
namespace Rows
def none {H : Type} : Left H := { results := [], args := [] }

/-- 'laws.FnExactEqualMatrix': WHATEVER THE INPUT: true; the input reads as it did. -/
def fnExactEqualMatrixSpec : ChangeSpec := { name := "fnExactEqualMatrix", fn := fun _ => fun
  | [d] => { results := [.lit (.bool true)], args := [d] }
  | _ => none }
def fnExactEqualMatrixRow : OpenClaim := { program := "ytkkclloabbhpdab", sum := "89c56de14dff42605bcb1a940d48becf45f21d338578ddd46d64485474de49c8", func := "loop.example/twoplayers/laws.FnExactEqualMatrix", spec := "fnExactEqualMatrix", unfollowed := true, recurses := true, apart := false }
def FnExactEqualMatrixSaid : Prop := fnExactEqualMatrixRow.holds Try.pinned (OpenSpec.ofChange fnExactEqualMatrixSpec)

/-- ITS FALSE NEIGHBOUR: 'it returns false'. Refute it at one input. -/
def fnExactEqualMatrixWrong : ChangeSpec := { name := "fnExactEqualMatrix", fn := fun _ => fun
  | [d] => { results := [.lit (.bool false)], args := [d] }
  | _ => none }
def FnExactEqualMatrixWrongFalsely : Prop := fnExactEqualMatrixRow.holds Try.pinned (OpenSpec.ofChange fnExactEqualMatrixWrong)

/-- 'laws.FnExactGreaterMatrix': WHATEVER THE INPUT: true; the input reads as it did. -/
def fnExactGreaterMatrixSpec : ChangeSpec := { name := "fnExactGreaterMatrix", fn := fun _ => fun
  | [d] => { results := [.lit (.bool true)], args := [d] }
  | _ => none }
def fnExactGreaterMatrixRow : OpenClaim := { program := "ytkkclloabbhpdab", sum := "89c56de14dff42605bcb1a940d48becf45f21d338578ddd46d64485474de49c8", func := "loop.example/twoplayers/laws.FnExactGreaterMatrix", spec := "fnExactGreaterMatrix", unfollowed := true, recurses := true, apart := false }
def FnExactGreaterMatrixSaid : Prop := fnExactGreaterMatrixRow.holds Try.pinned (OpenSpec.ofChange fnExactGreaterMatrixSpec)

/-- ITS FALSE NEIGHBOUR: 'it returns false'. Refute it at one input. -/
def fnExactGreaterMatrixWrong : ChangeSpec := { name := "fnExactGreaterMatrix", fn := fun _ => fun
  | [d] => { results := [.lit (.bool false)], args := [d] }
  | _ => none }
def FnExactGreaterMatrixWrongFalsely : Prop := fnExactGreaterMatrixRow.holds Try.pinned (OpenSpec.ofChange fnExactGreaterMatrixWrong)

/-- 'laws.FnExactDisjointMatrix': WHATEVER THE INPUT: true; the input reads as it did. -/
def fnExactDisjointMatrixSpec : ChangeSpec := { name := "fnExactDisjointMatrix", fn := fun _ => fun
  | [d] => { results := [.lit (.bool true)], args := [d] }
  | _ => none }
def fnExactDisjointMatrixRow : OpenClaim := { program := "ytkkclloabbhpdab", sum := "89c56de14dff42605bcb1a940d48becf45f21d338578ddd46d64485474de49c8", func := "loop.example/twoplayers/laws.FnExactDisjointMatrix", spec := "fnExactDisjointMatrix", unfollowed := true, recurses := true, apart := false }
def FnExactDisjointMatrixSaid : Prop := fnExactDisjointMatrixRow.holds Try.pinned (OpenSpec.ofChange fnExactDisjointMatrixSpec)

/-- ITS FALSE NEIGHBOUR: 'it returns false'. Refute it at one input. -/
def fnExactDisjointMatrixWrong : ChangeSpec := { name := "fnExactDisjointMatrix", fn := fun _ => fun
  | [d] => { results := [.lit (.bool false)], args := [d] }
  | _ => none }
def FnExactDisjointMatrixWrongFalsely : Prop := fnExactDisjointMatrixRow.holds Try.pinned (OpenSpec.ofChange fnExactDisjointMatrixWrong)

/-- 'laws.FnExactInnerMatrix': WHATEVER THE INPUT: true; the input reads as it did. -/
def fnExactInnerMatrixSpec : ChangeSpec := { name := "fnExactInnerMatrix", fn := fun _ => fun
  | [d] => { results := [.lit (.bool true)], args := [d] }
  | _ => none }
def fnExactInnerMatrixRow : OpenClaim := { program := "ytkkclloabbhpdab", sum := "89c56de14dff42605bcb1a940d48becf45f21d338578ddd46d64485474de49c8", func := "loop.example/twoplayers/laws.FnExactInnerMatrix", spec := "fnExactInnerMatrix", unfollowed := true, recurses := true, apart := false }
def FnExactInnerMatrixSaid : Prop := fnExactInnerMatrixRow.holds Try.pinned (OpenSpec.ofChange fnExactInnerMatrixSpec)

/-- ITS FALSE NEIGHBOUR: 'it returns false'. Refute it at one input. -/
def fnExactInnerMatrixWrong : ChangeSpec := { name := "fnExactInnerMatrix", fn := fun _ => fun
  | [d] => { results := [.lit (.bool false)], args := [d] }
  | _ => none }
def FnExactInnerMatrixWrongFalsely : Prop := fnExactInnerMatrixRow.holds Try.pinned (OpenSpec.ofChange fnExactInnerMatrixWrong)

/-- 'laws.FnExactIndexMatrix': WHATEVER THE INPUT: true; the input reads as it did. -/
def fnExactIndexMatrixSpec : ChangeSpec := { name := "fnExactIndexMatrix", fn := fun _ => fun
  | [d] => { results := [.lit (.bool true)], args := [d] }
  | _ => none }
def fnExactIndexMatrixRow : OpenClaim := { program := "ytkkclloabbhpdab", sum := "89c56de14dff42605bcb1a940d48becf45f21d338578ddd46d64485474de49c8", func := "loop.example/twoplayers/laws.FnExactIndexMatrix", spec := "fnExactIndexMatrix", unfollowed := true, recurses := true, apart := false }
def FnExactIndexMatrixSaid : Prop := fnExactIndexMatrixRow.holds Try.pinned (OpenSpec.ofChange fnExactIndexMatrixSpec)

/-- ITS FALSE NEIGHBOUR: 'it returns false'. Refute it at one input. -/
def fnExactIndexMatrixWrong : ChangeSpec := { name := "fnExactIndexMatrix", fn := fun _ => fun
  | [d] => { results := [.lit (.bool false)], args := [d] }
  | _ => none }
def FnExactIndexMatrixWrongFalsely : Prop := fnExactIndexMatrixRow.holds Try.pinned (OpenSpec.ofChange fnExactIndexMatrixWrong)

/- THE SECOND FORM. 'bulk': how many values and letters a reading holds, each counted each time it is reached (what is shared counts as often as it is met; a slice's spare places count too). A statement '..UptoSaid' is the law's where the arguments, and the package variables that the reading takes, are together of bulk at most 1048576: NARROWER than '..Said'. Prove '..Said' where nothing that the law and all that it calls make is longer than what came in: it says more and counts as full. Else prove '..UptoSaid'. A law counts once. -/
mutual
def uptoBulk {H : Type} : DataW H → Nat
  | .lit (.string bytes) => bytes.length + 1
  | .lit _ => 1
  | .nil => 1
  | .ptr d => uptoBulk d + 1
  | .slice elems spare => uptoBulkAll elems + uptoBulkAll spare + 1
  | .agg parts => uptoBulkAll parts + 1
  | .iface _ d => uptoBulk d + 1
  | .map entries => uptoBulkEntries entries + 1
  | .held _ => 1
def uptoBulkAll {H : Type} : List (DataW H) → Nat
  | [] => 0
  | d :: r => uptoBulk d + uptoBulkAll r
def uptoBulkEntries {H : Type} : List (Lit × DataW H) → Nat
  | [] => 0
  | x :: r => uptoBulkEntry x + uptoBulkEntries r
def uptoBulkEntry {H : Type} : Lit × DataW H → Nat
  | (.string bytes, d) => bytes.length + uptoBulk d + 1
  | (_, d) => uptoBulk d + 1
 end
def uptoSmall : (H : Type) → List (DataW H) → Bool := fun _ ds => decide (uptoBulkAll ds ≤ 1048576)
def OpenSpec.upto (s : _root_.Go.ChangeSpec) : _root_.Go.OpenSpec := { _root_.Go.OpenSpec.ofChange s with cond := some uptoSmall }

/-- 'laws.FnExactEqualMatrix', WHERE WHAT IT READS IS OF BULK AT MOST 1048576: true; the input reads as it did. -/
def fnExactEqualMatrixUptoRow : OpenClaim := { program := "ytkkclloabbhpdab", sum := "89c56de14dff42605bcb1a940d48becf45f21d338578ddd46d64485474de49c8", func := "loop.example/twoplayers/laws.FnExactEqualMatrix", spec := "fnExactEqualMatrix", unfollowed := true, recurses := true, apart := false, narrowed := true }
def FnExactEqualMatrixUptoSaid : Prop := fnExactEqualMatrixUptoRow.holds Try.pinned (OpenSpec.upto fnExactEqualMatrixSpec)

/-- 'laws.FnExactGreaterMatrix', WHERE WHAT IT READS IS OF BULK AT MOST 1048576: true; the input reads as it did. -/
def fnExactGreaterMatrixUptoRow : OpenClaim := { program := "ytkkclloabbhpdab", sum := "89c56de14dff42605bcb1a940d48becf45f21d338578ddd46d64485474de49c8", func := "loop.example/twoplayers/laws.FnExactGreaterMatrix", spec := "fnExactGreaterMatrix", unfollowed := true, recurses := true, apart := false, narrowed := true }
def FnExactGreaterMatrixUptoSaid : Prop := fnExactGreaterMatrixUptoRow.holds Try.pinned (OpenSpec.upto fnExactGreaterMatrixSpec)

/-- 'laws.FnExactDisjointMatrix', WHERE WHAT IT READS IS OF BULK AT MOST 1048576: true; the input reads as it did. -/
def fnExactDisjointMatrixUptoRow : OpenClaim := { program := "ytkkclloabbhpdab", sum := "89c56de14dff42605bcb1a940d48becf45f21d338578ddd46d64485474de49c8", func := "loop.example/twoplayers/laws.FnExactDisjointMatrix", spec := "fnExactDisjointMatrix", unfollowed := true, recurses := true, apart := false, narrowed := true }
def FnExactDisjointMatrixUptoSaid : Prop := fnExactDisjointMatrixUptoRow.holds Try.pinned (OpenSpec.upto fnExactDisjointMatrixSpec)

/-- 'laws.FnExactInnerMatrix', WHERE WHAT IT READS IS OF BULK AT MOST 1048576: true; the input reads as it did. -/
def fnExactInnerMatrixUptoRow : OpenClaim := { program := "ytkkclloabbhpdab", sum := "89c56de14dff42605bcb1a940d48becf45f21d338578ddd46d64485474de49c8", func := "loop.example/twoplayers/laws.FnExactInnerMatrix", spec := "fnExactInnerMatrix", unfollowed := true, recurses := true, apart := false, narrowed := true }
def FnExactInnerMatrixUptoSaid : Prop := fnExactInnerMatrixUptoRow.holds Try.pinned (OpenSpec.upto fnExactInnerMatrixSpec)

/-- 'laws.FnExactIndexMatrix', WHERE WHAT IT READS IS OF BULK AT MOST 1048576: true; the input reads as it did. -/
def fnExactIndexMatrixUptoRow : OpenClaim := { program := "ytkkclloabbhpdab", sum := "89c56de14dff42605bcb1a940d48becf45f21d338578ddd46d64485474de49c8", func := "loop.example/twoplayers/laws.FnExactIndexMatrix", spec := "fnExactIndexMatrix", unfollowed := true, recurses := true, apart := false, narrowed := true }
def FnExactIndexMatrixUptoSaid : Prop := fnExactIndexMatrixUptoRow.holds Try.pinned (OpenSpec.upto fnExactIndexMatrixSpec)

end Rows
end Go.Proofs.Ytkkclloabbhpdab
