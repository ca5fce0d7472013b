/-
  No cell of these rows narrows 'for every input' (looked for: loops, veiled, ifaces, maps, wideKeys, modest, calm, conditions, laid).
  DERIVED. THE GIVEN ROWS OF THIS SEAT. 4 by the template 'for every input the law returns true; each argument reads behind the call as it read before'; 0 by the template 'total and deterministic' (their statements: YtgfhahlkffagaaaTotals.lean).
  GIVEN WITH THE SEED: the statements are not yours to turn. If you find one false, say at which input.
  Laid BY PROGRAM, IN A SANDBOX (cutbox-rows.mjs): the forced cells as the released guide's own fill.sh prints them over the translation 364e602baf6fa98b… (all of the seat's roots in one cut). By AI agents, Wed Nov 11 2026. No macro, syntax, notation, axiom, sorry.
-/
import Derived.Test.YtgfhahlkffagaaaChecked
import GoSem.Claim
import GoSem.ClaimJoined
import GoSem.ClaimMapViews
import Derived.JoinedTies
import Derived.KernelRfl
namespace Go.Proofs.Ytgfhahlkffagaaa
/- THE CELL 'sum', in the pinned program and in every row, IS THE sha256 OF THE DUMP (.gsa) THAT YtgfhahlkffagaaaProg.lean LOADS. Nothing in Lean hashes anything: it is a label: what it is worth is what the hold of that sum in a sandbox is worth. -/
noncomputable def Try.pinned : Pinned := { name := "ytgfhahlkffagaaa", sum := "364e602baf6fa98b3422265867c0019633543aa627828a46820961431bc86843", checked := Try.checked }
namespace Rows
def none {H : Type} : Left H := { results := [], args := [] }

/-- 'laws.FnExactHeavyRect': WHATEVER THE INPUT: true; the input reads as it did. -/
def fnExactHeavyRectSpec : ChangeSpec := { name := "fnExactHeavyRect", fn := fun _ => fun
  | [d1, d2, d3] => { results := [.lit (.bool true)], args := [d1, d2, d3] }
  | _ => none }
def fnExactHeavyRectRow : OpenClaim := { program := "ytgfhahlkffagaaa", sum := "364e602baf6fa98b3422265867c0019633543aa627828a46820961431bc86843", func := "loop.example/twoplayers/laws.FnExactHeavyRect", spec := "fnExactHeavyRect", inPlace := ["internal/bytealg.IndexByteString"], unfollowed := true, recurses := true, apart := false }
def FnExactHeavyRectSaid : Prop := fnExactHeavyRectRow.holds Try.pinned (OpenSpec.ofChange fnExactHeavyRectSpec)

/-- ITS FALSE NEIGHBOUR: 'it returns false'. Refute it at one input. -/
def fnExactHeavyRectWrong : ChangeSpec := { name := "fnExactHeavyRect", fn := fun _ => fun
  | [d1, d2, d3] => { results := [.lit (.bool false)], args := [d1, d2, d3] }
  | _ => none }
def FnExactHeavyRectWrongFalsely : Prop := fnExactHeavyRectRow.holds Try.pinned (OpenSpec.ofChange fnExactHeavyRectWrong)

/-- 'laws.FnExactBalanceProtocol': WHATEVER THE INPUT: true; the input reads as it did. -/
def fnExactBalanceProtocolSpec : ChangeSpec := { name := "fnExactBalanceProtocol", fn := fun _ => fun
  | [d1, d2, d3] => { results := [.lit (.bool true)], args := [d1, d2, d3] }
  | _ => none }
def fnExactBalanceProtocolRow : OpenClaim := { program := "ytgfhahlkffagaaa", sum := "364e602baf6fa98b3422265867c0019633543aa627828a46820961431bc86843", func := "loop.example/twoplayers/laws.FnExactBalanceProtocol", spec := "fnExactBalanceProtocol", inPlace := ["internal/bytealg.IndexByteString"], unfollowed := true, recurses := true, apart := false }
def FnExactBalanceProtocolSaid : Prop := fnExactBalanceProtocolRow.holds Try.pinned (OpenSpec.ofChange fnExactBalanceProtocolSpec)

/-- ITS FALSE NEIGHBOUR: 'it returns false'. Refute it at one input. -/
def fnExactBalanceProtocolWrong : ChangeSpec := { name := "fnExactBalanceProtocol", fn := fun _ => fun
  | [d1, d2, d3] => { results := [.lit (.bool false)], args := [d1, d2, d3] }
  | _ => none }
def FnExactBalanceProtocolWrongFalsely : Prop := fnExactBalanceProtocolRow.holds Try.pinned (OpenSpec.ofChange fnExactBalanceProtocolWrong)

/-- 'laws.FnProtocolValid': WHATEVER THE INPUT: true; the input reads as it did. -/
def fnProtocolValidSpec : ChangeSpec := { name := "fnProtocolValid", fn := fun _ => fun
  | [d] => { results := [.lit (.bool true)], args := [d] }
  | _ => none }
def fnProtocolValidRow : OpenClaim := { program := "ytgfhahlkffagaaa", sum := "364e602baf6fa98b3422265867c0019633543aa627828a46820961431bc86843", func := "loop.example/twoplayers/laws.FnProtocolValid", spec := "fnProtocolValid", inPlace := ["internal/bytealg.IndexByteString"], unfollowed := true, recurses := true, apart := false }
def FnProtocolValidSaid : Prop := fnProtocolValidRow.holds Try.pinned (OpenSpec.ofChange fnProtocolValidSpec)

/-- ITS FALSE NEIGHBOUR: 'it returns false'. Refute it at one input. -/
def fnProtocolValidWrong : ChangeSpec := { name := "fnProtocolValid", fn := fun _ => fun
  | [d] => { results := [.lit (.bool false)], args := [d] }
  | _ => none }
def FnProtocolValidWrongFalsely : Prop := fnProtocolValidRow.holds Try.pinned (OpenSpec.ofChange fnProtocolValidWrong)

/-- 'laws.FnHeavyRect': WHATEVER THE INPUT: true; the input reads as it did. -/
def fnHeavyRectSpec : ChangeSpec := { name := "fnHeavyRect", fn := fun _ => fun
  | [d] => { results := [.lit (.bool true)], args := [d] }
  | _ => none }
def fnHeavyRectRow : OpenClaim := { program := "ytgfhahlkffagaaa", sum := "364e602baf6fa98b3422265867c0019633543aa627828a46820961431bc86843", func := "loop.example/twoplayers/laws.FnHeavyRect", spec := "fnHeavyRect", inPlace := ["internal/bytealg.IndexByteString"], unfollowed := true, recurses := true, apart := false }
def FnHeavyRectSaid : Prop := fnHeavyRectRow.holds Try.pinned (OpenSpec.ofChange fnHeavyRectSpec)

/-- ITS FALSE NEIGHBOUR: 'it returns false'. Refute it at one input. -/
def fnHeavyRectWrong : ChangeSpec := { name := "fnHeavyRect", fn := fun _ => fun
  | [d] => { results := [.lit (.bool false)], args := [d] }
  | _ => none }
def FnHeavyRectWrongFalsely : Prop := fnHeavyRectRow.holds Try.pinned (OpenSpec.ofChange fnHeavyRectWrong)

/- THE SECOND FORM. 'bulk': how many values and letters a reading holds, each counted each time it is reached (what is shared counts as often as it is met; a slice's spare places count too). A statement '..UptoSaid' is the law's where the arguments, and the package variables that the reading takes, are together of bulk at most 1048576: NARROWER than '..Said'. Prove '..Said' where nothing that the law and all that it calls make is longer than what came in: it says more and counts as full. Else prove '..UptoSaid'. A law counts once. -/
mutual
def uptoBulk {H : Type} : DataW H → Nat
  | .lit (.string bytes) => bytes.length + 1
  | .lit _ => 1
  | .nil => 1
  | .ptr d => uptoBulk d + 1
  | .slice elems spare => uptoBulkAll elems + uptoBulkAll spare + 1
  | .agg parts => uptoBulkAll parts + 1
  | .iface _ d => uptoBulk d + 1
  | .map entries => uptoBulkEntries entries + 1
  | .held _ => 1
def uptoBulkAll {H : Type} : List (DataW H) → Nat
  | [] => 0
  | d :: r => uptoBulk d + uptoBulkAll r
def uptoBulkEntries {H : Type} : List (Lit × DataW H) → Nat
  | [] => 0
  | x :: r => uptoBulkEntry x + uptoBulkEntries r
def uptoBulkEntry {H : Type} : Lit × DataW H → Nat
  | (.string bytes, d) => bytes.length + uptoBulk d + 1
  | (_, d) => uptoBulk d + 1
 end
def uptoSmall : (H : Type) → List (DataW H) → Bool := fun _ ds => decide (uptoBulkAll ds ≤ 1048576)
def OpenSpec.upto (s : _root_.Go.ChangeSpec) : _root_.Go.OpenSpec := { _root_.Go.OpenSpec.ofChange s with cond := some uptoSmall }

/-- 'laws.FnExactHeavyRect', WHERE WHAT IT READS IS OF BULK AT MOST 1048576: true; the input reads as it did. -/
def fnExactHeavyRectUptoRow : OpenClaim := { program := "ytgfhahlkffagaaa", sum := "364e602baf6fa98b3422265867c0019633543aa627828a46820961431bc86843", func := "loop.example/twoplayers/laws.FnExactHeavyRect", spec := "fnExactHeavyRect", inPlace := ["internal/bytealg.IndexByteString"], unfollowed := true, recurses := true, apart := false, narrowed := true }
def FnExactHeavyRectUptoSaid : Prop := fnExactHeavyRectUptoRow.holds Try.pinned (OpenSpec.upto fnExactHeavyRectSpec)

/-- 'laws.FnExactBalanceProtocol', WHERE WHAT IT READS IS OF BULK AT MOST 1048576: true; the input reads as it did. -/
def fnExactBalanceProtocolUptoRow : OpenClaim := { program := "ytgfhahlkffagaaa", sum := "364e602baf6fa98b3422265867c0019633543aa627828a46820961431bc86843", func := "loop.example/twoplayers/laws.FnExactBalanceProtocol", spec := "fnExactBalanceProtocol", inPlace := ["internal/bytealg.IndexByteString"], unfollowed := true, recurses := true, apart := false, narrowed := true }
def FnExactBalanceProtocolUptoSaid : Prop := fnExactBalanceProtocolUptoRow.holds Try.pinned (OpenSpec.upto fnExactBalanceProtocolSpec)

/-- 'laws.FnProtocolValid', WHERE WHAT IT READS IS OF BULK AT MOST 1048576: true; the input reads as it did. -/
def fnProtocolValidUptoRow : OpenClaim := { program := "ytgfhahlkffagaaa", sum := "364e602baf6fa98b3422265867c0019633543aa627828a46820961431bc86843", func := "loop.example/twoplayers/laws.FnProtocolValid", spec := "fnProtocolValid", inPlace := ["internal/bytealg.IndexByteString"], unfollowed := true, recurses := true, apart := false, narrowed := true }
def FnProtocolValidUptoSaid : Prop := fnProtocolValidUptoRow.holds Try.pinned (OpenSpec.upto fnProtocolValidSpec)

/-- 'laws.FnHeavyRect', WHERE WHAT IT READS IS OF BULK AT MOST 1048576: true; the input reads as it did. -/
def fnHeavyRectUptoRow : OpenClaim := { program := "ytgfhahlkffagaaa", sum := "364e602baf6fa98b3422265867c0019633543aa627828a46820961431bc86843", func := "loop.example/twoplayers/laws.FnHeavyRect", spec := "fnHeavyRect", inPlace := ["internal/bytealg.IndexByteString"], unfollowed := true, recurses := true, apart := false, narrowed := true }
def FnHeavyRectUptoSaid : Prop := fnHeavyRectUptoRow.holds Try.pinned (OpenSpec.upto fnHeavyRectSpec)

end Rows
end Go.Proofs.Ytgfhahlkffagaaa
