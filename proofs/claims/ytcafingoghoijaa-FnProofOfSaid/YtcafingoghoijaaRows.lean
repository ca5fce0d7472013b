/-
  No cell of these rows narrows 'for every input' (looked for: loops, veiled, ifaces, maps, wideKeys, modest, calm, conditions, laid).
  DERIVED. THE GIVEN ROWS OF THIS SEAT. 10 by the template 'for every input the law returns true; each argument reads behind the call as it read before'; 0 by the template 'total and deterministic' (their statements: YtcafingoghoijaaTotals.lean).
  GIVEN WITH THE SEED: the statements are not yours to turn. If you find one false, say at which input.
  Laid BY PROGRAM, IN A SANDBOX (cutbox-rows.mjs): the forced cells as the released guide's own fill.sh prints them over the translation 197afee0a3295d87… (all of the seat's roots in one cut). By AI agents, Wed Nov 11 2026. No macro, syntax, notation, axiom, sorry.
-/
import Derived.Test.YtcafingoghoijaaChecked
import GoSem.Claim
import GoSem.ClaimJoined
import GoSem.ClaimMapViews
import Derived.JoinedTies
import Derived.KernelRfl
namespace Go.Proofs.Ytcafingoghoijaa
/- THE CELL 'sum', in the pinned program and in every row, IS THE sha256 OF THE DUMP (.gsa) THAT YtcafingoghoijaaProg.lean LOADS. Nothing in Lean hashes anything: it is a label: what it is worth is what the hold of that sum in a sandbox is worth. -/
noncomputable def Try.pinned : Pinned := { name := "ytcafingoghoijaa", sum := "197afee0a3295d8745778e12a7083372b465bd9f54fdaca08fc28ef3cff7ae97", checked := Try.checked }
namespace Rows
def none {H : Type} : Left H := { results := [], args := [] }

/-- 'laws.FnExactProofOf': WHATEVER THE INPUT: true; the input reads as it did. -/
def fnExactProofOfSpec : ChangeSpec := { name := "fnExactProofOf", fn := fun _ => fun
  | [d1, d2, d3] => { results := [.lit (.bool true)], args := [d1, d2, d3] }
  | _ => none }
def fnExactProofOfRow : OpenClaim := { program := "ytcafingoghoijaa", sum := "197afee0a3295d8745778e12a7083372b465bd9f54fdaca08fc28ef3cff7ae97", func := "loop.example/twoplayers/laws.FnExactProofOf", spec := "fnExactProofOf", unfollowed := true, recurses := true, apart := false }
def FnExactProofOfSaid : Prop := fnExactProofOfRow.holds Try.pinned (OpenSpec.ofChange fnExactProofOfSpec)

/-- ITS FALSE NEIGHBOUR: 'it returns false'. Refute it at one input. -/
def fnExactProofOfWrong : ChangeSpec := { name := "fnExactProofOf", fn := fun _ => fun
  | [d1, d2, d3] => { results := [.lit (.bool false)], args := [d1, d2, d3] }
  | _ => none }
def FnExactProofOfWrongFalsely : Prop := fnExactProofOfRow.holds Try.pinned (OpenSpec.ofChange fnExactProofOfWrong)

/-- 'laws.FnExactAcceptsRow': WHATEVER THE INPUT: true; the input reads as it did. -/
def fnExactAcceptsRowSpec : ChangeSpec := { name := "fnExactAcceptsRow", fn := fun _ => fun
  | [d1, d2, d3] => { results := [.lit (.bool true)], args := [d1, d2, d3] }
  | _ => none }
def fnExactAcceptsRowRow : OpenClaim := { program := "ytcafingoghoijaa", sum := "197afee0a3295d8745778e12a7083372b465bd9f54fdaca08fc28ef3cff7ae97", func := "loop.example/twoplayers/laws.FnExactAcceptsRow", spec := "fnExactAcceptsRow", apart := false }
def FnExactAcceptsRowSaid : Prop := fnExactAcceptsRowRow.holds Try.pinned (OpenSpec.ofChange fnExactAcceptsRowSpec)

/-- ITS FALSE NEIGHBOUR: 'it returns false'. Refute it at one input. -/
def fnExactAcceptsRowWrong : ChangeSpec := { name := "fnExactAcceptsRow", fn := fun _ => fun
  | [d1, d2, d3] => { results := [.lit (.bool false)], args := [d1, d2, d3] }
  | _ => none }
def FnExactAcceptsRowWrongFalsely : Prop := fnExactAcceptsRowRow.holds Try.pinned (OpenSpec.ofChange fnExactAcceptsRowWrong)

/-- 'laws.FnExactAcceptsCol': WHATEVER THE INPUT: true; the input reads as it did. -/
def fnExactAcceptsColSpec : ChangeSpec := { name := "fnExactAcceptsCol", fn := fun _ => fun
  | [d1, d2, d3] => { results := [.lit (.bool true)], args := [d1, d2, d3] }
  | _ => none }
def fnExactAcceptsColRow : OpenClaim := { program := "ytcafingoghoijaa", sum := "197afee0a3295d8745778e12a7083372b465bd9f54fdaca08fc28ef3cff7ae97", func := "loop.example/twoplayers/laws.FnExactAcceptsCol", spec := "fnExactAcceptsCol", apart := false }
def FnExactAcceptsColSaid : Prop := fnExactAcceptsColRow.holds Try.pinned (OpenSpec.ofChange fnExactAcceptsColSpec)

/-- ITS FALSE NEIGHBOUR: 'it returns false'. Refute it at one input. -/
def fnExactAcceptsColWrong : ChangeSpec := { name := "fnExactAcceptsCol", fn := fun _ => fun
  | [d1, d2, d3] => { results := [.lit (.bool false)], args := [d1, d2, d3] }
  | _ => none }
def FnExactAcceptsColWrongFalsely : Prop := fnExactAcceptsColRow.holds Try.pinned (OpenSpec.ofChange fnExactAcceptsColWrong)

/-- 'laws.FnExactLiveRects': WHATEVER THE INPUT: true; the input reads as it did. -/
def fnExactLiveRectsSpec : ChangeSpec := { name := "fnExactLiveRects", fn := fun _ => fun
  | [d1, d2, d3] => { results := [.lit (.bool true)], args := [d1, d2, d3] }
  | _ => none }
def fnExactLiveRectsRow : OpenClaim := { program := "ytcafingoghoijaa", sum := "197afee0a3295d8745778e12a7083372b465bd9f54fdaca08fc28ef3cff7ae97", func := "loop.example/twoplayers/laws.FnExactLiveRects", spec := "fnExactLiveRects", unfollowed := true, recurses := true, apart := false }
def FnExactLiveRectsSaid : Prop := fnExactLiveRectsRow.holds Try.pinned (OpenSpec.ofChange fnExactLiveRectsSpec)

/-- ITS FALSE NEIGHBOUR: 'it returns false'. Refute it at one input. -/
def fnExactLiveRectsWrong : ChangeSpec := { name := "fnExactLiveRects", fn := fun _ => fun
  | [d1, d2, d3] => { results := [.lit (.bool false)], args := [d1, d2, d3] }
  | _ => none }
def FnExactLiveRectsWrongFalsely : Prop := fnExactLiveRectsRow.holds Try.pinned (OpenSpec.ofChange fnExactLiveRectsWrong)

/-- 'laws.FnExactChoiceOf': WHATEVER THE INPUT: true; the input reads as it did. -/
def fnExactChoiceOfSpec : ChangeSpec := { name := "fnExactChoiceOf", fn := fun _ => fun
  | [d1, d2, d3, d4] => { results := [.lit (.bool true)], args := [d1, d2, d3, d4] }
  | _ => none }
def fnExactChoiceOfRow : OpenClaim := { program := "ytcafingoghoijaa", sum := "197afee0a3295d8745778e12a7083372b465bd9f54fdaca08fc28ef3cff7ae97", func := "loop.example/twoplayers/laws.FnExactChoiceOf", spec := "fnExactChoiceOf", unfollowed := true, recurses := true, apart := false }
def FnExactChoiceOfSaid : Prop := fnExactChoiceOfRow.holds Try.pinned (OpenSpec.ofChange fnExactChoiceOfSpec)

/-- ITS FALSE NEIGHBOUR: 'it returns false'. Refute it at one input. -/
def fnExactChoiceOfWrong : ChangeSpec := { name := "fnExactChoiceOf", fn := fun _ => fun
  | [d1, d2, d3, d4] => { results := [.lit (.bool false)], args := [d1, d2, d3, d4] }
  | _ => none }
def FnExactChoiceOfWrongFalsely : Prop := fnExactChoiceOfRow.holds Try.pinned (OpenSpec.ofChange fnExactChoiceOfWrong)

/-- 'laws.FnExactCoverBound': WHATEVER THE INPUT: true; the input reads as it did. -/
def fnExactCoverBoundSpec : ChangeSpec := { name := "fnExactCoverBound", fn := fun _ => fun
  | [d1, d2] => { results := [.lit (.bool true)], args := [d1, d2] }
  | _ => none }
def fnExactCoverBoundRow : OpenClaim := { program := "ytcafingoghoijaa", sum := "197afee0a3295d8745778e12a7083372b465bd9f54fdaca08fc28ef3cff7ae97", func := "loop.example/twoplayers/laws.FnExactCoverBound", spec := "fnExactCoverBound", apart := false }
def FnExactCoverBoundSaid : Prop := fnExactCoverBoundRow.holds Try.pinned (OpenSpec.ofChange fnExactCoverBoundSpec)

/-- ITS FALSE NEIGHBOUR: 'it returns false'. Refute it at one input. -/
def fnExactCoverBoundWrong : ChangeSpec := { name := "fnExactCoverBound", fn := fun _ => fun
  | [d1, d2] => { results := [.lit (.bool false)], args := [d1, d2] }
  | _ => none }
def FnExactCoverBoundWrongFalsely : Prop := fnExactCoverBoundRow.holds Try.pinned (OpenSpec.ofChange fnExactCoverBoundWrong)

/-- 'laws.FnProofOf': WHATEVER THE INPUT: true; the input reads as it did. -/
def fnProofOfSpec : ChangeSpec := { name := "fnProofOf", fn := fun _ => fun
  | [d] => { results := [.lit (.bool true)], args := [d] }
  | _ => none }
def fnProofOfRow : OpenClaim := { program := "ytcafingoghoijaa", sum := "197afee0a3295d8745778e12a7083372b465bd9f54fdaca08fc28ef3cff7ae97", func := "loop.example/twoplayers/laws.FnProofOf", spec := "fnProofOf", unfollowed := true, recurses := true, apart := false }
def FnProofOfSaid : Prop := fnProofOfRow.holds Try.pinned (OpenSpec.ofChange fnProofOfSpec)

/-- ITS FALSE NEIGHBOUR: 'it returns false'. Refute it at one input. -/
def fnProofOfWrong : ChangeSpec := { name := "fnProofOf", fn := fun _ => fun
  | [d] => { results := [.lit (.bool false)], args := [d] }
  | _ => none }
def FnProofOfWrongFalsely : Prop := fnProofOfRow.holds Try.pinned (OpenSpec.ofChange fnProofOfWrong)

/-- 'laws.FnAccepts': WHATEVER THE INPUT: true; the input reads as it did. -/
def fnAcceptsSpec : ChangeSpec := { name := "fnAccepts", fn := fun _ => fun
  | [d] => { results := [.lit (.bool true)], args := [d] }
  | _ => none }
def fnAcceptsRow : OpenClaim := { program := "ytcafingoghoijaa", sum := "197afee0a3295d8745778e12a7083372b465bd9f54fdaca08fc28ef3cff7ae97", func := "loop.example/twoplayers/laws.FnAccepts", spec := "fnAccepts", unfollowed := true, recurses := true, apart := false }
def FnAcceptsSaid : Prop := fnAcceptsRow.holds Try.pinned (OpenSpec.ofChange fnAcceptsSpec)

/-- ITS FALSE NEIGHBOUR: 'it returns false'. Refute it at one input. -/
def fnAcceptsWrong : ChangeSpec := { name := "fnAccepts", fn := fun _ => fun
  | [d] => { results := [.lit (.bool false)], args := [d] }
  | _ => none }
def FnAcceptsWrongFalsely : Prop := fnAcceptsRow.holds Try.pinned (OpenSpec.ofChange fnAcceptsWrong)

/-- 'laws.FnLive': WHATEVER THE INPUT: true; the input reads as it did. -/
def fnLiveSpec : ChangeSpec := { name := "fnLive", fn := fun _ => fun
  | [d] => { results := [.lit (.bool true)], args := [d] }
  | _ => none }
def fnLiveRow : OpenClaim := { program := "ytcafingoghoijaa", sum := "197afee0a3295d8745778e12a7083372b465bd9f54fdaca08fc28ef3cff7ae97", func := "loop.example/twoplayers/laws.FnLive", spec := "fnLive", unfollowed := true, recurses := true, apart := false }
def FnLiveSaid : Prop := fnLiveRow.holds Try.pinned (OpenSpec.ofChange fnLiveSpec)

/-- ITS FALSE NEIGHBOUR: 'it returns false'. Refute it at one input. -/
def fnLiveWrong : ChangeSpec := { name := "fnLive", fn := fun _ => fun
  | [d] => { results := [.lit (.bool false)], args := [d] }
  | _ => none }
def FnLiveWrongFalsely : Prop := fnLiveRow.holds Try.pinned (OpenSpec.ofChange fnLiveWrong)

/-- 'laws.FnChoice': WHATEVER THE INPUT: true; the input reads as it did. -/
def fnChoiceSpec : ChangeSpec := { name := "fnChoice", fn := fun _ => fun
  | [d] => { results := [.lit (.bool true)], args := [d] }
  | _ => none }
def fnChoiceRow : OpenClaim := { program := "ytcafingoghoijaa", sum := "197afee0a3295d8745778e12a7083372b465bd9f54fdaca08fc28ef3cff7ae97", func := "loop.example/twoplayers/laws.FnChoice", spec := "fnChoice", unfollowed := true, recurses := true, apart := false }
def FnChoiceSaid : Prop := fnChoiceRow.holds Try.pinned (OpenSpec.ofChange fnChoiceSpec)

/-- ITS FALSE NEIGHBOUR: 'it returns false'. Refute it at one input. -/
def fnChoiceWrong : ChangeSpec := { name := "fnChoice", fn := fun _ => fun
  | [d] => { results := [.lit (.bool false)], args := [d] }
  | _ => none }
def FnChoiceWrongFalsely : Prop := fnChoiceRow.holds Try.pinned (OpenSpec.ofChange fnChoiceWrong)

/- THE SECOND FORM. 'bulk': how many values and letters a reading holds, each counted each time it is reached (what is shared counts as often as it is met; a slice's spare places count too). A statement '..UptoSaid' is the law's where the arguments, and the package variables that the reading takes, are together of bulk at most 1048576: NARROWER than '..Said'. Prove '..Said' where nothing that the law and all that it calls make is longer than what came in: it says more and counts as full. Else prove '..UptoSaid'. A law counts once. -/
mutual
def uptoBulk {H : Type} : DataW H → Nat
  | .lit (.string bytes) => bytes.length + 1
  | .lit _ => 1
  | .nil => 1
  | .ptr d => uptoBulk d + 1
  | .slice elems spare => uptoBulkAll elems + uptoBulkAll spare + 1
  | .agg parts => uptoBulkAll parts + 1
  | .iface _ d => uptoBulk d + 1
  | .map entries => uptoBulkEntries entries + 1
  | .held _ => 1
def uptoBulkAll {H : Type} : List (DataW H) → Nat
  | [] => 0
  | d :: r => uptoBulk d + uptoBulkAll r
def uptoBulkEntries {H : Type} : List (Lit × DataW H) → Nat
  | [] => 0
  | x :: r => uptoBulkEntry x + uptoBulkEntries r
def uptoBulkEntry {H : Type} : Lit × DataW H → Nat
  | (.string bytes, d) => bytes.length + uptoBulk d + 1
  | (_, d) => uptoBulk d + 1
 end
def uptoSmall : (H : Type) → List (DataW H) → Bool := fun _ ds => decide (uptoBulkAll ds ≤ 1048576)
def OpenSpec.upto (s : _root_.Go.ChangeSpec) : _root_.Go.OpenSpec := { _root_.Go.OpenSpec.ofChange s with cond := some uptoSmall }

/-- 'laws.FnExactProofOf', WHERE WHAT IT READS IS OF BULK AT MOST 1048576: true; the input reads as it did. -/
def fnExactProofOfUptoRow : OpenClaim := { program := "ytcafingoghoijaa", sum := "197afee0a3295d8745778e12a7083372b465bd9f54fdaca08fc28ef3cff7ae97", func := "loop.example/twoplayers/laws.FnExactProofOf", spec := "fnExactProofOf", unfollowed := true, recurses := true, apart := false, narrowed := true }
def FnExactProofOfUptoSaid : Prop := fnExactProofOfUptoRow.holds Try.pinned (OpenSpec.upto fnExactProofOfSpec)

/-- 'laws.FnExactAcceptsRow', WHERE WHAT IT READS IS OF BULK AT MOST 1048576: true; the input reads as it did. -/
def fnExactAcceptsRowUptoRow : OpenClaim := { program := "ytcafingoghoijaa", sum := "197afee0a3295d8745778e12a7083372b465bd9f54fdaca08fc28ef3cff7ae97", func := "loop.example/twoplayers/laws.FnExactAcceptsRow", spec := "fnExactAcceptsRow", apart := false, narrowed := true }
def FnExactAcceptsRowUptoSaid : Prop := fnExactAcceptsRowUptoRow.holds Try.pinned (OpenSpec.upto fnExactAcceptsRowSpec)

/-- 'laws.FnExactAcceptsCol', WHERE WHAT IT READS IS OF BULK AT MOST 1048576: true; the input reads as it did. -/
def fnExactAcceptsColUptoRow : OpenClaim := { program := "ytcafingoghoijaa", sum := "197afee0a3295d8745778e12a7083372b465bd9f54fdaca08fc28ef3cff7ae97", func := "loop.example/twoplayers/laws.FnExactAcceptsCol", spec := "fnExactAcceptsCol", apart := false, narrowed := true }
def FnExactAcceptsColUptoSaid : Prop := fnExactAcceptsColUptoRow.holds Try.pinned (OpenSpec.upto fnExactAcceptsColSpec)

/-- 'laws.FnExactLiveRects', WHERE WHAT IT READS IS OF BULK AT MOST 1048576: true; the input reads as it did. -/
def fnExactLiveRectsUptoRow : OpenClaim := { program := "ytcafingoghoijaa", sum := "197afee0a3295d8745778e12a7083372b465bd9f54fdaca08fc28ef3cff7ae97", func := "loop.example/twoplayers/laws.FnExactLiveRects", spec := "fnExactLiveRects", unfollowed := true, recurses := true, apart := false, narrowed := true }
def FnExactLiveRectsUptoSaid : Prop := fnExactLiveRectsUptoRow.holds Try.pinned (OpenSpec.upto fnExactLiveRectsSpec)

/-- 'laws.FnExactChoiceOf', WHERE WHAT IT READS IS OF BULK AT MOST 1048576: true; the input reads as it did. -/
def fnExactChoiceOfUptoRow : OpenClaim := { program := "ytcafingoghoijaa", sum := "197afee0a3295d8745778e12a7083372b465bd9f54fdaca08fc28ef3cff7ae97", func := "loop.example/twoplayers/laws.FnExactChoiceOf", spec := "fnExactChoiceOf", unfollowed := true, recurses := true, apart := false, narrowed := true }
def FnExactChoiceOfUptoSaid : Prop := fnExactChoiceOfUptoRow.holds Try.pinned (OpenSpec.upto fnExactChoiceOfSpec)

/-- 'laws.FnExactCoverBound', WHERE WHAT IT READS IS OF BULK AT MOST 1048576: true; the input reads as it did. -/
def fnExactCoverBoundUptoRow : OpenClaim := { program := "ytcafingoghoijaa", sum := "197afee0a3295d8745778e12a7083372b465bd9f54fdaca08fc28ef3cff7ae97", func := "loop.example/twoplayers/laws.FnExactCoverBound", spec := "fnExactCoverBound", apart := false, narrowed := true }
def FnExactCoverBoundUptoSaid : Prop := fnExactCoverBoundUptoRow.holds Try.pinned (OpenSpec.upto fnExactCoverBoundSpec)

/-- 'laws.FnProofOf', WHERE WHAT IT READS IS OF BULK AT MOST 1048576: true; the input reads as it did. -/
def fnProofOfUptoRow : OpenClaim := { program := "ytcafingoghoijaa", sum := "197afee0a3295d8745778e12a7083372b465bd9f54fdaca08fc28ef3cff7ae97", func := "loop.example/twoplayers/laws.FnProofOf", spec := "fnProofOf", unfollowed := true, recurses := true, apart := false, narrowed := true }
def FnProofOfUptoSaid : Prop := fnProofOfUptoRow.holds Try.pinned (OpenSpec.upto fnProofOfSpec)

/-- 'laws.FnAccepts', WHERE WHAT IT READS IS OF BULK AT MOST 1048576: true; the input reads as it did. -/
def fnAcceptsUptoRow : OpenClaim := { program := "ytcafingoghoijaa", sum := "197afee0a3295d8745778e12a7083372b465bd9f54fdaca08fc28ef3cff7ae97", func := "loop.example/twoplayers/laws.FnAccepts", spec := "fnAccepts", unfollowed := true, recurses := true, apart := false, narrowed := true }
def FnAcceptsUptoSaid : Prop := fnAcceptsUptoRow.holds Try.pinned (OpenSpec.upto fnAcceptsSpec)

/-- 'laws.FnLive', WHERE WHAT IT READS IS OF BULK AT MOST 1048576: true; the input reads as it did. -/
def fnLiveUptoRow : OpenClaim := { program := "ytcafingoghoijaa", sum := "197afee0a3295d8745778e12a7083372b465bd9f54fdaca08fc28ef3cff7ae97", func := "loop.example/twoplayers/laws.FnLive", spec := "fnLive", unfollowed := true, recurses := true, apart := false, narrowed := true }
def FnLiveUptoSaid : Prop := fnLiveUptoRow.holds Try.pinned (OpenSpec.upto fnLiveSpec)

/-- 'laws.FnChoice', WHERE WHAT IT READS IS OF BULK AT MOST 1048576: true; the input reads as it did. -/
def fnChoiceUptoRow : OpenClaim := { program := "ytcafingoghoijaa", sum := "197afee0a3295d8745778e12a7083372b465bd9f54fdaca08fc28ef3cff7ae97", func := "loop.example/twoplayers/laws.FnChoice", spec := "fnChoice", unfollowed := true, recurses := true, apart := false, narrowed := true }
def FnChoiceUptoSaid : Prop := fnChoiceUptoRow.holds Try.pinned (OpenSpec.upto fnChoiceSpec)

end Rows
end Go.Proofs.Ytcafingoghoijaa
