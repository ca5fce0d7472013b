/-
  No cell of these rows narrows 'for every input' (looked for: loops, veiled, ifaces, maps, wideKeys, modest, calm, conditions, laid).
  DERIVED. THE GIVEN ROWS OF THIS SEAT. 6 by the template 'for every input the law returns true; each argument reads behind the call as it read before'; 0 by the template 'total and deterministic' (their statements: YtojmohdfpoimaaaTotals.lean).
  GIVEN WITH THE SEED: the statements are not yours to turn. If you find one false, say at which input.
  Laid BY PROGRAM, IN A SANDBOX (cutbox-rows.mjs): the forced cells as the released guide's own fill.sh prints them over the translation ede07c069fcd9be9… (all of the seat's roots in one cut). By AI agents, Wed Nov 11 2026. No macro, syntax, notation, axiom, sorry.
-/
import Derived.Test.YtojmohdfpoimaaaChecked
import GoSem.Claim
import GoSem.ClaimJoined
import GoSem.ClaimMapViews
import Derived.JoinedTies
import Derived.KernelRfl
namespace Go.Proofs.Ytojmohdfpoimaaa
/- THE CELL 'sum', in the pinned program and in every row, IS THE sha256 OF THE DUMP (.gsa) THAT YtojmohdfpoimaaaProg.lean LOADS. Nothing in Lean hashes anything: it is a label: what it is worth is what the hold of that sum in a sandbox is worth. -/
noncomputable def Try.pinned : Pinned := { name := "ytojmohdfpoimaaa", sum := "ede07c069fcd9be97770cc2ab823f374983b8d313198a8bcd8ad313635d691f3", checked := Try.checked }
namespace Rows
def none {H : Type} : Left H := { results := [], args := [] }

/-- 'laws.FnExactFormatRect': WHATEVER THE INPUT: true; the input reads as it did. -/
def fnExactFormatRectSpec : ChangeSpec := { name := "fnExactFormatRect", fn := fun _ => fun
  | [d] => { results := [.lit (.bool true)], args := [d] }
  | _ => none }
def fnExactFormatRectRow : OpenClaim := { program := "ytojmohdfpoimaaa", sum := "ede07c069fcd9be97770cc2ab823f374983b8d313198a8bcd8ad313635d691f3", func := "loop.example/twoplayers/laws.FnExactFormatRect", spec := "fnExactFormatRect", unfollowed := true, recurses := true, apart := false }
def FnExactFormatRectSaid : Prop := fnExactFormatRectRow.holds Try.pinned (OpenSpec.ofChange fnExactFormatRectSpec)

/-- ITS FALSE NEIGHBOUR: 'it returns false'. Refute it at one input. -/
def fnExactFormatRectWrong : ChangeSpec := { name := "fnExactFormatRect", fn := fun _ => fun
  | [d] => { results := [.lit (.bool false)], args := [d] }
  | _ => none }
def FnExactFormatRectWrongFalsely : Prop := fnExactFormatRectRow.holds Try.pinned (OpenSpec.ofChange fnExactFormatRectWrong)

/-- 'laws.FnExactParseRect': WHATEVER THE INPUT: true; the input reads as it did. -/
def fnExactParseRectSpec : ChangeSpec := { name := "fnExactParseRect", fn := fun _ => fun
  | [d] => { results := [.lit (.bool true)], args := [d] }
  | _ => none }
def fnExactParseRectRow : OpenClaim := { program := "ytojmohdfpoimaaa", sum := "ede07c069fcd9be97770cc2ab823f374983b8d313198a8bcd8ad313635d691f3", func := "loop.example/twoplayers/laws.FnExactParseRect", spec := "fnExactParseRect", inPlace := ["internal/bytealg.IndexByteString", "internal/bytealg.IndexString"], unfollowed := true, recurses := true, named := ["internal/bytealg.MaxLen"], apart := false }
def FnExactParseRectSaid : Prop := fnExactParseRectRow.holds Try.pinned (OpenSpec.ofChange fnExactParseRectSpec)

/-- ITS FALSE NEIGHBOUR: 'it returns false'. Refute it at one input. -/
def fnExactParseRectWrong : ChangeSpec := { name := "fnExactParseRect", fn := fun _ => fun
  | [d] => { results := [.lit (.bool false)], args := [d] }
  | _ => none }
def FnExactParseRectWrongFalsely : Prop := fnExactParseRectRow.holds Try.pinned (OpenSpec.ofChange fnExactParseRectWrong)

/-- 'laws.FnExactInRect': WHATEVER THE INPUT: true; the input reads as it did. -/
def fnExactInRectSpec : ChangeSpec := { name := "fnExactInRect", fn := fun _ => fun
  | [d1, d2, d3] => { results := [.lit (.bool true)], args := [d1, d2, d3] }
  | _ => none }
def fnExactInRectRow : OpenClaim := { program := "ytojmohdfpoimaaa", sum := "ede07c069fcd9be97770cc2ab823f374983b8d313198a8bcd8ad313635d691f3", func := "loop.example/twoplayers/laws.FnExactInRect", spec := "fnExactInRect", apart := false }
def FnExactInRectSaid : Prop := fnExactInRectRow.holds Try.pinned (OpenSpec.ofChange fnExactInRectSpec)

/-- ITS FALSE NEIGHBOUR: 'it returns false'. Refute it at one input. -/
def fnExactInRectWrong : ChangeSpec := { name := "fnExactInRect", fn := fun _ => fun
  | [d1, d2, d3] => { results := [.lit (.bool false)], args := [d1, d2, d3] }
  | _ => none }
def FnExactInRectWrongFalsely : Prop := fnExactInRectRow.holds Try.pinned (OpenSpec.ofChange fnExactInRectWrong)

/-- 'laws.FnExactAreaOf': WHATEVER THE INPUT: true; the input reads as it did. -/
def fnExactAreaOfSpec : ChangeSpec := { name := "fnExactAreaOf", fn := fun _ => fun
  | [d] => { results := [.lit (.bool true)], args := [d] }
  | _ => none }
def fnExactAreaOfRow : OpenClaim := { program := "ytojmohdfpoimaaa", sum := "ede07c069fcd9be97770cc2ab823f374983b8d313198a8bcd8ad313635d691f3", func := "loop.example/twoplayers/laws.FnExactAreaOf", spec := "fnExactAreaOf", unfollowed := true, recurses := true, apart := false }
def FnExactAreaOfSaid : Prop := fnExactAreaOfRow.holds Try.pinned (OpenSpec.ofChange fnExactAreaOfSpec)

/-- ITS FALSE NEIGHBOUR: 'it returns false'. Refute it at one input. -/
def fnExactAreaOfWrong : ChangeSpec := { name := "fnExactAreaOf", fn := fun _ => fun
  | [d] => { results := [.lit (.bool false)], args := [d] }
  | _ => none }
def FnExactAreaOfWrongFalsely : Prop := fnExactAreaOfRow.holds Try.pinned (OpenSpec.ofChange fnExactAreaOfWrong)

/-- 'laws.FnExactMeetRects': WHATEVER THE INPUT: true; the input reads as it did. -/
def fnExactMeetRectsSpec : ChangeSpec := { name := "fnExactMeetRects", fn := fun _ => fun
  | [d1, d2] => { results := [.lit (.bool true)], args := [d1, d2] }
  | _ => none }
def fnExactMeetRectsRow : OpenClaim := { program := "ytojmohdfpoimaaa", sum := "ede07c069fcd9be97770cc2ab823f374983b8d313198a8bcd8ad313635d691f3", func := "loop.example/twoplayers/laws.FnExactMeetRects", spec := "fnExactMeetRects", apart := false }
def FnExactMeetRectsSaid : Prop := fnExactMeetRectsRow.holds Try.pinned (OpenSpec.ofChange fnExactMeetRectsSpec)

/-- ITS FALSE NEIGHBOUR: 'it returns false'. Refute it at one input. -/
def fnExactMeetRectsWrong : ChangeSpec := { name := "fnExactMeetRects", fn := fun _ => fun
  | [d1, d2] => { results := [.lit (.bool false)], args := [d1, d2] }
  | _ => none }
def FnExactMeetRectsWrongFalsely : Prop := fnExactMeetRectsRow.holds Try.pinned (OpenSpec.ofChange fnExactMeetRectsWrong)

/-- 'laws.FnExactHullRects': WHATEVER THE INPUT: true; the input reads as it did. -/
def fnExactHullRectsSpec : ChangeSpec := { name := "fnExactHullRects", fn := fun _ => fun
  | [d1, d2] => { results := [.lit (.bool true)], args := [d1, d2] }
  | _ => none }
def fnExactHullRectsRow : OpenClaim := { program := "ytojmohdfpoimaaa", sum := "ede07c069fcd9be97770cc2ab823f374983b8d313198a8bcd8ad313635d691f3", func := "loop.example/twoplayers/laws.FnExactHullRects", spec := "fnExactHullRects", apart := false }
def FnExactHullRectsSaid : Prop := fnExactHullRectsRow.holds Try.pinned (OpenSpec.ofChange fnExactHullRectsSpec)

/-- ITS FALSE NEIGHBOUR: 'it returns false'. Refute it at one input. -/
def fnExactHullRectsWrong : ChangeSpec := { name := "fnExactHullRects", fn := fun _ => fun
  | [d1, d2] => { results := [.lit (.bool false)], args := [d1, d2] }
  | _ => none }
def FnExactHullRectsWrongFalsely : Prop := fnExactHullRectsRow.holds Try.pinned (OpenSpec.ofChange fnExactHullRectsWrong)

/- THE SECOND FORM. 'bulk': how many values and letters a reading holds, each counted each time it is reached (what is shared counts as often as it is met; a slice's spare places count too). A statement '..UptoSaid' is the law's where the arguments, and the package variables that the reading takes, are together of bulk at most 1048576: NARROWER than '..Said'. Prove '..Said' where nothing that the law and all that it calls make is longer than what came in: it says more and counts as full. Else prove '..UptoSaid'. A law counts once. -/
mutual
def uptoBulk {H : Type} : DataW H → Nat
  | .lit (.string bytes) => bytes.length + 1
  | .lit _ => 1
  | .nil => 1
  | .ptr d => uptoBulk d + 1
  | .slice elems spare => uptoBulkAll elems + uptoBulkAll spare + 1
  | .agg parts => uptoBulkAll parts + 1
  | .iface _ d => uptoBulk d + 1
  | .map entries => uptoBulkEntries entries + 1
  | .held _ => 1
def uptoBulkAll {H : Type} : List (DataW H) → Nat
  | [] => 0
  | d :: r => uptoBulk d + uptoBulkAll r
def uptoBulkEntries {H : Type} : List (Lit × DataW H) → Nat
  | [] => 0
  | x :: r => uptoBulkEntry x + uptoBulkEntries r
def uptoBulkEntry {H : Type} : Lit × DataW H → Nat
  | (.string bytes, d) => bytes.length + uptoBulk d + 1
  | (_, d) => uptoBulk d + 1
 end
def uptoSmall : (H : Type) → List (DataW H) → Bool := fun _ ds => decide (uptoBulkAll ds ≤ 1048576)
def OpenSpec.upto (s : _root_.Go.ChangeSpec) : _root_.Go.OpenSpec := { _root_.Go.OpenSpec.ofChange s with cond := some uptoSmall }

/-- 'laws.FnExactFormatRect', WHERE WHAT IT READS IS OF BULK AT MOST 1048576: true; the input reads as it did. -/
def fnExactFormatRectUptoRow : OpenClaim := { program := "ytojmohdfpoimaaa", sum := "ede07c069fcd9be97770cc2ab823f374983b8d313198a8bcd8ad313635d691f3", func := "loop.example/twoplayers/laws.FnExactFormatRect", spec := "fnExactFormatRect", unfollowed := true, recurses := true, apart := false, narrowed := true }
def FnExactFormatRectUptoSaid : Prop := fnExactFormatRectUptoRow.holds Try.pinned (OpenSpec.upto fnExactFormatRectSpec)

/-- 'laws.FnExactParseRect', WHERE WHAT IT READS IS OF BULK AT MOST 1048576: true; the input reads as it did. -/
def fnExactParseRectUptoRow : OpenClaim := { program := "ytojmohdfpoimaaa", sum := "ede07c069fcd9be97770cc2ab823f374983b8d313198a8bcd8ad313635d691f3", func := "loop.example/twoplayers/laws.FnExactParseRect", spec := "fnExactParseRect", inPlace := ["internal/bytealg.IndexByteString", "internal/bytealg.IndexString"], unfollowed := true, recurses := true, named := ["internal/bytealg.MaxLen"], apart := false, narrowed := true }
def FnExactParseRectUptoSaid : Prop := fnExactParseRectUptoRow.holds Try.pinned (OpenSpec.upto fnExactParseRectSpec)

/-- 'laws.FnExactInRect', WHERE WHAT IT READS IS OF BULK AT MOST 1048576: true; the input reads as it did. -/
def fnExactInRectUptoRow : OpenClaim := { program := "ytojmohdfpoimaaa", sum := "ede07c069fcd9be97770cc2ab823f374983b8d313198a8bcd8ad313635d691f3", func := "loop.example/twoplayers/laws.FnExactInRect", spec := "fnExactInRect", apart := false, narrowed := true }
def FnExactInRectUptoSaid : Prop := fnExactInRectUptoRow.holds Try.pinned (OpenSpec.upto fnExactInRectSpec)

/-- 'laws.FnExactAreaOf', WHERE WHAT IT READS IS OF BULK AT MOST 1048576: true; the input reads as it did. -/
def fnExactAreaOfUptoRow : OpenClaim := { program := "ytojmohdfpoimaaa", sum := "ede07c069fcd9be97770cc2ab823f374983b8d313198a8bcd8ad313635d691f3", func := "loop.example/twoplayers/laws.FnExactAreaOf", spec := "fnExactAreaOf", unfollowed := true, recurses := true, apart := false, narrowed := true }
def FnExactAreaOfUptoSaid : Prop := fnExactAreaOfUptoRow.holds Try.pinned (OpenSpec.upto fnExactAreaOfSpec)

/-- 'laws.FnExactMeetRects', WHERE WHAT IT READS IS OF BULK AT MOST 1048576: true; the input reads as it did. -/
def fnExactMeetRectsUptoRow : OpenClaim := { program := "ytojmohdfpoimaaa", sum := "ede07c069fcd9be97770cc2ab823f374983b8d313198a8bcd8ad313635d691f3", func := "loop.example/twoplayers/laws.FnExactMeetRects", spec := "fnExactMeetRects", apart := false, narrowed := true }
def FnExactMeetRectsUptoSaid : Prop := fnExactMeetRectsUptoRow.holds Try.pinned (OpenSpec.upto fnExactMeetRectsSpec)

/-- 'laws.FnExactHullRects', WHERE WHAT IT READS IS OF BULK AT MOST 1048576: true; the input reads as it did. -/
def fnExactHullRectsUptoRow : OpenClaim := { program := "ytojmohdfpoimaaa", sum := "ede07c069fcd9be97770cc2ab823f374983b8d313198a8bcd8ad313635d691f3", func := "loop.example/twoplayers/laws.FnExactHullRects", spec := "fnExactHullRects", apart := false, narrowed := true }
def FnExactHullRectsUptoSaid : Prop := fnExactHullRectsUptoRow.holds Try.pinned (OpenSpec.upto fnExactHullRectsSpec)

end Rows
end Go.Proofs.Ytojmohdfpoimaaa
