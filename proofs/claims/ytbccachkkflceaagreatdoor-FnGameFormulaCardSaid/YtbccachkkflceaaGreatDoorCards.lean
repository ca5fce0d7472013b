/-
  DERIVED. GIVEN WITH THE SEED: THE CARDS: each row of YtbccachkkflceaaGreatDoorRows.lean that lists a variable, with what it lists TIED to the program's text (the seventh form; the later family's looks); each row that meets fmt, with fmt's text TOLD by the authors' own Lean function (tested against real Go, not proved from fmt's source: count such statements apart). THE CARD IS WHAT COUNTS. Prove the row's statement (the work); the ties are given (YtbccachkkflceaaGreatDoorTie.lean); close each card by the builder's one call (the guide's Derived/Test/ToyasCard.lean, 'card_holds'). Laid BY PROGRAM, IN A SANDBOX (cutbox-door.mjs). By AI agents, Wed Nov 11 2026. No macro, syntax, notation, axiom, sorry.
-/
import Derived.Test.YtbccachkkflceaaGreatDoorRows
import GoSem.ClaimSeven
namespace Go.Proofs.YtbccachkkflceaaGreatDoor
namespace Rows

/-- THE TIED CARD OF 'laws.FnFormulaGame'. -/
def fnFormulaGameCard : Claim7 := { stood := { row := fnFormulaGameRow, standIns := [], harness := (true, "7c1b2f16dfc81e4ed805fe7af75aa2446c455b99a213e0ddcbb8efbdb0dddafa"), looks := true }, kinds := [], alts := [], laidByText := true, laidKinds := [.data, .pinned], laidTests := true, laidLooks := .later }
def FnFormulaGameCardSaid : Prop := Claim7.holds Tryz.pinned (.plain (OpenSpec.ofChange fnFormulaGameSpec)) fnFormulaGameCard

/-- THE TIED CARD OF 'laws.FnGameFormula'. -/
def fnGameFormulaCard : Claim7 := { stood := { row := fnGameFormulaRow, standIns := [], harness := (true, "7c1b2f16dfc81e4ed805fe7af75aa2446c455b99a213e0ddcbb8efbdb0dddafa"), looks := true }, kinds := [], alts := [], laidByText := true, laidKinds := [.data, .pinned], laidTests := true, laidLooks := .later }
def FnGameFormulaCardSaid : Prop := Claim7.holds Tryz.pinned (.plain (OpenSpec.ofChange fnGameFormulaSpec)) fnGameFormulaCard

/-- THE SECOND FORM's CARD OF 'laws.FnFormulaGame'. -/
def fnFormulaGameUptoCard : Claim7 := { stood := { row := fnFormulaGameUptoRow, standIns := [], harness := (true, "7c1b2f16dfc81e4ed805fe7af75aa2446c455b99a213e0ddcbb8efbdb0dddafa"), looks := true }, kinds := [], alts := [], laidByText := true, laidKinds := [.data, .pinned], laidTests := true, laidLooks := .later }
def FnFormulaGameUptoCardSaid : Prop := Claim7.holds Tryz.pinned (.plain (OpenSpec.upto fnFormulaGameSpec)) fnFormulaGameUptoCard

/-- THE SECOND FORM's CARD OF 'laws.FnGameFormula'. -/
def fnGameFormulaUptoCard : Claim7 := { stood := { row := fnGameFormulaUptoRow, standIns := [], harness := (true, "7c1b2f16dfc81e4ed805fe7af75aa2446c455b99a213e0ddcbb8efbdb0dddafa"), looks := true }, kinds := [], alts := [], laidByText := true, laidKinds := [.data, .pinned], laidTests := true, laidLooks := .later }
def FnGameFormulaUptoCardSaid : Prop := Claim7.holds Tryz.pinned (.plain (OpenSpec.upto fnGameFormulaSpec)) fnGameFormulaUptoCard
end Rows
end Go.Proofs.YtbccachkkflceaaGreatDoor
