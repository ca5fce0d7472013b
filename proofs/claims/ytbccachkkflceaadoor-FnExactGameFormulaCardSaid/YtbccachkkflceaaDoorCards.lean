/-
  DERIVED. GIVEN WITH THE SEED: THE CARDS: each row of YtbccachkkflceaaDoorRows.lean that lists a variable, with what it lists TIED to the program's text (the seventh form; the later family's looks); each row that meets fmt, with fmt's text TOLD by the authors' own Lean function (tested against real Go, not proved from fmt's source: count such statements apart). THE CARD IS WHAT COUNTS. Prove the row's statement (the work); the ties are given (YtbccachkkflceaaDoorTie.lean); close each card by the builder's one call (the guide's Derived/Test/ToyasCard.lean, 'card_holds'). Laid BY PROGRAM, IN A SANDBOX (cutbox-door.mjs). By AI agents, Wed Nov 11 2026. No macro, syntax, notation, axiom, sorry.
-/
import Derived.Test.YtbccachkkflceaaDoorRows
import GoSem.ClaimSeven
namespace Go.Proofs.YtbccachkkflceaaDoor
namespace Rows

/-- THE TIED CARD OF 'laws.FnExactPlaysGame'. -/
def fnExactPlaysGameCard : Claim7 := { stood := { row := fnExactPlaysGameRow, standIns := [], harness := (true, "37143610810a874b57e7012229d87bd32fbbea3b2bb6c59862590f7601b8c145"), looks := true }, kinds := [], alts := [], laidByText := true, laidKinds := [.data, .pinned], laidTests := true, laidLooks := .later }
def FnExactPlaysGameCardSaid : Prop := Claim7.holds Tryd.pinned (.plain (OpenSpec.ofChange fnExactPlaysGameSpec)) fnExactPlaysGameCard

/-- THE TIED CARD OF 'laws.FnExactGameFormula'. -/
def fnExactGameFormulaCard : Claim7 := { stood := { row := fnExactGameFormulaRow, standIns := [], harness := (true, "37143610810a874b57e7012229d87bd32fbbea3b2bb6c59862590f7601b8c145"), looks := true }, kinds := [], alts := [], laidByText := true, laidKinds := [.data, .pinned], laidTests := true, laidLooks := .later }
def FnExactGameFormulaCardSaid : Prop := Claim7.holds Tryd.pinned (.plain (OpenSpec.ofChange fnExactGameFormulaSpec)) fnExactGameFormulaCard

/-- THE TIED CARD OF 'laws.FnExactLeastGameBits'. -/
def fnExactLeastGameBitsCard : Claim7 := { stood := { row := fnExactLeastGameBitsRow, standIns := [], harness := (true, "37143610810a874b57e7012229d87bd32fbbea3b2bb6c59862590f7601b8c145"), looks := true }, kinds := [], alts := [], laidByText := true, laidKinds := [.data, .pinned], laidTests := true, laidLooks := .later }
def FnExactLeastGameBitsCardSaid : Prop := Claim7.holds Tryd.pinned (.plain (OpenSpec.ofChange fnExactLeastGameBitsSpec)) fnExactLeastGameBitsCard

/-- THE TIED CARD OF 'laws.FnExactLeastGameEnds'. -/
def fnExactLeastGameEndsCard : Claim7 := { stood := { row := fnExactLeastGameEndsRow, standIns := [], harness := (true, "37143610810a874b57e7012229d87bd32fbbea3b2bb6c59862590f7601b8c145"), looks := true }, kinds := [], alts := [], laidByText := true, laidKinds := [.data, .pinned], laidTests := true, laidLooks := .later }
def FnExactLeastGameEndsCardSaid : Prop := Claim7.holds Tryd.pinned (.plain (OpenSpec.ofChange fnExactLeastGameEndsSpec)) fnExactLeastGameEndsCard

/-- THE TIED CARD OF 'laws.FnExactBestGame'. -/
def fnExactBestGameCard : Claim7 := { stood := { row := fnExactBestGameRow, standIns := [], harness := (true, "37143610810a874b57e7012229d87bd32fbbea3b2bb6c59862590f7601b8c145"), looks := true }, kinds := [], alts := [], laidByText := true, laidKinds := [.data, .pinned], laidTests := true, laidLooks := .later }
def FnExactBestGameCardSaid : Prop := Claim7.holds Tryd.pinned (.plain (OpenSpec.ofChange fnExactBestGameSpec)) fnExactBestGameCard

/-- THE SECOND FORM's CARD OF 'laws.FnExactPlaysGame'. -/
def fnExactPlaysGameUptoCard : Claim7 := { stood := { row := fnExactPlaysGameUptoRow, standIns := [], harness := (true, "37143610810a874b57e7012229d87bd32fbbea3b2bb6c59862590f7601b8c145"), looks := true }, kinds := [], alts := [], laidByText := true, laidKinds := [.data, .pinned], laidTests := true, laidLooks := .later }
def FnExactPlaysGameUptoCardSaid : Prop := Claim7.holds Tryd.pinned (.plain (OpenSpec.upto fnExactPlaysGameSpec)) fnExactPlaysGameUptoCard

/-- THE SECOND FORM's CARD OF 'laws.FnExactGameFormula'. -/
def fnExactGameFormulaUptoCard : Claim7 := { stood := { row := fnExactGameFormulaUptoRow, standIns := [], harness := (true, "37143610810a874b57e7012229d87bd32fbbea3b2bb6c59862590f7601b8c145"), looks := true }, kinds := [], alts := [], laidByText := true, laidKinds := [.data, .pinned], laidTests := true, laidLooks := .later }
def FnExactGameFormulaUptoCardSaid : Prop := Claim7.holds Tryd.pinned (.plain (OpenSpec.upto fnExactGameFormulaSpec)) fnExactGameFormulaUptoCard

/-- THE SECOND FORM's CARD OF 'laws.FnExactLeastGameBits'. -/
def fnExactLeastGameBitsUptoCard : Claim7 := { stood := { row := fnExactLeastGameBitsUptoRow, standIns := [], harness := (true, "37143610810a874b57e7012229d87bd32fbbea3b2bb6c59862590f7601b8c145"), looks := true }, kinds := [], alts := [], laidByText := true, laidKinds := [.data, .pinned], laidTests := true, laidLooks := .later }
def FnExactLeastGameBitsUptoCardSaid : Prop := Claim7.holds Tryd.pinned (.plain (OpenSpec.upto fnExactLeastGameBitsSpec)) fnExactLeastGameBitsUptoCard

/-- THE SECOND FORM's CARD OF 'laws.FnExactLeastGameEnds'. -/
def fnExactLeastGameEndsUptoCard : Claim7 := { stood := { row := fnExactLeastGameEndsUptoRow, standIns := [], harness := (true, "37143610810a874b57e7012229d87bd32fbbea3b2bb6c59862590f7601b8c145"), looks := true }, kinds := [], alts := [], laidByText := true, laidKinds := [.data, .pinned], laidTests := true, laidLooks := .later }
def FnExactLeastGameEndsUptoCardSaid : Prop := Claim7.holds Tryd.pinned (.plain (OpenSpec.upto fnExactLeastGameEndsSpec)) fnExactLeastGameEndsUptoCard

/-- THE SECOND FORM's CARD OF 'laws.FnExactBestGame'. -/
def fnExactBestGameUptoCard : Claim7 := { stood := { row := fnExactBestGameUptoRow, standIns := [], harness := (true, "37143610810a874b57e7012229d87bd32fbbea3b2bb6c59862590f7601b8c145"), looks := true }, kinds := [], alts := [], laidByText := true, laidKinds := [.data, .pinned], laidTests := true, laidLooks := .later }
def FnExactBestGameUptoCardSaid : Prop := Claim7.holds Tryd.pinned (.plain (OpenSpec.upto fnExactBestGameSpec)) fnExactBestGameUptoCard
end Rows
end Go.Proofs.YtbccachkkflceaaDoor
