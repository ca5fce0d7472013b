/-
  DERIVED. GIVEN WITH THE SEED: THE CARDS: each row of YtojmohdfpoimaabDoorRows.lean that lists a variable, with what it lists TIED to the program's text (the seventh form; the later family's looks); each row that meets fmt, with fmt's text TOLD by the authors' own Lean function (tested against real Go, not proved from fmt's source: count such statements apart). THE CARD IS WHAT COUNTS. Prove the row's statement (the work); the ties are given (YtojmohdfpoimaabDoorTie.lean); close each card by the builder's one call (the guide's Derived/Test/ToyasCard.lean, 'card_holds'). Laid BY PROGRAM, IN A SANDBOX (cutbox-door.mjs). By AI agents, Wed Nov 11 2026. No macro, syntax, notation, axiom, sorry.
-/
import Derived.Test.YtojmohdfpoimaabDoorRows
import GoSem.ClaimSeven
namespace Go.Proofs.YtojmohdfpoimaabDoor
namespace Rows

/-- THE TIED CARD OF 'laws.FnExactParseMatrix'. -/
def fnExactParseMatrixCard : Claim7 := { stood := { row := fnExactParseMatrixRow, standIns := [], harness := (true, "ab8a86951a687f026f84f180c4d990f4de2f061d3974998a0c2044e81a6e7c47"), looks := false }, kinds := [], alts := [], laidByText := true, laidKinds := [.data, .pinned], laidTests := true, laidLooks := .later }
def FnExactParseMatrixCardSaid : Prop := Claim7.holds Tryd.pinned (.plain (OpenSpec.ofChange fnExactParseMatrixSpec)) fnExactParseMatrixCard

/-- THE TIED CARD OF 'laws.FnExactShrinkMatrix'. -/
def fnExactShrinkMatrixCard : Claim7 := { stood := { row := fnExactShrinkMatrixRow, standIns := [], harness := (true, "ab8a86951a687f026f84f180c4d990f4de2f061d3974998a0c2044e81a6e7c47"), looks := false }, kinds := [], alts := [], laidByText := true, laidKinds := [.data, .pinned], laidTests := true, laidLooks := .later }
def FnExactShrinkMatrixCardSaid : Prop := Claim7.holds Tryd.pinned (.plain (OpenSpec.ofChange fnExactShrinkMatrixSpec)) fnExactShrinkMatrixCard

/-- THE TIED CARD OF 'laws.FnExactJoinMatrices'. -/
def fnExactJoinMatricesCard : Claim7 := { stood := { row := fnExactJoinMatricesRow, standIns := [], harness := (true, "ab8a86951a687f026f84f180c4d990f4de2f061d3974998a0c2044e81a6e7c47"), looks := false }, kinds := [], alts := [], laidByText := true, laidKinds := [.data, .pinned], laidTests := true, laidLooks := .later }
def FnExactJoinMatricesCardSaid : Prop := Claim7.holds Tryd.pinned (.plain (OpenSpec.ofChange fnExactJoinMatricesSpec)) fnExactJoinMatricesCard

/-- THE TIED CARD OF 'laws.FnExactPairMatrices'. -/
def fnExactPairMatricesCard : Claim7 := { stood := { row := fnExactPairMatricesRow, standIns := [], harness := (true, "ab8a86951a687f026f84f180c4d990f4de2f061d3974998a0c2044e81a6e7c47"), looks := false }, kinds := [], alts := [], laidByText := true, laidKinds := [.data, .pinned], laidTests := true, laidLooks := .later }
def FnExactPairMatricesCardSaid : Prop := Claim7.holds Tryd.pinned (.plain (OpenSpec.ofChange fnExactPairMatricesSpec)) fnExactPairMatricesCard

/-- THE TIED CARD OF 'laws.FnExactMaximalRects'. -/
def fnExactMaximalRectsCard : Claim7 := { stood := { row := fnExactMaximalRectsRow, standIns := [], harness := (true, "ab8a86951a687f026f84f180c4d990f4de2f061d3974998a0c2044e81a6e7c47"), looks := false }, kinds := [], alts := [], laidByText := true, laidKinds := [.data, .pinned], laidTests := true, laidLooks := .later }
def FnExactMaximalRectsCardSaid : Prop := Claim7.holds Tryd.pinned (.plain (OpenSpec.ofChange fnExactMaximalRectsSpec)) fnExactMaximalRectsCard

/-- THE TIED CARD OF 'laws.FnExactLargestRect'. -/
def fnExactLargestRectCard : Claim7 := { stood := { row := fnExactLargestRectRow, standIns := [], harness := (true, "ab8a86951a687f026f84f180c4d990f4de2f061d3974998a0c2044e81a6e7c47"), looks := false }, kinds := [], alts := [], laidByText := true, laidKinds := [.data, .pinned], laidTests := true, laidLooks := .later }
def FnExactLargestRectCardSaid : Prop := Claim7.holds Tryd.pinned (.plain (OpenSpec.ofChange fnExactLargestRectSpec)) fnExactLargestRectCard

/-- THE TIED CARD OF 'laws.FnExactDiscrepancyOf'. -/
def fnExactDiscrepancyOfCard : Claim7 := { stood := { row := fnExactDiscrepancyOfRow, standIns := [], harness := (true, "ab8a86951a687f026f84f180c4d990f4de2f061d3974998a0c2044e81a6e7c47"), looks := false }, kinds := [], alts := [], laidByText := true, laidKinds := [.data, .pinned], laidTests := true, laidLooks := .later }
def FnExactDiscrepancyOfCardSaid : Prop := Claim7.holds Tryd.pinned (.plain (OpenSpec.ofChange fnExactDiscrepancyOfSpec)) fnExactDiscrepancyOfCard

/-- THE SECOND FORM's CARD OF 'laws.FnExactParseMatrix'. -/
def fnExactParseMatrixUptoCard : Claim7 := { stood := { row := fnExactParseMatrixUptoRow, standIns := [], harness := (true, "ab8a86951a687f026f84f180c4d990f4de2f061d3974998a0c2044e81a6e7c47"), looks := false }, kinds := [], alts := [], laidByText := true, laidKinds := [.data, .pinned], laidTests := true, laidLooks := .later }
def FnExactParseMatrixUptoCardSaid : Prop := Claim7.holds Tryd.pinned (.plain (OpenSpec.upto fnExactParseMatrixSpec)) fnExactParseMatrixUptoCard

/-- THE SECOND FORM's CARD OF 'laws.FnExactShrinkMatrix'. -/
def fnExactShrinkMatrixUptoCard : Claim7 := { stood := { row := fnExactShrinkMatrixUptoRow, standIns := [], harness := (true, "ab8a86951a687f026f84f180c4d990f4de2f061d3974998a0c2044e81a6e7c47"), looks := false }, kinds := [], alts := [], laidByText := true, laidKinds := [.data, .pinned], laidTests := true, laidLooks := .later }
def FnExactShrinkMatrixUptoCardSaid : Prop := Claim7.holds Tryd.pinned (.plain (OpenSpec.upto fnExactShrinkMatrixSpec)) fnExactShrinkMatrixUptoCard

/-- THE SECOND FORM's CARD OF 'laws.FnExactJoinMatrices'. -/
def fnExactJoinMatricesUptoCard : Claim7 := { stood := { row := fnExactJoinMatricesUptoRow, standIns := [], harness := (true, "ab8a86951a687f026f84f180c4d990f4de2f061d3974998a0c2044e81a6e7c47"), looks := false }, kinds := [], alts := [], laidByText := true, laidKinds := [.data, .pinned], laidTests := true, laidLooks := .later }
def FnExactJoinMatricesUptoCardSaid : Prop := Claim7.holds Tryd.pinned (.plain (OpenSpec.upto fnExactJoinMatricesSpec)) fnExactJoinMatricesUptoCard

/-- THE SECOND FORM's CARD OF 'laws.FnExactPairMatrices'. -/
def fnExactPairMatricesUptoCard : Claim7 := { stood := { row := fnExactPairMatricesUptoRow, standIns := [], harness := (true, "ab8a86951a687f026f84f180c4d990f4de2f061d3974998a0c2044e81a6e7c47"), looks := false }, kinds := [], alts := [], laidByText := true, laidKinds := [.data, .pinned], laidTests := true, laidLooks := .later }
def FnExactPairMatricesUptoCardSaid : Prop := Claim7.holds Tryd.pinned (.plain (OpenSpec.upto fnExactPairMatricesSpec)) fnExactPairMatricesUptoCard

/-- THE SECOND FORM's CARD OF 'laws.FnExactMaximalRects'. -/
def fnExactMaximalRectsUptoCard : Claim7 := { stood := { row := fnExactMaximalRectsUptoRow, standIns := [], harness := (true, "ab8a86951a687f026f84f180c4d990f4de2f061d3974998a0c2044e81a6e7c47"), looks := false }, kinds := [], alts := [], laidByText := true, laidKinds := [.data, .pinned], laidTests := true, laidLooks := .later }
def FnExactMaximalRectsUptoCardSaid : Prop := Claim7.holds Tryd.pinned (.plain (OpenSpec.upto fnExactMaximalRectsSpec)) fnExactMaximalRectsUptoCard

/-- THE SECOND FORM's CARD OF 'laws.FnExactLargestRect'. -/
def fnExactLargestRectUptoCard : Claim7 := { stood := { row := fnExactLargestRectUptoRow, standIns := [], harness := (true, "ab8a86951a687f026f84f180c4d990f4de2f061d3974998a0c2044e81a6e7c47"), looks := false }, kinds := [], alts := [], laidByText := true, laidKinds := [.data, .pinned], laidTests := true, laidLooks := .later }
def FnExactLargestRectUptoCardSaid : Prop := Claim7.holds Tryd.pinned (.plain (OpenSpec.upto fnExactLargestRectSpec)) fnExactLargestRectUptoCard

/-- THE SECOND FORM's CARD OF 'laws.FnExactDiscrepancyOf'. -/
def fnExactDiscrepancyOfUptoCard : Claim7 := { stood := { row := fnExactDiscrepancyOfUptoRow, standIns := [], harness := (true, "ab8a86951a687f026f84f180c4d990f4de2f061d3974998a0c2044e81a6e7c47"), looks := false }, kinds := [], alts := [], laidByText := true, laidKinds := [.data, .pinned], laidTests := true, laidLooks := .later }
def FnExactDiscrepancyOfUptoCardSaid : Prop := Claim7.holds Tryd.pinned (.plain (OpenSpec.upto fnExactDiscrepancyOfSpec)) fnExactDiscrepancyOfUptoCard
end Rows
end Go.Proofs.YtojmohdfpoimaabDoor
