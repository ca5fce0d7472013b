/-
  DERIVED. GIVEN WITH THE SEED: THE CARDS: each row of YtalechngagkklaaDoorRows.lean that lists a variable, with what it lists TIED to the program's text (the seventh form; the later family's looks); each row that meets fmt, with fmt's text TOLD by the authors' own Lean function (tested against real Go, not proved from fmt's source: count such statements apart). THE CARD IS WHAT COUNTS. Prove the row's statement (the work); the ties are given (YtalechngagkklaaDoorTie.lean); close each card by the builder's one call (the guide's Derived/Test/ToyasCard.lean, 'card_holds'). Laid BY PROGRAM, IN A SANDBOX (cutbox-door.mjs). By AI agents, Wed Nov 11 2026. No macro, syntax, notation, axiom, sorry.
-/
import Derived.Test.YtalechngagkklaaDoorRows
import GoSem.ClaimSeven
namespace Go.Proofs.YtalechngagkklaaDoor
namespace Rows

/-- THE TIED CARD OF 'laws.FnColour'. -/
def fnColourCard : Claim7 := { stood := { row := fnColourRow, standIns := [], harness := (true, "d4b8701cc915529b490fd90dcfa5b8b1c6bc949df6fa885a521dfc5b883ae859"), looks := false }, kinds := [], alts := [], laidByText := true, laidKinds := [.data, .pinned], laidTests := true, laidLooks := .later }
def FnColourCardSaid : Prop := Claim7.holds Tryd.pinned (.plain (OpenSpec.ofChange fnColourSpec)) fnColourCard

/-- THE TIED CARD OF 'laws.FnTurnOther'. -/
def fnTurnOtherCard : Claim7 := { stood := { row := fnTurnOtherRow, standIns := [], harness := (true, "d4b8701cc915529b490fd90dcfa5b8b1c6bc949df6fa885a521dfc5b883ae859"), looks := false }, kinds := [], alts := [], laidByText := true, laidKinds := [.data, .pinned], laidTests := true, laidLooks := .later }
def FnTurnOtherCardSaid : Prop := Claim7.holds Tryd.pinned (.plain (OpenSpec.ofChange fnTurnOtherSpec)) fnTurnOtherCard

/-- THE TIED CARD OF 'laws.FnMatrixText'. -/
def fnMatrixTextCard : Claim7 := { stood := { row := fnMatrixTextRow, standIns := [], harness := (true, "d4b8701cc915529b490fd90dcfa5b8b1c6bc949df6fa885a521dfc5b883ae859"), looks := false }, kinds := [], alts := [], laidByText := true, laidKinds := [.data, .pinned], laidTests := true, laidLooks := .later }
def FnMatrixTextCardSaid : Prop := Claim7.holds Tryd.pinned (.plain (OpenSpec.ofChange fnMatrixTextSpec)) fnMatrixTextCard

/-- THE TIED CARD OF 'laws.FnExactLargestRect'. -/
def fnExactLargestRectCard : Claim7 := { stood := { row := fnExactLargestRectRow, standIns := [], harness := (true, "d4b8701cc915529b490fd90dcfa5b8b1c6bc949df6fa885a521dfc5b883ae859"), looks := false }, kinds := [], alts := [], laidByText := true, laidKinds := [.data, .pinned], laidTests := true, laidLooks := .later }
def FnExactLargestRectCardSaid : Prop := Claim7.holds Tryd.pinned (.plain (OpenSpec.ofChange fnExactLargestRectSpec)) fnExactLargestRectCard

/-- THE TIED CARD OF 'laws.FnExactIsFooling'. -/
def fnExactIsFoolingCard : Claim7 := { stood := { row := fnExactIsFoolingRow, standIns := [], harness := (true, "d4b8701cc915529b490fd90dcfa5b8b1c6bc949df6fa885a521dfc5b883ae859"), looks := false }, kinds := [], alts := [], laidByText := true, laidKinds := [.data, .pinned], laidTests := true, laidLooks := .later }
def FnExactIsFoolingCardSaid : Prop := Claim7.holds Tryd.pinned (.plain (OpenSpec.ofChange fnExactIsFoolingSpec)) fnExactIsFoolingCard

/-- THE TIED CARD OF 'laws.FnJoinMatrices'. -/
def fnJoinMatricesCard : Claim7 := { stood := { row := fnJoinMatricesRow, standIns := [], harness := (true, "d4b8701cc915529b490fd90dcfa5b8b1c6bc949df6fa885a521dfc5b883ae859"), looks := false }, kinds := [], alts := [], laidByText := true, laidKinds := [.data, .pinned], laidTests := true, laidLooks := .later }
def FnJoinMatricesCardSaid : Prop := Claim7.holds Tryd.pinned (.plain (OpenSpec.ofChange fnJoinMatricesSpec)) fnJoinMatricesCard

/-- THE TIED CARD OF 'laws.FnPairMatrices'. -/
def fnPairMatricesCard : Claim7 := { stood := { row := fnPairMatricesRow, standIns := [], harness := (true, "d4b8701cc915529b490fd90dcfa5b8b1c6bc949df6fa885a521dfc5b883ae859"), looks := false }, kinds := [], alts := [], laidByText := true, laidKinds := [.data, .pinned], laidTests := true, laidLooks := .later }
def FnPairMatricesCardSaid : Prop := Claim7.holds Tryd.pinned (.plain (OpenSpec.ofChange fnPairMatricesSpec)) fnPairMatricesCard

/-- THE TIED CARD OF 'laws.FnIsCover'. -/
def fnIsCoverCard : Claim7 := { stood := { row := fnIsCoverRow, standIns := [], harness := (true, "d4b8701cc915529b490fd90dcfa5b8b1c6bc949df6fa885a521dfc5b883ae859"), looks := false }, kinds := [], alts := [], laidByText := true, laidKinds := [.data, .pinned], laidTests := true, laidLooks := .later }
def FnIsCoverCardSaid : Prop := Claim7.holds Tryd.pinned (.plain (OpenSpec.ofChange fnIsCoverSpec)) fnIsCoverCard

/-- THE TIED CARD OF 'laws.FnIsPartition'. -/
def fnIsPartitionCard : Claim7 := { stood := { row := fnIsPartitionRow, standIns := [], harness := (true, "d4b8701cc915529b490fd90dcfa5b8b1c6bc949df6fa885a521dfc5b883ae859"), looks := false }, kinds := [], alts := [], laidByText := true, laidKinds := [.data, .pinned], laidTests := true, laidLooks := .later }
def FnIsPartitionCardSaid : Prop := Claim7.holds Tryd.pinned (.plain (OpenSpec.ofChange fnIsPartitionSpec)) fnIsPartitionCard

/-- THE SECOND FORM's CARD OF 'laws.FnColour'. -/
def fnColourUptoCard : Claim7 := { stood := { row := fnColourUptoRow, standIns := [], harness := (true, "d4b8701cc915529b490fd90dcfa5b8b1c6bc949df6fa885a521dfc5b883ae859"), looks := false }, kinds := [], alts := [], laidByText := true, laidKinds := [.data, .pinned], laidTests := true, laidLooks := .later }
def FnColourUptoCardSaid : Prop := Claim7.holds Tryd.pinned (.plain (OpenSpec.upto fnColourSpec)) fnColourUptoCard

/-- THE SECOND FORM's CARD OF 'laws.FnTurnOther'. -/
def fnTurnOtherUptoCard : Claim7 := { stood := { row := fnTurnOtherUptoRow, standIns := [], harness := (true, "d4b8701cc915529b490fd90dcfa5b8b1c6bc949df6fa885a521dfc5b883ae859"), looks := false }, kinds := [], alts := [], laidByText := true, laidKinds := [.data, .pinned], laidTests := true, laidLooks := .later }
def FnTurnOtherUptoCardSaid : Prop := Claim7.holds Tryd.pinned (.plain (OpenSpec.upto fnTurnOtherSpec)) fnTurnOtherUptoCard

/-- THE SECOND FORM's CARD OF 'laws.FnMatrixText'. -/
def fnMatrixTextUptoCard : Claim7 := { stood := { row := fnMatrixTextUptoRow, standIns := [], harness := (true, "d4b8701cc915529b490fd90dcfa5b8b1c6bc949df6fa885a521dfc5b883ae859"), looks := false }, kinds := [], alts := [], laidByText := true, laidKinds := [.data, .pinned], laidTests := true, laidLooks := .later }
def FnMatrixTextUptoCardSaid : Prop := Claim7.holds Tryd.pinned (.plain (OpenSpec.upto fnMatrixTextSpec)) fnMatrixTextUptoCard

/-- THE SECOND FORM's CARD OF 'laws.FnExactLargestRect'. -/
def fnExactLargestRectUptoCard : Claim7 := { stood := { row := fnExactLargestRectUptoRow, standIns := [], harness := (true, "d4b8701cc915529b490fd90dcfa5b8b1c6bc949df6fa885a521dfc5b883ae859"), looks := false }, kinds := [], alts := [], laidByText := true, laidKinds := [.data, .pinned], laidTests := true, laidLooks := .later }
def FnExactLargestRectUptoCardSaid : Prop := Claim7.holds Tryd.pinned (.plain (OpenSpec.upto fnExactLargestRectSpec)) fnExactLargestRectUptoCard

/-- THE SECOND FORM's CARD OF 'laws.FnExactIsFooling'. -/
def fnExactIsFoolingUptoCard : Claim7 := { stood := { row := fnExactIsFoolingUptoRow, standIns := [], harness := (true, "d4b8701cc915529b490fd90dcfa5b8b1c6bc949df6fa885a521dfc5b883ae859"), looks := false }, kinds := [], alts := [], laidByText := true, laidKinds := [.data, .pinned], laidTests := true, laidLooks := .later }
def FnExactIsFoolingUptoCardSaid : Prop := Claim7.holds Tryd.pinned (.plain (OpenSpec.upto fnExactIsFoolingSpec)) fnExactIsFoolingUptoCard

/-- THE SECOND FORM's CARD OF 'laws.FnJoinMatrices'. -/
def fnJoinMatricesUptoCard : Claim7 := { stood := { row := fnJoinMatricesUptoRow, standIns := [], harness := (true, "d4b8701cc915529b490fd90dcfa5b8b1c6bc949df6fa885a521dfc5b883ae859"), looks := false }, kinds := [], alts := [], laidByText := true, laidKinds := [.data, .pinned], laidTests := true, laidLooks := .later }
def FnJoinMatricesUptoCardSaid : Prop := Claim7.holds Tryd.pinned (.plain (OpenSpec.upto fnJoinMatricesSpec)) fnJoinMatricesUptoCard

/-- THE SECOND FORM's CARD OF 'laws.FnPairMatrices'. -/
def fnPairMatricesUptoCard : Claim7 := { stood := { row := fnPairMatricesUptoRow, standIns := [], harness := (true, "d4b8701cc915529b490fd90dcfa5b8b1c6bc949df6fa885a521dfc5b883ae859"), looks := false }, kinds := [], alts := [], laidByText := true, laidKinds := [.data, .pinned], laidTests := true, laidLooks := .later }
def FnPairMatricesUptoCardSaid : Prop := Claim7.holds Tryd.pinned (.plain (OpenSpec.upto fnPairMatricesSpec)) fnPairMatricesUptoCard

/-- THE SECOND FORM's CARD OF 'laws.FnIsCover'. -/
def fnIsCoverUptoCard : Claim7 := { stood := { row := fnIsCoverUptoRow, standIns := [], harness := (true, "d4b8701cc915529b490fd90dcfa5b8b1c6bc949df6fa885a521dfc5b883ae859"), looks := false }, kinds := [], alts := [], laidByText := true, laidKinds := [.data, .pinned], laidTests := true, laidLooks := .later }
def FnIsCoverUptoCardSaid : Prop := Claim7.holds Tryd.pinned (.plain (OpenSpec.upto fnIsCoverSpec)) fnIsCoverUptoCard

/-- THE SECOND FORM's CARD OF 'laws.FnIsPartition'. -/
def fnIsPartitionUptoCard : Claim7 := { stood := { row := fnIsPartitionUptoRow, standIns := [], harness := (true, "d4b8701cc915529b490fd90dcfa5b8b1c6bc949df6fa885a521dfc5b883ae859"), looks := false }, kinds := [], alts := [], laidByText := true, laidKinds := [.data, .pinned], laidTests := true, laidLooks := .later }
def FnIsPartitionUptoCardSaid : Prop := Claim7.holds Tryd.pinned (.plain (OpenSpec.upto fnIsPartitionSpec)) fnIsPartitionUptoCard
end Rows
end Go.Proofs.YtalechngagkklaaDoor
