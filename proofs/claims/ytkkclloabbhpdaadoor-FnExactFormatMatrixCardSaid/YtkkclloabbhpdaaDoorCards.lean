/-
  DERIVED. GIVEN WITH THE SEED: THE CARDS: each row of YtkkclloabbhpdaaDoorRows.lean that lists a variable, with what it lists TIED to the program's text (the seventh form; the later family's looks); each row that meets fmt, with fmt's text TOLD by the authors' own Lean function (tested against real Go, not proved from fmt's source: count such statements apart). THE CARD IS WHAT COUNTS. Prove the row's statement (the work); the ties are given (YtkkclloabbhpdaaDoorTie.lean); close each card by the builder's one call (the guide's Derived/Test/ToyasCard.lean, 'card_holds'). Laid BY PROGRAM, IN A SANDBOX (cutbox-door.mjs). By AI agents, Wed Nov 11 2026. No macro, syntax, notation, axiom, sorry.
-/
import Derived.Test.YtkkclloabbhpdaaDoorRows
import GoSem.ClaimSeven
namespace Go.Proofs.YtkkclloabbhpdaaDoor
namespace Rows

/-- THE TIED CARD OF 'laws.FnMatrixText'. -/
def fnMatrixTextCard : Claim7 := { stood := { row := fnMatrixTextRow, standIns := [], harness := (true, "94a9250b8bbf72243e31f2b9528b2316eaa7154460e7a6070dabf9879afe5143"), looks := false }, kinds := [], alts := [], laidByText := true, laidKinds := [.data, .pinned], laidTests := true, laidLooks := .later }
def FnMatrixTextCardSaid : Prop := Claim7.holds Tryd.pinned (.plain (OpenSpec.ofChange fnMatrixTextSpec)) fnMatrixTextCard

/-- THE TIED CARD OF 'laws.FnTurnOther'. -/
def fnTurnOtherCard : Claim7 := { stood := { row := fnTurnOtherRow, standIns := [], harness := (true, "94a9250b8bbf72243e31f2b9528b2316eaa7154460e7a6070dabf9879afe5143"), looks := false }, kinds := [], alts := [], laidByText := true, laidKinds := [.data, .pinned], laidTests := true, laidLooks := .later }
def FnTurnOtherCardSaid : Prop := Claim7.holds Tryd.pinned (.plain (OpenSpec.ofChange fnTurnOtherSpec)) fnTurnOtherCard

/-- THE TIED CARD OF 'laws.FnPick'. -/
def fnPickCard : Claim7 := { stood := { row := fnPickRow, standIns := [], harness := (true, "94a9250b8bbf72243e31f2b9528b2316eaa7154460e7a6070dabf9879afe5143"), looks := false }, kinds := [], alts := [], laidByText := true, laidKinds := [.data, .pinned], laidTests := true, laidLooks := .later }
def FnPickCardSaid : Prop := Claim7.holds Tryd.pinned (.plain (OpenSpec.ofChange fnPickSpec)) fnPickCard

/-- THE TIED CARD OF 'laws.FnShrink'. -/
def fnShrinkCard : Claim7 := { stood := { row := fnShrinkRow, standIns := [], harness := (true, "94a9250b8bbf72243e31f2b9528b2316eaa7154460e7a6070dabf9879afe5143"), looks := false }, kinds := [], alts := [], laidByText := true, laidKinds := [.data, .pinned], laidTests := true, laidLooks := .later }
def FnShrinkCardSaid : Prop := Claim7.holds Tryd.pinned (.plain (OpenSpec.ofChange fnShrinkSpec)) fnShrinkCard

/-- THE TIED CARD OF 'laws.FnJoinMatrices'. -/
def fnJoinMatricesCard : Claim7 := { stood := { row := fnJoinMatricesRow, standIns := [], harness := (true, "94a9250b8bbf72243e31f2b9528b2316eaa7154460e7a6070dabf9879afe5143"), looks := false }, kinds := [], alts := [], laidByText := true, laidKinds := [.data, .pinned], laidTests := true, laidLooks := .later }
def FnJoinMatricesCardSaid : Prop := Claim7.holds Tryd.pinned (.plain (OpenSpec.ofChange fnJoinMatricesSpec)) fnJoinMatricesCard

/-- THE TIED CARD OF 'laws.FnPairMatrices'. -/
def fnPairMatricesCard : Claim7 := { stood := { row := fnPairMatricesRow, standIns := [], harness := (true, "94a9250b8bbf72243e31f2b9528b2316eaa7154460e7a6070dabf9879afe5143"), looks := false }, kinds := [], alts := [], laidByText := true, laidKinds := [.data, .pinned], laidTests := true, laidLooks := .later }
def FnPairMatricesCardSaid : Prop := Claim7.holds Tryd.pinned (.plain (OpenSpec.ofChange fnPairMatricesSpec)) fnPairMatricesCard

/-- THE TIED CARD OF 'laws.FnExactMatrixValid'. -/
def fnExactMatrixValidCard : Claim7 := { stood := { row := fnExactMatrixValidRow, standIns := [], harness := (true, "94a9250b8bbf72243e31f2b9528b2316eaa7154460e7a6070dabf9879afe5143"), looks := false }, kinds := [], alts := [], laidByText := true, laidKinds := [.data, .pinned], laidTests := true, laidLooks := .later }
def FnExactMatrixValidCardSaid : Prop := Claim7.holds Tryd.pinned (.plain (OpenSpec.ofChange fnExactMatrixValidSpec)) fnExactMatrixValidCard

/-- THE TIED CARD OF 'laws.FnExactFormatMatrix'. -/
def fnExactFormatMatrixCard : Claim7 := { stood := { row := fnExactFormatMatrixRow, standIns := [], harness := (true, "94a9250b8bbf72243e31f2b9528b2316eaa7154460e7a6070dabf9879afe5143"), looks := false }, kinds := [], alts := [], laidByText := true, laidKinds := [.data, .pinned], laidTests := true, laidLooks := .later }
def FnExactFormatMatrixCardSaid : Prop := Claim7.holds Tryd.pinned (.plain (OpenSpec.ofChange fnExactFormatMatrixSpec)) fnExactFormatMatrixCard

/-- THE TIED CARD OF 'laws.FnExactParseMatrix'. -/
def fnExactParseMatrixCard : Claim7 := { stood := { row := fnExactParseMatrixRow, standIns := [], harness := (true, "94a9250b8bbf72243e31f2b9528b2316eaa7154460e7a6070dabf9879afe5143"), looks := false }, kinds := [], alts := [], laidByText := true, laidKinds := [.data, .pinned], laidTests := true, laidLooks := .later }
def FnExactParseMatrixCardSaid : Prop := Claim7.holds Tryd.pinned (.plain (OpenSpec.ofChange fnExactParseMatrixSpec)) fnExactParseMatrixCard

/-- THE TIED CARD OF 'laws.FnExactEntryOf'. -/
def fnExactEntryOfCard : Claim7 := { stood := { row := fnExactEntryOfRow, standIns := [], harness := (true, "94a9250b8bbf72243e31f2b9528b2316eaa7154460e7a6070dabf9879afe5143"), looks := false }, kinds := [], alts := [], laidByText := true, laidKinds := [.data, .pinned], laidTests := true, laidLooks := .later }
def FnExactEntryOfCardSaid : Prop := Claim7.holds Tryd.pinned (.plain (OpenSpec.ofChange fnExactEntryOfSpec)) fnExactEntryOfCard

/-- THE TIED CARD OF 'laws.FnExactTurnMatrix'. -/
def fnExactTurnMatrixCard : Claim7 := { stood := { row := fnExactTurnMatrixRow, standIns := [], harness := (true, "94a9250b8bbf72243e31f2b9528b2316eaa7154460e7a6070dabf9879afe5143"), looks := false }, kinds := [], alts := [], laidByText := true, laidKinds := [.data, .pinned], laidTests := true, laidLooks := .later }
def FnExactTurnMatrixCardSaid : Prop := Claim7.holds Tryd.pinned (.plain (OpenSpec.ofChange fnExactTurnMatrixSpec)) fnExactTurnMatrixCard

/-- THE TIED CARD OF 'laws.FnExactOtherMatrix'. -/
def fnExactOtherMatrixCard : Claim7 := { stood := { row := fnExactOtherMatrixRow, standIns := [], harness := (true, "94a9250b8bbf72243e31f2b9528b2316eaa7154460e7a6070dabf9879afe5143"), looks := false }, kinds := [], alts := [], laidByText := true, laidKinds := [.data, .pinned], laidTests := true, laidLooks := .later }
def FnExactOtherMatrixCardSaid : Prop := Claim7.holds Tryd.pinned (.plain (OpenSpec.ofChange fnExactOtherMatrixSpec)) fnExactOtherMatrixCard

/-- THE SECOND FORM's CARD OF 'laws.FnMatrixText'. -/
def fnMatrixTextUptoCard : Claim7 := { stood := { row := fnMatrixTextUptoRow, standIns := [], harness := (true, "94a9250b8bbf72243e31f2b9528b2316eaa7154460e7a6070dabf9879afe5143"), looks := false }, kinds := [], alts := [], laidByText := true, laidKinds := [.data, .pinned], laidTests := true, laidLooks := .later }
def FnMatrixTextUptoCardSaid : Prop := Claim7.holds Tryd.pinned (.plain (OpenSpec.upto fnMatrixTextSpec)) fnMatrixTextUptoCard

/-- THE SECOND FORM's CARD OF 'laws.FnTurnOther'. -/
def fnTurnOtherUptoCard : Claim7 := { stood := { row := fnTurnOtherUptoRow, standIns := [], harness := (true, "94a9250b8bbf72243e31f2b9528b2316eaa7154460e7a6070dabf9879afe5143"), looks := false }, kinds := [], alts := [], laidByText := true, laidKinds := [.data, .pinned], laidTests := true, laidLooks := .later }
def FnTurnOtherUptoCardSaid : Prop := Claim7.holds Tryd.pinned (.plain (OpenSpec.upto fnTurnOtherSpec)) fnTurnOtherUptoCard

/-- THE SECOND FORM's CARD OF 'laws.FnPick'. -/
def fnPickUptoCard : Claim7 := { stood := { row := fnPickUptoRow, standIns := [], harness := (true, "94a9250b8bbf72243e31f2b9528b2316eaa7154460e7a6070dabf9879afe5143"), looks := false }, kinds := [], alts := [], laidByText := true, laidKinds := [.data, .pinned], laidTests := true, laidLooks := .later }
def FnPickUptoCardSaid : Prop := Claim7.holds Tryd.pinned (.plain (OpenSpec.upto fnPickSpec)) fnPickUptoCard

/-- THE SECOND FORM's CARD OF 'laws.FnShrink'. -/
def fnShrinkUptoCard : Claim7 := { stood := { row := fnShrinkUptoRow, standIns := [], harness := (true, "94a9250b8bbf72243e31f2b9528b2316eaa7154460e7a6070dabf9879afe5143"), looks := false }, kinds := [], alts := [], laidByText := true, laidKinds := [.data, .pinned], laidTests := true, laidLooks := .later }
def FnShrinkUptoCardSaid : Prop := Claim7.holds Tryd.pinned (.plain (OpenSpec.upto fnShrinkSpec)) fnShrinkUptoCard

/-- THE SECOND FORM's CARD OF 'laws.FnJoinMatrices'. -/
def fnJoinMatricesUptoCard : Claim7 := { stood := { row := fnJoinMatricesUptoRow, standIns := [], harness := (true, "94a9250b8bbf72243e31f2b9528b2316eaa7154460e7a6070dabf9879afe5143"), looks := false }, kinds := [], alts := [], laidByText := true, laidKinds := [.data, .pinned], laidTests := true, laidLooks := .later }
def FnJoinMatricesUptoCardSaid : Prop := Claim7.holds Tryd.pinned (.plain (OpenSpec.upto fnJoinMatricesSpec)) fnJoinMatricesUptoCard

/-- THE SECOND FORM's CARD OF 'laws.FnPairMatrices'. -/
def fnPairMatricesUptoCard : Claim7 := { stood := { row := fnPairMatricesUptoRow, standIns := [], harness := (true, "94a9250b8bbf72243e31f2b9528b2316eaa7154460e7a6070dabf9879afe5143"), looks := false }, kinds := [], alts := [], laidByText := true, laidKinds := [.data, .pinned], laidTests := true, laidLooks := .later }
def FnPairMatricesUptoCardSaid : Prop := Claim7.holds Tryd.pinned (.plain (OpenSpec.upto fnPairMatricesSpec)) fnPairMatricesUptoCard

/-- THE SECOND FORM's CARD OF 'laws.FnExactMatrixValid'. -/
def fnExactMatrixValidUptoCard : Claim7 := { stood := { row := fnExactMatrixValidUptoRow, standIns := [], harness := (true, "94a9250b8bbf72243e31f2b9528b2316eaa7154460e7a6070dabf9879afe5143"), looks := false }, kinds := [], alts := [], laidByText := true, laidKinds := [.data, .pinned], laidTests := true, laidLooks := .later }
def FnExactMatrixValidUptoCardSaid : Prop := Claim7.holds Tryd.pinned (.plain (OpenSpec.upto fnExactMatrixValidSpec)) fnExactMatrixValidUptoCard

/-- THE SECOND FORM's CARD OF 'laws.FnExactFormatMatrix'. -/
def fnExactFormatMatrixUptoCard : Claim7 := { stood := { row := fnExactFormatMatrixUptoRow, standIns := [], harness := (true, "94a9250b8bbf72243e31f2b9528b2316eaa7154460e7a6070dabf9879afe5143"), looks := false }, kinds := [], alts := [], laidByText := true, laidKinds := [.data, .pinned], laidTests := true, laidLooks := .later }
def FnExactFormatMatrixUptoCardSaid : Prop := Claim7.holds Tryd.pinned (.plain (OpenSpec.upto fnExactFormatMatrixSpec)) fnExactFormatMatrixUptoCard

/-- THE SECOND FORM's CARD OF 'laws.FnExactParseMatrix'. -/
def fnExactParseMatrixUptoCard : Claim7 := { stood := { row := fnExactParseMatrixUptoRow, standIns := [], harness := (true, "94a9250b8bbf72243e31f2b9528b2316eaa7154460e7a6070dabf9879afe5143"), looks := false }, kinds := [], alts := [], laidByText := true, laidKinds := [.data, .pinned], laidTests := true, laidLooks := .later }
def FnExactParseMatrixUptoCardSaid : Prop := Claim7.holds Tryd.pinned (.plain (OpenSpec.upto fnExactParseMatrixSpec)) fnExactParseMatrixUptoCard

/-- THE SECOND FORM's CARD OF 'laws.FnExactEntryOf'. -/
def fnExactEntryOfUptoCard : Claim7 := { stood := { row := fnExactEntryOfUptoRow, standIns := [], harness := (true, "94a9250b8bbf72243e31f2b9528b2316eaa7154460e7a6070dabf9879afe5143"), looks := false }, kinds := [], alts := [], laidByText := true, laidKinds := [.data, .pinned], laidTests := true, laidLooks := .later }
def FnExactEntryOfUptoCardSaid : Prop := Claim7.holds Tryd.pinned (.plain (OpenSpec.upto fnExactEntryOfSpec)) fnExactEntryOfUptoCard

/-- THE SECOND FORM's CARD OF 'laws.FnExactTurnMatrix'. -/
def fnExactTurnMatrixUptoCard : Claim7 := { stood := { row := fnExactTurnMatrixUptoRow, standIns := [], harness := (true, "94a9250b8bbf72243e31f2b9528b2316eaa7154460e7a6070dabf9879afe5143"), looks := false }, kinds := [], alts := [], laidByText := true, laidKinds := [.data, .pinned], laidTests := true, laidLooks := .later }
def FnExactTurnMatrixUptoCardSaid : Prop := Claim7.holds Tryd.pinned (.plain (OpenSpec.upto fnExactTurnMatrixSpec)) fnExactTurnMatrixUptoCard

/-- THE SECOND FORM's CARD OF 'laws.FnExactOtherMatrix'. -/
def fnExactOtherMatrixUptoCard : Claim7 := { stood := { row := fnExactOtherMatrixUptoRow, standIns := [], harness := (true, "94a9250b8bbf72243e31f2b9528b2316eaa7154460e7a6070dabf9879afe5143"), looks := false }, kinds := [], alts := [], laidByText := true, laidKinds := [.data, .pinned], laidTests := true, laidLooks := .later }
def FnExactOtherMatrixUptoCardSaid : Prop := Claim7.holds Tryd.pinned (.plain (OpenSpec.upto fnExactOtherMatrixSpec)) fnExactOtherMatrixUptoCard
end Rows
end Go.Proofs.YtkkclloabbhpdaaDoor
