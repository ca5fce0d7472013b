/-
  DERIVED. GIVEN WITH THE SEED: THE CARDS: each row of YtkkclloabbhpdabDoorRows.lean that lists a variable, with what it lists TIED to the program's text (the seventh form; the later family's looks); each row that meets fmt, with fmt's text TOLD by the authors' own Lean function (tested against real Go, not proved from fmt's source: count such statements apart). THE CARD IS WHAT COUNTS. Prove the row's statement (the work); the ties are given (YtkkclloabbhpdabDoorTie.lean); close each card by the builder's one call (the guide's Derived/Test/ToyasCard.lean, 'card_holds'). Laid BY PROGRAM, IN A SANDBOX (cutbox-door.mjs). By AI agents, Wed Nov 11 2026. No macro, syntax, notation, axiom, sorry.
-/
import Derived.Test.YtkkclloabbhpdabDoorRows
import GoSem.ClaimSeven
namespace Go.Proofs.YtkkclloabbhpdabDoor
namespace Rows

/-- THE TIED CARD OF 'laws.FnExactPickMatrix'. -/
def fnExactPickMatrixCard : Claim7 := { stood := { row := fnExactPickMatrixRow, standIns := [], harness := (true, "0c393ee0f5c4e1fbfe174b55fea8ac476f8b1c68cc42784aaee385d69b507ece"), looks := false }, kinds := [], alts := [], laidByText := true, laidKinds := [.data, .pinned], laidTests := true, laidLooks := .later }
def FnExactPickMatrixCardSaid : Prop := Claim7.holds Tryd.pinned (.plain (OpenSpec.ofChange fnExactPickMatrixSpec)) fnExactPickMatrixCard

/-- THE TIED CARD OF 'laws.FnExactShrinkMatrix'. -/
def fnExactShrinkMatrixCard : Claim7 := { stood := { row := fnExactShrinkMatrixRow, standIns := [], harness := (true, "0c393ee0f5c4e1fbfe174b55fea8ac476f8b1c68cc42784aaee385d69b507ece"), looks := false }, kinds := [], alts := [], laidByText := true, laidKinds := [.data, .pinned], laidTests := true, laidLooks := .later }
def FnExactShrinkMatrixCardSaid : Prop := Claim7.holds Tryd.pinned (.plain (OpenSpec.ofChange fnExactShrinkMatrixSpec)) fnExactShrinkMatrixCard

/-- THE TIED CARD OF 'laws.FnExactJoinMatrices'. -/
def fnExactJoinMatricesCard : Claim7 := { stood := { row := fnExactJoinMatricesRow, standIns := [], harness := (true, "0c393ee0f5c4e1fbfe174b55fea8ac476f8b1c68cc42784aaee385d69b507ece"), looks := false }, kinds := [], alts := [], laidByText := true, laidKinds := [.data, .pinned], laidTests := true, laidLooks := .later }
def FnExactJoinMatricesCardSaid : Prop := Claim7.holds Tryd.pinned (.plain (OpenSpec.ofChange fnExactJoinMatricesSpec)) fnExactJoinMatricesCard

/-- THE TIED CARD OF 'laws.FnExactPairMatrices'. -/
def fnExactPairMatricesCard : Claim7 := { stood := { row := fnExactPairMatricesRow, standIns := [], harness := (true, "0c393ee0f5c4e1fbfe174b55fea8ac476f8b1c68cc42784aaee385d69b507ece"), looks := false }, kinds := [], alts := [], laidByText := true, laidKinds := [.data, .pinned], laidTests := true, laidLooks := .later }
def FnExactPairMatricesCardSaid : Prop := Claim7.holds Tryd.pinned (.plain (OpenSpec.ofChange fnExactPairMatricesSpec)) fnExactPairMatricesCard

/-- THE TIED CARD OF 'laws.FnExactCountOnes'. -/
def fnExactCountOnesCard : Claim7 := { stood := { row := fnExactCountOnesRow, standIns := [], harness := (true, "0c393ee0f5c4e1fbfe174b55fea8ac476f8b1c68cc42784aaee385d69b507ece"), looks := false }, kinds := [], alts := [], laidByText := true, laidKinds := [.data, .pinned], laidTests := true, laidLooks := .later }
def FnExactCountOnesCardSaid : Prop := Claim7.holds Tryd.pinned (.plain (OpenSpec.ofChange fnExactCountOnesSpec)) fnExactCountOnesCard

/-- THE SECOND FORM's CARD OF 'laws.FnExactPickMatrix'. -/
def fnExactPickMatrixUptoCard : Claim7 := { stood := { row := fnExactPickMatrixUptoRow, standIns := [], harness := (true, "0c393ee0f5c4e1fbfe174b55fea8ac476f8b1c68cc42784aaee385d69b507ece"), looks := false }, kinds := [], alts := [], laidByText := true, laidKinds := [.data, .pinned], laidTests := true, laidLooks := .later }
def FnExactPickMatrixUptoCardSaid : Prop := Claim7.holds Tryd.pinned (.plain (OpenSpec.upto fnExactPickMatrixSpec)) fnExactPickMatrixUptoCard

/-- THE SECOND FORM's CARD OF 'laws.FnExactShrinkMatrix'. -/
def fnExactShrinkMatrixUptoCard : Claim7 := { stood := { row := fnExactShrinkMatrixUptoRow, standIns := [], harness := (true, "0c393ee0f5c4e1fbfe174b55fea8ac476f8b1c68cc42784aaee385d69b507ece"), looks := false }, kinds := [], alts := [], laidByText := true, laidKinds := [.data, .pinned], laidTests := true, laidLooks := .later }
def FnExactShrinkMatrixUptoCardSaid : Prop := Claim7.holds Tryd.pinned (.plain (OpenSpec.upto fnExactShrinkMatrixSpec)) fnExactShrinkMatrixUptoCard

/-- THE SECOND FORM's CARD OF 'laws.FnExactJoinMatrices'. -/
def fnExactJoinMatricesUptoCard : Claim7 := { stood := { row := fnExactJoinMatricesUptoRow, standIns := [], harness := (true, "0c393ee0f5c4e1fbfe174b55fea8ac476f8b1c68cc42784aaee385d69b507ece"), looks := false }, kinds := [], alts := [], laidByText := true, laidKinds := [.data, .pinned], laidTests := true, laidLooks := .later }
def FnExactJoinMatricesUptoCardSaid : Prop := Claim7.holds Tryd.pinned (.plain (OpenSpec.upto fnExactJoinMatricesSpec)) fnExactJoinMatricesUptoCard

/-- THE SECOND FORM's CARD OF 'laws.FnExactPairMatrices'. -/
def fnExactPairMatricesUptoCard : Claim7 := { stood := { row := fnExactPairMatricesUptoRow, standIns := [], harness := (true, "0c393ee0f5c4e1fbfe174b55fea8ac476f8b1c68cc42784aaee385d69b507ece"), looks := false }, kinds := [], alts := [], laidByText := true, laidKinds := [.data, .pinned], laidTests := true, laidLooks := .later }
def FnExactPairMatricesUptoCardSaid : Prop := Claim7.holds Tryd.pinned (.plain (OpenSpec.upto fnExactPairMatricesSpec)) fnExactPairMatricesUptoCard

/-- THE SECOND FORM's CARD OF 'laws.FnExactCountOnes'. -/
def fnExactCountOnesUptoCard : Claim7 := { stood := { row := fnExactCountOnesUptoRow, standIns := [], harness := (true, "0c393ee0f5c4e1fbfe174b55fea8ac476f8b1c68cc42784aaee385d69b507ece"), looks := false }, kinds := [], alts := [], laidByText := true, laidKinds := [.data, .pinned], laidTests := true, laidLooks := .later }
def FnExactCountOnesUptoCardSaid : Prop := Claim7.holds Tryd.pinned (.plain (OpenSpec.upto fnExactCountOnesSpec)) fnExactCountOnesUptoCard
end Rows
end Go.Proofs.YtkkclloabbhpdabDoor
