/-
  DERIVED. GIVEN WITH THE SEED: THE CARDS: each row of YtppmecpodleoiaaDoorRows.lean that lists a variable, with what it lists TIED to the program's text (the seventh form; the later family's looks); each row that meets fmt, with fmt's text TOLD by the authors' own Lean function (tested against real Go, not proved from fmt's source: count such statements apart). THE CARD IS WHAT COUNTS. Prove the row's statement (the work); the ties are given (YtppmecpodleoiaaDoorTie.lean); close each card by the builder's one call (the guide's Derived/Test/ToyasCard.lean, 'card_holds'). Laid BY PROGRAM, IN A SANDBOX (cutbox-door.mjs). By AI agents, Wed Nov 11 2026. No macro, syntax, notation, axiom, sorry.
-/
import Derived.Test.YtppmecpodleoiaaDoorRows
import GoSem.ClaimSeven
namespace Go.Proofs.YtppmecpodleoiaaDoor
namespace Rows

/-- THE TIED CARD OF 'laws.FnExactParseMatrix'. -/
def fnExactParseMatrixCard : Claim7 := { stood := { row := fnExactParseMatrixRow, standIns := [], harness := (true, "15a9626a5593ce61d6dfcb5d5173009a92c66e7bca9f06201db93f3e7b75ac22"), looks := false }, kinds := [], alts := [], laidByText := true, laidKinds := [.data, .pinned], laidTests := true, laidLooks := .later }
def FnExactParseMatrixCardSaid : Prop := Claim7.holds Tryd.pinned (.plain (OpenSpec.ofChange fnExactParseMatrixSpec)) fnExactParseMatrixCard

/-- THE TIED CARD OF 'laws.FnExactShrinkMatrix'. -/
def fnExactShrinkMatrixCard : Claim7 := { stood := { row := fnExactShrinkMatrixRow, standIns := [], harness := (true, "15a9626a5593ce61d6dfcb5d5173009a92c66e7bca9f06201db93f3e7b75ac22"), looks := false }, kinds := [], alts := [], laidByText := true, laidKinds := [.data, .pinned], laidTests := true, laidLooks := .later }
def FnExactShrinkMatrixCardSaid : Prop := Claim7.holds Tryd.pinned (.plain (OpenSpec.ofChange fnExactShrinkMatrixSpec)) fnExactShrinkMatrixCard

/-- THE TIED CARD OF 'laws.FnExactMaximalRects'. -/
def fnExactMaximalRectsCard : Claim7 := { stood := { row := fnExactMaximalRectsRow, standIns := [], harness := (true, "15a9626a5593ce61d6dfcb5d5173009a92c66e7bca9f06201db93f3e7b75ac22"), looks := false }, kinds := [], alts := [], laidByText := true, laidKinds := [.data, .pinned], laidTests := true, laidLooks := .later }
def FnExactMaximalRectsCardSaid : Prop := Claim7.holds Tryd.pinned (.plain (OpenSpec.ofChange fnExactMaximalRectsSpec)) fnExactMaximalRectsCard

/-- THE TIED CARD OF 'laws.FnExactLargestRect'. -/
def fnExactLargestRectCard : Claim7 := { stood := { row := fnExactLargestRectRow, standIns := [], harness := (true, "15a9626a5593ce61d6dfcb5d5173009a92c66e7bca9f06201db93f3e7b75ac22"), looks := false }, kinds := [], alts := [], laidByText := true, laidKinds := [.data, .pinned], laidTests := true, laidLooks := .later }
def FnExactLargestRectCardSaid : Prop := Claim7.holds Tryd.pinned (.plain (OpenSpec.ofChange fnExactLargestRectSpec)) fnExactLargestRectCard

/-- THE TIED CARD OF 'laws.FnExactIsCover'. -/
def fnExactIsCoverCard : Claim7 := { stood := { row := fnExactIsCoverRow, standIns := [], harness := (true, "15a9626a5593ce61d6dfcb5d5173009a92c66e7bca9f06201db93f3e7b75ac22"), looks := false }, kinds := [], alts := [], laidByText := true, laidKinds := [.data, .pinned], laidTests := true, laidLooks := .later }
def FnExactIsCoverCardSaid : Prop := Claim7.holds Tryd.pinned (.plain (OpenSpec.ofChange fnExactIsCoverSpec)) fnExactIsCoverCard

/-- THE TIED CARD OF 'laws.FnExactIsPartition'. -/
def fnExactIsPartitionCard : Claim7 := { stood := { row := fnExactIsPartitionRow, standIns := [], harness := (true, "15a9626a5593ce61d6dfcb5d5173009a92c66e7bca9f06201db93f3e7b75ac22"), looks := false }, kinds := [], alts := [], laidByText := true, laidKinds := [.data, .pinned], laidTests := true, laidLooks := .later }
def FnExactIsPartitionCardSaid : Prop := Claim7.holds Tryd.pinned (.plain (OpenSpec.ofChange fnExactIsPartitionSpec)) fnExactIsPartitionCard

/-- THE TIED CARD OF 'laws.FnExactDiscrepancyOf'. -/
def fnExactDiscrepancyOfCard : Claim7 := { stood := { row := fnExactDiscrepancyOfRow, standIns := [], harness := (true, "15a9626a5593ce61d6dfcb5d5173009a92c66e7bca9f06201db93f3e7b75ac22"), looks := false }, kinds := [], alts := [], laidByText := true, laidKinds := [.data, .pinned], laidTests := true, laidLooks := .later }
def FnExactDiscrepancyOfCardSaid : Prop := Claim7.holds Tryd.pinned (.plain (OpenSpec.ofChange fnExactDiscrepancyOfSpec)) fnExactDiscrepancyOfCard

/-- THE SECOND FORM's CARD OF 'laws.FnExactParseMatrix'. -/
def fnExactParseMatrixUptoCard : Claim7 := { stood := { row := fnExactParseMatrixUptoRow, standIns := [], harness := (true, "15a9626a5593ce61d6dfcb5d5173009a92c66e7bca9f06201db93f3e7b75ac22"), looks := false }, kinds := [], alts := [], laidByText := true, laidKinds := [.data, .pinned], laidTests := true, laidLooks := .later }
def FnExactParseMatrixUptoCardSaid : Prop := Claim7.holds Tryd.pinned (.plain (OpenSpec.upto fnExactParseMatrixSpec)) fnExactParseMatrixUptoCard

/-- THE SECOND FORM's CARD OF 'laws.FnExactShrinkMatrix'. -/
def fnExactShrinkMatrixUptoCard : Claim7 := { stood := { row := fnExactShrinkMatrixUptoRow, standIns := [], harness := (true, "15a9626a5593ce61d6dfcb5d5173009a92c66e7bca9f06201db93f3e7b75ac22"), looks := false }, kinds := [], alts := [], laidByText := true, laidKinds := [.data, .pinned], laidTests := true, laidLooks := .later }
def FnExactShrinkMatrixUptoCardSaid : Prop := Claim7.holds Tryd.pinned (.plain (OpenSpec.upto fnExactShrinkMatrixSpec)) fnExactShrinkMatrixUptoCard

/-- THE SECOND FORM's CARD OF 'laws.FnExactMaximalRects'. -/
def fnExactMaximalRectsUptoCard : Claim7 := { stood := { row := fnExactMaximalRectsUptoRow, standIns := [], harness := (true, "15a9626a5593ce61d6dfcb5d5173009a92c66e7bca9f06201db93f3e7b75ac22"), looks := false }, kinds := [], alts := [], laidByText := true, laidKinds := [.data, .pinned], laidTests := true, laidLooks := .later }
def FnExactMaximalRectsUptoCardSaid : Prop := Claim7.holds Tryd.pinned (.plain (OpenSpec.upto fnExactMaximalRectsSpec)) fnExactMaximalRectsUptoCard

/-- THE SECOND FORM's CARD OF 'laws.FnExactLargestRect'. -/
def fnExactLargestRectUptoCard : Claim7 := { stood := { row := fnExactLargestRectUptoRow, standIns := [], harness := (true, "15a9626a5593ce61d6dfcb5d5173009a92c66e7bca9f06201db93f3e7b75ac22"), looks := false }, kinds := [], alts := [], laidByText := true, laidKinds := [.data, .pinned], laidTests := true, laidLooks := .later }
def FnExactLargestRectUptoCardSaid : Prop := Claim7.holds Tryd.pinned (.plain (OpenSpec.upto fnExactLargestRectSpec)) fnExactLargestRectUptoCard

/-- THE SECOND FORM's CARD OF 'laws.FnExactIsCover'. -/
def fnExactIsCoverUptoCard : Claim7 := { stood := { row := fnExactIsCoverUptoRow, standIns := [], harness := (true, "15a9626a5593ce61d6dfcb5d5173009a92c66e7bca9f06201db93f3e7b75ac22"), looks := false }, kinds := [], alts := [], laidByText := true, laidKinds := [.data, .pinned], laidTests := true, laidLooks := .later }
def FnExactIsCoverUptoCardSaid : Prop := Claim7.holds Tryd.pinned (.plain (OpenSpec.upto fnExactIsCoverSpec)) fnExactIsCoverUptoCard

/-- THE SECOND FORM's CARD OF 'laws.FnExactIsPartition'. -/
def fnExactIsPartitionUptoCard : Claim7 := { stood := { row := fnExactIsPartitionUptoRow, standIns := [], harness := (true, "15a9626a5593ce61d6dfcb5d5173009a92c66e7bca9f06201db93f3e7b75ac22"), looks := false }, kinds := [], alts := [], laidByText := true, laidKinds := [.data, .pinned], laidTests := true, laidLooks := .later }
def FnExactIsPartitionUptoCardSaid : Prop := Claim7.holds Tryd.pinned (.plain (OpenSpec.upto fnExactIsPartitionSpec)) fnExactIsPartitionUptoCard

/-- THE SECOND FORM's CARD OF 'laws.FnExactDiscrepancyOf'. -/
def fnExactDiscrepancyOfUptoCard : Claim7 := { stood := { row := fnExactDiscrepancyOfUptoRow, standIns := [], harness := (true, "15a9626a5593ce61d6dfcb5d5173009a92c66e7bca9f06201db93f3e7b75ac22"), looks := false }, kinds := [], alts := [], laidByText := true, laidKinds := [.data, .pinned], laidTests := true, laidLooks := .later }
def FnExactDiscrepancyOfUptoCardSaid : Prop := Claim7.holds Tryd.pinned (.plain (OpenSpec.upto fnExactDiscrepancyOfSpec)) fnExactDiscrepancyOfUptoCard
end Rows
end Go.Proofs.YtppmecpodleoiaaDoor
