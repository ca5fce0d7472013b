/-
  DERIVED. GIVEN WITH THE SEED: THE CARDS: each row of YtemmagkkigdhjaaGreatDoorRows.lean that lists a variable, with what it lists TIED to the program's text (the seventh form; the later family's looks); each row that meets fmt, with fmt's text TOLD by the authors' own Lean function (tested against real Go, not proved from fmt's source: count such statements apart). THE CARD IS WHAT COUNTS. Prove the row's statement (the work); the ties are given (YtemmagkkigdhjaaGreatDoorTie.lean); close each card by the builder's one call (the guide's Derived/Test/ToyasCard.lean, 'card_holds'). Laid BY PROGRAM, IN A SANDBOX (cutbox-door.mjs). By AI agents, Wed Nov 11 2026. No macro, syntax, notation, axiom, sorry.
-/
import Derived.Test.YtemmagkkigdhjaaGreatDoorRows
import GoSem.ClaimSeven
namespace Go.Proofs.YtemmagkkigdhjaaGreatDoor
namespace Rows

/-- THE TIED CARD OF 'laws.FnMaximal'. -/
def fnMaximalCard : Claim7 := { stood := { row := fnMaximalRow, standIns := [], harness := (true, "391c519d4f327c0d6041dcbfbeec12d2bc5e9ca99e3a601d53f9c0935690a792"), looks := false }, kinds := [], alts := [], laidByText := true, laidKinds := [.data, .pinned], laidTests := true, laidLooks := .later }
def FnMaximalCardSaid : Prop := Claim7.holds Tryz.pinned (.plain (OpenSpec.ofChange fnMaximalSpec)) fnMaximalCard

/-- THE SECOND FORM's CARD OF 'laws.FnMaximal'. -/
def fnMaximalUptoCard : Claim7 := { stood := { row := fnMaximalUptoRow, standIns := [], harness := (true, "391c519d4f327c0d6041dcbfbeec12d2bc5e9ca99e3a601d53f9c0935690a792"), looks := false }, kinds := [], alts := [], laidByText := true, laidKinds := [.data, .pinned], laidTests := true, laidLooks := .later }
def FnMaximalUptoCardSaid : Prop := Claim7.holds Tryz.pinned (.plain (OpenSpec.upto fnMaximalSpec)) fnMaximalUptoCard
end Rows
end Go.Proofs.YtemmagkkigdhjaaGreatDoor
