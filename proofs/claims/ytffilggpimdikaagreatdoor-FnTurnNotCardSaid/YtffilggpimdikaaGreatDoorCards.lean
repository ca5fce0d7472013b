/-
  DERIVED. GIVEN WITH THE SEED: THE CARDS: each row of YtffilggpimdikaaGreatDoorRows.lean that lists a variable, with what it lists TIED to the program's text (the seventh form; the later family's looks); each row that meets fmt, with fmt's text TOLD by the authors' own Lean function (tested against real Go, not proved from fmt's source: count such statements apart). THE CARD IS WHAT COUNTS. Prove the row's statement (the work); the ties are given (YtffilggpimdikaaGreatDoorTie.lean); close each card by the builder's one call (the guide's Derived/Test/ToyasCard.lean, 'card_holds'). Laid BY PROGRAM, IN A SANDBOX (cutbox-door.mjs). By AI agents, Wed Nov 11 2026. No macro, syntax, notation, axiom, sorry.
-/
import Derived.Test.YtffilggpimdikaaGreatDoorRows
import GoSem.ClaimSeven
namespace Go.Proofs.YtffilggpimdikaaGreatDoor
namespace Rows

/-- THE TIED CARD OF 'laws.FnName'. -/
def fnNameCard : Claim7 := { stood := { row := fnNameRow, standIns := [], harness := (true, "d00d82aa9b88e1dc7ac22303d8d443d54794543f16e909bc27bfc3e1f60f4e25"), looks := false }, kinds := [], alts := [], laidByText := true, laidKinds := [.data, .pinned], laidTests := true, laidLooks := .later }
def FnNameCardSaid : Prop := Claim7.holds Tryz.pinned (.plain (OpenSpec.ofChange fnNameSpec)) fnNameCard

/-- THE TIED CARD OF 'laws.FnTrim'. -/
def fnTrimCard : Claim7 := { stood := { row := fnTrimRow, standIns := [], harness := (true, "d00d82aa9b88e1dc7ac22303d8d443d54794543f16e909bc27bfc3e1f60f4e25"), looks := false }, kinds := [], alts := [], laidByText := true, laidKinds := [.data, .pinned], laidTests := true, laidLooks := .later }
def FnTrimCardSaid : Prop := Claim7.holds Tryz.pinned (.plain (OpenSpec.ofChange fnTrimSpec)) fnTrimCard

/-- THE TIED CARD OF 'laws.FnTurnNot'. -/
def fnTurnNotCard : Claim7 := { stood := { row := fnTurnNotRow, standIns := [], harness := (true, "d00d82aa9b88e1dc7ac22303d8d443d54794543f16e909bc27bfc3e1f60f4e25"), looks := false }, kinds := [], alts := [], laidByText := true, laidKinds := [.data, .pinned], laidTests := true, laidLooks := .later }
def FnTurnNotCardSaid : Prop := Claim7.holds Tryz.pinned (.plain (OpenSpec.ofChange fnTurnNotSpec)) fnTurnNotCard

/-- THE SECOND FORM's CARD OF 'laws.FnName'. -/
def fnNameUptoCard : Claim7 := { stood := { row := fnNameUptoRow, standIns := [], harness := (true, "d00d82aa9b88e1dc7ac22303d8d443d54794543f16e909bc27bfc3e1f60f4e25"), looks := false }, kinds := [], alts := [], laidByText := true, laidKinds := [.data, .pinned], laidTests := true, laidLooks := .later }
def FnNameUptoCardSaid : Prop := Claim7.holds Tryz.pinned (.plain (OpenSpec.upto fnNameSpec)) fnNameUptoCard

/-- THE SECOND FORM's CARD OF 'laws.FnTrim'. -/
def fnTrimUptoCard : Claim7 := { stood := { row := fnTrimUptoRow, standIns := [], harness := (true, "d00d82aa9b88e1dc7ac22303d8d443d54794543f16e909bc27bfc3e1f60f4e25"), looks := false }, kinds := [], alts := [], laidByText := true, laidKinds := [.data, .pinned], laidTests := true, laidLooks := .later }
def FnTrimUptoCardSaid : Prop := Claim7.holds Tryz.pinned (.plain (OpenSpec.upto fnTrimSpec)) fnTrimUptoCard

/-- THE SECOND FORM's CARD OF 'laws.FnTurnNot'. -/
def fnTurnNotUptoCard : Claim7 := { stood := { row := fnTurnNotUptoRow, standIns := [], harness := (true, "d00d82aa9b88e1dc7ac22303d8d443d54794543f16e909bc27bfc3e1f60f4e25"), looks := false }, kinds := [], alts := [], laidByText := true, laidKinds := [.data, .pinned], laidTests := true, laidLooks := .later }
def FnTurnNotUptoCardSaid : Prop := Claim7.holds Tryz.pinned (.plain (OpenSpec.upto fnTurnNotSpec)) fnTurnNotUptoCard
end Rows
end Go.Proofs.YtffilggpimdikaaGreatDoor
