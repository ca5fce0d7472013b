/-
  DERIVED. GIVEN WITH THE SEED: THE CARDS: each row of YtbbgibbpeibhiaaGreatDoorRows.lean that lists a variable, with what it lists TIED to the program's text (the seventh form; the later family's looks); each row that meets fmt, with fmt's text TOLD by the authors' own Lean function (tested against real Go, not proved from fmt's source: count such statements apart). THE CARD IS WHAT COUNTS. Prove the row's statement (the work); the ties are given (YtbbgibbpeibhiaaGreatDoorTie.lean); close each card by the builder's one call (the guide's Derived/Test/ToyasCard.lean, 'card_holds'). Laid BY PROGRAM, IN A SANDBOX (cutbox-door.mjs). By AI agents, Wed Nov 11 2026. No macro, syntax, notation, axiom, sorry.
-/
import Derived.Test.YtbbgibbpeibhiaaGreatDoorRows
import GoSem.ClaimSeven
namespace Go.Proofs.YtbbgibbpeibhiaaGreatDoor
namespace Rows

/-- THE TIED CARD OF 'laws.FnBalance'. -/
def fnBalanceCard : Claim7 := { stood := { row := fnBalanceRow, standIns := [], harness := (true, "00781f8935652b129d95c36fce8a54125a217b2b391be6d09be39c448a7b8f5e"), looks := true }, kinds := [], alts := [], laidByText := true, laidKinds := [.data, .pinned], laidTests := true, laidLooks := .later }
def FnBalanceCardSaid : Prop := Claim7.holds Tryz.pinned (.plain (OpenSpec.ofChange fnBalanceSpec)) fnBalanceCard

/-- THE SECOND FORM's CARD OF 'laws.FnBalance'. -/
def fnBalanceUptoCard : Claim7 := { stood := { row := fnBalanceUptoRow, standIns := [], harness := (true, "00781f8935652b129d95c36fce8a54125a217b2b391be6d09be39c448a7b8f5e"), looks := true }, kinds := [], alts := [], laidByText := true, laidKinds := [.data, .pinned], laidTests := true, laidLooks := .later }
def FnBalanceUptoCardSaid : Prop := Claim7.holds Tryz.pinned (.plain (OpenSpec.upto fnBalanceSpec)) fnBalanceUptoCard
end Rows
end Go.Proofs.YtbbgibbpeibhiaaGreatDoor
