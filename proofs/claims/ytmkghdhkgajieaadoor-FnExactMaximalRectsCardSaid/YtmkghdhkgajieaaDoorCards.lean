/-
  DERIVED. GIVEN WITH THE SEED: THE CARDS: each row of YtmkghdhkgajieaaDoorRows.lean that lists a variable, with what it lists TIED to the program's text (the seventh form; the later family's looks); each row that meets fmt, with fmt's text TOLD by the authors' own Lean function (tested against real Go, not proved from fmt's source: count such statements apart). THE CARD IS WHAT COUNTS. Prove the row's statement (the work); the ties are given (YtmkghdhkgajieaaDoorTie.lean); close each card by the builder's one call (the guide's Derived/Test/ToyasCard.lean, 'card_holds'). Laid BY PROGRAM, IN A SANDBOX (cutbox-door.mjs). By AI agents, Wed Nov 11 2026. No macro, syntax, notation, axiom, sorry.
-/
import Derived.Test.YtmkghdhkgajieaaDoorRows
import GoSem.ClaimSeven
namespace Go.Proofs.YtmkghdhkgajieaaDoor
namespace Rows

/-- THE TIED CARD OF 'laws.FnExactMaximalRects'. -/
def fnExactMaximalRectsCard : Claim7 := { stood := { row := fnExactMaximalRectsRow, standIns := [], harness := (true, "393329c9f93218e6187bf72d0b718cac718b786705656eb9daffcfbdb7b5a1b9"), looks := false }, kinds := [], alts := [], laidByText := true, laidKinds := [.data, .pinned], laidTests := true, laidLooks := .later }
def FnExactMaximalRectsCardSaid : Prop := Claim7.holds Tryd.pinned (.plain (OpenSpec.ofChange fnExactMaximalRectsSpec)) fnExactMaximalRectsCard

/-- THE TIED CARD OF 'laws.FnExactLargestRect'. -/
def fnExactLargestRectCard : Claim7 := { stood := { row := fnExactLargestRectRow, standIns := [], harness := (true, "393329c9f93218e6187bf72d0b718cac718b786705656eb9daffcfbdb7b5a1b9"), looks := false }, kinds := [], alts := [], laidByText := true, laidKinds := [.data, .pinned], laidTests := true, laidLooks := .later }
def FnExactLargestRectCardSaid : Prop := Claim7.holds Tryd.pinned (.plain (OpenSpec.ofChange fnExactLargestRectSpec)) fnExactLargestRectCard

/-- THE TIED CARD OF 'laws.FnExactIsFooling'. -/
def fnExactIsFoolingCard : Claim7 := { stood := { row := fnExactIsFoolingRow, standIns := [], harness := (true, "393329c9f93218e6187bf72d0b718cac718b786705656eb9daffcfbdb7b5a1b9"), looks := false }, kinds := [], alts := [], laidByText := true, laidKinds := [.data, .pinned], laidTests := true, laidLooks := .later }
def FnExactIsFoolingCardSaid : Prop := Claim7.holds Tryd.pinned (.plain (OpenSpec.ofChange fnExactIsFoolingSpec)) fnExactIsFoolingCard

/-- THE TIED CARD OF 'laws.FnExactGreatestFooling'. -/
def fnExactGreatestFoolingCard : Claim7 := { stood := { row := fnExactGreatestFoolingRow, standIns := [], harness := (true, "393329c9f93218e6187bf72d0b718cac718b786705656eb9daffcfbdb7b5a1b9"), looks := false }, kinds := [], alts := [], laidByText := true, laidKinds := [.data, .pinned], laidTests := true, laidLooks := .later }
def FnExactGreatestFoolingCardSaid : Prop := Claim7.holds Tryd.pinned (.plain (OpenSpec.ofChange fnExactGreatestFoolingSpec)) fnExactGreatestFoolingCard

/-- THE TIED CARD OF 'laws.FnExactPartitionNumber'. -/
def fnExactPartitionNumberCard : Claim7 := { stood := { row := fnExactPartitionNumberRow, standIns := [], harness := (true, "393329c9f93218e6187bf72d0b718cac718b786705656eb9daffcfbdb7b5a1b9"), looks := false }, kinds := [], alts := [], laidByText := true, laidKinds := [.data, .pinned], laidTests := true, laidLooks := .later }
def FnExactPartitionNumberCardSaid : Prop := Claim7.holds Tryd.pinned (.plain (OpenSpec.ofChange fnExactPartitionNumberSpec)) fnExactPartitionNumberCard

/-- THE SECOND FORM's CARD OF 'laws.FnExactMaximalRects'. -/
def fnExactMaximalRectsUptoCard : Claim7 := { stood := { row := fnExactMaximalRectsUptoRow, standIns := [], harness := (true, "393329c9f93218e6187bf72d0b718cac718b786705656eb9daffcfbdb7b5a1b9"), looks := false }, kinds := [], alts := [], laidByText := true, laidKinds := [.data, .pinned], laidTests := true, laidLooks := .later }
def FnExactMaximalRectsUptoCardSaid : Prop := Claim7.holds Tryd.pinned (.plain (OpenSpec.upto fnExactMaximalRectsSpec)) fnExactMaximalRectsUptoCard

/-- THE SECOND FORM's CARD OF 'laws.FnExactLargestRect'. -/
def fnExactLargestRectUptoCard : Claim7 := { stood := { row := fnExactLargestRectUptoRow, standIns := [], harness := (true, "393329c9f93218e6187bf72d0b718cac718b786705656eb9daffcfbdb7b5a1b9"), looks := false }, kinds := [], alts := [], laidByText := true, laidKinds := [.data, .pinned], laidTests := true, laidLooks := .later }
def FnExactLargestRectUptoCardSaid : Prop := Claim7.holds Tryd.pinned (.plain (OpenSpec.upto fnExactLargestRectSpec)) fnExactLargestRectUptoCard

/-- THE SECOND FORM's CARD OF 'laws.FnExactIsFooling'. -/
def fnExactIsFoolingUptoCard : Claim7 := { stood := { row := fnExactIsFoolingUptoRow, standIns := [], harness := (true, "393329c9f93218e6187bf72d0b718cac718b786705656eb9daffcfbdb7b5a1b9"), looks := false }, kinds := [], alts := [], laidByText := true, laidKinds := [.data, .pinned], laidTests := true, laidLooks := .later }
def FnExactIsFoolingUptoCardSaid : Prop := Claim7.holds Tryd.pinned (.plain (OpenSpec.upto fnExactIsFoolingSpec)) fnExactIsFoolingUptoCard

/-- THE SECOND FORM's CARD OF 'laws.FnExactGreatestFooling'. -/
def fnExactGreatestFoolingUptoCard : Claim7 := { stood := { row := fnExactGreatestFoolingUptoRow, standIns := [], harness := (true, "393329c9f93218e6187bf72d0b718cac718b786705656eb9daffcfbdb7b5a1b9"), looks := false }, kinds := [], alts := [], laidByText := true, laidKinds := [.data, .pinned], laidTests := true, laidLooks := .later }
def FnExactGreatestFoolingUptoCardSaid : Prop := Claim7.holds Tryd.pinned (.plain (OpenSpec.upto fnExactGreatestFoolingSpec)) fnExactGreatestFoolingUptoCard

/-- THE SECOND FORM's CARD OF 'laws.FnExactPartitionNumber'. -/
def fnExactPartitionNumberUptoCard : Claim7 := { stood := { row := fnExactPartitionNumberUptoRow, standIns := [], harness := (true, "393329c9f93218e6187bf72d0b718cac718b786705656eb9daffcfbdb7b5a1b9"), looks := false }, kinds := [], alts := [], laidByText := true, laidKinds := [.data, .pinned], laidTests := true, laidLooks := .later }
def FnExactPartitionNumberUptoCardSaid : Prop := Claim7.holds Tryd.pinned (.plain (OpenSpec.upto fnExactPartitionNumberSpec)) fnExactPartitionNumberUptoCard
end Rows
end Go.Proofs.YtmkghdhkgajieaaDoor
