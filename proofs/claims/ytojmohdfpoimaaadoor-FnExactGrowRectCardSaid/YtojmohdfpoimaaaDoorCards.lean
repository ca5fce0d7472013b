/-
  DERIVED. GIVEN WITH THE SEED: THE CARDS: each row of YtojmohdfpoimaaaDoorRows.lean that lists a variable, with what it lists TIED to the program's text (the seventh form; the later family's looks); each row that meets fmt, with fmt's text TOLD by the authors' own Lean function (tested against real Go, not proved from fmt's source: count such statements apart). THE CARD IS WHAT COUNTS. Prove the row's statement (the work); the ties are given (YtojmohdfpoimaaaDoorTie.lean); close each card by the builder's one call (the guide's Derived/Test/ToyasCard.lean, 'card_holds'). Laid BY PROGRAM, IN A SANDBOX (cutbox-door.mjs). By AI agents, Wed Nov 11 2026. No macro, syntax, notation, axiom, sorry.
-/
import Derived.Test.YtojmohdfpoimaaaDoorRows
import GoSem.ClaimSeven
namespace Go.Proofs.YtojmohdfpoimaaaDoor
namespace Rows

/-- THE TIED CARD OF 'laws.FnExactRectValid'. -/
def fnExactRectValidCard : Claim7 := { stood := { row := fnExactRectValidRow, standIns := [], harness := (true, "e34ccab9ce4296778d024706985c8ee9195e5669e6a7ca9dcebf06453f603fef"), looks := false }, kinds := [], alts := [], laidByText := true, laidKinds := [.data, .pinned], laidTests := true, laidLooks := .later }
def FnExactRectValidCardSaid : Prop := Claim7.holds Tryd.pinned (.plain (OpenSpec.ofChange fnExactRectValidSpec)) fnExactRectValidCard

/-- THE TIED CARD OF 'laws.FnExactColourOf'. -/
def fnExactColourOfCard : Claim7 := { stood := { row := fnExactColourOfRow, standIns := [], harness := (true, "e34ccab9ce4296778d024706985c8ee9195e5669e6a7ca9dcebf06453f603fef"), looks := false }, kinds := [], alts := [], laidByText := true, laidKinds := [.data, .pinned], laidTests := true, laidLooks := .later }
def FnExactColourOfCardSaid : Prop := Claim7.holds Tryd.pinned (.plain (OpenSpec.ofChange fnExactColourOfSpec)) fnExactColourOfCard

/-- THE TIED CARD OF 'laws.FnExactGrowRect'. -/
def fnExactGrowRectCard : Claim7 := { stood := { row := fnExactGrowRectRow, standIns := [], harness := (true, "e34ccab9ce4296778d024706985c8ee9195e5669e6a7ca9dcebf06453f603fef"), looks := false }, kinds := [], alts := [], laidByText := true, laidKinds := [.data, .pinned], laidTests := true, laidLooks := .later }
def FnExactGrowRectCardSaid : Prop := Claim7.holds Tryd.pinned (.plain (OpenSpec.ofChange fnExactGrowRectSpec)) fnExactGrowRectCard

/-- THE TIED CARD OF 'laws.FnExactBalanceOf'. -/
def fnExactBalanceOfCard : Claim7 := { stood := { row := fnExactBalanceOfRow, standIns := [], harness := (true, "e34ccab9ce4296778d024706985c8ee9195e5669e6a7ca9dcebf06453f603fef"), looks := false }, kinds := [], alts := [], laidByText := true, laidKinds := [.data, .pinned], laidTests := true, laidLooks := .later }
def FnExactBalanceOfCardSaid : Prop := Claim7.holds Tryd.pinned (.plain (OpenSpec.ofChange fnExactBalanceOfSpec)) fnExactBalanceOfCard

/-- THE TIED CARD OF 'laws.FnExactIsCover'. -/
def fnExactIsCoverCard : Claim7 := { stood := { row := fnExactIsCoverRow, standIns := [], harness := (true, "e34ccab9ce4296778d024706985c8ee9195e5669e6a7ca9dcebf06453f603fef"), looks := false }, kinds := [], alts := [], laidByText := true, laidKinds := [.data, .pinned], laidTests := true, laidLooks := .later }
def FnExactIsCoverCardSaid : Prop := Claim7.holds Tryd.pinned (.plain (OpenSpec.ofChange fnExactIsCoverSpec)) fnExactIsCoverCard

/-- THE TIED CARD OF 'laws.FnExactIsPartition'. -/
def fnExactIsPartitionCard : Claim7 := { stood := { row := fnExactIsPartitionRow, standIns := [], harness := (true, "e34ccab9ce4296778d024706985c8ee9195e5669e6a7ca9dcebf06453f603fef"), looks := false }, kinds := [], alts := [], laidByText := true, laidKinds := [.data, .pinned], laidTests := true, laidLooks := .later }
def FnExactIsPartitionCardSaid : Prop := Claim7.holds Tryd.pinned (.plain (OpenSpec.ofChange fnExactIsPartitionSpec)) fnExactIsPartitionCard

/-- THE SECOND FORM's CARD OF 'laws.FnExactRectValid'. -/
def fnExactRectValidUptoCard : Claim7 := { stood := { row := fnExactRectValidUptoRow, standIns := [], harness := (true, "e34ccab9ce4296778d024706985c8ee9195e5669e6a7ca9dcebf06453f603fef"), looks := false }, kinds := [], alts := [], laidByText := true, laidKinds := [.data, .pinned], laidTests := true, laidLooks := .later }
def FnExactRectValidUptoCardSaid : Prop := Claim7.holds Tryd.pinned (.plain (OpenSpec.upto fnExactRectValidSpec)) fnExactRectValidUptoCard

/-- THE SECOND FORM's CARD OF 'laws.FnExactColourOf'. -/
def fnExactColourOfUptoCard : Claim7 := { stood := { row := fnExactColourOfUptoRow, standIns := [], harness := (true, "e34ccab9ce4296778d024706985c8ee9195e5669e6a7ca9dcebf06453f603fef"), looks := false }, kinds := [], alts := [], laidByText := true, laidKinds := [.data, .pinned], laidTests := true, laidLooks := .later }
def FnExactColourOfUptoCardSaid : Prop := Claim7.holds Tryd.pinned (.plain (OpenSpec.upto fnExactColourOfSpec)) fnExactColourOfUptoCard

/-- THE SECOND FORM's CARD OF 'laws.FnExactGrowRect'. -/
def fnExactGrowRectUptoCard : Claim7 := { stood := { row := fnExactGrowRectUptoRow, standIns := [], harness := (true, "e34ccab9ce4296778d024706985c8ee9195e5669e6a7ca9dcebf06453f603fef"), looks := false }, kinds := [], alts := [], laidByText := true, laidKinds := [.data, .pinned], laidTests := true, laidLooks := .later }
def FnExactGrowRectUptoCardSaid : Prop := Claim7.holds Tryd.pinned (.plain (OpenSpec.upto fnExactGrowRectSpec)) fnExactGrowRectUptoCard

/-- THE SECOND FORM's CARD OF 'laws.FnExactBalanceOf'. -/
def fnExactBalanceOfUptoCard : Claim7 := { stood := { row := fnExactBalanceOfUptoRow, standIns := [], harness := (true, "e34ccab9ce4296778d024706985c8ee9195e5669e6a7ca9dcebf06453f603fef"), looks := false }, kinds := [], alts := [], laidByText := true, laidKinds := [.data, .pinned], laidTests := true, laidLooks := .later }
def FnExactBalanceOfUptoCardSaid : Prop := Claim7.holds Tryd.pinned (.plain (OpenSpec.upto fnExactBalanceOfSpec)) fnExactBalanceOfUptoCard

/-- THE SECOND FORM's CARD OF 'laws.FnExactIsCover'. -/
def fnExactIsCoverUptoCard : Claim7 := { stood := { row := fnExactIsCoverUptoRow, standIns := [], harness := (true, "e34ccab9ce4296778d024706985c8ee9195e5669e6a7ca9dcebf06453f603fef"), looks := false }, kinds := [], alts := [], laidByText := true, laidKinds := [.data, .pinned], laidTests := true, laidLooks := .later }
def FnExactIsCoverUptoCardSaid : Prop := Claim7.holds Tryd.pinned (.plain (OpenSpec.upto fnExactIsCoverSpec)) fnExactIsCoverUptoCard

/-- THE SECOND FORM's CARD OF 'laws.FnExactIsPartition'. -/
def fnExactIsPartitionUptoCard : Claim7 := { stood := { row := fnExactIsPartitionUptoRow, standIns := [], harness := (true, "e34ccab9ce4296778d024706985c8ee9195e5669e6a7ca9dcebf06453f603fef"), looks := false }, kinds := [], alts := [], laidByText := true, laidKinds := [.data, .pinned], laidTests := true, laidLooks := .later }
def FnExactIsPartitionUptoCardSaid : Prop := Claim7.holds Tryd.pinned (.plain (OpenSpec.upto fnExactIsPartitionSpec)) fnExactIsPartitionUptoCard
end Rows
end Go.Proofs.YtojmohdfpoimaaaDoor
