/-
  DERIVED. GIVEN WITH THE SEED: THE CARDS: each row of YtgmhddceeomjbaaGreatDoorRows.lean that lists a variable, with what it lists TIED to the program's text (the seventh form; the later family's looks); each row that meets fmt, with fmt's text TOLD by the authors' own Lean function (tested against real Go, not proved from fmt's source: count such statements apart). THE CARD IS WHAT COUNTS. Prove the row's statement (the work); the ties are given (YtgmhddceeomjbaaGreatDoorTie.lean); close each card by the builder's one call (the guide's Derived/Test/ToyasCard.lean, 'card_holds'). Laid BY PROGRAM, IN A SANDBOX (cutbox-door.mjs). By AI agents, Wed Nov 11 2026. No macro, syntax, notation, axiom, sorry.
-/
import Derived.Test.YtgmhddceeomjbaaGreatDoorRows
import GoSem.ClaimSeven
namespace Go.Proofs.YtgmhddceeomjbaaGreatDoor
namespace Rows

/-- THE TIED CARD OF 'laws.FnExactGreedyCover'. -/
def fnExactGreedyCoverCard : Claim7 := { stood := { row := fnExactGreedyCoverRow, standIns := [], harness := (true, "bdd3d30929f3570c6bc2537cfb6174d8202cbdad114a92c0feec59b744532731"), looks := false }, kinds := [], alts := [], laidByText := true, laidKinds := [.data, .pinned], laidTests := true, laidLooks := .later }
def FnExactGreedyCoverCardSaid : Prop := Claim7.holds Tryz.pinned (.plain (OpenSpec.ofChange fnExactGreedyCoverSpec)) fnExactGreedyCoverCard

/-- THE TIED CARD OF 'laws.FnGrow'. -/
def fnGrowCard : Claim7 := { stood := { row := fnGrowRow, standIns := [], harness := (true, "bdd3d30929f3570c6bc2537cfb6174d8202cbdad114a92c0feec59b744532731"), looks := false }, kinds := [], alts := [], laidByText := true, laidKinds := [.data, .pinned], laidTests := true, laidLooks := .later }
def FnGrowCardSaid : Prop := Claim7.holds Tryz.pinned (.plain (OpenSpec.ofChange fnGrowSpec)) fnGrowCard

/-- THE TIED CARD OF 'laws.FnDiscrepancy'. -/
def fnDiscrepancyCard : Claim7 := { stood := { row := fnDiscrepancyRow, standIns := [], harness := (true, "bdd3d30929f3570c6bc2537cfb6174d8202cbdad114a92c0feec59b744532731"), looks := false }, kinds := [], alts := [], laidByText := true, laidKinds := [.data, .pinned], laidTests := true, laidLooks := .later }
def FnDiscrepancyCardSaid : Prop := Claim7.holds Tryz.pinned (.plain (OpenSpec.ofChange fnDiscrepancySpec)) fnDiscrepancyCard

/-- THE TIED CARD OF 'laws.FnMaximal'. -/
def fnMaximalCard : Claim7 := { stood := { row := fnMaximalRow, standIns := [], harness := (true, "bdd3d30929f3570c6bc2537cfb6174d8202cbdad114a92c0feec59b744532731"), looks := false }, kinds := [], alts := [], laidByText := true, laidKinds := [.data, .pinned], laidTests := true, laidLooks := .later }
def FnMaximalCardSaid : Prop := Claim7.holds Tryz.pinned (.plain (OpenSpec.ofChange fnMaximalSpec)) fnMaximalCard

/-- THE SECOND FORM's CARD OF 'laws.FnExactGreedyCover'. -/
def fnExactGreedyCoverUptoCard : Claim7 := { stood := { row := fnExactGreedyCoverUptoRow, standIns := [], harness := (true, "bdd3d30929f3570c6bc2537cfb6174d8202cbdad114a92c0feec59b744532731"), looks := false }, kinds := [], alts := [], laidByText := true, laidKinds := [.data, .pinned], laidTests := true, laidLooks := .later }
def FnExactGreedyCoverUptoCardSaid : Prop := Claim7.holds Tryz.pinned (.plain (OpenSpec.upto fnExactGreedyCoverSpec)) fnExactGreedyCoverUptoCard

/-- THE SECOND FORM's CARD OF 'laws.FnGrow'. -/
def fnGrowUptoCard : Claim7 := { stood := { row := fnGrowUptoRow, standIns := [], harness := (true, "bdd3d30929f3570c6bc2537cfb6174d8202cbdad114a92c0feec59b744532731"), looks := false }, kinds := [], alts := [], laidByText := true, laidKinds := [.data, .pinned], laidTests := true, laidLooks := .later }
def FnGrowUptoCardSaid : Prop := Claim7.holds Tryz.pinned (.plain (OpenSpec.upto fnGrowSpec)) fnGrowUptoCard

/-- THE SECOND FORM's CARD OF 'laws.FnDiscrepancy'. -/
def fnDiscrepancyUptoCard : Claim7 := { stood := { row := fnDiscrepancyUptoRow, standIns := [], harness := (true, "bdd3d30929f3570c6bc2537cfb6174d8202cbdad114a92c0feec59b744532731"), looks := false }, kinds := [], alts := [], laidByText := true, laidKinds := [.data, .pinned], laidTests := true, laidLooks := .later }
def FnDiscrepancyUptoCardSaid : Prop := Claim7.holds Tryz.pinned (.plain (OpenSpec.upto fnDiscrepancySpec)) fnDiscrepancyUptoCard

/-- THE SECOND FORM's CARD OF 'laws.FnMaximal'. -/
def fnMaximalUptoCard : Claim7 := { stood := { row := fnMaximalUptoRow, standIns := [], harness := (true, "bdd3d30929f3570c6bc2537cfb6174d8202cbdad114a92c0feec59b744532731"), looks := false }, kinds := [], alts := [], laidByText := true, laidKinds := [.data, .pinned], laidTests := true, laidLooks := .later }
def FnMaximalUptoCardSaid : Prop := Claim7.holds Tryz.pinned (.plain (OpenSpec.upto fnMaximalSpec)) fnMaximalUptoCard
end Rows
end Go.Proofs.YtgmhddceeomjbaaGreatDoor
