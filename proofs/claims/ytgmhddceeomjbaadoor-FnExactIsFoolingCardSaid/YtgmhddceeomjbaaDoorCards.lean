/-
  DERIVED. GIVEN WITH THE SEED: THE CARDS: each row of YtgmhddceeomjbaaDoorRows.lean that lists a variable, with what it lists TIED to the program's text (the seventh form; the later family's looks); each row that meets fmt, with fmt's text TOLD by the authors' own Lean function (tested against real Go, not proved from fmt's source: count such statements apart). THE CARD IS WHAT COUNTS. Prove the row's statement (the work); the ties are given (YtgmhddceeomjbaaDoorTie.lean); close each card by the builder's one call (the guide's Derived/Test/ToyasCard.lean, 'card_holds'). Laid BY PROGRAM, IN A SANDBOX (cutbox-door.mjs). By AI agents, Wed Nov 11 2026. No macro, syntax, notation, axiom, sorry.
-/
import Derived.Test.YtgmhddceeomjbaaDoorRows
import GoSem.ClaimSeven
namespace Go.Proofs.YtgmhddceeomjbaaDoor
namespace Rows

/-- THE TIED CARD OF 'laws.FnExactIsFooling'. -/
def fnExactIsFoolingCard : Claim7 := { stood := { row := fnExactIsFoolingRow, standIns := [], harness := (true, "32962a093b9668f4b1222218b3080ffd0e94c10a58d7316b947ae7d284e82080"), looks := false }, kinds := [], alts := [], laidByText := true, laidKinds := [.data, .pinned], laidTests := true, laidLooks := .later }
def FnExactIsFoolingCardSaid : Prop := Claim7.holds Tryd.pinned (.plain (OpenSpec.ofChange fnExactIsFoolingSpec)) fnExactIsFoolingCard

/-- THE TIED CARD OF 'laws.FnExactDifferentRows'. -/
def fnExactDifferentRowsCard : Claim7 := { stood := { row := fnExactDifferentRowsRow, standIns := [], harness := (true, "32962a093b9668f4b1222218b3080ffd0e94c10a58d7316b947ae7d284e82080"), looks := false }, kinds := [], alts := [], laidByText := true, laidKinds := [.data, .pinned], laidTests := true, laidLooks := .later }
def FnExactDifferentRowsCardSaid : Prop := Claim7.holds Tryd.pinned (.plain (OpenSpec.ofChange fnExactDifferentRowsSpec)) fnExactDifferentRowsCard

/-- THE TIED CARD OF 'laws.FnIsCover'. -/
def fnIsCoverCard : Claim7 := { stood := { row := fnIsCoverRow, standIns := [], harness := (true, "32962a093b9668f4b1222218b3080ffd0e94c10a58d7316b947ae7d284e82080"), looks := false }, kinds := [], alts := [], laidByText := true, laidKinds := [.data, .pinned], laidTests := true, laidLooks := .later }
def FnIsCoverCardSaid : Prop := Claim7.holds Tryd.pinned (.plain (OpenSpec.ofChange fnIsCoverSpec)) fnIsCoverCard

/-- THE TIED CARD OF 'laws.FnIsPartition'. -/
def fnIsPartitionCard : Claim7 := { stood := { row := fnIsPartitionRow, standIns := [], harness := (true, "32962a093b9668f4b1222218b3080ffd0e94c10a58d7316b947ae7d284e82080"), looks := false }, kinds := [], alts := [], laidByText := true, laidKinds := [.data, .pinned], laidTests := true, laidLooks := .later }
def FnIsPartitionCardSaid : Prop := Claim7.holds Tryd.pinned (.plain (OpenSpec.ofChange fnIsPartitionSpec)) fnIsPartitionCard

/-- THE TIED CARD OF 'laws.FnPick'. -/
def fnPickCard : Claim7 := { stood := { row := fnPickRow, standIns := [], harness := (true, "32962a093b9668f4b1222218b3080ffd0e94c10a58d7316b947ae7d284e82080"), looks := false }, kinds := [], alts := [], laidByText := true, laidKinds := [.data, .pinned], laidTests := true, laidLooks := .later }
def FnPickCardSaid : Prop := Claim7.holds Tryd.pinned (.plain (OpenSpec.ofChange fnPickSpec)) fnPickCard

/-- THE TIED CARD OF 'laws.FnShrink'. -/
def fnShrinkCard : Claim7 := { stood := { row := fnShrinkRow, standIns := [], harness := (true, "32962a093b9668f4b1222218b3080ffd0e94c10a58d7316b947ae7d284e82080"), looks := false }, kinds := [], alts := [], laidByText := true, laidKinds := [.data, .pinned], laidTests := true, laidLooks := .later }
def FnShrinkCardSaid : Prop := Claim7.holds Tryd.pinned (.plain (OpenSpec.ofChange fnShrinkSpec)) fnShrinkCard

/-- THE TIED CARD OF 'laws.FnFamilies'. -/
def fnFamiliesCard : Claim7 := { stood := { row := fnFamiliesRow, standIns := [], harness := (true, "32962a093b9668f4b1222218b3080ffd0e94c10a58d7316b947ae7d284e82080"), looks := false }, kinds := [], alts := [], laidByText := true, laidKinds := [.data, .pinned], laidTests := true, laidLooks := .later }
def FnFamiliesCardSaid : Prop := Claim7.holds Tryd.pinned (.plain (OpenSpec.ofChange fnFamiliesSpec)) fnFamiliesCard

/-- THE TIED CARD OF 'laws.FnSets'. -/
def fnSetsCard : Claim7 := { stood := { row := fnSetsRow, standIns := [], harness := (true, "32962a093b9668f4b1222218b3080ffd0e94c10a58d7316b947ae7d284e82080"), looks := false }, kinds := [], alts := [], laidByText := true, laidKinds := [.data, .pinned], laidTests := true, laidLooks := .later }
def FnSetsCardSaid : Prop := Claim7.holds Tryd.pinned (.plain (OpenSpec.ofChange fnSetsSpec)) fnSetsCard

/-- THE SECOND FORM's CARD OF 'laws.FnExactIsFooling'. -/
def fnExactIsFoolingUptoCard : Claim7 := { stood := { row := fnExactIsFoolingUptoRow, standIns := [], harness := (true, "32962a093b9668f4b1222218b3080ffd0e94c10a58d7316b947ae7d284e82080"), looks := false }, kinds := [], alts := [], laidByText := true, laidKinds := [.data, .pinned], laidTests := true, laidLooks := .later }
def FnExactIsFoolingUptoCardSaid : Prop := Claim7.holds Tryd.pinned (.plain (OpenSpec.upto fnExactIsFoolingSpec)) fnExactIsFoolingUptoCard

/-- THE SECOND FORM's CARD OF 'laws.FnExactDifferentRows'. -/
def fnExactDifferentRowsUptoCard : Claim7 := { stood := { row := fnExactDifferentRowsUptoRow, standIns := [], harness := (true, "32962a093b9668f4b1222218b3080ffd0e94c10a58d7316b947ae7d284e82080"), looks := false }, kinds := [], alts := [], laidByText := true, laidKinds := [.data, .pinned], laidTests := true, laidLooks := .later }
def FnExactDifferentRowsUptoCardSaid : Prop := Claim7.holds Tryd.pinned (.plain (OpenSpec.upto fnExactDifferentRowsSpec)) fnExactDifferentRowsUptoCard

/-- THE SECOND FORM's CARD OF 'laws.FnIsCover'. -/
def fnIsCoverUptoCard : Claim7 := { stood := { row := fnIsCoverUptoRow, standIns := [], harness := (true, "32962a093b9668f4b1222218b3080ffd0e94c10a58d7316b947ae7d284e82080"), looks := false }, kinds := [], alts := [], laidByText := true, laidKinds := [.data, .pinned], laidTests := true, laidLooks := .later }
def FnIsCoverUptoCardSaid : Prop := Claim7.holds Tryd.pinned (.plain (OpenSpec.upto fnIsCoverSpec)) fnIsCoverUptoCard

/-- THE SECOND FORM's CARD OF 'laws.FnIsPartition'. -/
def fnIsPartitionUptoCard : Claim7 := { stood := { row := fnIsPartitionUptoRow, standIns := [], harness := (true, "32962a093b9668f4b1222218b3080ffd0e94c10a58d7316b947ae7d284e82080"), looks := false }, kinds := [], alts := [], laidByText := true, laidKinds := [.data, .pinned], laidTests := true, laidLooks := .later }
def FnIsPartitionUptoCardSaid : Prop := Claim7.holds Tryd.pinned (.plain (OpenSpec.upto fnIsPartitionSpec)) fnIsPartitionUptoCard

/-- THE SECOND FORM's CARD OF 'laws.FnPick'. -/
def fnPickUptoCard : Claim7 := { stood := { row := fnPickUptoRow, standIns := [], harness := (true, "32962a093b9668f4b1222218b3080ffd0e94c10a58d7316b947ae7d284e82080"), looks := false }, kinds := [], alts := [], laidByText := true, laidKinds := [.data, .pinned], laidTests := true, laidLooks := .later }
def FnPickUptoCardSaid : Prop := Claim7.holds Tryd.pinned (.plain (OpenSpec.upto fnPickSpec)) fnPickUptoCard

/-- THE SECOND FORM's CARD OF 'laws.FnShrink'. -/
def fnShrinkUptoCard : Claim7 := { stood := { row := fnShrinkUptoRow, standIns := [], harness := (true, "32962a093b9668f4b1222218b3080ffd0e94c10a58d7316b947ae7d284e82080"), looks := false }, kinds := [], alts := [], laidByText := true, laidKinds := [.data, .pinned], laidTests := true, laidLooks := .later }
def FnShrinkUptoCardSaid : Prop := Claim7.holds Tryd.pinned (.plain (OpenSpec.upto fnShrinkSpec)) fnShrinkUptoCard

/-- THE SECOND FORM's CARD OF 'laws.FnFamilies'. -/
def fnFamiliesUptoCard : Claim7 := { stood := { row := fnFamiliesUptoRow, standIns := [], harness := (true, "32962a093b9668f4b1222218b3080ffd0e94c10a58d7316b947ae7d284e82080"), looks := false }, kinds := [], alts := [], laidByText := true, laidKinds := [.data, .pinned], laidTests := true, laidLooks := .later }
def FnFamiliesUptoCardSaid : Prop := Claim7.holds Tryd.pinned (.plain (OpenSpec.upto fnFamiliesSpec)) fnFamiliesUptoCard

/-- THE SECOND FORM's CARD OF 'laws.FnSets'. -/
def fnSetsUptoCard : Claim7 := { stood := { row := fnSetsUptoRow, standIns := [], harness := (true, "32962a093b9668f4b1222218b3080ffd0e94c10a58d7316b947ae7d284e82080"), looks := false }, kinds := [], alts := [], laidByText := true, laidKinds := [.data, .pinned], laidTests := true, laidLooks := .later }
def FnSetsUptoCardSaid : Prop := Claim7.holds Tryd.pinned (.plain (OpenSpec.upto fnSetsSpec)) fnSetsUptoCard
end Rows
end Go.Proofs.YtgmhddceeomjbaaDoor
