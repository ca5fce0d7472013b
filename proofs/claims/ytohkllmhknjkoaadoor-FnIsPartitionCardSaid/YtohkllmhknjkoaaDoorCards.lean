/-
  DERIVED. GIVEN WITH THE SEED: THE CARDS: each row of YtohkllmhknjkoaaDoorRows.lean that lists a variable, with what it lists TIED to the program's text (the seventh form; the later family's looks); each row that meets fmt, with fmt's text TOLD by the authors' own Lean function (tested against real Go, not proved from fmt's source: count such statements apart). THE CARD IS WHAT COUNTS. Prove the row's statement (the work); the ties are given (YtohkllmhknjkoaaDoorTie.lean); close each card by the builder's one call (the guide's Derived/Test/ToyasCard.lean, 'card_holds'). Laid BY PROGRAM, IN A SANDBOX (cutbox-door.mjs). By AI agents, Wed Nov 11 2026. No macro, syntax, notation, axiom, sorry.
-/
import Derived.Test.YtohkllmhknjkoaaDoorRows
import GoSem.ClaimSeven
namespace Go.Proofs.YtohkllmhknjkoaaDoor
namespace Rows

/-- THE TIED CARD OF 'laws.FnExactLeastBits'. -/
def fnExactLeastBitsCard : Claim7 := { stood := { row := fnExactLeastBitsRow, standIns := [], harness := (true, "4653898a5b1a61c31531c0a81c807fafe6b39f36a6f373b8095eeeee28783b85"), looks := false }, kinds := [], alts := [], laidByText := true, laidKinds := [.data, .pinned], laidTests := true, laidLooks := .later }
def FnExactLeastBitsCardSaid : Prop := Claim7.holds Tryd.pinned (.plain (OpenSpec.ofChange fnExactLeastBitsSpec)) fnExactLeastBitsCard

/-- THE TIED CARD OF 'laws.FnExactLeastEnds'. -/
def fnExactLeastEndsCard : Claim7 := { stood := { row := fnExactLeastEndsRow, standIns := [], harness := (true, "4653898a5b1a61c31531c0a81c807fafe6b39f36a6f373b8095eeeee28783b85"), looks := false }, kinds := [], alts := [], laidByText := true, laidKinds := [.data, .pinned], laidTests := true, laidLooks := .later }
def FnExactLeastEndsCardSaid : Prop := Claim7.holds Tryd.pinned (.plain (OpenSpec.ofChange fnExactLeastEndsSpec)) fnExactLeastEndsCard

/-- THE TIED CARD OF 'laws.FnExactBestProtocol'. -/
def fnExactBestProtocolCard : Claim7 := { stood := { row := fnExactBestProtocolRow, standIns := [], harness := (true, "4653898a5b1a61c31531c0a81c807fafe6b39f36a6f373b8095eeeee28783b85"), looks := false }, kinds := [], alts := [], laidByText := true, laidKinds := [.data, .pinned], laidTests := true, laidLooks := .later }
def FnExactBestProtocolCardSaid : Prop := Claim7.holds Tryd.pinned (.plain (OpenSpec.ofChange fnExactBestProtocolSpec)) fnExactBestProtocolCard

/-- THE TIED CARD OF 'laws.FnExactFewestEnds'. -/
def fnExactFewestEndsCard : Claim7 := { stood := { row := fnExactFewestEndsRow, standIns := [], harness := (true, "4653898a5b1a61c31531c0a81c807fafe6b39f36a6f373b8095eeeee28783b85"), looks := false }, kinds := [], alts := [], laidByText := true, laidKinds := [.data, .pinned], laidTests := true, laidLooks := .later }
def FnExactFewestEndsCardSaid : Prop := Claim7.holds Tryd.pinned (.plain (OpenSpec.ofChange fnExactFewestEndsSpec)) fnExactFewestEndsCard

/-- THE TIED CARD OF 'laws.FnIsCover'. -/
def fnIsCoverCard : Claim7 := { stood := { row := fnIsCoverRow, standIns := [], harness := (true, "4653898a5b1a61c31531c0a81c807fafe6b39f36a6f373b8095eeeee28783b85"), looks := false }, kinds := [], alts := [], laidByText := true, laidKinds := [.data, .pinned], laidTests := true, laidLooks := .later }
def FnIsCoverCardSaid : Prop := Claim7.holds Tryd.pinned (.plain (OpenSpec.ofChange fnIsCoverSpec)) fnIsCoverCard

/-- THE TIED CARD OF 'laws.FnIsPartition'. -/
def fnIsPartitionCard : Claim7 := { stood := { row := fnIsPartitionRow, standIns := [], harness := (true, "4653898a5b1a61c31531c0a81c807fafe6b39f36a6f373b8095eeeee28783b85"), looks := false }, kinds := [], alts := [], laidByText := true, laidKinds := [.data, .pinned], laidTests := true, laidLooks := .later }
def FnIsPartitionCardSaid : Prop := Claim7.holds Tryd.pinned (.plain (OpenSpec.ofChange fnIsPartitionSpec)) fnIsPartitionCard

/-- THE TIED CARD OF 'laws.FnExactRankOf'. -/
def fnExactRankOfCard : Claim7 := { stood := { row := fnExactRankOfRow, standIns := [], harness := (true, "4653898a5b1a61c31531c0a81c807fafe6b39f36a6f373b8095eeeee28783b85"), looks := false }, kinds := [], alts := [], laidByText := true, laidKinds := [.data, .pinned], laidTests := true, laidLooks := .later }
def FnExactRankOfCardSaid : Prop := Claim7.holds Tryd.pinned (.plain (OpenSpec.ofChange fnExactRankOfSpec)) fnExactRankOfCard

/-- THE TIED CARD OF 'laws.FnExactSignRankOf'. -/
def fnExactSignRankOfCard : Claim7 := { stood := { row := fnExactSignRankOfRow, standIns := [], harness := (true, "4653898a5b1a61c31531c0a81c807fafe6b39f36a6f373b8095eeeee28783b85"), looks := false }, kinds := [], alts := [], laidByText := true, laidKinds := [.data, .pinned], laidTests := true, laidLooks := .later }
def FnExactSignRankOfCardSaid : Prop := Claim7.holds Tryd.pinned (.plain (OpenSpec.ofChange fnExactSignRankOfSpec)) fnExactSignRankOfCard

/-- THE TIED CARD OF 'laws.FnExactDeterminantOf'. -/
def fnExactDeterminantOfCard : Claim7 := { stood := { row := fnExactDeterminantOfRow, standIns := [], harness := (true, "4653898a5b1a61c31531c0a81c807fafe6b39f36a6f373b8095eeeee28783b85"), looks := false }, kinds := [], alts := [], laidByText := true, laidKinds := [.data, .pinned], laidTests := true, laidLooks := .later }
def FnExactDeterminantOfCardSaid : Prop := Claim7.holds Tryd.pinned (.plain (OpenSpec.ofChange fnExactDeterminantOfSpec)) fnExactDeterminantOfCard

/-- THE TIED CARD OF 'laws.FnExactGreatestFooling'. -/
def fnExactGreatestFoolingCard : Claim7 := { stood := { row := fnExactGreatestFoolingRow, standIns := [], harness := (true, "4653898a5b1a61c31531c0a81c807fafe6b39f36a6f373b8095eeeee28783b85"), looks := false }, kinds := [], alts := [], laidByText := true, laidKinds := [.data, .pinned], laidTests := true, laidLooks := .later }
def FnExactGreatestFoolingCardSaid : Prop := Claim7.holds Tryd.pinned (.plain (OpenSpec.ofChange fnExactGreatestFoolingSpec)) fnExactGreatestFoolingCard

/-- THE SECOND FORM's CARD OF 'laws.FnExactLeastBits'. -/
def fnExactLeastBitsUptoCard : Claim7 := { stood := { row := fnExactLeastBitsUptoRow, standIns := [], harness := (true, "4653898a5b1a61c31531c0a81c807fafe6b39f36a6f373b8095eeeee28783b85"), looks := false }, kinds := [], alts := [], laidByText := true, laidKinds := [.data, .pinned], laidTests := true, laidLooks := .later }
def FnExactLeastBitsUptoCardSaid : Prop := Claim7.holds Tryd.pinned (.plain (OpenSpec.upto fnExactLeastBitsSpec)) fnExactLeastBitsUptoCard

/-- THE SECOND FORM's CARD OF 'laws.FnExactLeastEnds'. -/
def fnExactLeastEndsUptoCard : Claim7 := { stood := { row := fnExactLeastEndsUptoRow, standIns := [], harness := (true, "4653898a5b1a61c31531c0a81c807fafe6b39f36a6f373b8095eeeee28783b85"), looks := false }, kinds := [], alts := [], laidByText := true, laidKinds := [.data, .pinned], laidTests := true, laidLooks := .later }
def FnExactLeastEndsUptoCardSaid : Prop := Claim7.holds Tryd.pinned (.plain (OpenSpec.upto fnExactLeastEndsSpec)) fnExactLeastEndsUptoCard

/-- THE SECOND FORM's CARD OF 'laws.FnExactBestProtocol'. -/
def fnExactBestProtocolUptoCard : Claim7 := { stood := { row := fnExactBestProtocolUptoRow, standIns := [], harness := (true, "4653898a5b1a61c31531c0a81c807fafe6b39f36a6f373b8095eeeee28783b85"), looks := false }, kinds := [], alts := [], laidByText := true, laidKinds := [.data, .pinned], laidTests := true, laidLooks := .later }
def FnExactBestProtocolUptoCardSaid : Prop := Claim7.holds Tryd.pinned (.plain (OpenSpec.upto fnExactBestProtocolSpec)) fnExactBestProtocolUptoCard

/-- THE SECOND FORM's CARD OF 'laws.FnExactFewestEnds'. -/
def fnExactFewestEndsUptoCard : Claim7 := { stood := { row := fnExactFewestEndsUptoRow, standIns := [], harness := (true, "4653898a5b1a61c31531c0a81c807fafe6b39f36a6f373b8095eeeee28783b85"), looks := false }, kinds := [], alts := [], laidByText := true, laidKinds := [.data, .pinned], laidTests := true, laidLooks := .later }
def FnExactFewestEndsUptoCardSaid : Prop := Claim7.holds Tryd.pinned (.plain (OpenSpec.upto fnExactFewestEndsSpec)) fnExactFewestEndsUptoCard

/-- THE SECOND FORM's CARD OF 'laws.FnIsCover'. -/
def fnIsCoverUptoCard : Claim7 := { stood := { row := fnIsCoverUptoRow, standIns := [], harness := (true, "4653898a5b1a61c31531c0a81c807fafe6b39f36a6f373b8095eeeee28783b85"), looks := false }, kinds := [], alts := [], laidByText := true, laidKinds := [.data, .pinned], laidTests := true, laidLooks := .later }
def FnIsCoverUptoCardSaid : Prop := Claim7.holds Tryd.pinned (.plain (OpenSpec.upto fnIsCoverSpec)) fnIsCoverUptoCard

/-- THE SECOND FORM's CARD OF 'laws.FnIsPartition'. -/
def fnIsPartitionUptoCard : Claim7 := { stood := { row := fnIsPartitionUptoRow, standIns := [], harness := (true, "4653898a5b1a61c31531c0a81c807fafe6b39f36a6f373b8095eeeee28783b85"), looks := false }, kinds := [], alts := [], laidByText := true, laidKinds := [.data, .pinned], laidTests := true, laidLooks := .later }
def FnIsPartitionUptoCardSaid : Prop := Claim7.holds Tryd.pinned (.plain (OpenSpec.upto fnIsPartitionSpec)) fnIsPartitionUptoCard

/-- THE SECOND FORM's CARD OF 'laws.FnExactRankOf'. -/
def fnExactRankOfUptoCard : Claim7 := { stood := { row := fnExactRankOfUptoRow, standIns := [], harness := (true, "4653898a5b1a61c31531c0a81c807fafe6b39f36a6f373b8095eeeee28783b85"), looks := false }, kinds := [], alts := [], laidByText := true, laidKinds := [.data, .pinned], laidTests := true, laidLooks := .later }
def FnExactRankOfUptoCardSaid : Prop := Claim7.holds Tryd.pinned (.plain (OpenSpec.upto fnExactRankOfSpec)) fnExactRankOfUptoCard

/-- THE SECOND FORM's CARD OF 'laws.FnExactSignRankOf'. -/
def fnExactSignRankOfUptoCard : Claim7 := { stood := { row := fnExactSignRankOfUptoRow, standIns := [], harness := (true, "4653898a5b1a61c31531c0a81c807fafe6b39f36a6f373b8095eeeee28783b85"), looks := false }, kinds := [], alts := [], laidByText := true, laidKinds := [.data, .pinned], laidTests := true, laidLooks := .later }
def FnExactSignRankOfUptoCardSaid : Prop := Claim7.holds Tryd.pinned (.plain (OpenSpec.upto fnExactSignRankOfSpec)) fnExactSignRankOfUptoCard

/-- THE SECOND FORM's CARD OF 'laws.FnExactDeterminantOf'. -/
def fnExactDeterminantOfUptoCard : Claim7 := { stood := { row := fnExactDeterminantOfUptoRow, standIns := [], harness := (true, "4653898a5b1a61c31531c0a81c807fafe6b39f36a6f373b8095eeeee28783b85"), looks := false }, kinds := [], alts := [], laidByText := true, laidKinds := [.data, .pinned], laidTests := true, laidLooks := .later }
def FnExactDeterminantOfUptoCardSaid : Prop := Claim7.holds Tryd.pinned (.plain (OpenSpec.upto fnExactDeterminantOfSpec)) fnExactDeterminantOfUptoCard

/-- THE SECOND FORM's CARD OF 'laws.FnExactGreatestFooling'. -/
def fnExactGreatestFoolingUptoCard : Claim7 := { stood := { row := fnExactGreatestFoolingUptoRow, standIns := [], harness := (true, "4653898a5b1a61c31531c0a81c807fafe6b39f36a6f373b8095eeeee28783b85"), looks := false }, kinds := [], alts := [], laidByText := true, laidKinds := [.data, .pinned], laidTests := true, laidLooks := .later }
def FnExactGreatestFoolingUptoCardSaid : Prop := Claim7.holds Tryd.pinned (.plain (OpenSpec.upto fnExactGreatestFoolingSpec)) fnExactGreatestFoolingUptoCard
end Rows
end Go.Proofs.YtohkllmhknjkoaaDoor
