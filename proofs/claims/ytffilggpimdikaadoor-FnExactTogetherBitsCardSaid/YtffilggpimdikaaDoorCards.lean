/-
  DERIVED. GIVEN WITH THE SEED: THE CARDS: each row of YtffilggpimdikaaDoorRows.lean that lists a variable, with what it lists TIED to the program's text (the seventh form; the later family's looks); each row that meets fmt, with fmt's text TOLD by the authors' own Lean function (tested against real Go, not proved from fmt's source: count such statements apart). THE CARD IS WHAT COUNTS. Prove the row's statement (the work); the ties are given (YtffilggpimdikaaDoorTie.lean); close each card by the builder's one call (the guide's Derived/Test/ToyasCard.lean, 'card_holds'). Laid BY PROGRAM, IN A SANDBOX (cutbox-door.mjs). By AI agents, Wed Nov 11 2026. No macro, syntax, notation, axiom, sorry.
-/
import Derived.Test.YtffilggpimdikaaDoorRows
import GoSem.ClaimSeven
namespace Go.Proofs.YtffilggpimdikaaDoor
namespace Rows

/-- THE TIED CARD OF 'laws.FnExactOneWayBits'. -/
def fnExactOneWayBitsCard : Claim7 := { stood := { row := fnExactOneWayBitsRow, standIns := [], harness := (true, "9b1a992072a462b83960afc1c3d08c8a45be4c207fa5944c852ddfae89b2a371"), looks := false }, kinds := [], alts := [], goes := true, laidByText := true, laidKinds := [.data, .pinned], laidTests := true, laidLooks := .later }
def FnExactOneWayBitsCardSaid : Prop := Claim7.holds Tryd.pinned (.plain (OpenSpec.ofChange fnExactOneWayBitsSpec)) fnExactOneWayBitsCard

/-- THE TIED CARD OF 'laws.FnExactTogetherBits'. -/
def fnExactTogetherBitsCard : Claim7 := { stood := { row := fnExactTogetherBitsRow, standIns := [], harness := (true, "9b1a992072a462b83960afc1c3d08c8a45be4c207fa5944c852ddfae89b2a371"), looks := false }, kinds := [], alts := [], goes := true, laidByText := true, laidKinds := [.data, .pinned], laidTests := true, laidLooks := .later }
def FnExactTogetherBitsCardSaid : Prop := Claim7.holds Tryd.pinned (.plain (OpenSpec.ofChange fnExactTogetherBitsSpec)) fnExactTogetherBitsCard

/-- THE TIED CARD OF 'laws.FnExactPatternsOn'. -/
def fnExactPatternsOnCard : Claim7 := { stood := { row := fnExactPatternsOnRow, standIns := [], harness := (true, "9b1a992072a462b83960afc1c3d08c8a45be4c207fa5944c852ddfae89b2a371"), looks := false }, kinds := [], alts := [], goes := true, laidByText := true, laidKinds := [.data, .pinned], laidTests := true, laidLooks := .later }
def FnExactPatternsOnCardSaid : Prop := Claim7.holds Tryd.pinned (.plain (OpenSpec.ofChange fnExactPatternsOnSpec)) fnExactPatternsOnCard

/-- THE TIED CARD OF 'laws.FnExactIsShattered'. -/
def fnExactIsShatteredCard : Claim7 := { stood := { row := fnExactIsShatteredRow, standIns := [], harness := (true, "9b1a992072a462b83960afc1c3d08c8a45be4c207fa5944c852ddfae89b2a371"), looks := false }, kinds := [], alts := [], goes := true, laidByText := true, laidKinds := [.data, .pinned], laidTests := true, laidLooks := .later }
def FnExactIsShatteredCardSaid : Prop := Claim7.holds Tryd.pinned (.plain (OpenSpec.ofChange fnExactIsShatteredSpec)) fnExactIsShatteredCard

/-- THE TIED CARD OF 'laws.FnExactShatteredCols'. -/
def fnExactShatteredColsCard : Claim7 := { stood := { row := fnExactShatteredColsRow, standIns := [], harness := (true, "9b1a992072a462b83960afc1c3d08c8a45be4c207fa5944c852ddfae89b2a371"), looks := false }, kinds := [], alts := [], goes := true, laidByText := true, laidKinds := [.data, .pinned], laidTests := true, laidLooks := .later }
def FnExactShatteredColsCardSaid : Prop := Claim7.holds Tryd.pinned (.plain (OpenSpec.ofChange fnExactShatteredColsSpec)) fnExactShatteredColsCard

/-- THE TIED CARD OF 'laws.FnExactRoundBits'. -/
def fnExactRoundBitsCard : Claim7 := { stood := { row := fnExactRoundBitsRow, standIns := [], harness := (true, "9b1a992072a462b83960afc1c3d08c8a45be4c207fa5944c852ddfae89b2a371"), looks := false }, kinds := [], alts := [], goes := true, laidByText := true, laidKinds := [.data, .pinned], laidTests := true, laidLooks := .later }
def FnExactRoundBitsCardSaid : Prop := Claim7.holds Tryd.pinned (.plain (OpenSpec.ofChange fnExactRoundBitsSpec)) fnExactRoundBitsCard

/-- THE TIED CARD OF 'laws.FnExactRoundsNeeded'. -/
def fnExactRoundsNeededCard : Claim7 := { stood := { row := fnExactRoundsNeededRow, standIns := [], harness := (true, "9b1a992072a462b83960afc1c3d08c8a45be4c207fa5944c852ddfae89b2a371"), looks := false }, kinds := [], alts := [], goes := true, laidByText := true, laidKinds := [.data, .pinned], laidTests := true, laidLooks := .later }
def FnExactRoundsNeededCardSaid : Prop := Claim7.holds Tryd.pinned (.plain (OpenSpec.ofChange fnExactRoundsNeededSpec)) fnExactRoundsNeededCard

/-- THE TIED CARD OF 'laws.FnIsCover'. -/
def fnIsCoverCard : Claim7 := { stood := { row := fnIsCoverRow, standIns := [], harness := (true, "9b1a992072a462b83960afc1c3d08c8a45be4c207fa5944c852ddfae89b2a371"), looks := false }, kinds := [], alts := [], goes := true, laidByText := true, laidKinds := [.data, .pinned], laidTests := true, laidLooks := .later }
def FnIsCoverCardSaid : Prop := Claim7.holds Tryd.pinned (.plain (OpenSpec.ofChange fnIsCoverSpec)) fnIsCoverCard

/-- THE SECOND FORM's CARD OF 'laws.FnExactOneWayBits'. -/
def fnExactOneWayBitsUptoCard : Claim7 := { stood := { row := fnExactOneWayBitsUptoRow, standIns := [], harness := (true, "9b1a992072a462b83960afc1c3d08c8a45be4c207fa5944c852ddfae89b2a371"), looks := false }, kinds := [], alts := [], goes := true, laidByText := true, laidKinds := [.data, .pinned], laidTests := true, laidLooks := .later }
def FnExactOneWayBitsUptoCardSaid : Prop := Claim7.holds Tryd.pinned (.plain (OpenSpec.upto fnExactOneWayBitsSpec)) fnExactOneWayBitsUptoCard

/-- THE SECOND FORM's CARD OF 'laws.FnExactTogetherBits'. -/
def fnExactTogetherBitsUptoCard : Claim7 := { stood := { row := fnExactTogetherBitsUptoRow, standIns := [], harness := (true, "9b1a992072a462b83960afc1c3d08c8a45be4c207fa5944c852ddfae89b2a371"), looks := false }, kinds := [], alts := [], goes := true, laidByText := true, laidKinds := [.data, .pinned], laidTests := true, laidLooks := .later }
def FnExactTogetherBitsUptoCardSaid : Prop := Claim7.holds Tryd.pinned (.plain (OpenSpec.upto fnExactTogetherBitsSpec)) fnExactTogetherBitsUptoCard

/-- THE SECOND FORM's CARD OF 'laws.FnExactPatternsOn'. -/
def fnExactPatternsOnUptoCard : Claim7 := { stood := { row := fnExactPatternsOnUptoRow, standIns := [], harness := (true, "9b1a992072a462b83960afc1c3d08c8a45be4c207fa5944c852ddfae89b2a371"), looks := false }, kinds := [], alts := [], goes := true, laidByText := true, laidKinds := [.data, .pinned], laidTests := true, laidLooks := .later }
def FnExactPatternsOnUptoCardSaid : Prop := Claim7.holds Tryd.pinned (.plain (OpenSpec.upto fnExactPatternsOnSpec)) fnExactPatternsOnUptoCard

/-- THE SECOND FORM's CARD OF 'laws.FnExactIsShattered'. -/
def fnExactIsShatteredUptoCard : Claim7 := { stood := { row := fnExactIsShatteredUptoRow, standIns := [], harness := (true, "9b1a992072a462b83960afc1c3d08c8a45be4c207fa5944c852ddfae89b2a371"), looks := false }, kinds := [], alts := [], goes := true, laidByText := true, laidKinds := [.data, .pinned], laidTests := true, laidLooks := .later }
def FnExactIsShatteredUptoCardSaid : Prop := Claim7.holds Tryd.pinned (.plain (OpenSpec.upto fnExactIsShatteredSpec)) fnExactIsShatteredUptoCard

/-- THE SECOND FORM's CARD OF 'laws.FnExactShatteredCols'. -/
def fnExactShatteredColsUptoCard : Claim7 := { stood := { row := fnExactShatteredColsUptoRow, standIns := [], harness := (true, "9b1a992072a462b83960afc1c3d08c8a45be4c207fa5944c852ddfae89b2a371"), looks := false }, kinds := [], alts := [], goes := true, laidByText := true, laidKinds := [.data, .pinned], laidTests := true, laidLooks := .later }
def FnExactShatteredColsUptoCardSaid : Prop := Claim7.holds Tryd.pinned (.plain (OpenSpec.upto fnExactShatteredColsSpec)) fnExactShatteredColsUptoCard

/-- THE SECOND FORM's CARD OF 'laws.FnExactRoundBits'. -/
def fnExactRoundBitsUptoCard : Claim7 := { stood := { row := fnExactRoundBitsUptoRow, standIns := [], harness := (true, "9b1a992072a462b83960afc1c3d08c8a45be4c207fa5944c852ddfae89b2a371"), looks := false }, kinds := [], alts := [], goes := true, laidByText := true, laidKinds := [.data, .pinned], laidTests := true, laidLooks := .later }
def FnExactRoundBitsUptoCardSaid : Prop := Claim7.holds Tryd.pinned (.plain (OpenSpec.upto fnExactRoundBitsSpec)) fnExactRoundBitsUptoCard

/-- THE SECOND FORM's CARD OF 'laws.FnExactRoundsNeeded'. -/
def fnExactRoundsNeededUptoCard : Claim7 := { stood := { row := fnExactRoundsNeededUptoRow, standIns := [], harness := (true, "9b1a992072a462b83960afc1c3d08c8a45be4c207fa5944c852ddfae89b2a371"), looks := false }, kinds := [], alts := [], goes := true, laidByText := true, laidKinds := [.data, .pinned], laidTests := true, laidLooks := .later }
def FnExactRoundsNeededUptoCardSaid : Prop := Claim7.holds Tryd.pinned (.plain (OpenSpec.upto fnExactRoundsNeededSpec)) fnExactRoundsNeededUptoCard

/-- THE SECOND FORM's CARD OF 'laws.FnIsCover'. -/
def fnIsCoverUptoCard : Claim7 := { stood := { row := fnIsCoverUptoRow, standIns := [], harness := (true, "9b1a992072a462b83960afc1c3d08c8a45be4c207fa5944c852ddfae89b2a371"), looks := false }, kinds := [], alts := [], goes := true, laidByText := true, laidKinds := [.data, .pinned], laidTests := true, laidLooks := .later }
def FnIsCoverUptoCardSaid : Prop := Claim7.holds Tryd.pinned (.plain (OpenSpec.upto fnIsCoverSpec)) fnIsCoverUptoCard
end Rows
end Go.Proofs.YtffilggpimdikaaDoor
