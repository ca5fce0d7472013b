/-
  DERIVED. GIVEN WITH THE SEED: THE CARDS: each row of YtbhkfibbepocfaaDoorRows.lean that lists a variable, with what it lists TIED to the program's text (the seventh form; the later family's looks); each row that meets fmt, with fmt's text TOLD by the authors' own Lean function (tested against real Go, not proved from fmt's source: count such statements apart). THE CARD IS WHAT COUNTS. Prove the row's statement (the work); the ties are given (YtbhkfibbepocfaaDoorTie.lean); close each card by the builder's one call (the guide's Derived/Test/ToyasCard.lean, 'card_holds'). Laid BY PROGRAM, IN A SANDBOX (cutbox-door.mjs). By AI agents, Wed Nov 11 2026. No macro, syntax, notation, axiom, sorry.
-/
import Derived.Test.YtbhkfibbepocfaaDoorRows
import GoSem.ClaimSeven
namespace Go.Proofs.YtbhkfibbepocfaaDoor
namespace Rows

/-- THE TIED CARD OF 'laws.FnTableOf'. -/
def fnTableOfCard : Claim7 := { stood := { row := fnTableOfRow, standIns := [], harness := (true, "81ab36ec75bccc80d1f656aac18805197c76f3994855c22eac54ab5ef88b8081"), looks := false }, kinds := [], alts := [], laidByText := true, laidKinds := [.data, .pinned], laidTests := true, laidLooks := .later }
def FnTableOfCardSaid : Prop := Claim7.holds Tryd.pinned (.plain (OpenSpec.ofChange fnTableOfSpec)) fnTableOfCard

/-- THE TIED CARD OF 'laws.FnMonotone'. -/
def fnMonotoneCard : Claim7 := { stood := { row := fnMonotoneRow, standIns := [], harness := (true, "81ab36ec75bccc80d1f656aac18805197c76f3994855c22eac54ab5ef88b8081"), looks := false }, kinds := [], alts := [], laidByText := true, laidKinds := [.data, .pinned], laidTests := true, laidLooks := .later }
def FnMonotoneCardSaid : Prop := Claim7.holds Tryd.pinned (.plain (OpenSpec.ofChange fnMonotoneSpec)) fnMonotoneCard

/-- THE TIED CARD OF 'laws.FnExactTableValid'. -/
def fnExactTableValidCard : Claim7 := { stood := { row := fnExactTableValidRow, standIns := [], harness := (true, "81ab36ec75bccc80d1f656aac18805197c76f3994855c22eac54ab5ef88b8081"), looks := false }, kinds := [], alts := [], laidByText := true, laidKinds := [.data, .pinned], laidTests := true, laidLooks := .later }
def FnExactTableValidCardSaid : Prop := Claim7.holds Tryd.pinned (.plain (OpenSpec.ofChange fnExactTableValidSpec)) fnExactTableValidCard

/-- THE TIED CARD OF 'laws.FnExactWidthOf'. -/
def fnExactWidthOfCard : Claim7 := { stood := { row := fnExactWidthOfRow, standIns := [], harness := (true, "81ab36ec75bccc80d1f656aac18805197c76f3994855c22eac54ab5ef88b8081"), looks := false }, kinds := [], alts := [], laidByText := true, laidKinds := [.data, .pinned], laidTests := true, laidLooks := .later }
def FnExactWidthOfCardSaid : Prop := Claim7.holds Tryd.pinned (.plain (OpenSpec.ofChange fnExactWidthOfSpec)) fnExactWidthOfCard

/-- THE TIED CARD OF 'laws.FnExactIsMonotone'. -/
def fnExactIsMonotoneCard : Claim7 := { stood := { row := fnExactIsMonotoneRow, standIns := [], harness := (true, "81ab36ec75bccc80d1f656aac18805197c76f3994855c22eac54ab5ef88b8081"), looks := false }, kinds := [], alts := [], laidByText := true, laidKinds := [.data, .pinned], laidTests := true, laidLooks := .later }
def FnExactIsMonotoneCardSaid : Prop := Claim7.holds Tryd.pinned (.plain (OpenSpec.ofChange fnExactIsMonotoneSpec)) fnExactIsMonotoneCard

/-- THE SECOND FORM's CARD OF 'laws.FnTableOf'. -/
def fnTableOfUptoCard : Claim7 := { stood := { row := fnTableOfUptoRow, standIns := [], harness := (true, "81ab36ec75bccc80d1f656aac18805197c76f3994855c22eac54ab5ef88b8081"), looks := false }, kinds := [], alts := [], laidByText := true, laidKinds := [.data, .pinned], laidTests := true, laidLooks := .later }
def FnTableOfUptoCardSaid : Prop := Claim7.holds Tryd.pinned (.plain (OpenSpec.upto fnTableOfSpec)) fnTableOfUptoCard

/-- THE SECOND FORM's CARD OF 'laws.FnMonotone'. -/
def fnMonotoneUptoCard : Claim7 := { stood := { row := fnMonotoneUptoRow, standIns := [], harness := (true, "81ab36ec75bccc80d1f656aac18805197c76f3994855c22eac54ab5ef88b8081"), looks := false }, kinds := [], alts := [], laidByText := true, laidKinds := [.data, .pinned], laidTests := true, laidLooks := .later }
def FnMonotoneUptoCardSaid : Prop := Claim7.holds Tryd.pinned (.plain (OpenSpec.upto fnMonotoneSpec)) fnMonotoneUptoCard

/-- THE SECOND FORM's CARD OF 'laws.FnExactTableValid'. -/
def fnExactTableValidUptoCard : Claim7 := { stood := { row := fnExactTableValidUptoRow, standIns := [], harness := (true, "81ab36ec75bccc80d1f656aac18805197c76f3994855c22eac54ab5ef88b8081"), looks := false }, kinds := [], alts := [], laidByText := true, laidKinds := [.data, .pinned], laidTests := true, laidLooks := .later }
def FnExactTableValidUptoCardSaid : Prop := Claim7.holds Tryd.pinned (.plain (OpenSpec.upto fnExactTableValidSpec)) fnExactTableValidUptoCard

/-- THE SECOND FORM's CARD OF 'laws.FnExactWidthOf'. -/
def fnExactWidthOfUptoCard : Claim7 := { stood := { row := fnExactWidthOfUptoRow, standIns := [], harness := (true, "81ab36ec75bccc80d1f656aac18805197c76f3994855c22eac54ab5ef88b8081"), looks := false }, kinds := [], alts := [], laidByText := true, laidKinds := [.data, .pinned], laidTests := true, laidLooks := .later }
def FnExactWidthOfUptoCardSaid : Prop := Claim7.holds Tryd.pinned (.plain (OpenSpec.upto fnExactWidthOfSpec)) fnExactWidthOfUptoCard

/-- THE SECOND FORM's CARD OF 'laws.FnExactIsMonotone'. -/
def fnExactIsMonotoneUptoCard : Claim7 := { stood := { row := fnExactIsMonotoneUptoRow, standIns := [], harness := (true, "81ab36ec75bccc80d1f656aac18805197c76f3994855c22eac54ab5ef88b8081"), looks := false }, kinds := [], alts := [], laidByText := true, laidKinds := [.data, .pinned], laidTests := true, laidLooks := .later }
def FnExactIsMonotoneUptoCardSaid : Prop := Claim7.holds Tryd.pinned (.plain (OpenSpec.upto fnExactIsMonotoneSpec)) fnExactIsMonotoneUptoCard
end Rows
end Go.Proofs.YtbhkfibbepocfaaDoor
