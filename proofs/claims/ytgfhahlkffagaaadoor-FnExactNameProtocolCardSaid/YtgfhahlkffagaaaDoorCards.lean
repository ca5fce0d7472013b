/-
  DERIVED. GIVEN WITH THE SEED: THE CARDS: each row of YtgfhahlkffagaaaDoorRows.lean that lists a variable, with what it lists TIED to the program's text (the seventh form; the later family's looks); each row that meets fmt, with fmt's text TOLD by the authors' own Lean function (tested against real Go, not proved from fmt's source: count such statements apart). THE CARD IS WHAT COUNTS. Prove the row's statement (the work); the ties are given (YtgfhahlkffagaaaDoorTie.lean); close each card by the builder's one call (the guide's Derived/Test/ToyasCard.lean, 'card_holds'). Laid BY PROGRAM, IN A SANDBOX (cutbox-door.mjs). By AI agents, Wed Nov 11 2026. No macro, syntax, notation, axiom, sorry.
-/
import Derived.Test.YtgfhahlkffagaaaDoorRows
import GoSem.ClaimSeven
namespace Go.Proofs.YtgfhahlkffagaaaDoor
namespace Rows

/-- THE TIED CARD OF 'laws.FnExactNameProtocol'. -/
def fnExactNameProtocolCard : Claim7 := { stood := { row := fnExactNameProtocolRow, standIns := [], harness := (true, "30da7a9ea075704e3721f13093fe8eb4589b66d8c5c5ea9f74ac220bdc81f582"), looks := false }, kinds := [], alts := [], laidByText := true, laidKinds := [.data, .pinned], laidTests := true, laidLooks := .later }
def FnExactNameProtocolCardSaid : Prop := Claim7.holds Tryd.pinned (.plain (OpenSpec.ofChange fnExactNameProtocolSpec)) fnExactNameProtocolCard

/-- THE TIED CARD OF 'laws.FnExactErrorsOf'. -/
def fnExactErrorsOfCard : Claim7 := { stood := { row := fnExactErrorsOfRow, standIns := [], harness := (true, "30da7a9ea075704e3721f13093fe8eb4589b66d8c5c5ea9f74ac220bdc81f582"), looks := false }, kinds := [], alts := [], laidByText := true, laidKinds := [.data, .pinned], laidTests := true, laidLooks := .later }
def FnExactErrorsOfCardSaid : Prop := Claim7.holds Tryd.pinned (.plain (OpenSpec.ofChange fnExactErrorsOfSpec)) fnExactErrorsOfCard

/-- THE TIED CARD OF 'laws.FnExactComputes'. -/
def fnExactComputesCard : Claim7 := { stood := { row := fnExactComputesRow, standIns := [], harness := (true, "30da7a9ea075704e3721f13093fe8eb4589b66d8c5c5ea9f74ac220bdc81f582"), looks := false }, kinds := [], alts := [], laidByText := true, laidKinds := [.data, .pinned], laidTests := true, laidLooks := .later }
def FnExactComputesCardSaid : Prop := Claim7.holds Tryd.pinned (.plain (OpenSpec.ofChange fnExactComputesSpec)) fnExactComputesCard

/-- THE TIED CARD OF 'laws.FnExactLeastBits'. -/
def fnExactLeastBitsCard : Claim7 := { stood := { row := fnExactLeastBitsRow, standIns := [], harness := (true, "30da7a9ea075704e3721f13093fe8eb4589b66d8c5c5ea9f74ac220bdc81f582"), looks := false }, kinds := [], alts := [], laidByText := true, laidKinds := [.data, .pinned], laidTests := true, laidLooks := .later }
def FnExactLeastBitsCardSaid : Prop := Claim7.holds Tryd.pinned (.plain (OpenSpec.ofChange fnExactLeastBitsSpec)) fnExactLeastBitsCard

/-- THE TIED CARD OF 'laws.FnExactBestProtocol'. -/
def fnExactBestProtocolCard : Claim7 := { stood := { row := fnExactBestProtocolRow, standIns := [], harness := (true, "30da7a9ea075704e3721f13093fe8eb4589b66d8c5c5ea9f74ac220bdc81f582"), looks := false }, kinds := [], alts := [], laidByText := true, laidKinds := [.data, .pinned], laidTests := true, laidLooks := .later }
def FnExactBestProtocolCardSaid : Prop := Claim7.holds Tryd.pinned (.plain (OpenSpec.ofChange fnExactBestProtocolSpec)) fnExactBestProtocolCard

/-- THE TIED CARD OF 'laws.FnExactLeastEnds'. -/
def fnExactLeastEndsCard : Claim7 := { stood := { row := fnExactLeastEndsRow, standIns := [], harness := (true, "30da7a9ea075704e3721f13093fe8eb4589b66d8c5c5ea9f74ac220bdc81f582"), looks := false }, kinds := [], alts := [], laidByText := true, laidKinds := [.data, .pinned], laidTests := true, laidLooks := .later }
def FnExactLeastEndsCardSaid : Prop := Claim7.holds Tryd.pinned (.plain (OpenSpec.ofChange fnExactLeastEndsSpec)) fnExactLeastEndsCard

/-- THE TIED CARD OF 'laws.FnExactFewestEnds'. -/
def fnExactFewestEndsCard : Claim7 := { stood := { row := fnExactFewestEndsRow, standIns := [], harness := (true, "30da7a9ea075704e3721f13093fe8eb4589b66d8c5c5ea9f74ac220bdc81f582"), looks := false }, kinds := [], alts := [], laidByText := true, laidKinds := [.data, .pinned], laidTests := true, laidLooks := .later }
def FnExactFewestEndsCardSaid : Prop := Claim7.holds Tryd.pinned (.plain (OpenSpec.ofChange fnExactFewestEndsSpec)) fnExactFewestEndsCard

/-- THE SECOND FORM's CARD OF 'laws.FnExactNameProtocol'. -/
def fnExactNameProtocolUptoCard : Claim7 := { stood := { row := fnExactNameProtocolUptoRow, standIns := [], harness := (true, "30da7a9ea075704e3721f13093fe8eb4589b66d8c5c5ea9f74ac220bdc81f582"), looks := false }, kinds := [], alts := [], laidByText := true, laidKinds := [.data, .pinned], laidTests := true, laidLooks := .later }
def FnExactNameProtocolUptoCardSaid : Prop := Claim7.holds Tryd.pinned (.plain (OpenSpec.upto fnExactNameProtocolSpec)) fnExactNameProtocolUptoCard

/-- THE SECOND FORM's CARD OF 'laws.FnExactErrorsOf'. -/
def fnExactErrorsOfUptoCard : Claim7 := { stood := { row := fnExactErrorsOfUptoRow, standIns := [], harness := (true, "30da7a9ea075704e3721f13093fe8eb4589b66d8c5c5ea9f74ac220bdc81f582"), looks := false }, kinds := [], alts := [], laidByText := true, laidKinds := [.data, .pinned], laidTests := true, laidLooks := .later }
def FnExactErrorsOfUptoCardSaid : Prop := Claim7.holds Tryd.pinned (.plain (OpenSpec.upto fnExactErrorsOfSpec)) fnExactErrorsOfUptoCard

/-- THE SECOND FORM's CARD OF 'laws.FnExactComputes'. -/
def fnExactComputesUptoCard : Claim7 := { stood := { row := fnExactComputesUptoRow, standIns := [], harness := (true, "30da7a9ea075704e3721f13093fe8eb4589b66d8c5c5ea9f74ac220bdc81f582"), looks := false }, kinds := [], alts := [], laidByText := true, laidKinds := [.data, .pinned], laidTests := true, laidLooks := .later }
def FnExactComputesUptoCardSaid : Prop := Claim7.holds Tryd.pinned (.plain (OpenSpec.upto fnExactComputesSpec)) fnExactComputesUptoCard

/-- THE SECOND FORM's CARD OF 'laws.FnExactLeastBits'. -/
def fnExactLeastBitsUptoCard : Claim7 := { stood := { row := fnExactLeastBitsUptoRow, standIns := [], harness := (true, "30da7a9ea075704e3721f13093fe8eb4589b66d8c5c5ea9f74ac220bdc81f582"), looks := false }, kinds := [], alts := [], laidByText := true, laidKinds := [.data, .pinned], laidTests := true, laidLooks := .later }
def FnExactLeastBitsUptoCardSaid : Prop := Claim7.holds Tryd.pinned (.plain (OpenSpec.upto fnExactLeastBitsSpec)) fnExactLeastBitsUptoCard

/-- THE SECOND FORM's CARD OF 'laws.FnExactBestProtocol'. -/
def fnExactBestProtocolUptoCard : Claim7 := { stood := { row := fnExactBestProtocolUptoRow, standIns := [], harness := (true, "30da7a9ea075704e3721f13093fe8eb4589b66d8c5c5ea9f74ac220bdc81f582"), looks := false }, kinds := [], alts := [], laidByText := true, laidKinds := [.data, .pinned], laidTests := true, laidLooks := .later }
def FnExactBestProtocolUptoCardSaid : Prop := Claim7.holds Tryd.pinned (.plain (OpenSpec.upto fnExactBestProtocolSpec)) fnExactBestProtocolUptoCard

/-- THE SECOND FORM's CARD OF 'laws.FnExactLeastEnds'. -/
def fnExactLeastEndsUptoCard : Claim7 := { stood := { row := fnExactLeastEndsUptoRow, standIns := [], harness := (true, "30da7a9ea075704e3721f13093fe8eb4589b66d8c5c5ea9f74ac220bdc81f582"), looks := false }, kinds := [], alts := [], laidByText := true, laidKinds := [.data, .pinned], laidTests := true, laidLooks := .later }
def FnExactLeastEndsUptoCardSaid : Prop := Claim7.holds Tryd.pinned (.plain (OpenSpec.upto fnExactLeastEndsSpec)) fnExactLeastEndsUptoCard

/-- THE SECOND FORM's CARD OF 'laws.FnExactFewestEnds'. -/
def fnExactFewestEndsUptoCard : Claim7 := { stood := { row := fnExactFewestEndsUptoRow, standIns := [], harness := (true, "30da7a9ea075704e3721f13093fe8eb4589b66d8c5c5ea9f74ac220bdc81f582"), looks := false }, kinds := [], alts := [], laidByText := true, laidKinds := [.data, .pinned], laidTests := true, laidLooks := .later }
def FnExactFewestEndsUptoCardSaid : Prop := Claim7.holds Tryd.pinned (.plain (OpenSpec.upto fnExactFewestEndsSpec)) fnExactFewestEndsUptoCard
end Rows
end Go.Proofs.YtgfhahlkffagaaaDoor
