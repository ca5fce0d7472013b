/-
  DERIVED. GIVEN WITH THE SEED: THE CARDS: each row of YtbbgibbpeibhiaaDoorRows.lean that lists a variable, with what it lists TIED to the program's text (the seventh form; the later family's looks); each row that meets fmt, with fmt's text TOLD by the authors' own Lean function (tested against real Go, not proved from fmt's source: count such statements apart). THE CARD IS WHAT COUNTS. Prove the row's statement (the work); the ties are given (YtbbgibbpeibhiaaDoorTie.lean); close each card by the builder's one call (the guide's Derived/Test/ToyasCard.lean, 'card_holds'). Laid BY PROGRAM, IN A SANDBOX (cutbox-door.mjs). By AI agents, Wed Nov 11 2026. No macro, syntax, notation, axiom, sorry.
-/
import Derived.Test.YtbbgibbpeibhiaaDoorRows
import GoSem.ClaimSeven
namespace Go.Proofs.YtbbgibbpeibhiaaDoor
namespace Rows

/-- THE TIED CARD OF 'laws.FnShrink'. -/
def fnShrinkCard : Claim7 := { stood := { row := fnShrinkRow, standIns := [], harness := (true, "bb622264f8f369d6c2e78018ead6ecfc2e0511deb3161b7b85aa13341e03136c"), looks := false }, kinds := [], alts := [], laidByText := true, laidKinds := [.data, .pinned], laidTests := true, laidLooks := .later }
def FnShrinkCardSaid : Prop := Claim7.holds Tryd.pinned (.plain (OpenSpec.ofChange fnShrinkSpec)) fnShrinkCard

/-- THE TIED CARD OF 'laws.FnExactLeastBits'. -/
def fnExactLeastBitsCard : Claim7 := { stood := { row := fnExactLeastBitsRow, standIns := [], harness := (true, "bb622264f8f369d6c2e78018ead6ecfc2e0511deb3161b7b85aa13341e03136c"), looks := false }, kinds := [], alts := [], laidByText := true, laidKinds := [.data, .pinned], laidTests := true, laidLooks := .later }
def FnExactLeastBitsCardSaid : Prop := Claim7.holds Tryd.pinned (.plain (OpenSpec.ofChange fnExactLeastBitsSpec)) fnExactLeastBitsCard

/-- THE TIED CARD OF 'laws.FnExactLeastEnds'. -/
def fnExactLeastEndsCard : Claim7 := { stood := { row := fnExactLeastEndsRow, standIns := [], harness := (true, "bb622264f8f369d6c2e78018ead6ecfc2e0511deb3161b7b85aa13341e03136c"), looks := false }, kinds := [], alts := [], laidByText := true, laidKinds := [.data, .pinned], laidTests := true, laidLooks := .later }
def FnExactLeastEndsCardSaid : Prop := Claim7.holds Tryd.pinned (.plain (OpenSpec.ofChange fnExactLeastEndsSpec)) fnExactLeastEndsCard

/-- THE TIED CARD OF 'laws.FnExactBestProtocol'. -/
def fnExactBestProtocolCard : Claim7 := { stood := { row := fnExactBestProtocolRow, standIns := [], harness := (true, "bb622264f8f369d6c2e78018ead6ecfc2e0511deb3161b7b85aa13341e03136c"), looks := false }, kinds := [], alts := [], laidByText := true, laidKinds := [.data, .pinned], laidTests := true, laidLooks := .later }
def FnExactBestProtocolCardSaid : Prop := Claim7.holds Tryd.pinned (.plain (OpenSpec.ofChange fnExactBestProtocolSpec)) fnExactBestProtocolCard

/-- THE TIED CARD OF 'laws.FnExactFewestEnds'. -/
def fnExactFewestEndsCard : Claim7 := { stood := { row := fnExactFewestEndsRow, standIns := [], harness := (true, "bb622264f8f369d6c2e78018ead6ecfc2e0511deb3161b7b85aa13341e03136c"), looks := false }, kinds := [], alts := [], laidByText := true, laidKinds := [.data, .pinned], laidTests := true, laidLooks := .later }
def FnExactFewestEndsCardSaid : Prop := Claim7.holds Tryd.pinned (.plain (OpenSpec.ofChange fnExactFewestEndsSpec)) fnExactFewestEndsCard

/-- THE SECOND FORM's CARD OF 'laws.FnShrink'. -/
def fnShrinkUptoCard : Claim7 := { stood := { row := fnShrinkUptoRow, standIns := [], harness := (true, "bb622264f8f369d6c2e78018ead6ecfc2e0511deb3161b7b85aa13341e03136c"), looks := false }, kinds := [], alts := [], laidByText := true, laidKinds := [.data, .pinned], laidTests := true, laidLooks := .later }
def FnShrinkUptoCardSaid : Prop := Claim7.holds Tryd.pinned (.plain (OpenSpec.upto fnShrinkSpec)) fnShrinkUptoCard

/-- THE SECOND FORM's CARD OF 'laws.FnExactLeastBits'. -/
def fnExactLeastBitsUptoCard : Claim7 := { stood := { row := fnExactLeastBitsUptoRow, standIns := [], harness := (true, "bb622264f8f369d6c2e78018ead6ecfc2e0511deb3161b7b85aa13341e03136c"), looks := false }, kinds := [], alts := [], laidByText := true, laidKinds := [.data, .pinned], laidTests := true, laidLooks := .later }
def FnExactLeastBitsUptoCardSaid : Prop := Claim7.holds Tryd.pinned (.plain (OpenSpec.upto fnExactLeastBitsSpec)) fnExactLeastBitsUptoCard

/-- THE SECOND FORM's CARD OF 'laws.FnExactLeastEnds'. -/
def fnExactLeastEndsUptoCard : Claim7 := { stood := { row := fnExactLeastEndsUptoRow, standIns := [], harness := (true, "bb622264f8f369d6c2e78018ead6ecfc2e0511deb3161b7b85aa13341e03136c"), looks := false }, kinds := [], alts := [], laidByText := true, laidKinds := [.data, .pinned], laidTests := true, laidLooks := .later }
def FnExactLeastEndsUptoCardSaid : Prop := Claim7.holds Tryd.pinned (.plain (OpenSpec.upto fnExactLeastEndsSpec)) fnExactLeastEndsUptoCard

/-- THE SECOND FORM's CARD OF 'laws.FnExactBestProtocol'. -/
def fnExactBestProtocolUptoCard : Claim7 := { stood := { row := fnExactBestProtocolUptoRow, standIns := [], harness := (true, "bb622264f8f369d6c2e78018ead6ecfc2e0511deb3161b7b85aa13341e03136c"), looks := false }, kinds := [], alts := [], laidByText := true, laidKinds := [.data, .pinned], laidTests := true, laidLooks := .later }
def FnExactBestProtocolUptoCardSaid : Prop := Claim7.holds Tryd.pinned (.plain (OpenSpec.upto fnExactBestProtocolSpec)) fnExactBestProtocolUptoCard

/-- THE SECOND FORM's CARD OF 'laws.FnExactFewestEnds'. -/
def fnExactFewestEndsUptoCard : Claim7 := { stood := { row := fnExactFewestEndsUptoRow, standIns := [], harness := (true, "bb622264f8f369d6c2e78018ead6ecfc2e0511deb3161b7b85aa13341e03136c"), looks := false }, kinds := [], alts := [], laidByText := true, laidKinds := [.data, .pinned], laidTests := true, laidLooks := .later }
def FnExactFewestEndsUptoCardSaid : Prop := Claim7.holds Tryd.pinned (.plain (OpenSpec.upto fnExactFewestEndsSpec)) fnExactFewestEndsUptoCard
end Rows
end Go.Proofs.YtbbgibbpeibhiaaDoor
