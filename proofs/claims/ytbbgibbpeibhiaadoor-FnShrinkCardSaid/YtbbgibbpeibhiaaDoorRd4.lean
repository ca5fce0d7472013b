/-
  The drawing function l2Bad.
-/
import Derived.Test.YtbbgibbpeibhiaaDoorRd3
namespace Go.Proofs.YtbbgibbpeibhiaaDoor.Rd4
open Go.RowKit Go.Proofs.YtbbgibbpeibhiaaDoor.Plain Go.Proofs.YtbbgibbpeibhiaaDoor.Rd Go.Proofs.YtbbgibbpeibhiaaDoor.Rd2 Go.Proofs.YtbbgibbpeibhiaaDoor.Rd3
set_option linter.unusedVariables false

/-- a number of 64 bits -/
def W64 (x : Int) : Prop := -9223372036854775808 ≤ x ∧ x ≤ 9223372036854775807
theorem cells2 {w : World} {g : Nat} {T : TypeId} {a b : Value} (h : w.heap[g]? = some (.cells #[a, b] T (0, 0))) : w.cell? ⟨g, 0, none⟩ = some a ∧ w.cell? ⟨g, 1, none⟩ = some b ∧ w.frozen? ⟨g, 0, none⟩ = false ∧ w.frozen? ⟨g, 1, none⟩ = false :=
  ⟨cell_of_row _ _ 0 _ _ _ h, cell_of_row _ _ 1 _ _ _ h, frozen_of_row _ _ 0 _ _ h, frozen_of_row _ _ 1 _ _ h⟩

end Go.Proofs.YtbbgibbpeibhiaaDoor.Rd4
