/-
  What is said of a method of a node.
-/
import Derived.Test.YtbccachkkflceaaDoorGTreeOf
import Derived.Test.YtbccachkkflceaaDoorWq
namespace Go.Proofs.YtbccachkkflceaaDoor.Count
open Go.RowKit Go.Shelf Go.Proofs.YtbccachkkflceaaDoor.Plain Go.Proofs.YtbccachkkflceaaDoor.Tree Go.Proofs.YtbccachkkflceaaDoor.Hex Go.Proofs.YtbccachkkflceaaDoor.Read
open Go.Proofs.YtbccachkkflceaaDoor.Wq (WQ wq_step wq_nil region_kept drew_at)
set_option linter.unusedVariables false
set_option linter.unusedSimpArgs false

/-- a method of a node: its receiver's kind, and what is said of the call -/
def Node (fe fs : FuncId) (t : T) (C : FuncId → Value → Prop) : Prop :=
  (∃ V, tree t = .iface 61 V ∧ C fe V) ∨ (∃ V, tree t = .iface 77 V ∧ C fs V)
theorem cells4 {w : World} {b : Nat} {c0 c1 c2 c3 : Value} {ty : TypeId} (h : w.heap[b]? = some (.cells #[c0, c1, c2, c3] ty (0, 0))) : w.cell? ⟨b, 0, none⟩ = some c0 ∧ w.cell? ⟨b, 1, none⟩ = some c1 ∧ w.cell? ⟨b, 2, none⟩ = some c2 ∧ w.cell? ⟨b, 3, none⟩ = some c3 :=
  ⟨cell_of_row _ _ 0 _ _ _ h, cell_of_row _ _ 1 _ _ _ h, cell_of_row _ _ 2 _ _ _ h, cell_of_row _ _ 3 _ _ _ h⟩

end Go.Proofs.YtbccachkkflceaaDoor.Count
