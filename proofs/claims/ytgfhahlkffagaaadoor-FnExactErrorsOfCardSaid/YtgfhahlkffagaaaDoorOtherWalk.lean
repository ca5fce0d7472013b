/-
  The walk of the law on OtherMatrix.
-/
import Derived.Test.YtgfhahlkffagaaaDoorSpecTO
namespace Go.Proofs.YtgfhahlkffagaaaDoor.fnExactOtherMatrix
open Go.RowKit Go.Proofs.YtgfhahlkffagaaaDoor.Plain Go.Proofs.YtgfhahlkffagaaaDoor.Base Go.Proofs.YtgfhahlkffagaaaDoor.Valid Go.Proofs.YtgfhahlkffagaaaDoor.Law Go.Proofs.YtgfhahlkffagaaaDoor.GridPlain Go.Proofs.YtgfhahlkffagaaaDoor.Grid Go.Proofs.YtgfhahlkffagaaaDoor.Entry Go.Proofs.YtgfhahlkffagaaaDoor.Clos Go.Proofs.YtgfhahlkffagaaaDoor.SpecTO
set_option linter.unusedVariables false

theorem three_at {w1 w2 : World} {a b c : Value} {T : TypeId} (hb : Below (w1.alloc (.cells #[a, b, c] T)).heap.size (w1.alloc (.cells #[a, b, c] T)) w2) :
    w1.heap.size < w2.heap.size ∧ w2.cell? ⟨w1.heap.size, 0, none⟩ = some a ∧ w2.cell? ⟨w1.heap.size, 1, none⟩ = some b ∧ w2.cell? ⟨w1.heap.size, 2, none⟩ = some c := by
  obtain ⟨h0, h1, h2⟩ := three_of hb
  exact ⟨by have := hb.size; simp at this; omega, h0, h1, h2⟩

end Go.Proofs.YtgfhahlkffagaaaDoor.fnExactOtherMatrix
