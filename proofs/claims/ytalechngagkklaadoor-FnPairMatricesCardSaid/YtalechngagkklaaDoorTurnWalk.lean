/-
  The walk of the law on TurnMatrix.
-/
import Derived.Test.YtalechngagkklaaDoorSpecTO
namespace Go.Proofs.YtalechngagkklaaDoor.fnExactTurnMatrix
open Go.RowKit Go.Proofs.YtalechngagkklaaDoor.Plain Go.Proofs.YtalechngagkklaaDoor.Base Go.Proofs.YtalechngagkklaaDoor.Valid Go.Proofs.YtalechngagkklaaDoor.Law Go.Proofs.YtalechngagkklaaDoor.GridPlain Go.Proofs.YtalechngagkklaaDoor.Grid Go.Proofs.YtalechngagkklaaDoor.Entry Go.Proofs.YtalechngagkklaaDoor.Clos Go.Proofs.YtalechngagkklaaDoor.SpecTO
set_option linter.unusedVariables false

/-- both find one matrix, or none -/
theorem both (r c : Int) (s : ByteArray) (hs : s.size ≤ maxLen) : ∃ (A B : Int) (u : ByteArray) (b : Bool),
    (∀ w, Calls Tryd.prog 24 #[mat r c s] w fun e w' => e = .returned (.tuple #[mat A B u, .bool b]) ∧ Below w.heap.size w w') ∧
    (∀ w, Calls Tryd.prog 23 #[mat r c s] w fun e w' => e = .returned (.tuple #[mat A B u, .bool b]) ∧ Below w.heap.size w w') := by
  by_cases hv : validB r c s = true
  · obtain ⟨R, C, E, rfl, rfl, h1, h2, h3, h4, rfl⟩ := valid_form hv
    have hsz : (str (rowsB E R C)).size ≤ 64 := by rw [str_size, rowsB_length]; exact prod_le h2 h4
    exact ⟨C, R, str (rowsB (fun x y => E y x) C R), true, fun w => turn_spec E R C h1 h2 h3 h4 hs hv w, fun w => turn_impl E R C h1 h2 h3 h4 _ w fun W => grid_yes E R C h1 h2 h3 h4 _ rfl hs hsz hv W⟩
  · have hv' : validB r c s = false := by simpa using hv
    exact ⟨0, 0, str [], false, fun w => turn_spec_no r c s hs hv' w, fun w => turn_impl_no r c s w fun W => grid_no r c s hs hv' W⟩

theorem three_at {w1 w2 : World} {a b c : Value} {T : TypeId} (hb : Below (w1.alloc (.cells #[a, b, c] T)).heap.size (w1.alloc (.cells #[a, b, c] T)) w2) :
    w1.heap.size < w2.heap.size ∧ w2.cell? ⟨w1.heap.size, 0, none⟩ = some a ∧ w2.cell? ⟨w1.heap.size, 1, none⟩ = some b ∧ w2.cell? ⟨w1.heap.size, 2, none⟩ = some c := by
  obtain ⟨h0, h1, h2⟩ := three_of hb
  exact ⟨by have := hb.size; simp at this; omega, h0, h1, h2⟩

end Go.Proofs.YtalechngagkklaaDoor.fnExactTurnMatrix
