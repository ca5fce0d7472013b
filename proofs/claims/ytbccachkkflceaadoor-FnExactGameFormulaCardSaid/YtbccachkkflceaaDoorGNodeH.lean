/-
  Small facts on the cells of nodes.
-/
import Derived.Test.YtbccachkkflceaaDoorGTurnC
import Derived.Test.YtbccachkkflceaaDoorFree
namespace Go.Proofs.YtbccachkkflceaaDoor.NodeH
open Go.RowKit Go.Shelf Go.Proofs.YtbccachkkflceaaDoor.Plain Go.Proofs.YtbccachkkflceaaDoor.Tree Go.Proofs.YtbccachkkflceaaDoor.Read Go.Proofs.YtbccachkkflceaaDoor.TurnC Go.Proofs.YtbccachkkflceaaDoor.FreeL
set_option linter.unusedVariables false
set_option linter.unusedSimpArgs false

theorem eval_get {a : Act} {d : Tmp} {v : Value} (h : a.tmps[d]?.getD undef = v) : a.eval (.tmp d) = v := by
  rw [← h]
  show a.tmps.getD d undef = _
  simp [Array.getD_eq_getD_getElem?]
theorem there_row {w : World} {B : Nat} {c0 c1 c2 c3 : Value} {T : TypeId} (h : w.heap[B]? = some (.cells #[c0, c1, c2, c3] T (0, 0))) : w.there B 2 2 := fun j hj => by
  have e : j = 0 ∨ j = 1 := by omega
  rcases e with rfl | rfl
  · exact ⟨by rw [cell_of_row _ _ _ _ _ _ h]; rfl, frozen_of_row _ _ _ _ _ h⟩
  · exact ⟨by rw [cell_of_row _ _ _ _ _ _ h]; rfl, frozen_of_row _ _ _ _ _ h⟩
theorem all2 (t1 t2 : TypeId) (x y : Value) : (#[.iface t1 x, .iface t2 y] : Array Value).all (·.oneCell') = true := by simp [Value.oneCell']
theorem all4 (a b : Int) (t1 t2 : TypeId) (x y : Value) : (#[.int .u8 a, .int .i64 b, .iface t1 x, .iface t2 y] : Array Value).all (·.oneCell') = true := by simp [Value.oneCell']
theorem info_two (x y : Value) : (Tryd.prog.info? 75).map (·.size) = some (#[x, y] : Array Value).size := by kernel_rfl
end Go.Proofs.YtbccachkkflceaaDoor.NodeH
