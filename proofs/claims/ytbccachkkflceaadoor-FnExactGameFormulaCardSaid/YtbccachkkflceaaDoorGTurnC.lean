/-
  Stores into a node's block; the change that exchanges both players.
-/
import Derived.Test.YtbccachkkflceaaDoorGCountN
import Derived.Test.YtbccachkkflceaaDoorFreeL
import Derived.Deep.MidRow
import Derived.Deep.WholeRow
namespace Go.Proofs.YtbccachkkflceaaDoor.TurnC
open Go.RowKit Go.Shelf Go.Proofs.YtbccachkkflceaaDoor.Plain Go.Proofs.YtbccachkkflceaaDoor.Tree Go.Proofs.YtbccachkkflceaaDoor.Read
open Go.Proofs.YtbccachkkflceaaDoor.Count (cells4)
set_option linter.unusedVariables false
set_option linter.unusedSimpArgs false

/-- a store of two cells is a store of the row -/
theorem set2 {w : World} {B : Nat} {c0 c1 c2 c3 : Value} {T : TypeId} {fr : Nat × Nat} (h : w.heap[B]? = some (.cells #[c0, c1, c2, c3] T fr)) (x y : Value) : w.setCells B 2 [x, y] = w.setRow B #[c0, c1, x, y] := by
  have e : (w.setCells B 2 [x, y]).heap = (w.setRow B #[c0, c1, x, y]).heap := by
    apply Array.ext_getElem?
    intro k
    simp only [World.setCells, World.setCell, World.setRow, Array.getElem?_modify]
    by_cases hk : B = k
    · subst hk
      simp [h]
    · simp [hk]
  simp only [World.setCells, World.setCell, World.setRow] at e ⊢
  rw [e]
theorem setRow_at' {w : World} {B : Nat} {cs cs' : Array Value} {T : TypeId} (h : w.heap[B]? = some (.cells cs T (0, 0))) : (w.setRow B cs').heap[B]? = some (.cells cs' T (0, 0)) := by
  simp [World.setRow, Array.getElem?_modify, h]
theorem setRow_below' {b : Nat} {w w1 : World} {B : Nat} (h : Below b w w1) (hB : b ≤ B) (cs : Array Value) : Below b w (w1.setRow B cs) :=
  h.trans ⟨rfl, rfl, rfl, by simp [World.setRow], fun k hk => by simp only [World.setRow, Array.getElem?_modify]; rw [if_neg (by omega)]⟩
theorem info_say (c0 c1 c2 c3 : Value) : (Tryd.prog.info? 77).map (·.size) = some (#[c0, c1, c2, c3] : Array Value).size := by kernel_rfl

end Go.Proofs.YtbccachkkflceaaDoor.TurnC
