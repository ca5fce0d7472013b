/-
  The reference's rectangles behind both bits.
-/
import Derived.Test.YtgfhahlkffagaaaDoorJ5
import Derived.Test.YtgfhahlkffagaaaDoorJ1
import Derived.Test.YtgfhahlkffagaaaDoorJ3
import Derived.Test.YtgfhahlkffagaaaDoorFreeN
import Derived.RegionTactic
import Derived.ChangeAlike
namespace Go.Proofs.YtgfhahlkffagaaaDoor.Split
open Go.RowKit Go.Shelf Go.Proofs.YtgfhahlkffagaaaDoor.Plain Go.Proofs.YtgfhahlkffagaaaDoor.Tree Go.Proofs.YtgfhahlkffagaaaDoor.Hex Go.Proofs.YtgfhahlkffagaaaDoor.Read Go.Proofs.YtgfhahlkffagaaaDoor.Parts Go.Proofs.YtgfhahlkffagaaaDoor.SetW Go.Proofs.YtgfhahlkffagaaaDoor.TrimT Go.Proofs.YtgfhahlkffagaaaDoor.Rect Go.Proofs.YtgfhahlkffagaaaDoor.FreeL
open Go.Proofs.YtgfhahlkffagaaaDoor.Free (fill wp_value wp_enter wp_load_row freeB)
open Go.Proofs.YtgfhahlkffagaaaDoor.FreeN (wp_region_apart)
set_option linter.unusedVariables false
set_option linter.unusedSimpArgs false

theorem eval_get {a : Act} {d : Tmp} {v : Value} (h : a.tmps[d]?.getD undef = v) : a.eval (.tmp d) = v := by
  rw [← h]
  show a.tmps.getD d undef = _
  simp [Array.getD_eq_getD_getElem?]
theorem wp_skip {P : Program} {o : Oper} {a : Act} {w w' : World} {K : Act → World → Prop} {Q : Exit → Act → World → Prop} (h : (execOp a.eval o).run P w = .ok .skip w') (hK : K (a.put o.dst undef) w') : o.wp P a w K Q := by
  unfold Oper.wp
  rw [h]
  exact hK
def row (x y : Nat) : Array Value := #[.int .i64 (x : Int), .int .i64 (y : Int)]
theorem cells2 {w : World} {b : Nat} {c0 c1 : Value} {ty : TypeId} (h : w.heap[b]? = some (.cells #[c0, c1] ty (0, 0))) : w.cell? ⟨b, 0, none⟩ = some c0 ∧ w.cell? ⟨b, 1, none⟩ = some c1 ∧ w.frozen? ⟨b, 0, none⟩ = false ∧ w.frozen? ⟨b, 1, none⟩ = false :=
  ⟨cell_of_row _ _ 0 _ _ _ h, cell_of_row _ _ 1 _ _ _ h, frozen_of_row _ _ _ _ _ h, frozen_of_row _ _ _ _ _ h⟩
theorem info_rect (x y : Value) : (Tryd.prog.info? 60).map (·.size) = some (#[x, y] : Array Value).size := by kernel_rfl
theorem one_rect (x y : Int) : (#[.int .i64 x, .int .i64 y] : Array Value).all (·.oneCell') = true := by simp [Value.oneCell']
/-- the blocks of a call: the argument, both results, both rectangles -/
structure Sp (w wr : World) (B g1 g2 R C x1 x2 y1 y2 : Nat) : Prop where
  arg : wr.heap[B]? = some (.cells #[.int .i64 (R : Int), .int .i64 (C : Int)] 60 (0, 0))
  r1 : wr.heap[B + 1]? = some (.cells #[.int .i64 0, .int .i64 0] 60 (0, 0))
  r2 : wr.heap[B + 2]? = some (.cells #[.int .i64 0, .int .i64 0] 60 (0, 0))
  z : wr.heap[g1]? = some (.cells #[.int .i64 (x1 : Int), .int .i64 (x2 : Int)] 60 (0, 0))
  o : wr.heap[g2]? = some (.cells #[.int .i64 (y1 : Int), .int .i64 (y2 : Int)] 60 (0, 0))
  below : Below w.heap.size w wr
  apart : g1 ≠ g2 ∧ B + 3 ≤ g1 ∧ B + 3 ≤ g2 ∧ w.heap.size = B
theorem Sp.later {w wr w2 : World} {B g1 g2 R C x1 x2 y1 y2 : Nat} (h : Sp w wr B g1 g2 R C x1 x2 y1 y2) (hb : Below wr.heap.size wr w2) : Sp w w2 B g1 g2 R C x1 x2 y1 y2 :=
  have k : ∀ {g : Nat} {o : Obj}, wr.heap[g]? = some o → w2.heap[g]? = some o := fun e => (hb.block _ (Array.getElem?_eq_some_iff.1 e).1).trans e
  ⟨k h.arg, k h.r1, k h.r2, k h.z, k h.o, h.below.trans (hb.mono h.below.size), h.apart⟩
theorem set_other {w : World} {B k i : Nat} {v : Value} (h : k ≠ B) : (w.setCell ⟨B, i, none⟩ v).heap[k]? = w.heap[k]? := by
  simp only [World.setCell, Array.getElem?_modify]
  rw [if_neg (by omega)]
theorem set_row {w : World} {g : Nat} {c0 c1 v : Value} (i : Nat) (h : w.heap[g]? = some (.cells #[c0, c1] 60 (0, 0))) : (w.setCell ⟨g, i, none⟩ v).heap[g]? = some (.cells (#[c0, c1].setIfInBounds i v) 60 (0, 0)) := by
  simp [World.setCell, Array.getElem?_modify, h]
theorem set_below {b : Nat} {w w1 : World} {B i : Nat} {v : Value} (h : Below b w w1) (hB : b ≤ B) : Below b w (w1.setCell ⟨B, i, none⟩ v) :=
  h.trans ⟨rfl, rfl, rfl, by simp [World.setCell], fun k hk => set_other (by omega)⟩
theorem Sp.z0 {w wr : World} {B g1 g2 R C x1 x2 y1 y2 : Nat} (h : Sp w wr B g1 g2 R C x1 x2 y1 y2) (m : Nat) : Sp w (wr.setCell ⟨g1, 0, none⟩ (.int .i64 (m : Int))) B g1 g2 R C m x2 y1 y2 :=
  ⟨(set_other (by have := h.apart; omega)).trans h.arg, (set_other (by have := h.apart; omega)).trans h.r1, (set_other (by have := h.apart; omega)).trans h.r2, (set_row 0 h.z), ((set_other (Ne.symm h.apart.1)).trans h.o), set_below h.below (by have := h.apart; omega), h.apart⟩
theorem Sp.z1 {w wr : World} {B g1 g2 R C x1 x2 y1 y2 : Nat} (h : Sp w wr B g1 g2 R C x1 x2 y1 y2) (m : Nat) : Sp w (wr.setCell ⟨g1, 1, none⟩ (.int .i64 (m : Int))) B g1 g2 R C x1 m y1 y2 :=
  ⟨(set_other (by have := h.apart; omega)).trans h.arg, (set_other (by have := h.apart; omega)).trans h.r1, (set_other (by have := h.apart; omega)).trans h.r2, (set_row 1 h.z), ((set_other (Ne.symm h.apart.1)).trans h.o), set_below h.below (by have := h.apart; omega), h.apart⟩
theorem Sp.o0 {w wr : World} {B g1 g2 R C x1 x2 y1 y2 : Nat} (h : Sp w wr B g1 g2 R C x1 x2 y1 y2) (m : Nat) : Sp w (wr.setCell ⟨g2, 0, none⟩ (.int .i64 (m : Int))) B g1 g2 R C x1 x2 m y2 :=
  ⟨(set_other (by have := h.apart; omega)).trans h.arg, (set_other (by have := h.apart; omega)).trans h.r1, (set_other (by have := h.apart; omega)).trans h.r2, ((set_other h.apart.1).trans h.z), (set_row 0 h.o), set_below h.below (by have := h.apart; omega), h.apart⟩
theorem Sp.o1 {w wr : World} {B g1 g2 R C x1 x2 y1 y2 : Nat} (h : Sp w wr B g1 g2 R C x1 x2 y1 y2) (m : Nat) : Sp w (wr.setCell ⟨g2, 1, none⟩ (.int .i64 (m : Int))) B g1 g2 R C x1 x2 y1 m :=
  ⟨(set_other (by have := h.apart; omega)).trans h.arg, (set_other (by have := h.apart; omega)).trans h.r1, (set_other (by have := h.apart; omega)).trans h.r2, ((set_other h.apart.1).trans h.z), (set_row 1 h.o), set_below h.below (by have := h.apart; omega), h.apart⟩

end Go.Proofs.YtgfhahlkffagaaaDoor.Split
