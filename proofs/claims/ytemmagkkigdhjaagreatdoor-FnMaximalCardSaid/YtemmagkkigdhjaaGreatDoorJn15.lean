/-
  Texts of one seat, joined: OtherWalk, Meet, InRectWalk.
-/
import Derived.Test.YtemmagkkigdhjaaGreatDoorJn14
import Derived.Test.YtemmagkkigdhjaaGreatDoorJn6
import Derived.Laws.Rows
import Derived.Laws.Tables
/-
  The walk of the law on OtherMatrix.
-/
namespace Go.Proofs.YtemmagkkigdhjaaGreatDoor.fnExactOtherMatrix
open Go.RowKit Go.Proofs.YtemmagkkigdhjaaGreatDoor.Plain Go.Proofs.YtemmagkkigdhjaaGreatDoor.Base Go.Proofs.YtemmagkkigdhjaaGreatDoor.Valid Go.Proofs.YtemmagkkigdhjaaGreatDoor.Law Go.Proofs.YtemmagkkigdhjaaGreatDoor.GridPlain Go.Proofs.YtemmagkkigdhjaaGreatDoor.Grid Go.Proofs.YtemmagkkigdhjaaGreatDoor.Entry Go.Proofs.YtemmagkkigdhjaaGreatDoor.Clos Go.Proofs.YtemmagkkigdhjaaGreatDoor.SpecTO
set_option linter.unusedVariables false

theorem three_at {w1 w2 : World} {a b c : Value} {T : TypeId} (hb : Below (w1.alloc (.cells #[a, b, c] T)).heap.size (w1.alloc (.cells #[a, b, c] T)) w2) :
    w1.heap.size < w2.heap.size ∧ w2.cell? ⟨w1.heap.size, 0, none⟩ = some a ∧ w2.cell? ⟨w1.heap.size, 1, none⟩ = some b ∧ w2.cell? ⟨w1.heap.size, 2, none⟩ = some c := by
  obtain ⟨h0, h1, h2⟩ := three_of hb
  exact ⟨by have := hb.size; simp at this; omega, h0, h1, h2⟩

end Go.Proofs.YtemmagkkigdhjaaGreatDoor.fnExactOtherMatrix

/-
  Contracts of MeetRects and HullRects, of the reference and of the program.
-/
namespace Go.Proofs.YtemmagkkigdhjaaGreatDoor.Meet
open Go.RowKit Go.Proofs.YtemmagkkigdhjaaGreatDoor.Plain Go.Proofs.YtemmagkkigdhjaaGreatDoor.Pat Go.Proofs.YtemmagkkigdhjaaGreatDoor.Rect
set_option linter.unusedVariables false

theorem three2 {w w1 : World} {a0 a1 b0 b1 c0 c1 : Value} {T0 T1 T2 : TypeId}
    (hb : Below (((w.alloc (.cells #[a0, a1] T0)).alloc (.cells #[b0, b1] T1)).alloc (.cells #[c0, c1] T2)).heap.size (((w.alloc (.cells #[a0, a1] T0)).alloc (.cells #[b0, b1] T1)).alloc (.cells #[c0, c1] T2)) w1) :
    (w1.cell? ⟨w.heap.size, 0, none⟩ = some a0 ∧ w1.cell? ⟨w.heap.size, 1, none⟩ = some a1) ∧ (w1.cell? ⟨w.heap.size + 1, 0, none⟩ = some b0 ∧ w1.cell? ⟨w.heap.size + 1, 1, none⟩ = some b1) ∧
      (w1.cell? ⟨w.heap.size + 1 + 1, 0, none⟩ = some c0 ∧ w1.cell? ⟨w.heap.size + 1 + 1, 1, none⟩ = some c1) ∧
      (w1.frozen? ⟨w.heap.size + 1 + 1, 0, none⟩ = false ∧ w1.frozen? ⟨w.heap.size + 1 + 1, 1, none⟩ = false) ∧ w.heap.size + 3 ≤ w1.heap.size ∧ Hid (Below w.heap.size w w1) := by
  have hs : (((w.alloc (.cells #[a0, a1] T0)).alloc (.cells #[b0, b1] T1)).alloc (.cells #[c0, c1] T2)).heap.size = w.heap.size + 3 := by simp
  have e0 : w1.heap[w.heap.size]? = some (.cells #[a0, a1] T0 (0, 0)) := (hb.block _ (by omega)).trans ((Below.heap_alloc _ _ _ (by simp; omega)).trans ((Below.heap_alloc _ _ _ (by simp)).trans (heap_alloc_new w _)))
  have e1 : w1.heap[w.heap.size + 1]? = some (.cells #[b0, b1] T1 (0, 0)) := (hb.block _ (by omega)).trans ((Below.heap_alloc _ _ _ (by simp)).trans (by have := heap_alloc_new (w.alloc (.cells #[a0, a1] T0)) (.cells #[b0, b1] T1); rwa [World.size_alloc] at this))
  have e2 : w1.heap[w.heap.size + 1 + 1]? = some (.cells #[c0, c1] T2 (0, 0)) := (hb.block _ (by omega)).trans (by have := heap_alloc_new ((w.alloc (.cells #[a0, a1] T0)).alloc (.cells #[b0, b1] T1)) (.cells #[c0, c1] T2); rwa [World.size_alloc, World.size_alloc] at this)
  exact ⟨⟨cell_of_row _ _ 0 _ _ _ e0, cell_of_row _ _ 1 _ _ _ e0⟩, ⟨cell_of_row _ _ 0 _ _ _ e1, cell_of_row _ _ 1 _ _ _ e1⟩, ⟨cell_of_row _ _ 0 _ _ _ e2, cell_of_row _ _ 1 _ _ _ e2⟩, ⟨frozen_of_row _ _ 0 _ _ e2, frozen_of_row _ _ 1 _ _ e2⟩,
    by have := hb.size; omega, ((((Below.refl w.heap.size w).alloc (Nat.le_refl _) _).alloc (by simp) _).alloc (by simp; omega) _).trans (hb.mono (by omega))⟩
theorem four2 {w w1 : World} {a0 a1 b0 b1 c0 c1 d0 d1 : Value} {T0 T1 T2 T3 : TypeId}
    (hb : Below ((((w.alloc (.cells #[a0, a1] T0)).alloc (.cells #[b0, b1] T1)).alloc (.cells #[c0, c1] T2)).alloc (.cells #[d0, d1] T3)).heap.size ((((w.alloc (.cells #[a0, a1] T0)).alloc (.cells #[b0, b1] T1)).alloc (.cells #[c0, c1] T2)).alloc (.cells #[d0, d1] T3)) w1) :
    ((w1.cell? ⟨w.heap.size, 0, none⟩ = some a0 ∧ w1.cell? ⟨w.heap.size, 1, none⟩ = some a1) ∧ (w1.cell? ⟨w.heap.size + 1, 0, none⟩ = some b0 ∧ w1.cell? ⟨w.heap.size + 1, 1, none⟩ = some b1) ∧
      (w1.cell? ⟨w.heap.size + 1 + 1, 0, none⟩ = some c0 ∧ w1.cell? ⟨w.heap.size + 1 + 1, 1, none⟩ = some c1) ∧
      (w1.frozen? ⟨w.heap.size + 1 + 1, 0, none⟩ = false ∧ w1.frozen? ⟨w.heap.size + 1 + 1, 1, none⟩ = false)) ∧ (w1.cell? ⟨w.heap.size + 1 + 1 + 1, 0, none⟩ = some d0 ∧ w1.cell? ⟨w.heap.size + 1 + 1 + 1, 1, none⟩ = some d1) ∧
      w.heap.size + 4 ≤ w1.heap.size ∧ Hid (Below w.heap.size w w1) := by
  have hs : (((w.alloc (.cells #[a0, a1] T0)).alloc (.cells #[b0, b1] T1)).alloc (.cells #[c0, c1] T2)).heap.size = w.heap.size + 3 := by simp
  have hs4 : ((((w.alloc (.cells #[a0, a1] T0)).alloc (.cells #[b0, b1] T1)).alloc (.cells #[c0, c1] T2)).alloc (.cells #[d0, d1] T3)).heap.size = w.heap.size + 4 := by simp
  obtain ⟨k1, k2, k3, k4, _, HB⟩ := three2 (w := w) (a0 := a0) (a1 := a1) (b0 := b0) (b1 := b1) (c0 := c0) (c1 := c1) (T0 := T0) (T1 := T1) (T2 := T2) (w1 := w1) (((Below.refl _ _).alloc (Nat.le_refl _) _).trans (hb.mono (by simp)))
  have e3 : w1.heap[w.heap.size + 1 + 1 + 1]? = some (.cells #[d0, d1] T3 (0, 0)) := (hb.block _ (by omega)).trans (by have := heap_alloc_new (((w.alloc (.cells #[a0, a1] T0)).alloc (.cells #[b0, b1] T1)).alloc (.cells #[c0, c1] T2)) (.cells #[d0, d1] T3); rwa [World.size_alloc, World.size_alloc, World.size_alloc] at this)
  exact ⟨⟨k1, k2, k3, k4⟩, ⟨cell_of_row _ _ 0 _ _ _ e3, cell_of_row _ _ 1 _ _ _ e3⟩, by have := hb.size; omega, HB⟩
/-- later on -/
theorem cells_on {w1 w2 : World} (hb : Below w1.heap.size w1 w2) {g : Nat} {a b : Value} (hg : g < w1.heap.size) (h : w1.cell? ⟨g, 0, none⟩ = some a ∧ w1.cell? ⟨g, 1, none⟩ = some b) : w2.cell? ⟨g, 0, none⟩ = some a ∧ w2.cell? ⟨g, 1, none⟩ = some b :=
  two_on hb hg h.1 h.2
theorem frozen_on {w1 w2 : World} (hb : Below w1.heap.size w1 w2) {g : Nat} (hg : g < w1.heap.size) (h : w1.frozen? ⟨g, 0, none⟩ = false ∧ w1.frozen? ⟨g, 1, none⟩ = false) : w2.frozen? ⟨g, 0, none⟩ = false ∧ w2.frozen? ⟨g, 1, none⟩ = false :=
  ⟨(hb.frozen (p := ⟨g, 0, none⟩) hg).trans h.1, (hb.frozen (p := ⟨g, 1, none⟩) hg).trans h.2⟩

/-- the rectangle if both numbers make one -/
def orZero (b : Bool) (r c : Int) : Value := if b then rect r c else rect 0 0

end Go.Proofs.YtemmagkkigdhjaaGreatDoor.Meet

/-
  The walk of the law on InRect.
-/
namespace Go.Proofs.YtemmagkkigdhjaaGreatDoor.fnExactInRect
open Go.RowKit Go.Proofs.YtemmagkkigdhjaaGreatDoor.Plain Go.Proofs.YtemmagkkigdhjaaGreatDoor.Pat Go.Proofs.YtemmagkkigdhjaaGreatDoor.Rect
set_option linter.unusedVariables false

/-- a set's test, whatever the number -/
theorem inSet_any (s : Nat) (hs : s < 256) (i : Int) : ∃ b : Bool, ∀ W : World, Calls Tryz.prog 90 #[.int .i64 (s : Int), .int .i64 i] W fun e w' => e = .returned (.bool b) ∧ W = w' := by
  by_cases h : 0 ≤ i ∧ i < 8
  · obtain ⟨k, rfl⟩ := Int.eq_ofNat_of_zero_le h.1
    exact ⟨_, fun W => inSet_yes s k hs (by omega) W⟩
  · exact ⟨false, fun W => inSet_no s i (by omega) W⟩

end Go.Proofs.YtemmagkkigdhjaaGreatDoor.fnExactInRect

