/-
  The reference's l1Pick: rows and columns of a matrix by two lists of numbers.
-/
import Derived.Test.YtffilggpimdikaaDoorInts
import Derived.Deep.RegionWith
namespace Go.Proofs.YtffilggpimdikaaDoor.Pick
open Go.RowKit Go.Proofs.YtffilggpimdikaaDoor.Plain Go.Proofs.YtffilggpimdikaaDoor.Base Go.Proofs.YtffilggpimdikaaDoor.Valid Go.Proofs.YtffilggpimdikaaDoor.Law Go.Proofs.YtffilggpimdikaaDoor.GridPlain Go.Proofs.YtffilggpimdikaaDoor.Grid Go.Proofs.YtffilggpimdikaaDoor.Entry Go.Proofs.YtffilggpimdikaaDoor.Ints
set_option linter.unusedVariables false

/-- the entries that are picked -/
def pickE (E : Nat → Nat → Bool) (xs ys : List Int) : Nat → Nat → Bool := fun x y => E (xs.getD x 0).toNat (ys.getD y 0).toNat

theorem cells3 {w : World} {g : Nat} {T : TypeId} {a b c : Value} (h : w.heap[g]? = some (.cells #[a, b, c] T (0, 0))) :
    w.cell? ⟨g, 0, none⟩ = some a ∧ w.cell? ⟨g, 1, none⟩ = some b ∧ w.cell? ⟨g, 2, none⟩ = some c :=
  ⟨cell_of_row _ _ 0 _ _ _ h, cell_of_row _ _ 1 _ _ _ h, cell_of_row _ _ 2 _ _ _ h⟩
theorem free3 {w : World} {g : Nat} {T : TypeId} {a b c : Value} (h : w.heap[g]? = some (.cells #[a, b, c] T (0, 0))) :
    w.frozen? ⟨g, 0, none⟩ = false ∧ w.frozen? ⟨g, 1, none⟩ = false ∧ w.frozen? ⟨g, 2, none⟩ = false :=
  ⟨frozen_of_row _ _ 0 _ _ h, frozen_of_row _ _ 1 _ _ h, frozen_of_row _ _ 2 _ _ h⟩

/-- what holds while l1Pick runs: out has these bytes -/
def PInv (w wr : World) (r c n m : Int) (s t : ByteArray) : Prop :=
  wr.heap[w.heap.size]? = some (.cells #[.int .i64 r, .int .i64 c, .string s] 26 (0, 0)) ∧ wr.heap[w.heap.size + 1]? = some (.cells #[.int .i64 0, .int .i64 0, .string ⟨#[]⟩] 26 (0, 0)) ∧
    wr.heap[w.heap.size + 1 + 1]? = some (.cells #[.int .i64 n, .int .i64 m, .string t] 26 (0, 0)) ∧ Below w.heap.size w wr ∧ w.heap.size + 3 ≤ wr.heap.size
theorem PInv.later {w wr w2 : World} {r c n m : Int} {s t : ByteArray} (h : PInv w wr r c n m s t) (hb : Below wr.heap.size wr w2) : PInv w w2 r c n m s t := by
  obtain ⟨h0, h1, h2, h3, h4⟩ := h
  exact ⟨(hb.block _ (by omega)).trans h0, (hb.block _ (by omega)).trans h1, (hb.block _ (by omega)).trans h2, bstep h3 hb, Nat.le_trans h4 hb.size⟩
theorem PInv.drew {w wr : World} {r c n m : Int} {s t : ByteArray} (h : PInv w wr r c n m s t) (q : Nat) : PInv w (wr.drewN q) r c n m s t :=
  ⟨h.1, h.2.1, h.2.2.1, ⟨h.2.2.2.1.os, h.2.2.2.1.tape, h.2.2.2.1.output, h.2.2.2.1.size, h.2.2.2.1.block⟩, h.2.2.2.2⟩
theorem PInv.set_ {w wr : World} {r c n m : Int} {s t : ByteArray} (h : PInv w wr r c n m s t) (u : ByteArray) : PInv w (wr.setCell ⟨w.heap.size + 1 + 1, 2, none⟩ (.string u)) r c n m s u := by
  obtain ⟨h0, h1, h2, h3, h4⟩ := h
  exact ⟨(heap_setCell_other _ _ _ _ (by simp; omega)).trans h0, (heap_setCell_other _ _ _ _ (by simp)).trans h1, (heap_setCell_same _ _ _ _ _ _ h2).trans rfl, h3.setCell (by simp; omega) _, by simpa using h4⟩

end Go.Proofs.YtffilggpimdikaaDoor.Pick
