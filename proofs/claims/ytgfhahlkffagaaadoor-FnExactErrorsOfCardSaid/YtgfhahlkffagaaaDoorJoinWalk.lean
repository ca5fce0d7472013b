/-
  The walk of the law on JoinMatrices.
-/
import Derived.Test.YtgfhahlkffagaaaDoorJoinN
namespace Go.Proofs.YtgfhahlkffagaaaDoor.fnExactJoinMatrices
open Go.RowKit Go.Proofs.YtgfhahlkffagaaaDoor.Plain Go.Proofs.YtgfhahlkffagaaaDoor.Base Go.Proofs.YtgfhahlkffagaaaDoor.Valid Go.Proofs.YtgfhahlkffagaaaDoor.Law Go.Proofs.YtgfhahlkffagaaaDoor.GridPlain Go.Proofs.YtgfhahlkffagaaaDoor.Grid Go.Proofs.YtgfhahlkffagaaaDoor.Entry Go.Proofs.YtgfhahlkffagaaaDoor.From Go.Proofs.YtgfhahlkffagaaaDoor.JoinB Go.Proofs.YtgfhahlkffagaaaDoor.Ops Go.Proofs.YtgfhahlkffagaaaDoor.Join Go.Proofs.YtgfhahlkffagaaaDoor.JoinI Go.Proofs.YtgfhahlkffagaaaDoor.JoinN
open Go.Proofs.YtgfhahlkffagaaaDoor.Free (fill wp_value wp_enter wp_load_row freeB wp_region_one get_of)
set_option linter.unusedVariables false

/-- a grid for each matrix -/
theorem grid_any (r c : Int) (s : ByteArray) (hs : s.size ≤ maxLen) : ∃ (R1 C1 : Int) (f1 : Nat → Int), ∀ W : World, Calls Tryd.prog 29 #[mat r c s] W fun e w' => e = .returned (gval R1 C1 f1) ∧ Below W.heap.size W w' := by
  by_cases hv : validB r c s = true
  · obtain ⟨R, C, E, rfl, rfl, h1, h2, h3, h4, rfl⟩ := valid_form hv
    have hsz : (str (rowsB E R C)).size ≤ 64 := by rw [str_size, rowsB_length]; exact prod_le h2 h4
    exact ⟨_, _, _, fun W => grid_yes E R C h1 h2 h3 h4 _ rfl hs hsz hv W⟩
  · rw [Bool.not_eq_true] at hv
    exact ⟨_, _, _, fun W => grid_no r c s hs hv W⟩
theorem linfo : (Tryd.prog.info? 23).map (·.size) = some 3 := by kernel_rfl
/-- the law's own boxes -/
def MBox (w : World) (b : Nat) (t : TypeId) (r c : Int) (s : ByteArray) : Prop := w.heap[b]? = some (.cells #[.int .i64 r, .int .i64 c, .string s] t (0, 0))
theorem MBox.on {w w1 : World} {b : Nat} {t : TypeId} {r c : Int} {s : ByteArray} (h : MBox w b t r c s) (hb : Below w.heap.size w w1) : MBox w1 b t r c s := (hb.block b (Array.getElem?_eq_some_iff.1 h).1).trans h
theorem MBox.c {w : World} {b : Nat} {t : TypeId} {r c : Int} {s : ByteArray} (h : MBox w b t r c s) : w.cell? ⟨b, 0, none⟩ = some (.int .i64 r) ∧ w.cell? ⟨b, 1, none⟩ = some (.int .i64 c) ∧ w.cell? ⟨b, 2, none⟩ = some (.string s) := cells3 h
theorem boxesM {w w1 : World} {r c x y : Int} {s t : ByteArray} {T U : TypeId} (hb : Below ((w.alloc (.cells #[.int .i64 r, .int .i64 c, .string s] T)).alloc (.cells #[.int .i64 x, .int .i64 y, .string t] U)).heap.size ((w.alloc (.cells #[.int .i64 r, .int .i64 c, .string s] T)).alloc (.cells #[.int .i64 x, .int .i64 y, .string t] U)) w1) :
    MBox w1 w.heap.size T r c s ∧ MBox w1 (w.heap.size + 1) U x y t ∧ Below w.heap.size w w1 := by
  have h1 : MBox ((w.alloc (.cells #[.int .i64 r, .int .i64 c, .string s] T)).alloc (.cells #[.int .i64 x, .int .i64 y, .string t] U)) w.heap.size T r c s := (Below.heap_alloc _ _ _ (by simp)).trans (heap_alloc_new w _)
  have h2 : MBox ((w.alloc (.cells #[.int .i64 r, .int .i64 c, .string s] T)).alloc (.cells #[.int .i64 x, .int .i64 y, .string t] U)) (w.heap.size + 1) U x y t := by
    have := heap_alloc_new (w.alloc (.cells #[.int .i64 r, .int .i64 c, .string s] T)) (.cells #[.int .i64 x, .int .i64 y, .string t] U)
    rwa [World.size_alloc] at this
  have h0 : Below w.heap.size w ((w.alloc (.cells #[.int .i64 r, .int .i64 c, .string s] T)).alloc (.cells #[.int .i64 x, .int .i64 y, .string t] U)) := ((Below.refl w.heap.size w).alloc (Nat.le_refl _) _).alloc (by simp) _
  exact ⟨h1.on hb, h2.on hb, bstep h0 hb⟩

end Go.Proofs.YtgfhahlkffagaaaDoor.fnExactJoinMatrices
