/-
  Contracts of RectValid, of the reference and of the program.
-/
import Derived.Test.YtgfhahlkffagaaaDoorBoardM
namespace Go.Proofs.YtgfhahlkffagaaaDoor.RValid
open Go.RowKit Go.Proofs.YtgfhahlkffagaaaDoor.Plain Go.Proofs.YtgfhahlkffagaaaDoor.Base Go.Proofs.YtgfhahlkffagaaaDoor.Valid Go.Proofs.YtgfhahlkffagaaaDoor.Law Go.Proofs.YtgfhahlkffagaaaDoor.GridPlain Go.Proofs.YtgfhahlkffagaaaDoor.Grid Go.Proofs.YtgfhahlkffagaaaDoor.Entry Go.Proofs.YtgfhahlkffagaaaDoor.Pat Go.Proofs.YtgfhahlkffagaaaDoor.Rect Go.Proofs.YtgfhahlkffagaaaDoor.Patch Go.Proofs.YtgfhahlkffagaaaDoor.FreeL Go.Proofs.YtgfhahlkffagaaaDoor.Board Go.Proofs.YtgfhahlkffagaaaDoor.BoardM
open Go.Proofs.YtgfhahlkffagaaaDoor.Free (fill wp_value wp_enter wp_load_row freeB)
set_option linter.unusedVariables false

theorem minfo : (Tryd.prog.info? 27).map (·.size) = some 3 := by kernel_rfl
theorem linfo : (Tryd.prog.info? 23).map (·.size) = some 3 := by kernel_rfl
/-- block b holds a matrix -/
def MHolds (w : World) (b : Nat) (t : TypeId) (r c : Int) (s : ByteArray) : Prop := w.heap[b]? = some (.cells #[.int .i64 r, .int .i64 c, .string s] t (0, 0))
theorem mh_on {w w1 : World} {b : Nat} {t : TypeId} {r c : Int} {s : ByteArray} (h : MHolds w b t r c s) (hb : Below w.heap.size w w1) : MHolds w1 b t r c s := (hb.block b (Array.getElem?_eq_some_iff.1 h).1).trans h
/-- block b holds two numbers -/
def THolds (w : World) (b : Nat) (t : TypeId) (r c : Int) : Prop := w.heap[b]? = some (.cells #[.int .i64 r, .int .i64 c] t (0, 0))
theorem th_on {w w1 : World} {b : Nat} {t : TypeId} {r c : Int} (h : THolds w b t r c) (hb : Below w.heap.size w w1) : THolds w1 b t r c := (hb.block b (Array.getElem?_eq_some_iff.1 h).1).trans h
theorem th_c {w : World} {b : Nat} {t : TypeId} {r c : Int} (h : THolds w b t r c) : w.cell? ⟨b, 0, none⟩ = some (.int .i64 r) ∧ w.cell? ⟨b, 1, none⟩ = some (.int .i64 c) := ⟨cell_of_row _ _ 0 _ _ _ h, cell_of_row _ _ 1 _ _ _ h⟩
theorem mh_c {w : World} {b : Nat} {t : TypeId} {r c : Int} {s : ByteArray} (h : MHolds w b t r c s) : w.cell? ⟨b, 0, none⟩ = some (.int .i64 r) ∧ w.cell? ⟨b, 1, none⟩ = some (.int .i64 c) ∧ w.cell? ⟨b, 2, none⟩ = some (.string s) := ⟨cell_of_row _ _ 0 _ _ _ h, cell_of_row _ _ 1 _ _ _ h, cell_of_row _ _ 2 _ _ _ h⟩

theorem pow8 (R : Nat) (hR : R ≤ 8) : IntKind.i64.wrap (2 ^ R) = ((2 ^ R : Nat) : Int) ∧ 1 ≤ 2 ^ R ∧ 2 ^ R ≤ 256 := by
  have h1 : 2 ^ R ≤ 2 ^ 8 := Nat.pow_le_pow_right (by decide) hR
  have h2 : 0 < 2 ^ R := Nat.two_pow_pos R
  refine ⟨?_, by omega, by omega⟩
  rw [show ((2 : Int) ^ R) = ((2 ^ R : Nat) : Int) by simp]
  obtain ⟨X, hX⟩ : ∃ X, 2 ^ R = X := ⟨_, rfl⟩
  rw [hX] at h1 ⊢
  rw [IntKind.wrap_i64]
  omega

/-- the two boxes of a matrix and a rectangle, behind a call -/
theorem boxes {w w1 : World} {r c x y : Int} {s : ByteArray} {T U : TypeId} (hb : Below ((w.alloc (.cells #[.int .i64 r, .int .i64 c, .string s] T)).alloc (.cells #[.int .i64 x, .int .i64 y] U)).heap.size ((w.alloc (.cells #[.int .i64 r, .int .i64 c, .string s] T)).alloc (.cells #[.int .i64 x, .int .i64 y] U)) w1) :
    MHolds w1 w.heap.size T r c s ∧ THolds w1 (w.heap.size + 1) U x y ∧ Below w.heap.size w w1 := by
  obtain ⟨e0, e1, hb0⟩ := two_box (w := w) (a := .cells #[.int .i64 r, .int .i64 c, .string s] T) (b := .cells #[.int .i64 x, .int .i64 y] U)
  exact ⟨mh_on e0 hb, th_on e1 hb, hb0.trans (hb.mono hb0.size)⟩

/-- a board for each matrix: that of a valid one, and the zero board -/
theorem board_yes (R C : Nat) (E : Nat → Nat → Bool) (h1 : 1 ≤ R) (h2 : R ≤ 8) (h3 : 1 ≤ C) (h4 : C ≤ 8) (hs : (str (rowsB E R C)).size ≤ maxLen) (hv : validB R C (str (rowsB E R C)) = true) (W : World) :
    Calls Tryd.prog 81 #[mat R C (str (rowsB E R C))] W fun e w' => e = .returned (brd R C (pat (onB (fun x y => !E x y) R C) 8) (pat (onB E R C) 8)) ∧ Below W.heap.size W w' := by
  have hsz : (str (rowsB E R C)).size ≤ 64 := by rw [str_size, rowsB_length]; exact prod_le h2 h4
  exact board_of R C h2 h4 (gpart E C (R * C)) E (fun x y hx hy => gpart_all E R C x y hx hy h4) _ _ _ (fun W => grid_yes E R C h1 h2 h3 h4 _ rfl hs hsz hv W) W
theorem board_no (rr cc : Int) (s : ByteArray) (hs : s.size ≤ maxLen) (hv : validB rr cc s = false) (W : World) :
    Calls Tryd.prog 81 #[mat rr cc s] W fun e w' => e = .returned (brd ((0 : Nat) : Int) ((0 : Nat) : Int) (pat (onB (fun _ _ => true) 0 0) 8) (pat (onB (fun _ _ => false) 0 0) 8)) ∧ Below W.heap.size W w' :=
  board_of 0 0 (by omega) (by omega) (fun _ => 0) (fun _ _ => false) (fun x y hx _ => absurd hx (by omega)) rr cc s (fun W => grid_no rr cc s hs hv W) W
theorem rvB_zero (r c : Int) : rvB 0 0 r c = false := by
  unfold rvB
  rw [decide_eq_false (by omega)]
  rfl

end Go.Proofs.YtgfhahlkffagaaaDoor.RValid
