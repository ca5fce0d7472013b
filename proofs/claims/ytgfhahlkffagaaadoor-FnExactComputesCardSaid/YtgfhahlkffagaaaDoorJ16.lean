/-
  Texts of one seat, joined: ColM, EntWalk, Clos.
-/
import Derived.Test.YtgfhahlkffagaaaDoorJ15
import Derived.Test.YtgfhahlkffagaaaDoorEntry
import Derived.Deep.WholeRow
import Derived.Test.YtgfhahlkffagaaaDoorJ11
/-
  Plain facts: the ones and the zeros of a rectangle, counted one by one. Nothing of the program.
-/
namespace Go.Proofs.YtgfhahlkffagaaaDoor.ColM
open Go.RowKit Go.Proofs.YtgfhahlkffagaaaDoor.Plain Go.Proofs.YtgfhahlkffagaaaDoor.Pat Go.Proofs.YtgfhahlkffagaaaDoor.Bal

/-- the entries of a rectangle with a value, in so many columns of a row -/
def rowC (E : Nat → Nat → Bool) (v : Bool) (RS CS x k : Nat) : Nat := sumN (fun y => ((RS.testBit x && CS.testBit y) && (E x y == v)).toNat) k
/-- in so many rows -/
def allC (E : Nat → Nat → Bool) (v : Bool) (RS CS c i : Nat) : Nat := sumN (fun x => rowC E v RS CS x c) i
theorem row_next (E : Nat → Nat → Bool) (v : Bool) (RS CS x k : Nat) : rowC E v RS CS x (k + 1) = rowC E v RS CS x k + ((RS.testBit x && CS.testBit k) && (E x k == v)).toNat := rfl
theorem all_next (E : Nat → Nat → Bool) (v : Bool) (RS CS c i : Nat) : allC E v RS CS c (i + 1) = allC E v RS CS c i + rowC E v RS CS i c := rfl
theorem row_le (E : Nat → Nat → Bool) (v : Bool) (RS CS x k : Nat) : rowC E v RS CS x k ≤ k := by
  have := sumN_le (fun y => ((RS.testBit x && CS.testBit y) && (E x y == v)).toNat) 1 (fun y => by cases ((RS.testBit x && CS.testBit y) && (E x y == v)) <;> simp) k
  unfold rowC
  omega
theorem all_le (E : Nat → Nat → Bool) (v : Bool) (RS CS c i : Nat) : allC E v RS CS c i ≤ i * c := sumN_le _ c (fun x => row_le E v RS CS x c) i
theorem all_le8 (E : Nat → Nat → Bool) (v : Bool) (RS CS c i : Nat) (hc : c ≤ 8) (hi : i ≤ 8) : allC E v RS CS c i ≤ 64 := by
  have h1 := all_le E v RS CS c i
  have h2 : i * c ≤ 8 * 8 := Nat.mul_le_mul hi hc
  omega
theorem sumI_add (f g : Nat → Int) : ∀ n, sumI f n + sumI g n = sumI (fun x => f x + g x) n
  | 0 => rfl
  | n + 1 => by
    rw [sumI, sumI, sumI, ← sumI_add f g n]
    omega
theorem all_bal (E : Nat → Nat → Bool) (RS CS r c : Nat) : ((allC E true RS CS c r : Nat) : Int) - ((allC E false RS CS c r : Nat) : Int) = bal E RS CS r c := by
  unfold allC bal
  rw [sumI_cast, sumI_cast, sumI_sub]
  apply sumI_congr
  intro x _
  unfold rowC
  rw [sumI_cast, sumI_cast, sumI_sub]
  apply sumI_congr
  intro y _
  unfold term
  cases (RS.testBit x && CS.testBit y) <;> cases E x y <;> rfl
theorem all_area (E : Nat → Nat → Bool) (RS CS r c : Nat) (hr : r ≤ 8) (hc : c ≤ 8) (hRS : RS < 2 ^ r) (hCS : CS < 2 ^ c) : ((allC E true RS CS c r : Nat) : Int) + ((allC E false RS CS c r : Nat) : Int) = ((pop8 RS * pop8 CS : Nat) : Int) := by
  rw [area_sum RS CS r c hr hc hRS hCS]
  unfold allC
  rw [sumI_cast, sumI_cast, sumI_add]
  apply sumI_congr
  intro x _
  unfold rowC
  rw [sumI_cast, sumI_cast, sumI_add]
  apply sumI_congr
  intro y _
  unfold one
  cases (RS.testBit x && CS.testBit y) <;> cases E x y <;> rfl
end Go.Proofs.YtgfhahlkffagaaaDoor.ColM

/-
  The walk of the law on EntryOf.
-/
namespace Go.Proofs.YtgfhahlkffagaaaDoor.fnExactEntryOf
open Go.RowKit Go.Proofs.YtgfhahlkffagaaaDoor.Plain Go.Proofs.YtgfhahlkffagaaaDoor.Base Go.Proofs.YtgfhahlkffagaaaDoor.Valid Go.Proofs.YtgfhahlkffagaaaDoor.Law Go.Proofs.YtgfhahlkffagaaaDoor.GridPlain Go.Proofs.YtgfhahlkffagaaaDoor.Grid Go.Proofs.YtgfhahlkffagaaaDoor.Entry
set_option linter.unusedVariables false

/-- m's box later on -/
theorem box3 {w w1 : World} {a b c : Value} {T : TypeId} (hb : Below (w.alloc (.cells #[a, b, c] T)).heap.size (w.alloc (.cells #[a, b, c] T)) w1) :
    w1.cell? ⟨w.heap.size, 0, none⟩ = some a ∧ w1.cell? ⟨w.heap.size, 1, none⟩ = some b ∧ w1.cell? ⟨w.heap.size, 2, none⟩ = some c ∧ w.heap.size < w1.heap.size ∧ Hid (Below w.heap.size w w1) := by
  obtain ⟨h0, h1, h2⟩ := three_of hb
  exact ⟨h0, h1, h2, by have := hb.size; simp at this; omega, bstep ((Below.refl w.heap.size w).alloc (Nat.le_refl _) _) hb⟩

set_option maxHeartbeats 400000 in
theorem int_any (b : Bool) (w : World) :
    Calls Tryd.prog 38 #[.bool b] w fun e w' => e = .returned (.int .i64 (bitI b)) ∧ w = w' := by
  cases b
  all_goals
    go_enter Tryd.func38, Tryd.ntmps38
    go_wp2
    go_ret
    exact ⟨rfl, rfl⟩

end Go.Proofs.YtgfhahlkffagaaaDoor.fnExactEntryOf

/-
  A matrix that is made of one grid's entries: TurnMatrix and OtherMatrix of the program.
-/
namespace Go.Proofs.YtgfhahlkffagaaaDoor.Clos
open Go.RowKit Go.Proofs.YtgfhahlkffagaaaDoor.Plain Go.Proofs.YtgfhahlkffagaaaDoor.Base Go.Proofs.YtgfhahlkffagaaaDoor.Valid Go.Proofs.YtgfhahlkffagaaaDoor.Law Go.Proofs.YtgfhahlkffagaaaDoor.GridPlain Go.Proofs.YtgfhahlkffagaaaDoor.Grid Go.Proofs.YtgfhahlkffagaaaDoor.Entry Go.Proofs.YtgfhahlkffagaaaDoor.From
set_option linter.unusedVariables false

/-- block b holds the grid of so many entries -/
def Holds (w : World) (b : Nat) (r c : Nat) (E : Nat → Nat → Bool) : Prop := w.heap[b]? = some (.cells (gcells r c (gpart E c (r * c))) 42 (0, 0))
theorem Holds.lt {w : World} {b r c : Nat} {E : Nat → Nat → Bool} (h : Holds w b r c E) : b < w.heap.size := (Array.getElem?_eq_some_iff.1 h).1
theorem Holds.below {w w1 : World} {b r c : Nat} {E : Nat → Nat → Bool} (h : Holds w b r c E) (hb : Below w.heap.size w w1) : Holds w1 b r c E := (hb.block b h.lt).trans h

theorem two_blocks {w w1 : World} {o1 o2 : Obj} (hb : Below ((w.alloc o1).alloc o2).heap.size ((w.alloc o1).alloc o2) w1) :
    w1.heap[w.heap.size + 1]? = some o2 ∧ Below w.heap.size w w1 ∧ w.heap.size + 2 ≤ w1.heap.size := by
  have hs : ((w.alloc o1).alloc o2).heap.size = w.heap.size + 2 := by simp
  have h2 : ((w.alloc o1).alloc o2).heap[w.heap.size + 1]? = some o2 := by
    have := heap_alloc_new (w.alloc o1) o2
    rwa [World.size_alloc] at this
  exact ⟨(hb.block _ (by omega)).trans h2, (((Below.refl w.heap.size w).alloc (Nat.le_refl _) _).alloc (by simp) _).trans (hb.mono (by omega)), by have := hb.size; omega⟩

end Go.Proofs.YtgfhahlkffagaaaDoor.Clos

