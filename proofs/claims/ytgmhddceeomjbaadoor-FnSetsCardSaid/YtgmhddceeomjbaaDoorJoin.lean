/-
  The reference's JoinMatrices.
-/
import Derived.Test.YtgmhddceeomjbaaDoorJoinB
import Derived.Test.YtgmhddceeomjbaaDoorOps
import Derived.StillTailTactics
namespace Go.Proofs.YtgmhddceeomjbaaDoor.Join
open Go.RowKit Go.Proofs.YtgmhddceeomjbaaDoor.Plain Go.Proofs.YtgmhddceeomjbaaDoor.Base Go.Proofs.YtgmhddceeomjbaaDoor.Valid Go.Proofs.YtgmhddceeomjbaaDoor.Law Go.Proofs.YtgmhddceeomjbaaDoor.GridPlain Go.Proofs.YtgmhddceeomjbaaDoor.Grid Go.Proofs.YtgmhddceeomjbaaDoor.Entry Go.Proofs.YtgmhddceeomjbaaDoor.From Go.Proofs.YtgmhddceeomjbaaDoor.JoinB Go.Proofs.YtgmhddceeomjbaaDoor.Ops
set_option linter.unusedVariables false

/-- both boxes, the result's block, out's block -/
def JInv (w wr : World) (g : Nat) (r c r2 c2 : Int) (s1 s2 t : ByteArray) : Prop :=
  wr.heap[w.heap.size]? = some (.cells #[.int .i64 r, .int .i64 c, .string s1] 27 (0, 0)) ∧ wr.heap[w.heap.size + 1]? = some (.cells #[.int .i64 r2, .int .i64 c2, .string s2] 27 (0, 0)) ∧
    wr.heap[w.heap.size + 1 + 1]? = some (.cells #[.int .i64 0, .int .i64 0, .string ⟨#[]⟩] 27 (0, 0)) ∧ wr.heap[g]? = some (.cells #[.int .i64 r, .int .i64 c, .string t] 27 (0, 0)) ∧
    Below w.heap.size w wr ∧ w.heap.size + 3 ≤ g ∧ g < wr.heap.size
theorem JInv.drew {w wr : World} {g : Nat} {r c r2 c2 : Int} {s1 s2 t : ByteArray} (h : JInv w wr g r c r2 c2 s1 s2 t) : JInv w wr.drew g r c r2 c2 s1 s2 t :=
  ⟨h.1, h.2.1, h.2.2.1, h.2.2.2.1, ⟨h.2.2.2.2.1.os, h.2.2.2.2.1.tape, h.2.2.2.2.1.output, h.2.2.2.2.1.size, h.2.2.2.2.1.block⟩, h.2.2.2.2.2⟩
theorem JInv.set_ {w wr : World} {g : Nat} {r c r2 c2 : Int} {s1 s2 t : ByteArray} (h : JInv w wr g r c r2 c2 s1 s2 t) (u : ByteArray) : JInv w (wr.setCell ⟨g, 2, none⟩ (.string u)) g r c r2 c2 s1 s2 u := by
  obtain ⟨h0, h1, h2, h3, h4, h5, h6⟩ := h
  exact ⟨(heap_setCell_other _ _ _ _ (by simp; omega)).trans h0, (heap_setCell_other _ _ _ _ (by simp; omega)).trans h1, (heap_setCell_other _ _ _ _ (by simp; omega)).trans h2, (heap_setCell_same _ _ _ _ _ _ h3).trans rfl, h4.setCell (by simp; omega) _, h5, by simpa using h6⟩

theorem boxes3 {w w1 : World} {o1 o2 o3 : Obj} (hb : Below (((w.alloc o1).alloc o2).alloc o3).heap.size (((w.alloc o1).alloc o2).alloc o3) w1) :
    w1.heap[w.heap.size]? = some o1 ∧ w1.heap[w.heap.size + 1]? = some o2 ∧ w1.heap[w.heap.size + 1 + 1]? = some o3 ∧ Below w.heap.size w w1 ∧ w.heap.size + 3 ≤ w1.heap.size := by
  have hs : (((w.alloc o1).alloc o2).alloc o3).heap.size = w.heap.size + 3 := by simp
  have h3 : (((w.alloc o1).alloc o2).alloc o3).heap[w.heap.size + 1 + 1]? = some o3 := by
    have := heap_alloc_new ((w.alloc o1).alloc o2) o3
    rwa [World.size_alloc, World.size_alloc] at this
  have h2 : (((w.alloc o1).alloc o2).alloc o3).heap[w.heap.size + 1]? = some o2 := by
    have := heap_alloc_new (w.alloc o1) o2
    rw [World.size_alloc] at this
    exact (Below.heap_alloc _ _ _ (by simp)).trans this
  have h1 : (((w.alloc o1).alloc o2).alloc o3).heap[w.heap.size]? = some o1 := (Below.heap_alloc _ _ _ (by simp; omega)).trans ((Below.heap_alloc _ _ _ (by simp)).trans (heap_alloc_new w o1))
  refine ⟨(hb.block _ (by omega)).trans h1, (hb.block _ (by omega)).trans h2, (hb.block _ (by omega)).trans h3, ?_, by have := hb.size; omega⟩
  exact ((((Below.refl w.heap.size w).alloc (Nat.le_refl _) _).alloc (by simp) _).alloc (by simp; omega) _).trans (hb.mono (by omega))

/-- joined entries -/
def joinE (op : ByteArray) (E F : Nat → Nat → Bool) : Nat → Nat → Bool := fun x y => opB op (E x y) (F x y)

end Go.Proofs.YtgmhddceeomjbaaDoor.Join
