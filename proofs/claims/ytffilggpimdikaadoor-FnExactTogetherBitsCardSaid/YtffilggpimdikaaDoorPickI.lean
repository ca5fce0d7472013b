/-
  The program's PickMatrix: the function value that tells an entry.
-/
import Derived.Test.YtffilggpimdikaaDoorInts
import Derived.Test.YtffilggpimdikaaDoorFrom
import Derived.StillTailTactics
import Derived.Deep.WholeRow
namespace Go.Proofs.YtffilggpimdikaaDoor.PickI
open Go.RowKit Go.Proofs.YtffilggpimdikaaDoor.Plain Go.Proofs.YtffilggpimdikaaDoor.Base Go.Proofs.YtffilggpimdikaaDoor.Valid Go.Proofs.YtffilggpimdikaaDoor.Law Go.Proofs.YtffilggpimdikaaDoor.GridPlain Go.Proofs.YtffilggpimdikaaDoor.Grid Go.Proofs.YtffilggpimdikaaDoor.Entry Go.Proofs.YtffilggpimdikaaDoor.Ints Go.Proofs.YtffilggpimdikaaDoor.From
set_option linter.unusedVariables false

section
variable {P : Program} {ops : Array Oper} {w : World}
/-- a whole row is loaded, in a region that draws its order and only reads -/
theorem wpStill_load_row {Q : Act → Prop} {a : Act} {o : Oper} {rest : List Oper} (hgd : o.guard = none) (ty : TypeId) (x : Operand) (ho : o.op = .load ty x)
    (g : Nat) (hx : a.eval x = .pointer (some ⟨g, 0, none⟩)) (t : TypeId) (cs : Array Value) (fr : Nat × Nat) (d : TypeDesc) (hg : w.heap[g]? = some (.cells cs t fr))
    (hu : P.underlying ty = some d) (hd : (match d with | .struct _ | .array _ _ => true | _ => false) = true) (hi : (P.info? ty).map (·.size) = some cs.size)
    (h : wpStill P ops w Q rest (a.put o.dst (.agg cs))) : wpStill P ops w Q (o :: rest) a := by
  refine wpStill_step fun K hK => ?_
  have hw : Region.wanted o (yielded ops a.tmps) = true := by simp [Region.wanted, hgd]
  rw [if_pos hw]
  unfold Oper.still execOp
  simp only [ho, hx, Instr.loadAt, Instr.sureAddr, Sem.run_bind, Sem.run_pure, Result.andThen_ok, run_loadVar_row w g t ty cs fr d hg hu hd hi]
  exact ⟨rfl, hK _ h⟩
end

/-- the entries that are picked -/
def pickI (E : Nat → Nat → Bool) (xs ys : List Int) : Nat → Nat → Bool := fun x y => E (xs.getD x 0).toNat (ys.getD y 0).toNat

/-- block b holds the grid of so many entries -/
def Holds (w : World) (b : Nat) (r c : Nat) (E : Nat → Nat → Bool) : Prop := w.heap[b]? = some (.cells (gcells r c (gpart E c (r * c))) 56 (0, 0))
theorem Holds.lt {w : World} {b r c : Nat} {E : Nat → Nat → Bool} (h : Holds w b r c E) : b < w.heap.size := (Array.getElem?_eq_some_iff.1 h).1
theorem Holds.below {w w1 : World} {b r c : Nat} {E : Nat → Nat → Bool} (h : Holds w b r c E) (hb : Below w.heap.size w w1) : Holds w1 b r c E := (hb.block b h.lt).trans h

theorem iv_slice {w : World} {B : Nat} {v : Value} {xs : List Int} (h : IV w B v xs) : ∃ p k, v = .slice p xs.length k := by
  rcases h.2 with ⟨rfl, rfl⟩ | ⟨b, off, c, rfl, hlt, hc⟩
  · exact ⟨none, 0, rfl⟩
  · exact ⟨_, _, rfl⟩

theorem four_blocks {w w1 : World} {o1 o2 o3 o4 : Obj} (hb : Below ((((w.alloc o1).alloc o2).alloc o3).alloc o4).heap.size ((((w.alloc o1).alloc o2).alloc o3).alloc o4) w1) :
    w1.heap[w.heap.size + 1]? = some o2 ∧ w1.heap[w.heap.size + 1 + 1]? = some o3 ∧ w1.heap[w.heap.size + 1 + 1 + 1]? = some o4 ∧ Below w.heap.size w w1 ∧ w.heap.size + 4 ≤ w1.heap.size := by
  have hs : ((((w.alloc o1).alloc o2).alloc o3).alloc o4).heap.size = w.heap.size + 4 := by simp
  have h4 : ((((w.alloc o1).alloc o2).alloc o3).alloc o4).heap[w.heap.size + 1 + 1 + 1]? = some o4 := by
    have := heap_alloc_new (((w.alloc o1).alloc o2).alloc o3) o4
    rwa [World.size_alloc, World.size_alloc, World.size_alloc] at this
  have h3 : (((w.alloc o1).alloc o2).alloc o3).heap[w.heap.size + 1 + 1]? = some o3 := by
    have := heap_alloc_new ((w.alloc o1).alloc o2) o3
    rwa [World.size_alloc, World.size_alloc] at this
  have h2 : ((w.alloc o1).alloc o2).heap[w.heap.size + 1]? = some o2 := by
    have := heap_alloc_new (w.alloc o1) o2
    rwa [World.size_alloc] at this
  have b3 : ((((w.alloc o1).alloc o2).alloc o3).alloc o4).heap[w.heap.size + 1 + 1]? = some o3 := (Below.heap_alloc _ _ _ (by simp)).trans h3
  have b2 : ((((w.alloc o1).alloc o2).alloc o3).alloc o4).heap[w.heap.size + 1]? = some o2 := (Below.heap_alloc _ _ _ (by simp)).trans ((Below.heap_alloc _ _ _ (by simp)).trans h2)
  refine ⟨(hb.block _ (by omega)).trans b2, (hb.block _ (by omega)).trans b3, (hb.block _ (by omega)).trans h4, ?_, by have := hb.size; omega⟩
  exact (((((Below.refl w.heap.size w).alloc (Nat.le_refl _) _).alloc (by simp) _).alloc (by simp; omega) _).alloc (by simp; omega) _).trans (hb.mono (by omega))

end Go.Proofs.YtffilggpimdikaaDoor.PickI

