/-
  The program's rectangles of the ends.
-/
import Derived.Test.YtgfhahlkffagaaaDoorLeavesI
import Derived.Test.YtgfhahlkffagaaaDoorTreeIn
import Derived.Test.YtgfhahlkffagaaaDoorSaidRects
namespace Go.Proofs.YtgfhahlkffagaaaDoor.LeafRectsI
open Go.RowKit Go.Shelf Go.Proofs.YtgfhahlkffagaaaDoor.Plain Go.Proofs.YtgfhahlkffagaaaDoor.Tree Go.Proofs.YtgfhahlkffagaaaDoor.Read Go.Proofs.YtgfhahlkffagaaaDoor.Rect Go.Proofs.YtgfhahlkffagaaaDoor.TreeOf Go.Proofs.YtgfhahlkffagaaaDoor.TreeIn Go.Proofs.YtgfhahlkffagaaaDoor.App Go.Proofs.YtgfhahlkffagaaaDoor.Leaf Go.Proofs.YtgfhahlkffagaaaDoor.LeavesI
open Go.Proofs.YtgfhahlkffagaaaDoor.SaidRects (info_r)
set_option linter.unusedVariables false
set_option maxRecDepth 100000
set_option linter.unusedSimpArgs false

theorem cellsL_get : ∀ (l : List (Nat × Nat × Bool)) (k : Nat) (h : k < l.length), (cellsL l)[k * 3]? = some (.int .i64 (l[k].1 : Int)) ∧ (cellsL l)[k * 3 + 1]? = some (.int .i64 (l[k].2.1 : Int)) ∧ (cellsL l)[k * 3 + 2]? = some (.int .i64 (bitI l[k].2.2))
  | [], k, h => by simp at h
  | p :: l, 0, h => by simp [cellsL]
  | p :: l, k + 1, h => by
    have ih := cellsL_get l k (by simpa using h)
    have e : cellsL (p :: l) = .int .i64 (p.1 : Int) :: .int .i64 (p.2.1 : Int) :: .int .i64 (bitI p.2.2) :: cellsL l := by simp [cellsL]
    have e0 : (k + 1) * 3 = k * 3 + 3 := by omega
    rw [e, e0]
    simpa using ih
theorem cellsR_take (l : List (Nat × Nat × Bool)) (k : Nat) (h : k < l.length) : cellsR (l.take (k + 1)) = cellsR (l.take k) ++ [.int .i64 (l[k].1 : Int), .int .i64 (l[k].2.1 : Int)] := by
  rw [List.take_succ_eq_append_getElem h, cellsR_append]
  simp [cellsR]
theorem cells_list {w : World} (cs : List Value) (ty : TypeId) : ∀ j u, cs[j]? = some u → (w.alloc (.cells cs.toArray ty)).cell? ((⟨w.heap.size, 0, none⟩ : Addr).add j) = some u := by
  intro j u hj
  have h := cell_of_row (w.alloc (.cells cs.toArray ty)) w.heap.size j cs.toArray ty (0, 0) (heap_alloc_new w _)
  have e : ((⟨w.heap.size, 0, none⟩ : Addr).add j) = ⟨w.heap.size, j, none⟩ := by
    simp [Addr.add]
    try exact fun h => h.symm
  rw [e, h]
  simpa using hj
theorem cells_list' {w : World} {n : Nat} (hn : w.heap.size = n) (cs : List Value) (ty : TypeId) : ∀ j u, cs[j]? = some u → (w.alloc (.cells cs.toArray ty)).cell? ((⟨n, 0, none⟩ : Addr).add j) = some u := by
  subst hn
  exact cells_list cs ty

end Go.Proofs.YtgfhahlkffagaaaDoor.LeafRectsI
