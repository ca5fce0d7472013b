/-
  Contracts of the laws' own markRectS and heldRectS over a slice of a call's own.
-/
import Derived.Test.YtalechngagkklaaDoorRects
import Derived.Test.YtalechngagkklaaDoorSortR
namespace Go.Proofs.YtalechngagkklaaDoor.Marks
open Go.RowKit Go.Proofs.YtalechngagkklaaDoor.Plain Go.Proofs.YtalechngagkklaaDoor.Base Go.Proofs.YtalechngagkklaaDoor.Law Go.Proofs.YtalechngagkklaaDoor.Pat Go.Proofs.YtalechngagkklaaDoor.Rect Go.Proofs.YtalechngagkklaaDoor.Rects
open Go.Proofs.YtalechngagkklaaDoor.KeysI (flat)
open Go.Proofs.YtalechngagkklaaDoor.SortR (flat_get flat_length)
set_option linter.unusedVariables false

/-- the marks -/
def nums (n : Nat) : List (Int × Int) := (List.range n).map fun j => (((1 + 2 * j : Nat) : Int), ((2 + 2 * j : Nat) : Int))
theorem nums_len (n : Nat) : (nums n).length = n := by simp [nums]
theorem nums_get (n j : Nat) (h : j < (nums n).length) : (nums n)[j] = (((1 + 2 * j : Nat) : Int), ((2 + 2 * j : Nat) : Int)) := by simp [nums]

/-- a slice of the call's own is a slice of these rectangles -/
theorem rv_own {w : World} {B : Nat} {v : Value} {xs : List (Int × Int)} (h : w.ownsRow B 26 2 v xs.length (flat xs)) (hl : xs.length ≤ 1000) : RV w w.heap.size v xs := by
  refine ⟨by omega, ?_⟩
  rcases h.2 with ⟨rfl, h0⟩ | ⟨g, cap, cur, rfl, hg, hheap, hn, hcap, hsz, htake⟩
  · exact .inl ⟨rfl, List.length_eq_zero_iff.1 h0⟩
  · refine .inr ⟨g, 0, cap, rfl, (Array.getElem?_eq_some_iff.1 hheap).1, fun j hj => ?_⟩
    have key : ∀ t, t < xs.length * 2 → w.cell? ⟨g, t, none⟩ = (flat xs)[t]? := by
      intro t ht
      rw [← htake, List.getElem?_take_of_lt ht, Array.getElem?_toList]
      simp [World.cell?, hheap]
    have h1 := key (j * 2) (by omega)
    have h2 := key (j * 2 + 1) (by omega)
    rw [flat_get _ _ (by omega)] at h1 h2
    have e1 : j * 2 / 2 = j := by omega
    have e2 : j * 2 % 2 = 0 := by omega
    have e3 : (j * 2 + 1) / 2 = j := by omega
    have e4 : (j * 2 + 1) % 2 = 1 := by omega
    rw [e1, e2, getElem!_pos xs j hj] at h1
    rw [e3, e4, getElem!_pos xs j hj] at h2
    exact ⟨by rw [Nat.zero_add]; exact h1, by rw [Nat.zero_add]; exact h2⟩

end Go.Proofs.YtalechngagkklaaDoor.Marks
