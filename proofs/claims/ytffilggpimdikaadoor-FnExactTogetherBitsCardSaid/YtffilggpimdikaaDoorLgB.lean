/-
  How many bits name at most eight things: the program's and the reference's.
-/
import Derived.Test.YtffilggpimdikaaDoorBits
namespace Go.Proofs.YtffilggpimdikaaDoor.LgB
open Go.RowKit Go.Proofs.YtffilggpimdikaaDoor.Plain Go.Proofs.YtffilggpimdikaaDoor.Rect Go.Proofs.YtffilggpimdikaaDoor.Bits
set_option linter.unusedVariables false

def lgB (n : Nat) : Nat := if n ≤ 1 then 0 else if n ≤ 2 then 1 else if n ≤ 4 then 2 else 3
theorem lgB_all : ∀ m : Fin 9, m.1 ≤ 2 ^ lgB m.1 ∧ lgB m.1 ≤ 3 ∧ ∀ j : Fin 4, j.1 < lgB m.1 → 2 ^ j.1 < m.1 := by decide
theorem lgB_is (n : Nat) (h : n ≤ 8) : IsBits n (lgB n) ∧ lgB n ≤ 3 := by
  obtain ⟨h1, h2, h3⟩ := lgB_all ⟨n, by omega⟩
  exact ⟨⟨h1, fun j hj => h3 ⟨j, by simp only at h2; omega⟩ hj⟩, h2⟩
theorem bits_for (n : Nat) (h : n ≤ 8) (w : World) : Calls Tryd.prog 37 #[.int .i64 (n : Int)] w fun e w' => e = .returned (.int .i64 (lgB n : Int)) ∧ Below w.heap.size w w' := by
  refine (impl_yes n (by omega) w).mono ?_
  rintro e w' ⟨k, h1, _, rfl, rfl⟩
  obtain rfl := h1.one (lgB_is n h).1
  exact ⟨rfl, Below.refl _ _⟩
theorem bits_none (w : World) : Calls Tryd.prog 37 #[.int .i64 (-1)] w fun e w' => e = .returned (.int .i64 (-1)) ∧ Below w.heap.size w w' := by
  refine (impl_no (-1) (.inl (by omega)) w).mono ?_
  rintro e w' ⟨rfl, rfl⟩
  exact ⟨rfl, Below.refl _ _⟩
theorem said_k (n : Nat) (h : n ≤ 8) (w : World) : Calls Tryd.prog 35 #[.int .i64 (n : Int)] w fun e w' => e = .returned (.int .i64 (lgB n : Int)) ∧ Below w.heap.size w w' := by
  refine (spec_k n (by omega) w).mono ?_
  rintro e w' ⟨k, h1, _, rfl, rfl⟩
  obtain rfl := h1.one (lgB_is n h).1
  exact ⟨rfl, Below.refl _ _⟩
end Go.Proofs.YtffilggpimdikaaDoor.LgB
