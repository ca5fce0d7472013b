/-
  The walk of the law on HullRects.
-/
import Derived.Test.YtjaibahghldllaaMeet
import Derived.Test.YtjaibahghldllaaFree
namespace Go.Proofs.Ytjaibahghldllaa.fnExactHullRects
open Go.RowKit Go.Proofs.Ytjaibahghldllaa.Plain Go.Proofs.Ytjaibahghldllaa.Pat Go.Proofs.Ytjaibahghldllaa.Rect Go.Proofs.Ytjaibahghldllaa.Meet Go.Proofs.Ytjaibahghldllaa.Free
set_option linter.unusedVariables false

/-- what is in one of two sets, at least one of which is not empty, is a set -/
theorem or_some (a b : Int) (h1 : 1 ≤ a ∧ a ≤ 255) (h2 : 1 ≤ b ∧ b ≤ 255) : 1 ≤ Go.bits .or .i64 a b ∧ Go.bits .or .i64 a b ≤ 255 := by
  obtain ⟨A, rfl⟩ := Int.eq_ofNat_of_zero_le (show 0 ≤ a by omega)
  obtain ⟨B, rfl⟩ := Int.eq_ofNat_of_zero_le (show 0 ≤ b by omega)
  rw [(bits_nat .i64 8 (by decide) (fun n h0 h1 => by rw [IntKind.wrap_i64]; omega) A B (by omega) (by omega)).2]
  have hlt : A ||| B < 256 := Nat.or_lt_two_pow (n := 8) (by omega) (by omega)
  have hge : A ≤ A ||| B := Nat.left_le_or
  omega
/-- both find one rectangle -/
theorem both (r c r2 c2 : Int) : ∃ (A B : Int) (t : Bool),
    (∀ w, Calls Try.prog 9 #[rect r c, rect r2 c2] w fun e w' => e = .returned (.tuple #[rect A B, .bool t]) ∧ Below w.heap.size w w') ∧
    (∀ w, Calls Try.prog 8 #[rect r c, rect r2 c2] w fun e w' => e = .returned (.tuple #[rect A B, .bool t]) ∧ Below w.heap.size w w') := by
  by_cases h1 : someB r c = true
  · by_cases h2 : someB r2 c2 = true
    · have hs := spec_hullC r c r2 c2 h1 h2
      have hi := impl_hullC r c r2 c2 h1 h2
      unfold orZero at hi
      have h1' := (someB_iff r c).1 h1
      have h2' := (someB_iff r2 c2).1 h2
      have h3 : someB (Go.bits .or .i64 r r2) (Go.bits .or .i64 c c2) = true := (someB_iff _ _).2 ⟨or_some _ _ h1'.1 h2'.1, or_some _ _ h1'.2 h2'.2⟩
      rw [h3, if_pos rfl] at hi
      exact ⟨_, _, _, hs, hi⟩
    · rw [Bool.not_eq_true] at h2
      exact ⟨_, _, _, spec_hullB r c r2 c2 h1 h2, impl_hullB r c r2 c2 h1 h2⟩
  · rw [Bool.not_eq_true] at h1
    exact ⟨_, _, _, spec_hullA r c r2 c2 h1, impl_hullA r c r2 c2 h1⟩

/-- block b holds two numbers -/
def Two (w : World) (b : Nat) (t : TypeId) (x y : Int) : Prop := w.heap[b]? = some (.cells #[.int .i64 x, .int .i64 y] t (0, 0))
theorem Two.on {w w1 : World} {b : Nat} {t : TypeId} {x y : Int} (h : Two w b t x y) (hb : Below w.heap.size w w1) : Two w1 b t x y :=
  (hb.block b (Array.getElem?_eq_some_iff.1 h).1).trans h
theorem infoI : (Try.prog.info? 24).map (·.size) = some 2 := by kernel_rfl

end Go.Proofs.Ytjaibahghldllaa.fnExactHullRects
