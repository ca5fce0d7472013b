/-
  The walk of the law on MeetRects.
-/
import Derived.Test.YtjaibahghldllaaMeet
import Derived.Test.YtjaibahghldllaaFree
namespace Go.Proofs.Ytjaibahghldllaa.fnExactMeetRects
open Go.RowKit Go.Proofs.Ytjaibahghldllaa.Plain Go.Proofs.Ytjaibahghldllaa.Pat Go.Proofs.Ytjaibahghldllaa.Rect Go.Proofs.Ytjaibahghldllaa.Meet Go.Proofs.Ytjaibahghldllaa.Free
set_option linter.unusedVariables false

/-- both find one rectangle -/
theorem both (r c r2 c2 : Int) : ∃ (A B : Int) (t : Bool),
    (∀ w, Calls Try.prog 7 #[rect r c, rect r2 c2] w fun e w' => e = .returned (.tuple #[rect A B, .bool t]) ∧ Below w.heap.size w w') ∧
    (∀ w, Calls Try.prog 6 #[rect r c, rect r2 c2] w fun e w' => e = .returned (.tuple #[rect A B, .bool t]) ∧ Below w.heap.size w w') := by
  by_cases h1 : someB r c = true
  · by_cases h2 : someB r2 c2 = true
    · have hs := spec_meetC r c r2 c2 h1 h2
      have hi := impl_meetC r c r2 c2 h1 h2
      unfold orZero at hs hi
      by_cases h3 : someB (Go.bits .and .i64 r r2) (Go.bits .and .i64 c c2) = true
      · rw [h3, if_pos rfl] at hs hi
        exact ⟨_, _, _, hs, hi⟩
      · rw [Bool.not_eq_true] at h3
        rw [h3, if_neg (by decide)] at hs hi
        exact ⟨_, _, _, hs, hi⟩
    · rw [Bool.not_eq_true] at h2
      exact ⟨_, _, _, spec_meetB r c r2 c2 h1 h2, impl_meetB r c r2 c2 h1 h2⟩
  · rw [Bool.not_eq_true] at h1
    exact ⟨_, _, _, spec_meetA r c r2 c2 h1, impl_meetA r c r2 c2 h1⟩

/-- block b holds two numbers -/
def Two (w : World) (b : Nat) (t : TypeId) (x y : Int) : Prop := w.heap[b]? = some (.cells #[.int .i64 x, .int .i64 y] t (0, 0))
theorem Two.on {w w1 : World} {b : Nat} {t : TypeId} {x y : Int} (h : Two w b t x y) (hb : Below w.heap.size w w1) : Two w1 b t x y :=
  (hb.block b (Array.getElem?_eq_some_iff.1 h).1).trans h
theorem infoI : (Try.prog.info? 24).map (·.size) = some 2 := by kernel_rfl

end Go.Proofs.Ytjaibahghldllaa.fnExactMeetRects
