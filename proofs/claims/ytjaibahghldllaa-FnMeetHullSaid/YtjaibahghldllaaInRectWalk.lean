/-
  The walk of the law on InRect.
-/
import Derived.Test.YtjaibahghldllaaRect
namespace Go.Proofs.Ytjaibahghldllaa.fnExactInRect
open Go.RowKit Go.Proofs.Ytjaibahghldllaa.Plain Go.Proofs.Ytjaibahghldllaa.Pat Go.Proofs.Ytjaibahghldllaa.Rect
set_option linter.unusedVariables false

set_option maxHeartbeats 1000000 in
/-- the program's, where each test is told -/
theorem impl_yes (r c x y : Int) (h : someB r c = true) (b1 b2 : Bool)
    (h1 : ∀ W : World, Calls Try.prog 23 #[.int .i64 r, .int .i64 x] W fun e w' => e = .returned (.bool b1) ∧ W = w')
    (h2 : ∀ W : World, Calls Try.prog 23 #[.int .i64 c, .int .i64 y] W fun e w' => e = .returned (.bool b2) ∧ W = w') (w : World) :
    Calls Try.prog 10 #[rect r c, .int .i64 x, .int .i64 y] w fun e w' => e = .returned (.bool (b1 && b2)) ∧ Below w.heap.size w w' := by
  have HS := Lib.hid h
  have H1 := Lib.hid h1
  have H2 := Lib.hid h2
  clear h h1 h2
  go_enter Try.func10, Try.ntmps10
  go_wp2_with fail
  refine (rect_any _ _ _).mono ?_
  rintro e w1 ⟨rfl, hb1⟩
  rw [HS.out]
  obtain ⟨c0, c1, hz, HB⟩ := box2 hb1
  clear hb1
  go_wp2_with fail
  refine (H1.out _).mono ?_
  rintro e w' ⟨rfl, rfl⟩
  cases b1
  · go_wp2_with fail
    go_ret
    exact ⟨rfl, HB.out⟩
  · go_wp2_with fail
    refine (H2.out _).mono ?_
    rintro e w' ⟨rfl, rfl⟩
    go_wp2_with fail
    go_ret
    exact ⟨rfl, HB.out⟩
set_option maxHeartbeats 1000000 in
theorem impl_none (r c x y : Int) (h : someB r c = false) (w : World) :
    Calls Try.prog 10 #[rect r c, .int .i64 x, .int .i64 y] w fun e w' => e = .returned (.bool false) ∧ Below w.heap.size w w' := by
  have HS := Lib.hid h
  clear h
  go_enter Try.func10, Try.ntmps10
  go_wp2_with fail
  refine (rect_any _ _ _).mono ?_
  rintro e w1 ⟨rfl, hb1⟩
  rw [HS.out]
  obtain ⟨c0, c1, hz, HB⟩ := box2 hb1
  clear hb1
  go_wp2_with fail
  go_ret
  exact ⟨rfl, HB.out⟩

/-- a set's test, whatever the number -/
theorem inSet_any (s : Nat) (hs : s < 256) (i : Int) : ∃ b : Bool, ∀ W : World, Calls Try.prog 23 #[.int .i64 (s : Int), .int .i64 i] W fun e w' => e = .returned (.bool b) ∧ W = w' := by
  by_cases h : 0 ≤ i ∧ i < 8
  · obtain ⟨k, rfl⟩ := Int.eq_ofNat_of_zero_le h.1
    exact ⟨_, fun W => inSet_yes s k hs (by omega) W⟩
  · exact ⟨false, fun W => inSet_no s i (by omega) W⟩

end Go.Proofs.Ytjaibahghldllaa.fnExactInRect
