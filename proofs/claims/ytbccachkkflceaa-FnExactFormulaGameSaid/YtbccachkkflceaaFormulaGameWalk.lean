/-
  The walk of the law on FormulaGame.
-/
import Derived.Test.YtbccachkkflceaaGmG
namespace Go.Proofs.Ytbccachkkflceaa.fnExactFormulaGame
open Go.RowKit Go.Shelf Go.Proofs.Ytbccachkkflceaa.Plain Go.Proofs.Ytbccachkkflceaa.GmG
set_option linter.unusedVariables false
set_option linter.unusedSimpArgs false

theorem both (s : ByteArray) (hs : s.size ≤ 1048576) : ∃ (q : ByteArray) (v : Bool), True ∧ (∀ w, Calls Try.prog 14 #[.string s] w fun e w' => e = .returned (.tuple #[.string q, .bool v]) ∧ Below w.heap.size w w') ∧
    (∀ w, Calls Try.prog 15 #[.string s] w fun e w' => e = .returned (.tuple #[.string q, .bool v]) ∧ Below w.heap.size w w') := by
  rcases FmNo.ok_or 3 s with ⟨t, h1, h2, h3⟩ | h
  · exact ⟨_, true, trivial, spec_yes s t h1 h2 h3, impl_yes s t h1 h2 h3⟩
  · exact ⟨_, false, trivial, spec_no s h hs, impl_no s h hs⟩

set_option maxHeartbeats 1000000 in
theorem walk (s : ByteArray) (hs : s.size ≤ maxLen) (w : World) :
    Calls Try.prog 6 #[.string s] w fun e w' => e = .returned (.bool true) ∧ Below w.heap.size w w' := by
  unfold maxLen at hs
  by_cases hbig : 1048576 < s.size
  · go_enter Try.func6, Try.ntmps6
    go_wp2_with fail
    go_ret
    exact ⟨rfl, Below.refl _ _⟩
  obtain ⟨q, v, _, hS, hI⟩ := both s (by omega)
  have HS := Lib.hid hS
  have HI := Lib.hid hI
  replace hbig : s.size ≤ 1048576 := by omega
  clear hS hI
  cases v
  all_goals
    go_enter Try.func6, Try.ntmps6
    go_wp2_with fail
    refine (HS.out _).mono ?_
    rintro e w1 ⟨rfl, hb1⟩
    go_wp2_with fail
    refine (HI.out _).mono ?_
    rintro e w2 ⟨rfl, hb2⟩
    have HB := Lib.hid (hb1.trans (hb2.mono hb1.size))
    clear hb1 hb2
    go_wp2_with fail
    go_ret
    exact ⟨rfl, HB.out⟩
end Go.Proofs.Ytbccachkkflceaa.fnExactFormulaGame
