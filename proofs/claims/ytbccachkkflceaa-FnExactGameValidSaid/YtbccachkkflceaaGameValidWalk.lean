/-
  The walk of the law on GameValid.
-/
import Derived.Test.YtbccachkkflceaaGTreeOf
namespace Go.Proofs.Ytbccachkkflceaa.fnExactGameValid
open Go.RowKit Go.Shelf Go.Proofs.Ytbccachkkflceaa.Plain Go.Proofs.Ytbccachkkflceaa.Tree Go.Proofs.Ytbccachkkflceaa.Read Go.Proofs.Ytbccachkkflceaa.TreeOf
set_option linter.unusedVariables false

theorem both (s : ByteArray) (hs : s.size ≤ 1048576) : ∃ b, (∀ w, Calls Try.prog 8 #[.string s] w fun e w' => e = .returned (.bool b) ∧ w = w') ∧
    (∀ w, Calls Try.prog 9 #[.string s] w fun e w' => e = .returned (.bool b) ∧ Below w.heap.size w w') := by
  rcases ok_or s with ⟨t, h1, h2, h3⟩ | h
  · exact ⟨true, valid_said s t h1 h2 h3, impl_valid_yes s t h1 h2 h3⟩
  · exact ⟨false, valid_no s h hs, impl_valid_no s h hs⟩

set_option maxHeartbeats 400000 in
theorem walk (s : ByteArray) (hs : s.size ≤ maxLen) (w : World) :
    Calls Try.prog 3 #[.string s] w fun e w' => e = .returned (.bool true) ∧ Below w.heap.size w w' := by
  unfold maxLen at hs
  by_cases hbig : 1048576 < s.size
  · go_enter Try.func3, Try.ntmps3
    go_wp2_with fail
    go_ret
    exact ⟨rfl, Below.refl _ _⟩
  obtain ⟨b, hS, hI⟩ := both s (by omega)
  have HS := Lib.hid hS
  have HI := Lib.hid hI
  replace hbig : s.size ≤ 1048576 := by omega
  clear hS hI
  cases b
  all_goals
    go_enter Try.func3, Try.ntmps3
    go_wp2_with fail
    refine (HS.out _).mono ?_
    rintro e w1 ⟨rfl, rfl⟩
    go_wp2_with fail
    refine (HI.out _).mono ?_
    rintro e w2 ⟨rfl, hb2⟩
    have HB := Lib.hid hb2
    clear hb2
    go_wp2_with fail
    go_ret
    exact ⟨rfl, HB.out⟩
end Go.Proofs.Ytbccachkkflceaa.fnExactGameValid
