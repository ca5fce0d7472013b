/-
  The walk of the law on DualFormula.
-/
import Derived.Test.YtbhkfibbepocfaaFmDual
namespace Go.Proofs.Ytbhkfibbepocfaa.fnExactDualFormula
open Go.RowKit Go.Shelf Go.Proofs.Ytbhkfibbepocfaa.Plain Go.Proofs.Ytbhkfibbepocfaa.Fm Go.Proofs.Ytbhkfibbepocfaa.FmDual
set_option linter.unusedVariables false
set_option linter.unusedSimpArgs false

set_option maxHeartbeats 1000000 in
theorem walk (s : ByteArray) (hs : s.size ≤ maxLen) (w : World) :
    Calls Try.prog 9 #[.string s] w fun e w' => e = .returned (.bool true) ∧ Below w.heap.size w w' := by
  unfold maxLen at hs
  by_cases hbig : 1048576 < s.size
  · go_enter Try.func9, Try.ntmps9
    go_wp2_with fail
    go_ret
    exact ⟨rfl, Below.refl _ _⟩
  obtain ⟨q, v, _, hS, hI⟩ := both s (by omega)
  have HS := Lib.hid hS
  have HI := Lib.hid hI
  replace hbig : s.size ≤ 1048576 := by omega
  clear hS hI
  cases v
  all_goals
    go_enter Try.func9, Try.ntmps9
    go_wp2_with fail
    refine (HS.out _).mono ?_
    rintro e w1 ⟨rfl, hb1⟩
    go_wp2_with fail
    refine (HI.out _).mono ?_
    rintro e w2 ⟨rfl, hb2⟩
    have HB := Lib.hid (hb1.trans (hb2.mono hb1.size))
    clear hb1 hb2
    go_wp2_with fail
    go_ret
    exact ⟨rfl, HB.out⟩
end Go.Proofs.Ytbhkfibbepocfaa.fnExactDualFormula
