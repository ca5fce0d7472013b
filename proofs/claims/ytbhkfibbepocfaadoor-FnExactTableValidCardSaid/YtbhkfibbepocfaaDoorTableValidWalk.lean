/-
  The walk of the law on TableValid.
-/
import Derived.Test.YtbhkfibbepocfaaDoorWid
namespace Go.Proofs.YtbhkfibbepocfaaDoor.fnExactTableValid
open Go.RowKit Go.Proofs.YtbhkfibbepocfaaDoor.Plain Go.Proofs.YtbhkfibbepocfaaDoor.Wid
set_option linter.unusedVariables false
set_option linter.unusedSimpArgs false

set_option maxHeartbeats 400000 in
theorem walk (s : ByteArray) (hs : s.size ≤ maxLen) (w : World) :
    Calls Tryd.prog 5 #[.string s] w fun e w' => e = .returned (.bool true) ∧ Below w.heap.size w w' := by
  have HS := Lib.hid (spec_tab s hs)
  have HI := Lib.hid (impl_tabv s hs)
  unfold maxLen at hs
  by_cases hbig : 1048576 < s.size
  · clear HS HI
    go_enter Tryd.func5, Tryd.ntmps5
    go_wp2_with fail
    go_ret
    exact ⟨rfl, Below.refl _ _⟩
  replace hbig : s.size ≤ 1048576 := by omega
  generalize tabV s = v at *
  cases v
  all_goals
    go_enter Tryd.func5, Tryd.ntmps5
    go_wp2_with fail
    refine (HS.out _).mono ?_
    rintro e w1 ⟨rfl, rfl⟩
    go_wp2_with fail
    refine (HI.out _).mono ?_
    rintro e w2 ⟨rfl, hb2⟩
    have HB := Lib.hid hb2
    clear hb2
    go_wp2_with fail
    go_ret
    exact ⟨rfl, HB.out⟩
end Go.Proofs.YtbhkfibbepocfaaDoor.fnExactTableValid
