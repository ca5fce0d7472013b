/-
  Contracts of the small functions: l1In, l1Bit, bitOf, sideValid, eqMatrix.
-/
import Derived.Test.YtbccachkkflceaaRows
import Derived.Test.YtbccachkkflceaaPlain
import Derived.WalkKit
import Derived.WalkSpells
import Derived.Lib.Hide
import Derived.Handy
import Derived.Outline
import Derived.Deep.QuietTactic
import Derived.BigQuiet
namespace Go.Proofs.Ytbccachkkflceaa.Base
open Go.RowKit Go.Proofs.Ytbccachkkflceaa.Plain

set_option maxHeartbeats 400000 in
theorem bitOf_any (b : Bool) (w : World) :
    Calls Try.prog 59 #[.bool b] w fun e w' => e = .returned (.int .i64 (bitI b)) ∧ w = w' := by
  cases b
  all_goals
    go_enter Try.func59, Try.ntmps59
    go_wp2
    go_ret
    exact ⟨rfl, rfl⟩


/-- a matrix as a value -/
abbrev mat (r c : Int) (s : ByteArray) : Value := .agg #[.int .i64 r, .int .i64 c, .string s]

end Go.Proofs.Ytbccachkkflceaa.Base
