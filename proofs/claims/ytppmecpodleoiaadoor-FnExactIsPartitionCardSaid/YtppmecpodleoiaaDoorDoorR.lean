/-
  A rectangle read as data.
-/
import Derived.Test.YtppmecpodleoiaaDoorDoor
namespace Go.Proofs.YtppmecpodleoiaaDoor.DoorR
open Go.ChangeShapes Go.WideShapes Go.ChangeAt Go.RowKit Go.Joins
set_option linter.unusedVariables false

theorem cellsR : Tryd.prog.cellsOf 93 = 2 := by kernel_rfl
section
variable {H : Type} {enc : TypeId × Value → H}
/-- a rectangle read as data in whatever world -/
theorem shutR (W' : World) (sp : Nat → Bool) (r c : Int) (wr : (Lit.int .i64 r).wf = true) (wc : (Lit.int .i64 c).wf = true) :
    DataW.Trod enc Tryd.prog W' 0 sp true 93 (.agg #[.int .i64 r, .int .i64 c]) (.agg [.lit (.int .i64 r), .lit (.int .i64 c)]) [] :=
  shut_agg2 (y0 := (.lit (.int .i64 r), [])) (y1 := (.lit (.int .i64 c), [])) Tryd.underlying93 (by kernel_rfl) cellsR
    ⟨1, by simp [DataW.trod, Tryd.underlying3, wr]⟩ ⟨1, by simp [DataW.trod, Tryd.underlying3, wc]⟩
end
end Go.Proofs.YtppmecpodleoiaaDoor.DoorR
