/-
  The drawing functions: an element of a list of strings; a rectangle of a valid matrix.
-/
import Derived.Test.YtbbgibbpeibhiaaDoorRd3
namespace Go.Proofs.YtbbgibbpeibhiaaDoor.DrawT
open Go.RowKit Go.Proofs.YtbbgibbpeibhiaaDoor.Plain Go.Proofs.YtbbgibbpeibhiaaDoor.Rd Go.Proofs.YtbbgibbpeibhiaaDoor.Rd2 Go.Proofs.YtbbgibbpeibhiaaDoor.Rd3
set_option linter.unusedVariables false

theorem shift_le (n : Nat) (h : n ≤ 8) : wrap64 (wrap64 (2 ^ n) - 1) ≤ 255 := by
  have h2 : ∀ k : Fin 9, wrap64 (wrap64 (2 ^ k.val) - 1) ≤ 255 := by decide +kernel
  exact h2 ⟨n, by omega⟩
end Go.Proofs.YtbbgibbpeibhiaaDoor.DrawT
