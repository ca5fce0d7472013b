/-
  The reference's protocol without what is never said.
-/
import Derived.Test.YtgfhahlkffagaaaDoorSplit
namespace Go.Proofs.YtgfhahlkffagaaaDoor.SaidTrim
open Go.RowKit Go.Shelf Go.Proofs.YtgfhahlkffagaaaDoor.Plain Go.Proofs.YtgfhahlkffagaaaDoor.Tree Go.Proofs.YtgfhahlkffagaaaDoor.Hex Go.Proofs.YtgfhahlkffagaaaDoor.Read Go.Proofs.YtgfhahlkffagaaaDoor.Parts Go.Proofs.YtgfhahlkffagaaaDoor.SetW Go.Proofs.YtgfhahlkffagaaaDoor.TrimT Go.Proofs.YtgfhahlkffagaaaDoor.Rect Go.Proofs.YtgfhahlkffagaaaDoor.Split
open Go.Proofs.YtgfhahlkffagaaaDoor.Wq (WQ wq_step wq_nil region_kept drew_at)
set_option linter.unusedVariables false
set_option linter.unusedSimpArgs false

theorem eq0 {n : Nat} (h : n = 0) : ((n : Int) == 0) = true := by subst h; rfl
theorem ne0 {n : Nat} (h : n ≠ 0) : ((n : Int) == 0) = false := beq_false_of_ne (by omega)

end Go.Proofs.YtgfhahlkffagaaaDoor.SaidTrim
