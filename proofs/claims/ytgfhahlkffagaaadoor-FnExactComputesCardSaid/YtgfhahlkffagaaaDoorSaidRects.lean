/-
  The reference's rectangles of the ends.
-/
import Derived.Test.YtgfhahlkffagaaaDoorJ2
import Derived.Test.YtgfhahlkffagaaaDoorSaidTrim
import Derived.Test.YtgfhahlkffagaaaDoorFreeC4
namespace Go.Proofs.YtgfhahlkffagaaaDoor.SaidRects
open Go.RowKit Go.Shelf Go.Proofs.YtgfhahlkffagaaaDoor.Plain Go.Proofs.YtgfhahlkffagaaaDoor.Tree Go.Proofs.YtgfhahlkffagaaaDoor.Hex Go.Proofs.YtgfhahlkffagaaaDoor.Read Go.Proofs.YtgfhahlkffagaaaDoor.Parts Go.Proofs.YtgfhahlkffagaaaDoor.TrimT Go.Proofs.YtgfhahlkffagaaaDoor.Rect Go.Proofs.YtgfhahlkffagaaaDoor.Split Go.Proofs.YtgfhahlkffagaaaDoor.App Go.Proofs.YtgfhahlkffagaaaDoor.Leaf
open Go.Proofs.YtgfhahlkffagaaaDoor.SaidTrim (eq0 ne0)
open Go.Proofs.YtgfhahlkffagaaaDoor.Wq (drew_at)
open Go.Proofs.YtgfhahlkffagaaaDoor.Free (fill wp_value wp_enter wp_load_row freeB)
open Go.Proofs.YtgfhahlkffagaaaDoor.FreeC4 Go.Proofs.YtgfhahlkffagaaaDoor.FreeW
set_option linter.unusedVariables false
set_option maxRecDepth 100000
set_option linter.unusedSimpArgs false

theorem info_r : ∃ i, Tryd.prog.info? 60 = some i ∧ i.zero = some (.agg #[.int .i64 0, .int .i64 0]) ∧ i.size = 2 ∧ i.bytes = 16 := ⟨_, rfl, rfl, rfl, rfl⟩
theorem get_some {a : Act} {d : Tmp} {v : Value} (h : a.tmps[d]? = some v) : a.tmps[d]?.getD undef = v := by rw [h]; rfl
theorem wp_enterR {o : Oper} {a : Act} {w : World} {K : Act → World → Prop} {Q : Exit → Act → World → Prop} {R : Value → World → Prop} (f : FuncId) (args : Array Value) (h : (execOp a.eval o).run Tryd.prog w = .ok (.enter f args) w)
    (hc : Calls Tryd.prog f args w fun e w' => ∃ v, e = .returned v ∧ R v w') (hK : ∀ v w', R v w' → K (a.put o.dst v) w') : o.wp Tryd.prog a w K Q := by
  unfold Oper.wp
  rw [h]
  refine Calls.mono hc ?_
  rintro e w' ⟨v, rfl, hR⟩
  exact hK v w' hR
end Go.Proofs.YtgfhahlkffagaaaDoor.SaidRects
