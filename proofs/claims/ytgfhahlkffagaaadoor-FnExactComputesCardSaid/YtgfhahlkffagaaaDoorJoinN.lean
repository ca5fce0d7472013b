/-
  The reference's JoinMatrices where it answers false.
-/
import Derived.Test.YtgfhahlkffagaaaDoorJ13
namespace Go.Proofs.YtgfhahlkffagaaaDoor.JoinN
open Go.RowKit Go.Proofs.YtgfhahlkffagaaaDoor.Plain Go.Proofs.YtgfhahlkffagaaaDoor.Base Go.Proofs.YtgfhahlkffagaaaDoor.Valid Go.Proofs.YtgfhahlkffagaaaDoor.Law Go.Proofs.YtgfhahlkffagaaaDoor.GridPlain Go.Proofs.YtgfhahlkffagaaaDoor.Grid Go.Proofs.YtgfhahlkffagaaaDoor.Entry Go.Proofs.YtgfhahlkffagaaaDoor.From Go.Proofs.YtgfhahlkffagaaaDoor.JoinB Go.Proofs.YtgfhahlkffagaaaDoor.Ops Go.Proofs.YtgfhahlkffagaaaDoor.Join Go.Proofs.YtgfhahlkffagaaaDoor.JoinI
set_option linter.unusedVariables false

end Go.Proofs.YtgfhahlkffagaaaDoor.JoinN
