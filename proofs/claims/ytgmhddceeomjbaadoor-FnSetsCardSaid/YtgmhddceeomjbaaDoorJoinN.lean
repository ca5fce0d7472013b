/-
  The reference's JoinMatrices where it answers false.
-/
import Derived.Test.YtgmhddceeomjbaaDoorJoinI
namespace Go.Proofs.YtgmhddceeomjbaaDoor.JoinN
open Go.RowKit Go.Proofs.YtgmhddceeomjbaaDoor.Plain Go.Proofs.YtgmhddceeomjbaaDoor.Base Go.Proofs.YtgmhddceeomjbaaDoor.Valid Go.Proofs.YtgmhddceeomjbaaDoor.Law Go.Proofs.YtgmhddceeomjbaaDoor.GridPlain Go.Proofs.YtgmhddceeomjbaaDoor.Grid Go.Proofs.YtgmhddceeomjbaaDoor.Entry Go.Proofs.YtgmhddceeomjbaaDoor.From Go.Proofs.YtgmhddceeomjbaaDoor.JoinB Go.Proofs.YtgmhddceeomjbaaDoor.Ops Go.Proofs.YtgmhddceeomjbaaDoor.Join Go.Proofs.YtgmhddceeomjbaaDoor.JoinI
set_option linter.unusedVariables false

end Go.Proofs.YtgmhddceeomjbaaDoor.JoinN
