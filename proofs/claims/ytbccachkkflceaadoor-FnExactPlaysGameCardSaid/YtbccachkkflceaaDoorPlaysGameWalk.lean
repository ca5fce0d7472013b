/-
  The walk of the law on PlaysGame.
-/
import Derived.Test.YtbccachkkflceaaDoorPlS
import Derived.Test.YtbccachkkflceaaDoorPlI
namespace Go.Proofs.YtbccachkkflceaaDoor.fnExactPlaysGame
open Go.RowKit Go.Shelf Go.Proofs.YtbccachkkflceaaDoor.Plain Go.Proofs.YtbccachkkflceaaDoor.Base Go.Proofs.YtbccachkkflceaaDoor.Valid Go.Proofs.YtbccachkkflceaaDoor.Pat Go.Proofs.YtbccachkkflceaaDoor.Tree Go.Proofs.YtbccachkkflceaaDoor.Read Go.Proofs.YtbccachkkflceaaDoor.TreeOf Go.Proofs.YtbccachkkflceaaDoor.PlM Go.Proofs.YtbccachkkflceaaDoor.PlN Go.Proofs.YtbccachkkflceaaDoor.PlS Go.Proofs.YtbccachkkflceaaDoor.PlI Go.Proofs.YtbccachkkflceaaDoor.Wid Go.Proofs.YtbccachkkflceaaDoor.Rect
set_option linter.unusedVariables false
set_option linter.unusedSimpArgs false

end Go.Proofs.YtbccachkkflceaaDoor.fnExactPlaysGame
