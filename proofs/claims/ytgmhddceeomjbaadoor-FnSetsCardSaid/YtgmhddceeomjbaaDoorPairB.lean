/-
  What PairMatrices answers at two valid matrices, told by their entries.
-/
import Derived.Test.YtgmhddceeomjbaaDoorPairY
import Derived.Test.YtgmhddceeomjbaaDoorJoinM
namespace Go.Proofs.YtgmhddceeomjbaaDoor.PairB
open Go.RowKit Go.Proofs.YtgmhddceeomjbaaDoor.Plain Go.Proofs.YtgmhddceeomjbaaDoor.Base Go.Proofs.YtgmhddceeomjbaaDoor.Valid Go.Proofs.YtgmhddceeomjbaaDoor.Law Go.Proofs.YtgmhddceeomjbaaDoor.GridPlain Go.Proofs.YtgmhddceeomjbaaDoor.Grid Go.Proofs.YtgmhddceeomjbaaDoor.Entry Go.Proofs.YtgmhddceeomjbaaDoor.Ops
open Go.Proofs.YtgmhddceeomjbaaDoor.PairI (pairE)
open Go.Proofs.YtgmhddceeomjbaaDoor.ColF (valid_rows rows_max rows_small)
set_option linter.unusedVariables false
set_option linter.unusedSectionVars false

section
variable (op : ByteArray) (hk : opKnown op = true) (E G : Nat → Nat → Bool) (R C R2 C2 P Q : Nat) (h1 : 1 ≤ R) (h2 : R ≤ 8) (h3 : 1 ≤ C) (h4 : C ≤ 8) (i1 : 1 ≤ R2) (i2 : R2 ≤ 8) (i3 : 1 ≤ C2) (i4 : C2 ≤ 8) (hP : P = R * R2) (hQ : Q = C * C2) (p1 : 1 ≤ P) (p8 : P ≤ 8) (q1 : 1 ≤ Q) (q8 : Q ≤ 8)
include hk h1 h2 h3 h4 i1 i2 i3 i4 hP hQ p1 p8 q1 q8
theorem pair_yes (w : World) : Calls Tryd.prog 54 #[.string op, mat R C (str (rowsB E R C)), mat R2 C2 (str (rowsB G R2 C2))] w fun e w' => e = .returned (.tuple #[mat P Q (str (rowsB (pairE op E G R2 C2) P Q)), .bool true]) ∧ Below w.heap.size w w' :=
  PairY.impl_yes op hk R C R2 C2 h1 h2 h3 h4 i1 i2 i3 i4 P Q hP hQ p1 p8 q1 q8 E G _ _ (fun W => grid_yes E R C h1 h2 h3 h4 _ rfl (rows_max E R C h2 h4) (rows_small E R C h2 h4) (valid_rows E R C h1 h2 h3 h4) W) (fun W => grid_yes G R2 C2 i1 i2 i3 i4 _ rfl (rows_max G R2 C2 i2 i4) (rows_small G R2 C2 i2 i4) (valid_rows G R2 C2 i1 i2 i3 i4) W) w
end
end Go.Proofs.YtgmhddceeomjbaaDoor.PairB
