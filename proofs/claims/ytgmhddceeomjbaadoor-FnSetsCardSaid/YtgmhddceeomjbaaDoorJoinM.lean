/-
  What JoinMatrices answers at two matrices of one size, told by their entries.
-/
import Derived.Test.YtgmhddceeomjbaaDoorJoinN
import Derived.Test.YtgmhddceeomjbaaDoorColF
namespace Go.Proofs.YtgmhddceeomjbaaDoor.JoinM
open Go.RowKit Go.Proofs.YtgmhddceeomjbaaDoor.Plain Go.Proofs.YtgmhddceeomjbaaDoor.Base Go.Proofs.YtgmhddceeomjbaaDoor.Valid Go.Proofs.YtgmhddceeomjbaaDoor.Law Go.Proofs.YtgmhddceeomjbaaDoor.GridPlain Go.Proofs.YtgmhddceeomjbaaDoor.Grid Go.Proofs.YtgmhddceeomjbaaDoor.Entry Go.Proofs.YtgmhddceeomjbaaDoor.From Go.Proofs.YtgmhddceeomjbaaDoor.Ops Go.Proofs.YtgmhddceeomjbaaDoor.Join Go.Proofs.YtgmhddceeomjbaaDoor.JoinI Go.Proofs.YtgmhddceeomjbaaDoor.JoinN
open Go.Proofs.YtgmhddceeomjbaaDoor.ColF (tp_entry other_yes valid_rows rows_max rows_small)
set_option linter.unusedVariables false

theorem known_and : opKnown ⟨#[97, 110, 100]⟩ = true := by unfold opKnown; rw [ByteArray.toList_eq]; rfl
theorem known_or : opKnown ⟨#[111, 114]⟩ = true := by unfold opKnown; rw [ByteArray.toList_eq]; rfl
theorem opB_and (a b : Bool) : opB ⟨#[97, 110, 100]⟩ a b = (a && b) := by unfold opB; rw [ByteArray.toList_eq]; rfl
theorem opB_or (a b : Bool) : opB ⟨#[111, 114]⟩ a b = (a || b) := by unfold opB; rw [ByteArray.toList_eq]; rfl
theorem or_not (E G : Nat → Nat → Bool) (x y : Nat) : (!(joinE ⟨#[111, 114]⟩ E G x y)) = joinE ⟨#[97, 110, 100]⟩ (fun x y => !(E x y)) (fun x y => !(G x y)) x y := by
  show (!(opB _ (E x y) (G x y))) = opB _ (!(E x y)) (!(G x y))
  rw [opB_or, opB_and]
  cases E x y <;> cases G x y <;> rfl
theorem opB_comm (op : ByteArray) (a b : Bool) : opB op a b = opB op b a := by
  unfold opB
  split
  · exact Bool.and_comm a b
  · split
    · exact Bool.or_comm a b
    · cases a <;> cases b <;> rfl
section
variable (op : ByteArray) (hk : opKnown op = true) (E G : Nat → Nat → Bool) (R C : Nat) (h1 : 1 ≤ R) (h2 : R ≤ 8) (h3 : 1 ≤ C) (h4 : C ≤ 8)
include hk h1 h2 h3 h4
theorem join_yes (w : World) : Calls Tryd.prog 45 #[.string op, mat R C (str (rowsB E R C)), mat R C (str (rowsB G R C))] w fun e w' => e = .returned (.tuple #[mat R C (str (rowsB (joinE op E G) R C)), .bool true]) ∧ Below w.heap.size w w' :=
  impl_yes op hk R C h1 h2 h3 h4 E G _ _ (fun W => grid_yes E R C h1 h2 h3 h4 _ rfl (rows_max E R C h2 h4) (rows_small E R C h2 h4) (valid_rows E R C h1 h2 h3 h4) W) (fun W => grid_yes G R C h1 h2 h3 h4 _ rfl (rows_max G R C h2 h4) (rows_small G R C h2 h4) (valid_rows G R C h1 h2 h3 h4) W) w
end
end Go.Proofs.YtgmhddceeomjbaaDoor.JoinM
