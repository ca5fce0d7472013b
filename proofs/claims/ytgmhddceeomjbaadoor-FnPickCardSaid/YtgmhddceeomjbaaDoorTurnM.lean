/-
  The ones of a matrix told by its entries, turned and exchanged; what turning, taking the other matrix and counting answer.
-/
import Derived.Test.YtgmhddceeomjbaaDoorCountWalk
import Derived.Test.YtgmhddceeomjbaaDoorTurnWalk
import Derived.Test.YtgmhddceeomjbaaDoorColF
namespace Go.Proofs.YtgmhddceeomjbaaDoor.TurnM
open Go.RowKit Go.Proofs.YtgmhddceeomjbaaDoor.Plain Go.Proofs.YtgmhddceeomjbaaDoor.Base Go.Proofs.YtgmhddceeomjbaaDoor.Valid Go.Proofs.YtgmhddceeomjbaaDoor.Law Go.Proofs.YtgmhddceeomjbaaDoor.GridPlain Go.Proofs.YtgmhddceeomjbaaDoor.Grid Go.Proofs.YtgmhddceeomjbaaDoor.Entry Go.Proofs.YtgmhddceeomjbaaDoor.Pat Go.Proofs.YtgmhddceeomjbaaDoor.Clos Go.Proofs.YtgmhddceeomjbaaDoor.SpecTO Go.Proofs.YtgmhddceeomjbaaDoor.ColF
open Go.Proofs.YtgmhddceeomjbaaDoor.fnExactCountOnes (cntI impl_count)
set_option linter.unusedVariables false
set_option linter.unusedSectionVars false

theorem row_cnt (E : Nat → Nat → Bool) (x : Nat) : ∀ c, (rowB E x c).count 49 = sumN (fun y => (E x y).toNat) c
  | 0 => rfl
  | c + 1 => by rw [rowB_succ, List.count_append, row_cnt E x c, sumN]; cases E x c <;> rfl
/-- how many ones -/
def onesN (E : Nat → Nat → Bool) (r c : Nat) : Nat := sumN (fun x => sumN (fun y => (E x y).toNat) c) r
theorem rows_cnt (E : Nat → Nat → Bool) (c : Nat) : ∀ r, (rowsB E r c).count 49 = onesN E r c
  | 0 => rfl
  | r + 1 => by
    have := rows_cnt E c r
    unfold onesN at this ⊢
    rw [rowsB_succ, List.count_append, this, sumN, row_cnt]
theorem sum_add (f g : Nat → Nat) : ∀ n, sumN (fun x => f x + g x) n = sumN f n + sumN g n
  | 0 => rfl
  | n + 1 => by rw [sumN, sumN, sumN, sum_add f g n]; omega
theorem sum_zero : ∀ n, sumN (fun _ => 0) n = 0
  | 0 => rfl
  | n + 1 => by rw [sumN, sum_zero n]
theorem sum_one : ∀ n, sumN (fun _ => 1) n = n
  | 0 => rfl
  | n + 1 => by rw [sumN, sum_one n]
theorem sum_const (b : Nat) : ∀ n, sumN (fun _ => b) n = n * b
  | 0 => by simp [sumN]
  | n + 1 => by rw [sumN, sum_const b n, Nat.succ_mul]
theorem sum_swap (f : Nat → Nat → Nat) (c : Nat) : ∀ r, sumN (fun x => sumN (fun y => f x y) c) r = sumN (fun y => sumN (fun x => f x y) r) c
  | 0 => (sum_zero c).symm
  | r + 1 => by
    rw [sumN, sum_swap f c r, ← sum_add]
    rfl
theorem ones_turn (E : Nat → Nat → Bool) (r c : Nat) : onesN (fun x y => E y x) c r = onesN E r c := sum_swap (fun x y => (E y x).toNat) r c
theorem ones_other (E : Nat → Nat → Bool) (r c : Nat) : onesN (fun x y => !E x y) r c + onesN E r c = r * c := by
  unfold onesN
  rw [← sum_add, sumN_congr _ (fun _ => c) r, sum_const]
  intro x _
  rw [← sum_add, sumN_congr _ (fun _ => 1) c, sum_one]
  intro y _
  show (!E x y).toNat + (E x y).toNat = 1
  cases E x y <;> rfl
theorem ones_le (E : Nat → Nat → Bool) (r c : Nat) : onesN E r c ≤ r * c := by
  have := ones_other E r c
  omega
section
variable (E : Nat → Nat → Bool) (R C : Nat) (h1 : 1 ≤ R) (h2 : R ≤ 8) (h3 : 1 ≤ C) (h4 : C ≤ 8)
include h1 h2 h3 h4
theorem count_yes (w : World) : Calls Tryd.prog 31 #[mat R C (str (rowsB E R C))] w fun e w' => e = .returned (.int .i64 ((onesN E R C : Nat) : Int)) ∧ Below w.heap.size w w' := by
  have := impl_count R C _ (rows_max E R C h2 h4) w
  unfold cntI Lib.countByte at this
  rw [valid_rows E R C h1 h2 h3 h4, if_pos rfl, show (str (rowsB E R C)).data.toList = rowsB E R C by simp [str], rows_cnt] at this
  exact this
theorem turn_yes (w : World) : Calls Tryd.prog 36 #[mat R C (str (rowsB E R C))] w fun e w' => e = .returned (.tuple #[mat C R (str (rowsB (fun x y => E y x) C R)), .bool true]) ∧ Below w.heap.size w w' :=
  turn_impl E R C h1 h2 h3 h4 _ w fun W => grid_yes E R C h1 h2 h3 h4 _ rfl (rows_max E R C h2 h4) (rows_small E R C h2 h4) (valid_rows E R C h1 h2 h3 h4) W
end
end Go.Proofs.YtgmhddceeomjbaaDoor.TurnM
