/-
  Plain facts: the ones of a matrix of pairs. Nothing of the program.
-/
import Derived.Test.YtalechngagkklaaDoorTurnM
import Derived.Test.YtalechngagkklaaDoorPairI
namespace Go.Proofs.YtalechngagkklaaDoor.PairM
open Go.RowKit Go.Proofs.YtalechngagkklaaDoor.Plain Go.Proofs.YtalechngagkklaaDoor.Pat Go.Proofs.YtalechngagkklaaDoor.TurnM Go.Proofs.YtalechngagkklaaDoor.Ops Go.Proofs.YtalechngagkklaaDoor.PairI
set_option linter.unusedVariables false

theorem sum_split (f : Nat → Nat) (m : Nat) : ∀ n, sumN f (m + n) = sumN f m + sumN (fun j => f (m + j)) n
  | 0 => rfl
  | n + 1 => by
    rw [← Nat.add_assoc, sumN, sum_split f m n, sumN]
    omega
theorem sum_pairs (f : Nat → Nat) (b : Nat) : ∀ a, sumN f (a * b) = sumN (fun i => sumN (fun j => f (i * b + j)) b) a
  | 0 => by rw [Nat.zero_mul]; rfl
  | a + 1 => by rw [Nat.succ_mul, sum_split, sum_pairs f b a, sumN]
theorem sum_mulL (a : Nat) (f : Nat → Nat) : ∀ k, sumN (fun i => a * f i) k = a * sumN f k
  | 0 => rfl
  | k + 1 => by rw [sumN, sumN, sum_mulL a f k, Nat.mul_add]
theorem sum_mulR (a : Nat) (f : Nat → Nat) : ∀ k, sumN (fun i => f i * a) k = sumN f k * a
  | 0 => by simp [sumN]
  | k + 1 => by rw [sumN, sumN, sum_mulR a f k, Nat.add_mul]
theorem sum_prod (A B : Nat → Nat) (m n : Nat) : sumN (fun i => sumN (fun j => A i * B j) n) m = sumN A m * sumN B n := by
  rw [sumN_congr _ (fun i => A i * sumN B n) m (fun i _ => sum_mulL (A i) B n), sum_mulR]
theorem and_toNat (a b : Bool) : (a && b).toNat = a.toNat * b.toNat := by cases a <;> cases b <;> rfl
theorem div_pair {i j b : Nat} (h : j < b) : (i * b + j) / b = i := by
  rw [Nat.mul_comm, Nat.mul_add_div (by omega), Nat.div_eq_of_lt h, Nat.add_zero]
theorem mod_pair {i j b : Nat} (h : j < b) : (i * b + j) % b = j := by
  rw [Nat.mul_comm, Nat.mul_add_mod, Nat.mod_eq_of_lt h]
theorem ones_pair (E G : Nat → Nat → Bool) (R C R2 C2 : Nat) : onesN (fun x y => E (x / R2) (y / C2) && G (x % R2) (y % C2)) (R * R2) (C * C2) = onesN E R C * onesN G R2 C2 := by
  unfold onesN
  rw [sum_pairs, ← sum_prod]
  refine sumN_congr _ _ R fun i _ => sumN_congr _ _ R2 fun j hj => ?_
  rw [sum_pairs, ← sum_prod]
  refine sumN_congr _ _ C fun k _ => sumN_congr _ _ C2 fun l hl => ?_
  show (E ((i * R2 + j) / R2) ((k * C2 + l) / C2) && G ((i * R2 + j) % R2) ((k * C2 + l) % C2)).toNat = (E i k).toNat * (G j l).toNat
  rw [div_pair hj, mod_pair hj, div_pair hl, mod_pair hl, and_toNat]
end Go.Proofs.YtalechngagkklaaDoor.PairM
