/-
  Texts of one seat, joined: ColF, TurnM.
-/
import Derived.Test.YtgmhddceeomjbaaGreatDoorJ16
import Derived.Test.YtgmhddceeomjbaaGreatDoorJ18
import Derived.Test.YtgmhddceeomjbaaGreatDoorJ34
import Derived.Test.YtgmhddceeomjbaaGreatDoorJ31
import Derived.Test.YtgmhddceeomjbaaGreatDoorJ33
/-
  What the functions of a valid matrix and a rectangle of it answer, told by the entries.
-/
namespace Go.Proofs.YtgmhddceeomjbaaGreatDoor.ColF
open Go.RowKit Go.Proofs.YtgmhddceeomjbaaGreatDoor.Plain Go.Proofs.YtgmhddceeomjbaaGreatDoor.Base Go.Proofs.YtgmhddceeomjbaaGreatDoor.Valid Go.Proofs.YtgmhddceeomjbaaGreatDoor.Law Go.Proofs.YtgmhddceeomjbaaGreatDoor.GridPlain Go.Proofs.YtgmhddceeomjbaaGreatDoor.Grid Go.Proofs.YtgmhddceeomjbaaGreatDoor.Entry Go.Proofs.YtgmhddceeomjbaaGreatDoor.Pat Go.Proofs.YtgmhddceeomjbaaGreatDoor.Rect Go.Proofs.YtgmhddceeomjbaaGreatDoor.Patch Go.Proofs.YtgmhddceeomjbaaGreatDoor.FreeL Go.Proofs.YtgmhddceeomjbaaGreatDoor.Board Go.Proofs.YtgmhddceeomjbaaGreatDoor.BoardM Go.Proofs.YtgmhddceeomjbaaGreatDoor.RValid Go.Proofs.YtgmhddceeomjbaaGreatDoor.Area Go.Proofs.YtgmhddceeomjbaaGreatDoor.Bal Go.Proofs.YtgmhddceeomjbaaGreatDoor.Colour Go.Proofs.YtgmhddceeomjbaaGreatDoor.Clos Go.Proofs.YtgmhddceeomjbaaGreatDoor.SpecTO
set_option linter.unusedVariables false
set_option linter.unusedSectionVars false

theorem valid_rows (E : Nat → Nat → Bool) (R C : Nat) (h1 : 1 ≤ R) (h2 : R ≤ 8) (h3 : 1 ≤ C) (h4 : C ≤ 8) : validB R C (str (rowsB E R C)) = true := by
  rw [validB_in (by omega) (by omega) (by omega) (by omega)]
  have : okB (str (rowsB E R C)) = true := okB_true fun j hj => by
    have hj' : j < R * C := by rw [str_size, rowsB_length] at hj; exact hj
    rw [str_get _ j _ (rowsB_get E R C j hj') hj]
    cases E (j / C) (j % C) <;> rfl
  rw [this, Bool.true_and, str_size, rowsB_length]
  simp
theorem rows_small (E : Nat → Nat → Bool) (R C : Nat) (h2 : R ≤ 8) (h4 : C ≤ 8) : (str (rowsB E R C)).size ≤ 64 := by rw [str_size, rowsB_length]; exact prod_le h2 h4
theorem rows_max (E : Nat → Nat → Bool) (R C : Nat) (h2 : R ≤ 8) (h4 : C ≤ 8) : (str (rowsB E R C)).size ≤ maxLen := by
  have := rows_small E R C h2 h4
  unfold maxLen
  omega
theorem other_yes (E : Nat → Nat → Bool) (R C : Nat) (h1 : 1 ≤ R) (h2 : R ≤ 8) (h3 : 1 ≤ C) (h4 : C ≤ 8) (w : World) :
    Calls Tryz.prog 28 #[mat R C (str (rowsB E R C))] w fun e w' => e = .returned (.tuple #[mat R C (str (rowsB (fun x y => !(E x y)) R C)), .bool true]) ∧ Below w.heap.size w w' :=
  other_impl E R C h1 h2 h3 h4 _ w fun W => grid_yes E R C h1 h2 h3 h4 _ rfl (rows_max E R C h2 h4) (rows_small E R C h2 h4) (valid_rows E R C h1 h2 h3 h4) W

theorem rv_yes (R C : Nat) (h2 : R ≤ 8) (h4 : C ≤ 8) (RS CS : Nat) (k1 : 1 ≤ RS) (k2 : RS < 2 ^ R) (k3 : 1 ≤ CS) (k4 : CS < 2 ^ C) : rvB R C RS CS = true := by
  unfold rvB
  rw [Bool.and_eq_true, decide_eq_true_iff, decide_eq_true_iff]
  have e1 : ((2 ^ R : Nat) : Int) = 2 ^ R := by simp
  have e2 : ((2 ^ C : Nat) : Int) = 2 ^ C := by simp
  omega
section
variable (E : Nat → Nat → Bool) (R C : Nat) (h1 : 1 ≤ R) (h2 : R ≤ 8) (h3 : 1 ≤ C) (h4 : C ≤ 8) (RS CS : Nat) (k1 : 1 ≤ RS) (k2 : RS < 2 ^ R) (k3 : 1 ≤ CS) (k4 : CS < 2 ^ C) (k5 : RS < 256) (k6 : CS < 256)
include h1 h2 h3 h4 k1 k2 k3 k4 k5 k6
theorem colour_yes : (∀ w, Calls Tryz.prog 50 #[mat R C (str (rowsB E R C)), rect RS CS] w fun e w' => e = .returned (.int .i64 (colV (bal E RS CS R C) ((pop8 RS * pop8 CS : Nat) : Int))) ∧ Below w.heap.size w w') ∧
    (∀ w, Calls Tryz.prog 17 #[mat R C (str (rowsB E R C)), rect RS CS] w fun e w' => e = .returned (.int .i64 (colV (bal E RS CS R C) ((pop8 RS * pop8 CS : Nat) : Int))) ∧ Below w.heap.size w w') := by
  have hs := rows_max E R C h2 h4
  have hv := valid_rows E R C h1 h2 h3 h4
  have ht := rv_yes R C h2 h4 RS CS k1 k2 k3 k4
  have hbd := fun W => board_yes R C E h1 h2 h3 h4 hs hv W
  have hrv := fun W => spec_rv R C h1 h2 h3 h4 _ hs hv RS CS W
  have hsp := spec_col R C _ RS CS true _ (fun W => by have := hrv W; rwa [ht] at this) (fun _ W => spec_l2col E R C h1 h2 h3 h4 RS CS k1 k5 k3 k6 W)
  rw [if_pos rfl] at hsp
  have him := impl_col_yes R C h2 h4 _ _ (pat64 _ (onB_lt _ R C h4)) (pat64 _ (onB_lt _ R C h4)) _ _ _ RS CS k5 k6 hbd ht _ _ rfl rfl
  have e0 := plain_pat (fun x y => !E x y) R C RS CS h2 h4 k5 k6
  have e1 := plain_pat E R C RS CS h2 h4 k5 k6
  have a1 := bal_area E RS CS R C h2 h4 k2 k4
  have a0 := bal_area (fun x y => !E x y) RS CS R C h2 h4 k2 k4
  rw [← bal_not] at a0
  have hin : ∀ x y, RS.testBit x = true → CS.testBit y = true → x < R ∧ y < C := fun x y hx hy => by
    constructor
    · rcases Nat.lt_or_ge x R with h | h
      · exact h
      · rw [bit_beyond RS x R k2 h] at hx; cases hx
    · rcases Nat.lt_or_ge y C with h | h
      · exact h
      · rw [bit_beyond CS y C k4 h] at hy; cases hy
  have g1 : (bal E RS CS R C = ((pop8 RS * pop8 CS : Nat) : Int)) ↔ (pat (rectB RS CS) 8 &&& (18446744073709551615 - pat (onB E R C) 8) = 0) := by
    rw [e1, a1]
    exact ⟨fun h x y hx hy => ⟨hin x y hx hy, h x y hx hy⟩, fun h x y hx hy => (h x y hx hy).2⟩
  have g0 : (- bal E RS CS R C = ((pop8 RS * pop8 CS : Nat) : Int)) ↔ (pat (rectB RS CS) 8 &&& (18446744073709551615 - pat (onB (fun x y => !E x y) R C) 8) = 0) := by
    rw [e0, a0]
    exact ⟨fun h x y hx hy => ⟨hin x y hx hy, h x y hx hy⟩, fun h x y hx hy => (h x y hx hy).2⟩
  have hpos : 1 ≤ pop8 RS * pop8 CS := Nat.mul_le_mul (pop8_pos RS k1 k5) (pop8_pos CS k3 k6)
  refine ⟨hsp, fun w => ?_⟩
  have e : colV (bal E RS CS R C) ((pop8 RS * pop8 CS : Nat) : Int) = (if decide (pat (rectB RS CS) 8 &&& (18446744073709551615 - pat (onB (fun x y => !E x y) R C) 8) = 0) = true then 0 else if decide (pat (rectB RS CS) 8 &&& (18446744073709551615 - pat (onB E R C) 8) = 0) = true then 1 else -1) := by
    unfold colV
    by_cases hA : bal E RS CS R C = ((pop8 RS * pop8 CS : Nat) : Int)
    · rw [if_pos hA, decide_eq_true (g1.1 hA), decide_eq_false (fun h => by have := g0.2 h; omega)]
      rfl
    · rw [if_neg hA, decide_eq_false (fun h => hA (g1.2 h))]
      by_cases hB : bal E RS CS R C = - ((pop8 RS * pop8 CS : Nat) : Int)
      · rw [if_pos hB, decide_eq_true (g0.1 (by omega))]
        rfl
      · rw [if_neg hB, decide_eq_false (fun h => hB (by have := g0.2 h; omega))]
        rfl
  rw [e]
  exact him w
end

end Go.Proofs.YtgmhddceeomjbaaGreatDoor.ColF

/-
  The ones of a matrix told by its entries, turned and exchanged; what turning, taking the other matrix and counting answer.
-/
namespace Go.Proofs.YtgmhddceeomjbaaGreatDoor.TurnM
open Go.RowKit Go.Proofs.YtgmhddceeomjbaaGreatDoor.Plain Go.Proofs.YtgmhddceeomjbaaGreatDoor.Base Go.Proofs.YtgmhddceeomjbaaGreatDoor.Valid Go.Proofs.YtgmhddceeomjbaaGreatDoor.Law Go.Proofs.YtgmhddceeomjbaaGreatDoor.GridPlain Go.Proofs.YtgmhddceeomjbaaGreatDoor.Grid Go.Proofs.YtgmhddceeomjbaaGreatDoor.Entry Go.Proofs.YtgmhddceeomjbaaGreatDoor.Pat Go.Proofs.YtgmhddceeomjbaaGreatDoor.Clos Go.Proofs.YtgmhddceeomjbaaGreatDoor.SpecTO Go.Proofs.YtgmhddceeomjbaaGreatDoor.ColF
set_option linter.unusedVariables false
set_option linter.unusedSectionVars false

theorem row_cnt (E : Nat → Nat → Bool) (x : Nat) : ∀ c, (rowB E x c).count 49 = sumN (fun y => (E x y).toNat) c
  | 0 => rfl
  | c + 1 => by rw [rowB_succ, List.count_append, row_cnt E x c, sumN]; cases E x c <;> rfl
/-- how many ones -/
def onesN (E : Nat → Nat → Bool) (r c : Nat) : Nat := sumN (fun x => sumN (fun y => (E x y).toNat) c) r
theorem rows_cnt (E : Nat → Nat → Bool) (c : Nat) : ∀ r, (rowsB E r c).count 49 = onesN E r c
  | 0 => rfl
  | r + 1 => by
    have := rows_cnt E c r
    unfold onesN at this ⊢
    rw [rowsB_succ, List.count_append, this, sumN, row_cnt]
theorem sum_add (f g : Nat → Nat) : ∀ n, sumN (fun x => f x + g x) n = sumN f n + sumN g n
  | 0 => rfl
  | n + 1 => by rw [sumN, sumN, sumN, sum_add f g n]; omega
theorem sum_zero : ∀ n, sumN (fun _ => 0) n = 0
  | 0 => rfl
  | n + 1 => by rw [sumN, sum_zero n]
theorem sum_one : ∀ n, sumN (fun _ => 1) n = n
  | 0 => rfl
  | n + 1 => by rw [sumN, sum_one n]
theorem sum_const (b : Nat) : ∀ n, sumN (fun _ => b) n = n * b
  | 0 => by simp [sumN]
  | n + 1 => by rw [sumN, sum_const b n, Nat.succ_mul]
theorem sum_swap (f : Nat → Nat → Nat) (c : Nat) : ∀ r, sumN (fun x => sumN (fun y => f x y) c) r = sumN (fun y => sumN (fun x => f x y) r) c
  | 0 => (sum_zero c).symm
  | r + 1 => by
    rw [sumN, sum_swap f c r, ← sum_add]
    rfl
theorem ones_turn (E : Nat → Nat → Bool) (r c : Nat) : onesN (fun x y => E y x) c r = onesN E r c := sum_swap (fun x y => (E y x).toNat) r c
theorem ones_other (E : Nat → Nat → Bool) (r c : Nat) : onesN (fun x y => !E x y) r c + onesN E r c = r * c := by
  unfold onesN
  rw [← sum_add, sumN_congr _ (fun _ => c) r, sum_const]
  intro x _
  rw [← sum_add, sumN_congr _ (fun _ => 1) c, sum_one]
  intro y _
  show (!E x y).toNat + (E x y).toNat = 1
  cases E x y <;> rfl
theorem ones_le (E : Nat → Nat → Bool) (r c : Nat) : onesN E r c ≤ r * c := by
  have := ones_other E r c
  omega
section
variable (E : Nat → Nat → Bool) (R C : Nat) (h1 : 1 ≤ R) (h2 : R ≤ 8) (h3 : 1 ≤ C) (h4 : C ≤ 8)
include h1 h2 h3 h4
theorem turn_yes (w : World) : Calls Tryz.prog 27 #[mat R C (str (rowsB E R C))] w fun e w' => e = .returned (.tuple #[mat C R (str (rowsB (fun x y => E y x) C R)), .bool true]) ∧ Below w.heap.size w w' :=
  turn_impl E R C h1 h2 h3 h4 _ w fun W => grid_yes E R C h1 h2 h3 h4 _ rfl (rows_max E R C h2 h4) (rows_small E R C h2 h4) (valid_rows E R C h1 h2 h3 h4) W
end
end Go.Proofs.YtgmhddceeomjbaaGreatDoor.TurnM

