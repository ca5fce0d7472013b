/-
  Plain facts: the ones and the zeros of a rectangle, counted one by one. Nothing of the program.
-/
import Derived.Test.YtgmhddceeomjbaaDoorBal
namespace Go.Proofs.YtgmhddceeomjbaaDoor.ColM
open Go.RowKit Go.Proofs.YtgmhddceeomjbaaDoor.Plain Go.Proofs.YtgmhddceeomjbaaDoor.Pat Go.Proofs.YtgmhddceeomjbaaDoor.Bal

/-- the entries of a rectangle with a value, in so many columns of a row -/
def rowC (E : Nat → Nat → Bool) (v : Bool) (RS CS x k : Nat) : Nat := sumN (fun y => ((RS.testBit x && CS.testBit y) && (E x y == v)).toNat) k
/-- in so many rows -/
def allC (E : Nat → Nat → Bool) (v : Bool) (RS CS c i : Nat) : Nat := sumN (fun x => rowC E v RS CS x c) i
theorem row_next (E : Nat → Nat → Bool) (v : Bool) (RS CS x k : Nat) : rowC E v RS CS x (k + 1) = rowC E v RS CS x k + ((RS.testBit x && CS.testBit k) && (E x k == v)).toNat := rfl
theorem all_next (E : Nat → Nat → Bool) (v : Bool) (RS CS c i : Nat) : allC E v RS CS c (i + 1) = allC E v RS CS c i + rowC E v RS CS i c := rfl
theorem row_le (E : Nat → Nat → Bool) (v : Bool) (RS CS x k : Nat) : rowC E v RS CS x k ≤ k := by
  have := sumN_le (fun y => ((RS.testBit x && CS.testBit y) && (E x y == v)).toNat) 1 (fun y => by cases ((RS.testBit x && CS.testBit y) && (E x y == v)) <;> simp) k
  unfold rowC
  omega
theorem all_le (E : Nat → Nat → Bool) (v : Bool) (RS CS c i : Nat) : allC E v RS CS c i ≤ i * c := sumN_le _ c (fun x => row_le E v RS CS x c) i
theorem all_le8 (E : Nat → Nat → Bool) (v : Bool) (RS CS c i : Nat) (hc : c ≤ 8) (hi : i ≤ 8) : allC E v RS CS c i ≤ 64 := by
  have h1 := all_le E v RS CS c i
  have h2 : i * c ≤ 8 * 8 := Nat.mul_le_mul hi hc
  omega
theorem sumI_add (f g : Nat → Int) : ∀ n, sumI f n + sumI g n = sumI (fun x => f x + g x) n
  | 0 => rfl
  | n + 1 => by
    rw [sumI, sumI, sumI, ← sumI_add f g n]
    omega
theorem all_bal (E : Nat → Nat → Bool) (RS CS r c : Nat) : ((allC E true RS CS c r : Nat) : Int) - ((allC E false RS CS c r : Nat) : Int) = bal E RS CS r c := by
  unfold allC bal
  rw [sumI_cast, sumI_cast, sumI_sub]
  apply sumI_congr
  intro x _
  unfold rowC
  rw [sumI_cast, sumI_cast, sumI_sub]
  apply sumI_congr
  intro y _
  unfold term
  cases (RS.testBit x && CS.testBit y) <;> cases E x y <;> rfl
theorem all_area (E : Nat → Nat → Bool) (RS CS r c : Nat) (hr : r ≤ 8) (hc : c ≤ 8) (hRS : RS < 2 ^ r) (hCS : CS < 2 ^ c) : ((allC E true RS CS c r : Nat) : Int) + ((allC E false RS CS c r : Nat) : Int) = ((pop8 RS * pop8 CS : Nat) : Int) := by
  rw [area_sum RS CS r c hr hc hRS hCS]
  unfold allC
  rw [sumI_cast, sumI_cast, sumI_add]
  apply sumI_congr
  intro x _
  unfold rowC
  rw [sumI_cast, sumI_cast, sumI_add]
  apply sumI_congr
  intro y _
  unfold one
  cases (RS.testBit x && CS.testBit y) <;> cases E x y <;> rfl
end Go.Proofs.YtgmhddceeomjbaaDoor.ColM
