/-
  Plain facts on lists of digits; nothing of the program.
-/
import Derived.Below
import Derived.WalkKit
namespace Go.Proofs.YtbccachkkflceaaDoor.Plain
open Go.RowKit

/-- the digit of a truth value -/
def dig (b : Bool) : UInt8 := if b then 49 else 48
/-- a truth value as a number -/
def bitI (b : Bool) : Int := if b then 1 else 0
theorem bitI_false : bitI false = 0 := rfl
theorem bitI_true : bitI true = 1 := rfl
/-- the digits of a row -/
def rowB (E : Nat → Nat → Bool) (x c : Nat) : List UInt8 := (List.range c).map fun y => dig (E x y)
/-- the digits of so many rows -/
def rowsB (E : Nat → Nat → Bool) (r c : Nat) : List UInt8 := (List.range r).flatMap fun x => rowB E x c

theorem rowB_zero (E : Nat → Nat → Bool) (x : Nat) : rowB E x 0 = [] := rfl
theorem rowB_succ (E : Nat → Nat → Bool) (x c : Nat) : rowB E x (c + 1) = rowB E x c ++ [dig (E x c)] := by
  simp [rowB, List.range_succ]
theorem rowsB_zero (E : Nat → Nat → Bool) (c : Nat) : rowsB E 0 c = [] := rfl
theorem rowsB_succ (E : Nat → Nat → Bool) (r c : Nat) : rowsB E (r + 1) c = rowsB E r c ++ rowB E r c := by
  simp [rowsB, List.range_succ]
theorem rowB_length (E : Nat → Nat → Bool) (x c : Nat) : (rowB E x c).length = c := by simp [rowB]
theorem rowsB_length (E : Nat → Nat → Bool) (r c : Nat) : (rowsB E r c).length = r * c := by
  induction r with
  | zero => simp [rowsB_zero]
  | succ r ih => rw [rowsB_succ, List.length_append, ih, rowB_length, Nat.succ_mul]
theorem rowB_congr {E F : Nat → Nat → Bool} {x c : Nat} (h : ∀ y, y < c → E x y = F x y) : rowB E x c = rowB F x c := by
  unfold rowB
  apply List.map_congr_left
  intro y hy
  rw [h y (List.mem_range.1 hy)]
theorem rowsB_congr {E F : Nat → Nat → Bool} {r c : Nat} (h : ∀ x y, x < r → y < c → E x y = F x y) : rowsB E r c = rowsB F r c := by
  induction r with
  | zero => rfl
  | succ r ih => rw [rowsB_succ, rowsB_succ, ih (fun x y hx hy => h x y (by omega) hy), rowB_congr (fun y hy => h r y (by omega) hy)]

/-- the number of ones of a number below 8 -/
def ones (n : Nat) : Nat := n % 2 + n / 2 % 2 + n / 4 % 2

/-- a string of so many digits -/
def str (l : List UInt8) : ByteArray := ⟨l.toArray⟩
theorem str_append (l m : List UInt8) : str l ++ str m = str (l ++ m) := by
  apply ByteArray.ext
  simp [str]
theorem str_nil : str [] = ByteArray.empty := rfl
theorem str_one (u : UInt8) : (⟨#[u]⟩ : ByteArray) = str [u] := rfl
theorem str_size (l : List UInt8) : (str l).size = l.length := by simp [str, ByteArray.size]
theorem part_size (E : Nat → Nat → Bool) {k j r c : Nat} (hr : r ≤ 8) (hc : c ≤ 8) (hk : k < r) (hj : j < c) : (str (rowsB E k c ++ rowB E k j)).size ≤ 64 := by
  rw [str_size, List.length_append, rowsB_length, rowB_length]
  have : k * c ≤ 7 * 8 := Nat.mul_le_mul (by omega) hc
  omega
theorem part_next (E : Nat → Nat → Bool) (k j c : Nat) : str (rowsB E k c ++ rowB E k j) ++ ⟨#[dig (E k j)]⟩ = str (rowsB E k c ++ rowB E k (j + 1)) := by
  rw [str_one, str_append, rowB_succ, List.append_assoc]
theorem part_done (E : Nat → Nat → Bool) (k c : Nat) : str (rowsB E k c ++ rowB E k c) = str (rowsB E (k + 1) c) := by rw [rowsB_succ]
theorem part_start (E : Nat → Nat → Bool) (k c : Nat) : str (rowsB E k c) = str (rowsB E k c ++ rowB E k 0) := by rw [rowB_zero, List.append_nil]
theorem prod_le {r c : Nat} (hr : r ≤ 8) (hc : c ≤ 8) : r * c ≤ 64 := Nat.mul_le_mul hr hc
theorem wrap_prod (r c : Nat) (hr : r ≤ 8) (hc : c ≤ 8) : wrap64 ((r : Int) * (c : Int)) = ((r * c : Nat) : Int) := by
  have h := prod_le hr hc
  rw [← Int.natCast_mul]
  unfold wrap64
  omega
end Go.Proofs.YtbccachkkflceaaDoor.Plain
