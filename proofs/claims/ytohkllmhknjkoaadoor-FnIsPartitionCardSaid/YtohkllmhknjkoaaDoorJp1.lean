/-
  Texts of one seat, joined: App, Plain, Base.
-/
import Derived.Test.YtohkllmhknjkoaaDoorRows
import Derived.Below
import Derived.WalkKit
import Derived.OwnWalk
import Derived.Laws.OwnMore
import Derived.Lib.Hide
import Derived.WalkSpells
import Derived.Handy
import Derived.Outline
import Derived.Deep.QuietTactic
import Derived.BigQuiet
/-
  What a function keeps of a slice that it builds by append: whatever the elements.
-/
namespace Go.Proofs.YtohkllmhknjkoaaDoor.App
open Go.RowKit
set_option linter.unusedVariables false

/-- wr holds the slice v of n elements, laid since w0; what lay in w0 lies as it lay -/
structure Own (w0 wr : World) (e : TypeId) (k : Nat) (v : Value) (n : Nat) (xs : List Value) : Prop where
  row : wr.ownsRow w0.heap.size e k v n xs
  below : Below w0.heap.size w0 wr
theorem Own.later {w0 wr w2 : World} {e : TypeId} {k n : Nat} {v : Value} {xs : List Value} (h : Own w0 wr e k v n xs) (hb : Below wr.heap.size wr w2) : Own w0 w2 e k v n xs := by
  refine ⟨⟨h.row.1, ?_⟩, h.below.trans (hb.mono h.below.size)⟩
  rcases h.row.2 with h1 | ⟨g, cap, cur, h2, h3, h4, h5⟩
  · exact .inl h1
  · exact .inr ⟨g, cap, cur, h2, h3, (hb.block g (Array.getElem?_eq_some_iff.1 h4).1).trans h4, h5⟩
theorem Own.none (w0 : World) (e : TypeId) (k : Nat) : Own w0 w0 e k (.slice .none 0 0) 0 [] := ⟨⟨by simp, .inl ⟨rfl, rfl⟩⟩, Below.refl _ _⟩
theorem Own.lit (w0 : World) (e : TypeId) (k : Nat) : Own w0 (w0.alloc (.cells #[] e)) e k (.slice (some ⟨w0.heap.size, 0, .none⟩) 0 0) 0 [] :=
  ⟨World.ownsRow_lit w0 #[] 0 (Nat.le_refl _) (by unfold maxLen; omega) (by simp), (Below.refl _ _).alloc (Nat.le_refl _) _⟩
theorem Own.next {w0 w2 w3 : World} {e : TypeId} {k n m : Nat} {v v3 : Value} {xs ys : List Value} (h : Own w0 w2 e k v n xs) (o : Obj)
    (h3 : w3.ownsRow w0.heap.size e k v3 m ys) (hg : (w2.alloc o).grownBy w3 v.ownBlock) : Own w0 w3 e k v3 m ys :=
  ⟨h3, (h.below.alloc h.below.size o).grown hg (by have := h.below.size; simp at this ⊢; omega) fun j hj => (h.row.lt j hj).1⟩
theorem Own.slice {w0 wr : World} {e : TypeId} {k n : Nat} {v : Value} {xs : List Value} (h : Own w0 wr e k v n xs) : ∃ p c, v = .slice p n c := by
  rcases h.row.2 with ⟨rfl, rfl⟩ | ⟨g, cap, cur, rfl, _⟩
  · exact ⟨_, _, rfl⟩
  · exact ⟨_, _, rfl⟩
/-- the elements' cells -/
theorem Own.cell {w0 wr : World} {e : TypeId} {k n : Nat} {p : Option Addr} {c : Nat} {xs : List Value} (h : Own w0 wr e k (.slice p n c) n xs) (j : Nat) (hj : j < n * k) : ∃ g, p = some ⟨g, 0, .none⟩ ∧ w0.heap.size ≤ g ∧ g < wr.heap.size ∧ wr.cell? ⟨g, j, .none⟩ = xs[j]? := by
  rcases h.row.2 with ⟨e1, rfl⟩ | ⟨g, cap, cur, e1, h1, h2, h3⟩
  · simp at hj
  · injection e1 with e1 _ e3
    subst e1
    exact ⟨g, rfl, h1, (Array.getElem?_eq_some_iff.1 h2).1, World.ownsRow.cellAt (cap := cap) (by rw [← e3]; exact h.row) j hj⟩
end Go.Proofs.YtohkllmhknjkoaaDoor.App

/-
  Plain facts on lists of digits; nothing of the program.
-/
namespace Go.Proofs.YtohkllmhknjkoaaDoor.Plain
open Go.RowKit

/-- the digit of a truth value -/
def dig (b : Bool) : UInt8 := if b then 49 else 48
/-- a truth value as a number -/
def bitI (b : Bool) : Int := if b then 1 else 0
theorem bitI_false : bitI false = 0 := rfl
theorem bitI_true : bitI true = 1 := rfl
/-- the digits of a row -/
def rowB (E : Nat → Nat → Bool) (x c : Nat) : List UInt8 := (List.range c).map fun y => dig (E x y)
/-- the digits of so many rows -/
def rowsB (E : Nat → Nat → Bool) (r c : Nat) : List UInt8 := (List.range r).flatMap fun x => rowB E x c

theorem rowB_zero (E : Nat → Nat → Bool) (x : Nat) : rowB E x 0 = [] := rfl
theorem rowB_succ (E : Nat → Nat → Bool) (x c : Nat) : rowB E x (c + 1) = rowB E x c ++ [dig (E x c)] := by
  simp [rowB, List.range_succ]
theorem rowsB_zero (E : Nat → Nat → Bool) (c : Nat) : rowsB E 0 c = [] := rfl
theorem rowsB_succ (E : Nat → Nat → Bool) (r c : Nat) : rowsB E (r + 1) c = rowsB E r c ++ rowB E r c := by
  simp [rowsB, List.range_succ]
theorem rowB_length (E : Nat → Nat → Bool) (x c : Nat) : (rowB E x c).length = c := by simp [rowB]
theorem rowsB_length (E : Nat → Nat → Bool) (r c : Nat) : (rowsB E r c).length = r * c := by
  induction r with
  | zero => simp [rowsB_zero]
  | succ r ih => rw [rowsB_succ, List.length_append, ih, rowB_length, Nat.succ_mul]
theorem rowB_congr {E F : Nat → Nat → Bool} {x c : Nat} (h : ∀ y, y < c → E x y = F x y) : rowB E x c = rowB F x c := by
  unfold rowB
  apply List.map_congr_left
  intro y hy
  rw [h y (List.mem_range.1 hy)]
theorem rowsB_congr {E F : Nat → Nat → Bool} {r c : Nat} (h : ∀ x y, x < r → y < c → E x y = F x y) : rowsB E r c = rowsB F r c := by
  induction r with
  | zero => rfl
  | succ r ih => rw [rowsB_succ, rowsB_succ, ih (fun x y hx hy => h x y (by omega) hy), rowB_congr (fun y hy => h r y (by omega) hy)]

/-- the number of ones of a number below 8 -/
def ones (n : Nat) : Nat := n % 2 + n / 2 % 2 + n / 4 % 2

/-- a string of so many digits -/
def str (l : List UInt8) : ByteArray := ⟨l.toArray⟩
theorem str_append (l m : List UInt8) : str l ++ str m = str (l ++ m) := by
  apply ByteArray.ext
  simp [str]
theorem str_nil : str [] = ByteArray.empty := rfl
theorem str_one (u : UInt8) : (⟨#[u]⟩ : ByteArray) = str [u] := rfl
theorem str_size (l : List UInt8) : (str l).size = l.length := by simp [str, ByteArray.size]
theorem part_size (E : Nat → Nat → Bool) {k j r c : Nat} (hr : r ≤ 8) (hc : c ≤ 8) (hk : k < r) (hj : j < c) : (str (rowsB E k c ++ rowB E k j)).size ≤ 64 := by
  rw [str_size, List.length_append, rowsB_length, rowB_length]
  have : k * c ≤ 7 * 8 := Nat.mul_le_mul (by omega) hc
  omega
theorem part_next (E : Nat → Nat → Bool) (k j c : Nat) : str (rowsB E k c ++ rowB E k j) ++ ⟨#[dig (E k j)]⟩ = str (rowsB E k c ++ rowB E k (j + 1)) := by
  rw [str_one, str_append, rowB_succ, List.append_assoc]
theorem part_done (E : Nat → Nat → Bool) (k c : Nat) : str (rowsB E k c ++ rowB E k c) = str (rowsB E (k + 1) c) := by rw [rowsB_succ]
theorem part_start (E : Nat → Nat → Bool) (k c : Nat) : str (rowsB E k c) = str (rowsB E k c ++ rowB E k 0) := by rw [rowB_zero, List.append_nil]
theorem prod_le {r c : Nat} (hr : r ≤ 8) (hc : c ≤ 8) : r * c ≤ 64 := Nat.mul_le_mul hr hc
theorem wrap_prod (r c : Nat) (hr : r ≤ 8) (hc : c ≤ 8) : wrap64 ((r : Int) * (c : Int)) = ((r * c : Nat) : Int) := by
  have h := prod_le hr hc
  rw [← Int.natCast_mul]
  unfold wrap64
  omega
end Go.Proofs.YtohkllmhknjkoaaDoor.Plain

/-
  Contracts of the small functions: l1In, l1Bit, bitOf, sideValid, eqMatrix.
-/
namespace Go.Proofs.YtohkllmhknjkoaaDoor.Base
open Go.RowKit Go.Proofs.YtohkllmhknjkoaaDoor.Plain

set_option maxHeartbeats 400000 in
theorem l1In_true (n a b : Int) (h1 : a ≤ n) (h2 : n ≤ b) (w : World) :
    Calls Tryd.prog 69 #[.int .i64 n, .int .i64 a, .int .i64 b] w fun e w' => e = .returned (.bool true) ∧ w = w' := by
  go_enter Tryd.func69, Tryd.ntmps69
  go_wp2
  go_ret
  exact ⟨rfl, rfl⟩

set_option maxHeartbeats 400000 in
theorem l1In_false (n a b : Int) (h1 : n < a ∨ b < n) (w : World) :
    Calls Tryd.prog 69 #[.int .i64 n, .int .i64 a, .int .i64 b] w fun e w' => e = .returned (.bool false) ∧ w = w' := by
  by_cases h : a ≤ n
  · have h2 : b < n := by omega
    clear h1
    go_enter Tryd.func69, Tryd.ntmps69
    go_wp2
    go_ret
    exact ⟨by simp; omega, rfl⟩
  · have h2 : n < a := by omega
    clear h1 h
    go_enter Tryd.func69, Tryd.ntmps69
    go_wp2
    go_ret
    exact ⟨rfl, rfl⟩

set_option maxHeartbeats 400000 in
theorem side_true (n : Int) (h1 : 1 ≤ n) (h2 : n ≤ 8) (w : World) :
    Calls Tryd.prog 74 #[.int .i64 n] w fun e w' => e = .returned (.bool true) ∧ w = w' := by
  go_enter Tryd.func74, Tryd.ntmps74
  go_wp2
  go_ret
  exact ⟨rfl, rfl⟩

set_option maxHeartbeats 400000 in
theorem side_false (n : Int) (h1 : n < 1 ∨ 8 < n) (w : World) :
    Calls Tryd.prog 74 #[.int .i64 n] w fun e w' => e = .returned (.bool false) ∧ w = w' := by
  by_cases h : 1 ≤ n
  · have h2 : 8 < n := by omega
    clear h1
    go_enter Tryd.func74, Tryd.ntmps74
    go_wp2
    go_ret
    exact ⟨by simp; omega, rfl⟩
  · have h2 : n < 1 := by omega
    clear h1 h
    go_enter Tryd.func74, Tryd.ntmps74
    go_wp2
    go_ret
    exact ⟨rfl, rfl⟩

set_option maxHeartbeats 400000 in
theorem l1Bit_any (b : Bool) (w : World) :
    Calls Tryd.prog 111 #[.bool b] w fun e w' => e = .returned (.string ⟨#[dig b]⟩) ∧ w = w' := by
  cases b
  all_goals
    go_enter Tryd.func111, Tryd.ntmps111
    go_wp2
    go_ret
    exact ⟨rfl, rfl⟩

set_option maxHeartbeats 400000 in
theorem bitOf_any (b : Bool) (w : World) :
    Calls Tryd.prog 146 #[.bool b] w fun e w' => e = .returned (.int .i64 (bitI b)) ∧ w = w' := by
  cases b
  all_goals
    go_enter Tryd.func146, Tryd.ntmps146
    go_wp2
    go_ret
    exact ⟨rfl, rfl⟩

theorem and_one : ∀ m : Nat, m < 8 → Go.bits .and .i64 (m : Int) 1 = ((m % 2 : Nat) : Int) := by
  have h : ∀ k : Fin 8, Go.bits .and .i64 ((k.val : Nat) : Int) 1 = ((k.val % 2 : Nat) : Int) := by decide +kernel
  intro k hk
  exact h ⟨k, hk⟩
set_option maxHeartbeats 400000 in
theorem ones_any (n : Nat) (hn : n < 8) (w : World) :
    Calls Tryd.prog 127 #[.int .i64 (n : Int)] w fun e w' => e = .returned (.int .i64 (ones n : Int)) ∧ w = w' := by
  go_enter Tryd.func127, Tryd.ntmps127
  go_wp2_with fail
  go_loop [0, 3] (fun m k => ∃ (a t : Nat), a < 8 ∧ t ≤ 8 ∧ m = .int .i64 (a : Int) ∧ k = .int .i64 (t : Int) ∧ Hid (ones a + t = ones n)) (fun m _ => (intOf m).toNat)
  case atStart => exact ⟨n, 0, hn, by omega, rfl, rfl, rfl⟩
  case round =>
    obtain ⟨a, t, ha, ht, rfl, rfl, hs⟩ := hrel
    by_cases h0 : 0 < a
    · have hbit := and_one a ha
      go_wp2_with fail
      have ho := hs.out
      unfold ones at ho
      go_round
      case rel => exact ⟨a / 2, t + a % 2, by omega, by omega, by go_num, by go_num, by unfold Hid ones; omega⟩
      case measure => simp [intOf]; omega
    · obtain rfl : a = 0 := by omega
      have ho := hs.out
      have HO := Lib.hid (show t = ones n by unfold ones at ho ⊢; omega)
      clear hs ho
      go_wp2_with fail
      go_ret
      exact ⟨by rw [← HO.out]; rfl, rfl⟩

/-- a matrix as a value -/
abbrev mat (r c : Int) (s : ByteArray) : Value := .agg #[.int .i64 r, .int .i64 c, .string s]

end Go.Proofs.YtohkllmhknjkoaaDoor.Base

