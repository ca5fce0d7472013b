/-
  Contracts of the small functions: l1In, l1Bit, bitOf, sideValid, eqMatrix.
-/
import Derived.Test.YtbbgibbpeibhiaaDoorRows
import Derived.Test.YtbbgibbpeibhiaaDoorPlain
import Derived.WalkKit
import Derived.WalkSpells
import Derived.Lib.Hide
import Derived.Handy
import Derived.Outline
import Derived.Deep.QuietTactic
import Derived.BigQuiet
namespace Go.Proofs.YtbbgibbpeibhiaaDoor.Base
open Go.RowKit Go.Proofs.YtbbgibbpeibhiaaDoor.Plain

set_option maxHeartbeats 400000 in
theorem l1In_true (n a b : Int) (h1 : a ≤ n) (h2 : n ≤ b) (w : World) :
    Calls Tryd.prog 55 #[.int .i64 n, .int .i64 a, .int .i64 b] w fun e w' => e = .returned (.bool true) ∧ w = w' := by
  go_enter Tryd.func55, Tryd.ntmps55
  go_wp2
  go_ret
  exact ⟨rfl, rfl⟩

set_option maxHeartbeats 400000 in
theorem l1In_false (n a b : Int) (h1 : n < a ∨ b < n) (w : World) :
    Calls Tryd.prog 55 #[.int .i64 n, .int .i64 a, .int .i64 b] w fun e w' => e = .returned (.bool false) ∧ w = w' := by
  by_cases h : a ≤ n
  · have h2 : b < n := by omega
    clear h1
    go_enter Tryd.func55, Tryd.ntmps55
    go_wp2
    go_ret
    exact ⟨by simp; omega, rfl⟩
  · have h2 : n < a := by omega
    clear h1 h
    go_enter Tryd.func55, Tryd.ntmps55
    go_wp2
    go_ret
    exact ⟨rfl, rfl⟩

set_option maxHeartbeats 400000 in
theorem side_true (n : Int) (h1 : 1 ≤ n) (h2 : n ≤ 8) (w : World) :
    Calls Tryd.prog 60 #[.int .i64 n] w fun e w' => e = .returned (.bool true) ∧ w = w' := by
  go_enter Tryd.func60, Tryd.ntmps60
  go_wp2
  go_ret
  exact ⟨rfl, rfl⟩

set_option maxHeartbeats 400000 in
theorem side_false (n : Int) (h1 : n < 1 ∨ 8 < n) (w : World) :
    Calls Tryd.prog 60 #[.int .i64 n] w fun e w' => e = .returned (.bool false) ∧ w = w' := by
  by_cases h : 1 ≤ n
  · have h2 : 8 < n := by omega
    clear h1
    go_enter Tryd.func60, Tryd.ntmps60
    go_wp2
    go_ret
    exact ⟨by simp; omega, rfl⟩
  · have h2 : n < 1 := by omega
    clear h1 h
    go_enter Tryd.func60, Tryd.ntmps60
    go_wp2
    go_ret
    exact ⟨rfl, rfl⟩

set_option maxHeartbeats 400000 in
theorem l1Bit_any (b : Bool) (w : World) :
    Calls Tryd.prog 57 #[.bool b] w fun e w' => e = .returned (.string ⟨#[dig b]⟩) ∧ w = w' := by
  cases b
  all_goals
    go_enter Tryd.func57, Tryd.ntmps57
    go_wp2
    go_ret
    exact ⟨rfl, rfl⟩

set_option maxHeartbeats 400000 in
theorem bitOf_any (b : Bool) (w : World) :
    Calls Tryd.prog 82 #[.bool b] w fun e w' => e = .returned (.int .i64 (bitI b)) ∧ w = w' := by
  cases b
  all_goals
    go_enter Tryd.func82, Tryd.ntmps82
    go_wp2
    go_ret
    exact ⟨rfl, rfl⟩

theorem and_one : ∀ m : Nat, m < 8 → Go.bits .and .i64 (m : Int) 1 = ((m % 2 : Nat) : Int) := by
  have h : ∀ k : Fin 8, Go.bits .and .i64 ((k.val : Nat) : Int) 1 = ((k.val % 2 : Nat) : Int) := by decide +kernel
  intro k hk
  exact h ⟨k, hk⟩
set_option maxHeartbeats 400000 in
theorem ones_any (n : Nat) (hn : n < 8) (w : World) :
    Calls Tryd.prog 97 #[.int .i64 (n : Int)] w fun e w' => e = .returned (.int .i64 (ones n : Int)) ∧ w = w' := by
  go_enter Tryd.func97, Tryd.ntmps97
  go_wp2_with fail
  go_loop [0, 3] (fun m k => ∃ (a t : Nat), a < 8 ∧ t ≤ 8 ∧ m = .int .i64 (a : Int) ∧ k = .int .i64 (t : Int) ∧ Hid (ones a + t = ones n)) (fun m _ => (intOf m).toNat)
  case atStart => exact ⟨n, 0, hn, by omega, rfl, rfl, rfl⟩
  case round =>
    obtain ⟨a, t, ha, ht, rfl, rfl, hs⟩ := hrel
    by_cases h0 : 0 < a
    · have hbit := and_one a ha
      go_wp2_with fail
      have ho := hs.out
      unfold ones at ho
      go_round
      case rel => exact ⟨a / 2, t + a % 2, by omega, by omega, by go_num, by go_num, by unfold Hid ones; omega⟩
      case measure => simp [intOf]; omega
    · obtain rfl : a = 0 := by omega
      have ho := hs.out
      have HO := Lib.hid (show t = ones n by unfold ones at ho ⊢; omega)
      clear hs ho
      go_wp2_with fail
      go_ret
      exact ⟨by rw [← HO.out]; rfl, rfl⟩

/-- a matrix as a value -/
abbrev mat (r c : Int) (s : ByteArray) : Value := .agg #[.int .i64 r, .int .i64 c, .string s]

end Go.Proofs.YtbbgibbpeibhiaaDoor.Base
