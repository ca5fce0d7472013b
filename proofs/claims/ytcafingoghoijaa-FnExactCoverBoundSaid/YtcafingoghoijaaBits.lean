/-
  The number of bits that name so many things: the reference and the program find the same.
-/
import Derived.Test.YtcafingoghoijaaRect
import Derived.IntWalk
namespace Go.Proofs.Ytcafingoghoijaa.Bits
open Go.RowKit Go.Proofs.Ytcafingoghoijaa.Plain Go.Proofs.Ytcafingoghoijaa.Rect
set_option linter.unusedVariables false

/-- k is the least number of bits that name n things -/
def IsBits (n k : Nat) : Prop := n ≤ 2 ^ k ∧ ∀ j, j < k → 2 ^ j < n
theorem IsBits.one {n k l : Nat} (h : IsBits n k) (h' : IsBits n l) : k = l := by
  rcases Nat.lt_trichotomy k l with hlt | rfl | hlt
  · have := h'.2 k hlt
    have := h.1
    omega
  · rfl
  · have := h.2 l hlt
    have := h'.1
    omega
theorem isBits_le {n k : Nat} (hn : n ≤ 1000000) (h : ∀ j, j < k → 2 ^ j < n) : k ≤ 20 := by
  rcases Nat.lt_or_ge 20 k with hlt | hge
  · have h20 := h 20 hlt
    have : (2 : Nat) ^ 20 = 1048576 := by decide
    omega
  · exact hge
theorem pow20 (k : Nat) (hk : k ≤ 20) : 1 ≤ 2 ^ k ∧ 2 ^ k ≤ 1048576 :=
  ⟨Nat.one_le_two_pow, Nat.le_trans (Nat.pow_le_pow_right (by decide) hk) (by decide)⟩
theorem wrap_pow (k : Nat) (hk : k ≤ 20) : IntKind.i64.wrap (2 ^ k) = ((2 ^ k : Nat) : Int) := by
  have h := pow20 k hk
  rw [show ((2 : Int) ^ k) = ((2 ^ k : Nat) : Int) by simp]
  exact IntWalk.i64_in _ ⟨by omega, by omega⟩

set_option maxHeartbeats 1000000 in
theorem spec_k (n : Nat) (hn : n ≤ 1000000) (w : World) :
    Calls Try.prog 58 #[.int .i64 (n : Int)] w fun e w' => ∃ k : Nat, IsBits n k ∧ k ≤ 20 ∧ e = .returned (.int .i64 (k : Int)) ∧ w = w' := by
  go_enter Try.func58, Try.ntmps58
  go_wp2_with fail
  go_loop [3] (fun i => ∃ k : Nat, i = .int .i64 (k : Int) ∧ k ≤ 20 ∧ ∀ j, j < k → 2 ^ j < n) (fun i => 21 - (intOf i).toNat)
  case atStart => exact ⟨0, rfl, by omega, fun j hj => absurd hj (by omega)⟩
  case round =>
    obtain ⟨k, rfl, hk, hs⟩ := hrel
    have hsh := wrap_pow k hk
    have hp := pow20 k hk
    obtain ⟨X, hX⟩ : ∃ X, 2 ^ k = X := ⟨_, rfl⟩
    have HX := Lib.hid hX
    rw [hX] at hsh hp
    clear hX
    have HS := Lib.hid hs
    clear hs
    by_cases hlt : X < n
    · have hc : (X : Int) < (n : Int) := by omega
      have HN : Hid (∀ j, j < k + 1 → 2 ^ j < n) := fun j hj => by
        rcases Nat.lt_or_ge j k with h | h
        · exact HS.out j h
        · obtain rfl : j = k := by omega
          rw [HX.out]
          exact hlt
      have hk1 := isBits_le hn HN.out
      go_wp2_with fail
      go_round
      case rel => exact ⟨k + 1, by go_num, hk1, HN.out⟩
      case measure => simp [intOf]; omega
    · have hc : ¬ (X : Int) < (n : Int) := by omega
      go_wp2_with fail
      go_ret
      exact ⟨k, ⟨by rw [HX.out]; omega, HS.out⟩, hk, rfl, rfl⟩

set_option maxHeartbeats 1000000 in
theorem impl_yes (n : Nat) (hn : n ≤ 1000000) (w : World) :
    Calls Try.prog 60 #[.int .i64 (n : Int)] w fun e w' => ∃ k : Nat, IsBits n k ∧ k ≤ 20 ∧ e = .returned (.int .i64 (k : Int)) ∧ w = w' := by
  have h0 : ¬ (n : Int) < 0 := by omega
  have h1 : ¬ (1000000 : Int) < (n : Int) := by omega
  go_enter Try.func60, Try.ntmps60
  go_wp2_with fail
  clear h0 h1
  go_loop [3] (fun i => ∃ k : Nat, i = .int .i64 (k : Int) ∧ k ≤ 20 ∧ ∀ j, j < k → 2 ^ j < n) (fun i => 21 - (intOf i).toNat)
  case atStart => exact ⟨0, rfl, by omega, fun j hj => absurd hj (by omega)⟩
  case round =>
    obtain ⟨k, rfl, hk, hs⟩ := hrel
    have hsh := wrap_pow k hk
    have hp := pow20 k hk
    obtain ⟨X, hX⟩ : ∃ X, 2 ^ k = X := ⟨_, rfl⟩
    have HX := Lib.hid hX
    rw [hX] at hsh hp
    clear hX
    have HS := Lib.hid hs
    clear hs
    by_cases hlt : X < n
    · have hc : (X : Int) < (n : Int) := by omega
      have HN : Hid (∀ j, j < k + 1 → 2 ^ j < n) := fun j hj => by
        rcases Nat.lt_or_ge j k with h | h
        · exact HS.out j h
        · obtain rfl : j = k := by omega
          rw [HX.out]
          exact hlt
      have hk1 := isBits_le hn HN.out
      go_wp2_with fail
      go_round
      case rel => exact ⟨k + 1, by go_num, hk1, HN.out⟩
      case measure => simp [intOf]; omega
    · have hc : ¬ (X : Int) < (n : Int) := by omega
      go_wp2_with fail
      go_ret
      exact ⟨k, ⟨by rw [HX.out]; omega, HS.out⟩, hk, rfl, rfl⟩

set_option maxHeartbeats 1000000 in
theorem impl_no (n : Int) (hn : n < 0 ∨ 1000000 < n) (w : World) :
    Calls Try.prog 60 #[.int .i64 n] w fun e w' => e = .returned (.int .i64 (-1)) ∧ w = w' := by
  by_cases h : n < 0
  · clear hn
    go_enter Try.func60, Try.ntmps60
    go_wp2_with fail
    go_ret
    exact ⟨rfl, rfl⟩
  · have h1 : 1000000 < n := by omega
    clear hn
    go_enter Try.func60, Try.ntmps60
    go_wp2_with fail
    go_ret
    exact ⟨rfl, rfl⟩
end Go.Proofs.Ytcafingoghoijaa.Bits
