/-
  The walk of the law on CoverBound.
-/
import Derived.Test.YtcafingoghoijaaBits
namespace Go.Proofs.Ytcafingoghoijaa.fnExactCoverBound
open Go.RowKit Go.Proofs.Ytcafingoghoijaa.Plain Go.Proofs.Ytcafingoghoijaa.Rect Go.Proofs.Ytcafingoghoijaa.Bits
set_option linter.unusedVariables false

theorem prod2 (k l : Nat) (hk : k ≤ 20) (hl : l ≤ 20) : IntKind.i64.wrap (2 * (k : Int)) = 2 * (k : Int) ∧ IntKind.i64.wrap (2 * (k : Int) * (l : Int)) = 2 * (k : Int) * (l : Int) := by
  have h1 : k * l ≤ 20 * 20 := Nat.mul_le_mul hk hl
  have e : 2 * (k : Int) * (l : Int) = ((2 * (k * l) : Nat) : Int) := by rw [Int.mul_assoc]; simp
  refine ⟨IntWalk.i64_in (2 * (k : Int)) ⟨by omega, by omega⟩, ?_⟩
  rw [e]
  exact IntWalk.i64_in _ ⟨by omega, by omega⟩

/-- the bound -/
theorem one {n k k' : Nat} (h : IsBits n k) (h' : IsBits n k') : k = k' := h.one h'

set_option maxHeartbeats 2000000 in
theorem impl_yes (a b k l : Nat) (ha : a ≤ 1000) (hb : b ≤ 1000) (hk : IsBits (a + 1) k) (hl : IsBits (b + 1) l) (w : World) :
    Calls Try.prog 30 #[.int .i64 (a : Int), .int .i64 (b : Int)] w fun e w' => e = .returned (.int .i64 (2 * (k : Int) * (l : Int))) ∧ w = w' := by
  have HA := Lib.hid (fun W => Go.Proofs.Ytcafingoghoijaa.Bits.impl_yes (a + 1) (by omega) W)
  have HB := Lib.hid (fun W => Go.Proofs.Ytcafingoghoijaa.Bits.impl_yes (b + 1) (by omega) W)
  have e1 : ((a : Int) + 1) = ((a + 1 : Nat) : Int) := by omega
  have e2 : ((b : Int) + 1) = ((b + 1 : Nat) : Int) := by omega
  have HK := Lib.hid hk
  have HL := Lib.hid hl
  have HD1 : Hid (decide (0 ≤ (a : Int) ∧ (a : Int) < 1001) = true) := decide_eq_true (by omega)
  have HD2 : Hid (decide (0 ≤ (b : Int) ∧ (b : Int) < 1001) = true) := decide_eq_true (by omega)
  have HE1 := Lib.hid e1
  have HE2 := Lib.hid e2
  clear hk hl e1 e2
  go_enter Try.func30, Try.ntmps30
  go_wp2_with fail
  refine (index_any _ _ _).mono ?_
  rintro e w' ⟨rfl, rfl⟩
  rw [HD1.out]
  go_wp2_with fail
  refine (index_any _ _ _).mono ?_
  rintro e w' ⟨rfl, rfl⟩
  rw [HD2.out]
  go_wp2_with fail
  rw [HE1.out]
  refine (HA.out _).mono ?_
  rintro e w' ⟨k', hk', hk20, rfl, rfl⟩
  obtain rfl := HK.out.one hk'
  clear hk'
  go_wp2_with fail
  rw [HE2.out]
  refine (HB.out _).mono ?_
  rintro e w' ⟨l', hl', hl20, rfl, rfl⟩
  obtain rfl := HL.out.one hl'
  clear hl'
  obtain ⟨m1, m2⟩ := prod2 k l hk20 hl20
  go_wp2_with fail
  go_ret
  exact ⟨rfl, rfl⟩

set_option maxHeartbeats 2000000 in
theorem spec_yes (a b : Nat) (ha : a ≤ 1000) (hb : b ≤ 1000) (w : World) :
    Calls Try.prog 29 #[.int .i64 (a : Int), .int .i64 (b : Int)] w fun e w' => ∃ k l : Nat, IsBits (a + 1) k ∧ IsBits (b + 1) l ∧ e = .returned (.int .i64 (2 * (k : Int) * (l : Int))) ∧ w = w' := by
  have HA := Lib.hid (fun W => spec_k (a + 1) (by omega) W)
  have HB := Lib.hid (fun W => spec_k (b + 1) (by omega) W)
  have HE1 : Hid (((a : Int) + 1) = ((a + 1 : Nat) : Int)) := by show _ = _; omega
  have HE2 : Hid (((b : Int) + 1) = ((b + 1 : Nat) : Int)) := by show _ = _; omega
  have HD1 : Hid (decide (0 ≤ (a : Int) ∧ (a : Int) ≤ 1000) = true) := decide_eq_true (by omega)
  have HD2 : Hid (decide (0 ≤ (b : Int) ∧ (b : Int) ≤ 1000) = true) := decide_eq_true (by omega)
  go_enter Try.func29, Try.ntmps29
  go_wp2_with fail
  refine (in_any _ _ _ _).mono ?_
  rintro e w' ⟨rfl, rfl⟩
  rw [HD1.out]
  go_wp2_with fail
  refine (in_any _ _ _ _).mono ?_
  rintro e w' ⟨rfl, rfl⟩
  rw [HD2.out]
  go_wp2_with fail
  rw [HE1.out]
  refine (HA.out _).mono ?_
  rintro e w' ⟨k, hk', hk20, rfl, rfl⟩
  have HK := Lib.hid hk'
  clear hk'
  go_wp2_with fail
  rw [HE2.out]
  refine (HB.out _).mono ?_
  rintro e w' ⟨l, hl', hl20, rfl, rfl⟩
  have HL := Lib.hid hl'
  clear hl'
  obtain ⟨m1, m2⟩ := prod2 k l hk20 hl20
  go_wp2_with fail
  go_ret
  exact ⟨k, l, HK.out, HL.out, rfl, rfl⟩

set_option maxHeartbeats 1000000 in
theorem impl_no (a b : Int) (h : ¬ ((0 ≤ a ∧ a < 1001) ∧ (0 ≤ b ∧ b < 1001))) (w : World) :
    Calls Try.prog 30 #[.int .i64 a, .int .i64 b] w fun e w' => e = .returned (.int .i64 (-1)) ∧ w = w' := by
  by_cases ha : 0 ≤ a ∧ a < 1001
  · have HA : Hid (decide (0 ≤ a ∧ a < 1001) = true) := decide_eq_true ha
    have HB : Hid (decide (0 ≤ b ∧ b < 1001) = false) := decide_eq_false (fun hb => h ⟨ha, hb⟩)
    clear h ha
    go_enter Try.func30, Try.ntmps30
    go_wp2_with fail
    refine (index_any _ _ _).mono ?_
    rintro e w' ⟨rfl, rfl⟩
    rw [HA.out]
    go_wp2_with fail
    refine (index_any _ _ _).mono ?_
    rintro e w' ⟨rfl, rfl⟩
    rw [HB.out]
    go_wp2_with fail
    go_ret
    exact ⟨rfl, rfl⟩
  · have HA : Hid (decide (0 ≤ a ∧ a < 1001) = false) := decide_eq_false ha
    clear h ha
    go_enter Try.func30, Try.ntmps30
    go_wp2_with fail
    refine (index_any _ _ _).mono ?_
    rintro e w' ⟨rfl, rfl⟩
    rw [HA.out]
    go_wp2_with fail
    go_ret
    exact ⟨rfl, rfl⟩

set_option maxHeartbeats 1000000 in
theorem spec_no (a b : Int) (h : ¬ ((0 ≤ a ∧ a < 1001) ∧ (0 ≤ b ∧ b < 1001))) (w : World) :
    Calls Try.prog 29 #[.int .i64 a, .int .i64 b] w fun e w' => e = .returned (.int .i64 (-1)) ∧ w = w' := by
  by_cases ha : 0 ≤ a ∧ a < 1001
  · have HA : Hid (decide (0 ≤ a ∧ a ≤ 1000) = true) := decide_eq_true (by omega)
    have HB : Hid (decide (0 ≤ b ∧ b ≤ 1000) = false) := decide_eq_false (fun hb => h ⟨ha, by omega⟩)
    clear h ha
    go_enter Try.func29, Try.ntmps29
    go_wp2_with fail
    refine (in_any _ _ _ _).mono ?_
    rintro e w' ⟨rfl, rfl⟩
    rw [HA.out]
    go_wp2_with fail
    refine (in_any _ _ _ _).mono ?_
    rintro e w' ⟨rfl, rfl⟩
    rw [HB.out]
    go_wp2_with fail
    go_ret
    exact ⟨rfl, rfl⟩
  · have HA : Hid (decide (0 ≤ a ∧ a ≤ 1000) = false) := decide_eq_false (by omega)
    clear h ha
    go_enter Try.func29, Try.ntmps29
    go_wp2_with fail
    refine (in_any _ _ _ _).mono ?_
    rintro e w' ⟨rfl, rfl⟩
    rw [HA.out]
    go_wp2_with fail
    go_ret
    exact ⟨rfl, rfl⟩

set_option maxHeartbeats 1000000 in
theorem walk (a : Int) (wa : (Lit.int .i64 a).wf = true) (b : Int) (wb : (Lit.int .i64 b).wf = true) (w : World) :
    Calls Try.prog 8 #[.int .i64 a, .int .i64 b] w fun e w' => e = .returned (.bool true) ∧ Below w.heap.size w w' := by
  by_cases h : (0 ≤ a ∧ a < 1001) ∧ (0 ≤ b ∧ b < 1001)
  · obtain ⟨A, rfl⟩ := Int.eq_ofNat_of_zero_le h.1.1
    obtain ⟨B, rfl⟩ := Int.eq_ofNat_of_zero_le h.2.1
    have hA : A ≤ 1000 := by omega
    have hB : B ≤ 1000 := by omega
    have HI := Lib.hid (fun k l hk hl W => impl_yes A B k l hA hB hk hl W)
    have HS := Lib.hid (fun W => spec_yes A B hA hB W)
    clear h
    go_enter Try.func8, Try.ntmps8
    go_wp2_with fail
    refine (HS.out _).mono ?_
    rintro e w' ⟨k, l, hk, hl, rfl, rfl⟩
    have H2 := Lib.hid (fun W => HI.out k l hk hl W)
    obtain ⟨r, hr⟩ : ∃ r, 2 * (k : Int) * (l : Int) = r := ⟨_, rfl⟩
    rw [hr] at H2 ⊢
    clear hk hl HI HS hr
    go_wp2_with fail
    refine (H2.out _).mono ?_
    rintro e w' ⟨rfl, rfl⟩
    go_wp2_with fail
    go_ret
    exact ⟨rfl, Below.refl _ _⟩
  · have HI := Lib.hid (fun W => impl_no a b h W)
    have HS := Lib.hid (fun W => spec_no a b h W)
    clear h
    go_enter Try.func8, Try.ntmps8
    go_wp2_with fail
    refine (HS.out _).mono ?_
    rintro e w' ⟨rfl, rfl⟩
    go_wp2_with fail
    refine (HI.out _).mono ?_
    rintro e w' ⟨rfl, rfl⟩
    go_wp2_with fail
    go_ret
    exact ⟨rfl, Below.refl _ _⟩
end Go.Proofs.Ytcafingoghoijaa.fnExactCoverBound
