/-
  The mathematics of fooling sets: what the boards' patches say of entries that are apart.
-/
import Derived.Test.YtgmhddceeomjbaaDoorBoardM
namespace Go.Proofs.YtgmhddceeomjbaaDoor.FoolM
open Go.RowKit Go.Proofs.YtgmhddceeomjbaaDoor.Plain Go.Proofs.YtgmhddceeomjbaaDoor.Pat Go.Proofs.YtgmhddceeomjbaaDoor.Rect Go.Proofs.YtgmhddceeomjbaaDoor.Patch Go.Proofs.YtgmhddceeomjbaaDoor.Board Go.Proofs.YtgmhddceeomjbaaDoor.BoardM
set_option linter.unusedVariables false

/-- whether a rectangle's entries all have the value -/
def plB (P : Nat → Nat → Bool) (R C RS CS : Nat) : Bool := decide (pat (rectB RS CS) 8 &&& (18446744073709551615 - pat (onB P R C) 8) = 0)
theorem plB_iff (P : Nat → Nat → Bool) (R C RS CS : Nat) (hR : R ≤ 8) (hC : C ≤ 8) (hRS : RS < 256) (hCS : CS < 256) : plB P R C RS CS = true ↔ allP P R C RS CS := by
  unfold plB
  rw [decide_eq_true_iff]
  exact plain_pat P R C RS CS hR hC hRS hCS
theorem pow_lt (i : Nat) (h : i < 8) : 2 ^ i < 256 := Nat.lt_of_lt_of_le (Nat.pow_lt_pow_right (by decide) h) (by decide)
theorem or_lt (i j : Nat) (h : i < 8) (h2 : j < 8) : 2 ^ i ||| 2 ^ j < 256 := Nat.or_lt_two_pow (n := 8) (pow_lt i h) (pow_lt j h2)
theorem or_bit (i j x : Nat) : (2 ^ i ||| 2 ^ j).testBit x = true ↔ x = i ∨ x = j := by
  rw [Nat.testBit_or, Bool.or_eq_true, Nat.testBit_two_pow, Nat.testBit_two_pow, decide_eq_true_iff, decide_eq_true_iff]
  constructor
  · rintro (h | h)
    · exact .inl h.symm
    · exact .inr h.symm
  · rintro (h | h)
    · exact .inl h.symm
    · exact .inr h.symm
/-- one entry -/
theorem pl_cell (P : Nat → Nat → Bool) (R C i : Nat) (hR : R ≤ 8) (hC1 : 1 ≤ C) (hC : C ≤ 8) (hi : i < R * C) : plB P R C (2 ^ (i / C)) (2 ^ (i % C)) = P (i / C) (i % C) := by
  have d : i / C < R := Nat.div_lt_of_lt_mul (by rwa [Nat.mul_comm] at hi)
  have m : i % C < C := Nat.mod_lt i (by omega)
  rw [Bool.eq_iff_iff, plB_iff P R C _ _ hR hC (pow_lt _ (by omega)) (pow_lt _ (by omega))]
  unfold allP
  constructor
  · intro h
    exact (h (i / C) (i % C) (by simp) (by simp)).2
  · intro h x y hx hy
    rw [Nat.testBit_two_pow, decide_eq_true_iff] at hx hy
    subst hx hy
    exact ⟨⟨d, m⟩, h⟩
/-- two entries: all four -/
theorem pl_hull (P : Nat → Nat → Bool) (R C i j : Nat) (hR : R ≤ 8) (hC1 : 1 ≤ C) (hC : C ≤ 8) (hi : i < R * C) (hj : j < R * C) :
    plB P R C (2 ^ (i / C) ||| 2 ^ (j / C)) (2 ^ (i % C) ||| 2 ^ (j % C)) = ((P (i / C) (i % C) && P (j / C) (j % C)) && (P (i / C) (j % C) && P (j / C) (i % C))) := by
  have d : i / C < R := Nat.div_lt_of_lt_mul (by rwa [Nat.mul_comm] at hi)
  have m : i % C < C := Nat.mod_lt i (by omega)
  have d2 : j / C < R := Nat.div_lt_of_lt_mul (by rwa [Nat.mul_comm] at hj)
  have m2 : j % C < C := Nat.mod_lt j (by omega)
  rw [Bool.eq_iff_iff, plB_iff P R C _ _ hR hC (or_lt _ _ (by omega) (by omega)) (or_lt _ _ (by omega) (by omega))]
  unfold allP
  simp only [or_bit, Bool.and_eq_true]
  constructor
  · intro h
    exact ⟨⟨(h _ _ (.inl rfl) (.inl rfl)).2, (h _ _ (.inr rfl) (.inr rfl)).2⟩, (h _ _ (.inl rfl) (.inr rfl)).2, (h _ _ (.inr rfl) (.inl rfl)).2⟩
  · rintro ⟨⟨h1, h2⟩, h3, h4⟩ x y (rfl | rfl) (rfl | rfl)
    · exact ⟨⟨d, m⟩, h1⟩
    · exact ⟨⟨d, m2⟩, h3⟩
    · exact ⟨⟨d2, m⟩, h4⟩
    · exact ⟨⟨d2, m2⟩, h2⟩

/-- two entries with the value are apart -/
def apB (P : Nat → Nat → Bool) (C i j : Nat) : Bool := !(P (i / C) (j % C)) || !(P (j / C) (i % C))
/-- what the program asks of an entry and those before it -/
def okI (P : Nat → Nat → Bool) (R C : Nat) (l : List Nat) (i : Nat) : Bool := plB P R C (2 ^ (i / C)) (2 ^ (i % C)) && !l.any (fun j => plB P R C (2 ^ (i / C) ||| 2 ^ (j / C)) (2 ^ (i % C) ||| 2 ^ (j % C)))
/-- what the reference asks -/
def okS (P : Nat → Nat → Bool) (C : Nat) (l : List Nat) (i : Nat) : Bool := P (i / C) (i % C) && l.all (fun j => apB P C i j)
def allI (P : Nat → Nat → Bool) (R C : Nat) (l : List Nat) : Nat → Bool
  | 0 => true
  | k + 1 => allI P R C l k && okI P R C (l.take k) (l.getD k 0)
def allS (P : Nat → Nat → Bool) (C : Nat) (l : List Nat) : Nat → Bool
  | 0 => true
  | k + 1 => allS P C l k && okS P C (l.take k) (l.getD k 0)
theorem all_cells (P : Nat → Nat → Bool) (C : Nat) (l : List Nat) : ∀ k, k ≤ l.length → allS P C l k = true → ∀ j ∈ l.take k, P (j / C) (j % C) = true
  | 0, _, _, j, hj => by simp at hj
  | k + 1, hk, h, j, hj => by
    rw [allS, Bool.and_eq_true] at h
    rw [List.take_succ_eq_append_getElem (by omega), List.mem_append, List.mem_singleton] at hj
    rcases hj with hj | rfl
    · exact all_cells P C l k (by omega) h.1 j hj
    · have := h.2
      unfold okS at this
      rw [Bool.and_eq_true] at this
      rw [List.getD_eq_getElem?_getD, List.getElem?_eq_getElem (by omega)] at this
      exact this.1
theorem all_same (P : Nat → Nat → Bool) (R C : Nat) (hR : R ≤ 8) (hC1 : 1 ≤ C) (hC : C ≤ 8) (l : List Nat) (hl : ∀ x ∈ l, x < R * C) : ∀ k, k ≤ l.length → allI P R C l k = allS P C l k
  | 0, _ => rfl
  | k + 1, hk => by
    rw [allI, allS, all_same P R C hR hC1 hC l hl k (by omega)]
    cases hs : allS P C l k with
    | false => rfl
    | true =>
      rw [Bool.true_and, Bool.true_and]
      have hc := all_cells P C l k (by omega) hs
      have hi : l.getD k 0 < R * C := by
        rw [List.getD_eq_getElem?_getD, List.getElem?_eq_getElem (by omega)]
        exact hl _ (List.getElem_mem _)
      generalize l.getD k 0 = i at *
      unfold okI okS
      rw [pl_cell P R C i hR hC1 hC hi]
      cases hp : P (i / C) (i % C) with
      | false => rfl
      | true =>
        rw [Bool.true_and, Bool.true_and]
        have key : ∀ j ∈ l.take k, plB P R C (2 ^ (i / C) ||| 2 ^ (j / C)) (2 ^ (i % C) ||| 2 ^ (j % C)) = !apB P C i j := fun j hj => by
          rw [pl_hull P R C i j hR hC1 hC hi (hl j (List.mem_of_mem_take hj)), hp, hc j hj]
          unfold apB
          cases P (i / C) (j % C) <;> cases P (j / C) (i % C) <;> rfl
        generalize l.take k = m at *
        clear hc hs hk hl
        induction m with
        | nil => rfl
        | cons a m ih =>
          rw [List.any_cons, List.all_cons, Bool.not_or, ih (fun j hj => key j (List.mem_cons_of_mem _ hj)), key a List.mem_cons_self, Bool.not_not]
end Go.Proofs.YtgmhddceeomjbaaDoor.FoolM
