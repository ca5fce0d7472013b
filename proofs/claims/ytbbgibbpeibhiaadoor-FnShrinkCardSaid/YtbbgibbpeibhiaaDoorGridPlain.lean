/-
  Plain facts on a grid's cells: eight a line, one more with each byte that is read. Nothing of the program.
-/
import Derived.Test.YtbbgibbpeibhiaaDoorPlain
namespace Go.Proofs.YtbbgibbpeibhiaaDoor.GridPlain
open Go.RowKit Go.Proofs.YtbbgibbpeibhiaaDoor.Plain

theorem rowB_get (E : Nat → Nat → Bool) (x c j : Nat) (h : j < c) : (rowB E x c)[j]? = some (dig (E x j)) := by
  simp [rowB, h]
theorem rowsB_get (E : Nat → Nat → Bool) (r c k : Nat) (h : k < r * c) : (rowsB E r c)[k]? = some (dig (E (k / c) (k % c))) := by
  induction r with
  | zero => simp at h
  | succ r ih =>
    rw [rowsB_succ]
    by_cases hlt : k < r * c
    · rw [List.getElem?_append_left (by rw [rowsB_length]; exact hlt)]
      exact ih hlt
    · rw [List.getElem?_append_right (by rw [rowsB_length]; omega), rowsB_length]
      have hj : k - r * c < c := by rw [Nat.succ_mul] at h; omega
      rw [rowB_get E r c _ hj]
      obtain ⟨j, rfl⟩ : ∃ j, k = r * c + j := ⟨k - r * c, by omega⟩
      rw [show r * c + j - r * c = j by omega] at hj ⊢
      have hd : (r * c + j) / c = r := by
        rw [Nat.mul_comm, Nat.mul_add_div (by omega), Nat.div_eq_of_lt hj, Nat.add_zero]
      have hm : (r * c + j) % c = j := by
        rw [Nat.mul_comm, Nat.mul_add_mod, Nat.mod_eq_of_lt hj]
      rw [hd, hm]
theorem str_get (l : List UInt8) (k : Nat) (u : UInt8) (h : l[k]? = some u) (hk : k < (str l).size) : (str l)[k] = u := by
  obtain ⟨h1, h2⟩ := List.getElem?_eq_some_iff.1 h
  rw [← h2]
  rfl

/-- what stands at place i of the 64 when so many bytes are read -/
def gpart (E : Nat → Nat → Bool) (c k : Nat) (i : Nat) : Int := if i / 8 * c + i % 8 < k ∧ i % 8 < c then bitI (E (i / 8) (i % 8)) else 0
theorem gpart_zero (E : Nat → Nat → Bool) (c : Nat) : gpart E c 0 = fun _ => 0 := by
  funext i
  simp [gpart]
theorem place (c k i : Nat) (h1 : 1 ≤ c) (h8 : c ≤ 8) : (i / 8 * c + i % 8 = k ∧ i % 8 < c) ↔ i = k / c * 8 + k % c := by
  have h : c = 1 ∨ c = 2 ∨ c = 3 ∨ c = 4 ∨ c = 5 ∨ c = 6 ∨ c = 7 ∨ c = 8 := by omega
  rcases h with rfl | rfl | rfl | rfl | rfl | rfl | rfl | rfl <;> omega
theorem gpart_succ (E : Nat → Nat → Bool) (c k i : Nat) (h1 : 1 ≤ c) (h8 : c ≤ 8) :
    gpart E c (k + 1) i = if i = k / c * 8 + k % c then bitI (E (k / c) (k % c)) else gpart E c k i := by
  have hp := place c k i h1 h8
  unfold gpart
  by_cases h : i = k / c * 8 + k % c
  · have h2 := hp.2 h
    have h3 : i / 8 = k / c ∧ i % 8 = k % c := by
      have : k % c < 8 := Nat.lt_of_lt_of_le (Nat.mod_lt _ h1) h8
      omega
    rw [if_pos h, if_pos ⟨by omega, h2.2⟩, h3.1, h3.2]
  · rw [if_neg h]
    by_cases h4 : i / 8 * c + i % 8 < k ∧ i % 8 < c
    · rw [if_pos h4, if_pos ⟨by omega, h4.2⟩]
    · rw [if_neg h4, if_neg]
      intro h5
      apply h
      apply hp.1
      refine ⟨?_, h5.2⟩
      have : ¬ (i / 8 * c + i % 8 < k) := fun h6 => h4 ⟨h6, h5.2⟩
      omega
/-- when all bytes are read -/
theorem gpart_all (E : Nat → Nat → Bool) (r c x y : Nat) (hx : x < r) (hy : y < c) (h8 : c ≤ 8) : gpart E c (r * c) (8 * x + y) = bitI (E x y) := by
  unfold gpart
  have h1 : (8 * x + y) / 8 = x := by omega
  have h2 : (8 * x + y) % 8 = y := by omega
  rw [h1, h2, if_pos]
  refine ⟨?_, hy⟩
  have : (x + 1) * c ≤ r * c := Nat.mul_le_mul_right c hx
  rw [Nat.succ_mul] at this
  omega
/-- beyond the matrix -/
theorem gpart_none (E : Nat → Nat → Bool) (r c x y : Nat) (hy8 : y < 8) (h : r ≤ x ∨ c ≤ y) : gpart E c (r * c) (8 * x + y) = 0 := by
  unfold gpart
  have h1 : (8 * x + y) / 8 = x := by omega
  have h2 : (8 * x + y) % 8 = y := by omega
  rw [h1, h2, if_neg]
  rintro ⟨h3, h4⟩
  rcases h with h | h
  · have : r * c ≤ x * c := Nat.mul_le_mul_right c h
    omega
  · omega
theorem div_lt_of {k r c : Nat} (h : k < r * c) (hr : r ≤ 8) : k / c < 8 := by
  have : k / c < r := Nat.div_lt_of_lt_mul (by rw [Nat.mul_comm]; exact h)
  omega
theorem mod_lt_of {k c : Nat} (hc : 1 ≤ c) (h8 : c ≤ 8) : k % c < 8 := Nat.lt_of_lt_of_le (Nat.mod_lt _ hc) h8
end Go.Proofs.YtbbgibbpeibhiaaDoor.GridPlain
