/-
  The program's set of the entries of a rectangle: patchOf; and the number of its entries: size.
-/
import Derived.Test.YtppmecpodleoiaaEach
import Derived.Test.YtppmecpodleoiaaFreeIn
namespace Go.Proofs.Ytppmecpodleoiaa.Patch
open Go.RowKit Go.Shelf Go.Proofs.Ytppmecpodleoiaa.Plain Go.Proofs.Ytppmecpodleoiaa.Pat Go.Proofs.Ytppmecpodleoiaa.Rect Go.Proofs.Ytppmecpodleoiaa.Each Go.Proofs.Ytppmecpodleoiaa.Free Go.Proofs.Ytppmecpodleoiaa.FreeIn
set_option linter.unusedVariables false
attribute [local go_sem] Oper.semAt_some

/-- the bytes of a rectangle -/
def rectB (R C : Nat) : Nat → Nat := fun j => if R.testBit j then C else 0
theorem rectB_lt (R C : Nat) (hC : C < 256) (x : Nat) : rectB R C x < 256 := by
  unfold rectB
  split <;> omega
/-- the bytes when so many rows have come -/
def partB (pre : List (Fin 8)) (C : Nat) : Nat → Nat := fun j => if pre.any (fun x => x.val == j) then C else 0
theorem partB_lt (pre : List (Fin 8)) (C : Nat) (hC : C < 256) (x : Nat) : partB pre C x < 256 := by
  unfold partB
  split <;> omega
theorem partB_nil (C : Nat) : pat (partB [] C) 8 = 0 := (pat_zero 8 _).2 fun x _ => by simp [partB]
theorem partB_next (pre : List (Fin 8)) (x : Fin 8) (C : Nat) (hC : C < 256) : pat (partB pre C) 8 ||| C * 2 ^ (x.val * 8) = pat (partB (pre ++ [x]) C) 8 := by
  rw [← pat_one x.val C x.isLt, pat_or 8 _ _ (partB_lt pre C hC) (fun j => by show (if j = x.val then C else 0) < 256; split <;> omega)]
  apply pat_congr
  intro j hj
  unfold partB
  rw [List.any_append]
  by_cases h : (pre.any fun x => x.val == j) = true
  · rw [h, if_pos rfl, Bool.true_or, if_pos rfl]
    split <;> simp
  · rw [Bool.not_eq_true] at h
    rw [h, Bool.false_or]
    by_cases e : j = x.val
    · subst e; simp
    · have : ¬ (x.val = j) := fun h => e h.symm
      simp [e, this]
theorem shl_fits (x : Fin 8) (C : Nat) (hC : C < 256) : C * 2 ^ (x.val * 8) < 18446744073709551616 := by
  have h : 2 ^ (x.val * 8) ≤ 2 ^ (7 * 8) := Nat.pow_le_pow_right (by decide) (by omega)
  have h2 : C * 2 ^ (x.val * 8) ≤ 255 * 2 ^ (7 * 8) := Nat.mul_le_mul (by omega) h
  omega
theorem any_upto (S j : Nat) : ∀ k, k ≤ 8 → ((upto S k).any fun x => x.val == j) = (decide (j < k) && S.testBit j)
  | 0, _ => by simp [upto]
  | k + 1, h => by
    obtain ⟨b, hb⟩ : ∃ b, S.testBit k = b := ⟨_, rfl⟩
    cases b
    · rw [upto_no S k hb, any_upto S j k (by omega)]
      by_cases e : j = k
      · subst e; simp [hb]
      · congr 1
        rw [decide_eq_decide]
        omega
    · rw [upto_yes S k (by omega) hb, List.any_append, any_upto S j k (by omega)]
      by_cases e : j = k
      · subst e; simp [hb]
      · have : (k == j) = false := beq_eq_false_iff_ne.2 fun h => e h.symm
        rw [List.any_cons, List.any_nil]
        dsimp only
        rw [this, Bool.false_or, Bool.or_false]
        congr 1
        rw [decide_eq_decide]
        omega
theorem partB_all (R C : Nat) : pat (partB (upto R 8) C) 8 = pat (rectB R C) 8 := by
  apply pat_congr
  intro j hj
  unfold partB rectB
  rw [any_upto R j 8 (Nat.le_refl _), decide_eq_true hj, Bool.true_and]

theorem cell_of_box {W : World} {B : Nat} {v : Value} {t : TypeId} (h : W.heap[B]? = some (.cells #[v] t (0, 0))) : W.cell? ⟨B, 0, none⟩ = some v ∧ W.frozen? ⟨B, 0, none⟩ = false := by
  constructor <;> simp [World.cell?, World.frozen?, h]
theorem cell_alloc {W : World} {a : Addr} {v : Value} (o : Obj) (h : W.cell? a = some v) : (W.alloc o).cell? a = some v := cell_kept h (World.grownBy_alloc W o none) (fun r e => by cases e)
theorem frozen_alloc {W : World} {a : Addr} {v : Value} (o : Obj) (h : W.cell? a = some v) (hf : W.frozen? a = false) : (W.alloc o).frozen? a = false := (frozen_kept h (World.grownBy_alloc W o none) (fun r e => by cases e)).trans hf

theorem and127 (y : Nat) (h : y < 9223372036854775808) : Go.bits .and .i64 (y : Int) 127 = ((y % 128 : Nat) : Int) := by
  have hp : (2 : Int) ^ 63 = 9223372036854775808 := by decide
  have hq : (2 : Nat) ^ 63 = 9223372036854775808 := by decide
  have hk : ∀ n : Int, 0 ≤ n → n < 2 ^ 63 → IntKind.i64.wrap n = n := fun n h0 h1 => by
    rw [hp] at h1
    rw [IntKind.wrap_i64]
    omega
  have h2 := (bits_nat .i64 63 (by decide) hk y 127 (by rw [hq]; exact h) (by rw [hq]; decide)).1
  rw [nat_mask7] at h2
  exact h2
theorem wrap_fits (n : Nat) (h : n < 18446744073709551616) : IntKind.u64.wrap (n : Int) = (n : Int) := by
  rw [IntKind.wrap_u64]
  omega
/-- a rectangle has as many entries as rows times columns -/
theorem area_pop (R C : Nat) (hR : R < 256) : sumN (fun x => pop8 (rectB R C x)) 8 = pop8 R * pop8 C := by
  have h : ∀ k, sumN (fun x => pop8 (rectB R C x)) k = sumN (fun i => (R.testBit i).toNat) k * pop8 C := fun k => by
    induction k with
    | zero => simp [sumN]
    | succ k ih =>
      rw [sumN, sumN, ih, Nat.add_mul]
      congr 1
      unfold rectB
      cases R.testBit k <;> simp [pop8]
  rw [h 8, ← pop8_bits R hR]
end Go.Proofs.Ytppmecpodleoiaa.Patch
