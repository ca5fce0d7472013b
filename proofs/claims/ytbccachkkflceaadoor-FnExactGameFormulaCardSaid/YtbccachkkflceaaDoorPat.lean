/-
  Plain facts on sets of entries as numbers: eight bytes, one for each row. Nothing of the program.
-/
import Derived.Test.YtbccachkkflceaaDoorPlain
import Derived.Laws.BitsAllLaws
namespace Go.Proofs.YtbccachkkflceaaDoor.Pat
open Go.RowKit Go.Proofs.YtbccachkkflceaaDoor.Plain

/-- the number whose bytes are f 0, f 1 .. -/
def pat (f : Nat → Nat) : Nat → Nat
  | 0 => 0
  | k + 1 => pat (fun x => f (x + 1)) k * 256 + f 0

theorem pat_lt (k : Nat) : ∀ (f : Nat → Nat), (∀ x, f x < 256) → pat f k < 256 ^ k := by
  induction k with
  | zero => intro f _; simp [pat]
  | succ k ih =>
    intro f h
    have h1 := ih (fun x => f (x + 1)) (fun x => h _)
    have h0 := h 0
    rw [pat, Nat.pow_succ]
    omega
theorem pat_congr (k : Nat) : ∀ (f g : Nat → Nat), (∀ x, x < k → f x = g x) → pat f k = pat g k := by
  induction k with
  | zero => intro f g _; rfl
  | succ k ih =>
    intro f g h
    rw [pat, pat, ih (fun x => f (x + 1)) (fun x => g (x + 1)) (fun x hx => h _ (by omega)), h 0 (by omega)]

theorem pat_mono (k : Nat) : ∀ (f g : Nat → Nat), (∀ x, f x ≤ g x) → pat f k ≤ pat g k := by
  induction k with
  | zero => intro f g _; exact Nat.le_refl _
  | succ k ih =>
    intro f g h
    have h1 := ih (fun x => f (x + 1)) (fun x => g (x + 1)) (fun x => h _)
    have h0 := h 0
    rw [pat, pat]
    omega

theorem split_bit (a b j : Nat) (hb : b < 256) : (a * 256 + b).testBit j = if j < 8 then b.testBit j else a.testBit (j - 8) := by
  rw [show a * 256 = 2 ^ 8 * a by omega]
  exact Nat.testBit_two_pow_mul_add a hb j
theorem split_and (h l H L : Nat) (hl : l < 256) (hL : L < 256) : (h * 256 + l) &&& (H * 256 + L) = (h &&& H) * 256 + (l &&& L) := by
  apply Nat.eq_of_testBit_eq
  intro j
  have hlt : l &&& L < 256 := Nat.and_lt_two_pow (n := 8) l hL
  rw [Nat.testBit_and, split_bit _ _ _ hl, split_bit _ _ _ hL, split_bit _ _ _ hlt]
  split <;> rw [Nat.testBit_and]
theorem split_or (h l H L : Nat) (hl : l < 256) (hL : L < 256) : (h * 256 + l) ||| (H * 256 + L) = (h ||| H) * 256 + (l ||| L) := by
  apply Nat.eq_of_testBit_eq
  intro j
  have hlt : l ||| L < 256 := Nat.or_lt_two_pow (n := 8) hl hL
  rw [Nat.testBit_or, split_bit _ _ _ hl, split_bit _ _ _ hL, split_bit _ _ _ hlt]
  split <;> rw [Nat.testBit_or]
theorem pat_and (k : Nat) : ∀ (f g : Nat → Nat), (∀ x, f x < 256) → (∀ x, g x < 256) → pat f k &&& pat g k = pat (fun x => f x &&& g x) k := by
  induction k with
  | zero => intro f g _ _; simp [pat]
  | succ k ih =>
    intro f g hf hg
    rw [pat, pat, pat, split_and _ _ _ _ (hf 0) (hg 0), ih _ _ (fun x => hf _) (fun x => hg _)]
theorem pat_or (k : Nat) : ∀ (f g : Nat → Nat), (∀ x, f x < 256) → (∀ x, g x < 256) → pat f k ||| pat g k = pat (fun x => f x ||| g x) k := by
  induction k with
  | zero => intro f g _ _; simp [pat]
  | succ k ih =>
    intro f g hf hg
    rw [pat, pat, pat, split_or _ _ _ _ (hf 0) (hg 0), ih _ _ (fun x => hf _) (fun x => hg _)]
theorem pat_not (k : Nat) : ∀ (f : Nat → Nat), (∀ x, f x < 256) → 256 ^ k - 1 - pat f k = pat (fun x => 255 - f x) k := by
  induction k with
  | zero => intro f _; simp [pat]
  | succ k ih =>
    intro f hf
    have h := ih (fun x => f (x + 1)) (fun x => hf _)
    have hlt := pat_lt k (fun x => f (x + 1)) (fun x => hf _)
    have h0 := hf 0
    rw [pat, pat, ← h, Nat.pow_succ]
    omega
theorem pat_zero (k : Nat) : ∀ (f : Nat → Nat), pat f k = 0 ↔ ∀ x, x < k → f x = 0 := by
  induction k with
  | zero => intro f; simp [pat]
  | succ k ih =>
    intro f
    rw [pat]
    constructor
    · intro h x hx
      cases x with
      | zero => omega
      | succ x => exact (ih (fun x => f (x + 1))).1 (by omega) x (by omega)
    · intro h
      rw [(ih (fun x => f (x + 1))).2 (fun x hx => h _ (by omega)), h 0 (by omega)]
/-- one byte at its place -/
theorem pat_one (x c : Nat) (hx : x < 8) : pat (fun j => if j = x then c else 0) 8 = c * 2 ^ (x * 8) := by
  have h : x = 0 ∨ x = 1 ∨ x = 2 ∨ x = 3 ∨ x = 4 ∨ x = 5 ∨ x = 6 ∨ x = 7 := by omega
  rcases h with rfl | rfl | rfl | rfl | rfl | rfl | rfl | rfl <;> simp [pat] <;> omega
theorem pat_none (k : Nat) : pat (fun _ => 0) k = 0 := (pat_zero k _).2 fun _ _ => rfl
theorem pat64 (f : Nat → Nat) (h : ∀ x, f x < 256) : pat f 8 < 18446744073709551616 := pat_lt 8 f h

/-! ### the number of ones -/
theorem s1_low : ∀ b l : Nat, b < 2 → l < 256 → (b * 128 + l / 2) &&& 85 = (l / 2 &&& 85) := by
  have h : ∀ b : Fin 2, ∀ l : Fin 256, (b.val * 128 + l.val / 2) &&& 85 = (l.val / 2 &&& 85) := by decide +kernel
  intro b l hb hl
  exact h ⟨b, hb⟩ ⟨l, hl⟩
theorem s2_low : ∀ b l : Nat, b < 4 → l < 256 → (b * 64 + l / 4) &&& 51 = (l / 4 &&& 51) := by
  have h : ∀ b : Fin 4, ∀ l : Fin 256, (b.val * 64 + l.val / 4) &&& 51 = (l.val / 4 &&& 51) := by decide +kernel
  intro b l hb hl
  exact h ⟨b, hb⟩ ⟨l, hl⟩
def b1 (l : Nat) : Nat := (l / 2 &&& 85) + (l &&& 85)
def b2 (l : Nat) : Nat := (l / 4 &&& 51) + (l &&& 51)
def b3 (l : Nat) : Nat := (l / 16 + l) % 16
theorem s1 (k : Nat) : ∀ (f : Nat → Nat), (∀ x, f x < 256) → (pat f k / 2 &&& pat (fun _ => 85) k) + (pat f k &&& pat (fun _ => 85) k) = pat (fun x => b1 (f x)) k := by
  induction k with
  | zero => intro f _; simp [pat]
  | succ k ih =>
    intro f hf
    have h := ih (fun x => f (x + 1)) (fun x => hf _)
    have h0 := hf 0
    rw [pat, pat, pat]
    generalize pat (fun x => f (x + 1)) k = p at *
    generalize pat (fun _ => 85) k = m at *
    have e : (p * 256 + f 0) / 2 = (p / 2) * 256 + (p % 2 * 128 + f 0 / 2) := by omega
    rw [e, split_and _ _ _ _ (by omega) (by omega), split_and _ _ _ _ h0 (by omega), s1_low _ _ (by omega) h0, ← h]
    unfold b1
    omega
theorem s2 (k : Nat) : ∀ (f : Nat → Nat), (∀ x, f x < 256) → (pat f k / 4 &&& pat (fun _ => 51) k) + (pat f k &&& pat (fun _ => 51) k) = pat (fun x => b2 (f x)) k := by
  induction k with
  | zero => intro f _; simp [pat]
  | succ k ih =>
    intro f hf
    have h := ih (fun x => f (x + 1)) (fun x => hf _)
    have h0 := hf 0
    rw [pat, pat, pat]
    generalize pat (fun x => f (x + 1)) k = p at *
    generalize pat (fun _ => 51) k = m at *
    have e : (p * 256 + f 0) / 4 = (p / 4) * 256 + (p % 4 * 64 + f 0 / 4) := by omega
    rw [e, split_and _ _ _ _ (by omega) (by omega), split_and _ _ _ _ h0 (by omega), s2_low _ _ (by omega) h0, ← h]
    unfold b2
    omega
theorem low4 (k : Nat) (f : Nat → Nat) (h : ∀ x, f x % 16 ≤ 4) : pat f k % 16 ≤ 4 := by
  cases k with
  | zero => simp [pat]
  | succ k =>
    have := h 0
    rw [pat]
    omega
theorem s3 (k : Nat) : ∀ (f : Nat → Nat), (∀ x, f x % 16 ≤ 4 ∧ f x / 16 ≤ 4) → (pat f k / 16 + pat f k) &&& pat (fun _ => 15) k = pat (fun x => b3 (f x)) k := by
  induction k with
  | zero => intro f _; simp [pat]
  | succ k ih =>
    intro f hf
    have h := ih (fun x => f (x + 1)) (fun x => hf _)
    have h4 := low4 k (fun x => f (x + 1)) (fun x => (hf _).1)
    have h0 := hf 0
    rw [pat, pat, pat]
    generalize pat (fun x => f (x + 1)) k = p at *
    generalize pat (fun _ => 15) k = m at *
    have e : (p * 256 + f 0) / 16 + (p * 256 + f 0) = (p / 16 + p) * 256 + (p % 16 * 16 + (f 0 / 16 + f 0)) := by omega
    rw [e, split_and _ _ _ _ (by omega) (by omega), ← h]
    have e2 : (p % 16 * 16 + (f 0 / 16 + f 0)) &&& 15 = b3 (f 0) := by
      rw [nat_mask4]
      unfold b3
      omega
    rw [e2]
/-- the number of ones of a byte -/
def pop8 (l : Nat) : Nat := l % 2 + l / 2 % 2 + l / 4 % 2 + l / 8 % 2 + l / 16 % 2 + l / 32 % 2 + l / 64 % 2 + l / 128 % 2
theorem pop8_le (l : Nat) : pop8 l ≤ 8 := by unfold pop8; omega
theorem b_facts : ∀ l : Nat, l < 256 → b1 l < 256 ∧ b2 (b1 l) % 16 ≤ 4 ∧ b2 (b1 l) / 16 ≤ 4 ∧ b3 (b2 (b1 l)) = pop8 l := by
  have h : ∀ l : Fin 256, b1 l.val < 256 ∧ b2 (b1 l.val) % 16 ≤ 4 ∧ b2 (b1 l.val) / 16 ≤ 4 ∧ b3 (b2 (b1 l.val)) = pop8 l.val := by decide +kernel
  intro l hl
  exact h ⟨l, hl⟩
/-- what the first three steps make of a number -/
def m1 (x : Nat) : Nat := (x / 2 &&& 6148914691236517205) + (x &&& 6148914691236517205)
def m2 (x : Nat) : Nat := (x / 4 &&& 3689348814741910323) + (x &&& 3689348814741910323)
def m3 (x : Nat) : Nat := (x / 16 + x) &&& 1085102592571150095
theorem m1_pat (f : Nat → Nat) (hf : ∀ x, f x < 256) : m1 (pat f 8) = pat (fun x => b1 (f x)) 8 := s1 8 f hf
theorem m2_pat (f : Nat → Nat) (hf : ∀ x, f x < 256) : m2 (pat f 8) = pat (fun x => b2 (f x)) 8 := s2 8 f hf
theorem m3_pat (f : Nat → Nat) (hf : ∀ x, f x % 16 ≤ 4 ∧ f x / 16 ≤ 4) : m3 (pat f 8) = pat (fun x => b3 (f x)) 8 := s3 8 f hf
theorem m123_pat (f : Nat → Nat) (hf : ∀ x, f x < 256) : m3 (m2 (m1 (pat f 8))) = pat (fun x => pop8 (f x)) 8 := by
  rw [m1_pat f hf, m2_pat _ (fun x => (b_facts _ (hf x)).1), m3_pat _ (fun x => ⟨(b_facts _ (hf x)).2.1, (b_facts _ (hf x)).2.2.1⟩)]
  exact pat_congr 8 _ _ fun x _ => (b_facts _ (hf x)).2.2.2
/-- the sum of so many numbers -/
def sumN (f : Nat → Nat) : Nat → Nat
  | 0 => 0
  | k + 1 => sumN f k + f k
theorem sumN_le (f : Nat → Nat) (b : Nat) (h : ∀ x, f x ≤ b) : ∀ k, sumN f k ≤ k * b
  | 0 => by simp [sumN]
  | k + 1 => by
    have := sumN_le f b h k
    have := h k
    rw [sumN, Nat.succ_mul]
    omega
theorem sumN_congr (f g : Nat → Nat) : ∀ k, (∀ x, x < k → f x = g x) → sumN f k = sumN g k
  | 0, _ => rfl
  | k + 1, h => by rw [sumN, sumN, sumN_congr f g k (fun x hx => h x (by omega)), h k (by omega)]
/-- the last three steps -/
theorem fold_pat (f : Nat → Nat) (h : ∀ x, f x ≤ 8) :
    ∃ y1 y2 y3 : Nat, y1 = pat f 8 + pat f 8 / 256 ∧ y2 = y1 + y1 / 65536 ∧ y3 = y2 + y2 / 4294967296 ∧ y1 < 18446744073709551616 ∧ y2 < 18446744073709551616 ∧ y3 < 9223372036854775808 ∧ y3 % 128 = sumN f 8 := by
  have h0 := h 0
  have h1 := h 1
  have h2 := h 2
  have h3 := h 3
  have h4 := h 4
  have h5 := h 5
  have h6 := h 6
  have h7 := h 7
  refine ⟨_, _, _, rfl, rfl, rfl, ?_⟩
  simp only [pat, sumN, Nat.zero_add, Nat.zero_mul, Nat.reduceAdd]
  generalize f 0 = a0 at *
  generalize f 1 = a1 at *
  generalize f 2 = a2 at *
  generalize f 3 = a3 at *
  generalize f 4 = a4 at *
  generalize f 5 = a5 at *
  generalize f 6 = a6 at *
  generalize f 7 = a7 at *
  obtain ⟨x, hx⟩ : ∃ x, (((((((a7 * 256 + a6) * 256 + a5) * 256 + a4) * 256 + a3) * 256 + a2) * 256 + a1) * 256 + a0) = x := ⟨_, rfl⟩
  rw [hx]
  have q1 : x / 256 = ((((((a7 * 256 + a6) * 256 + a5) * 256 + a4) * 256 + a3) * 256 + a2) * 256 + a1) := by omega
  rw [q1]
  obtain ⟨y, hy⟩ : ∃ y, x + ((((((a7 * 256 + a6) * 256 + a5) * 256 + a4) * 256 + a3) * 256 + a2) * 256 + a1) = y := ⟨_, rfl⟩
  rw [hy]
  have q2 : y / 65536 = (((((a7 * 256 + (a6 + a7)) * 256 + (a5 + a6)) * 256 + (a4 + a5)) * 256 + (a3 + a4)) * 256 + (a2 + a3)) := by omega
  rw [q2]
  obtain ⟨z, hz⟩ : ∃ z, y + (((((a7 * 256 + (a6 + a7)) * 256 + (a5 + a6)) * 256 + (a4 + a5)) * 256 + (a3 + a4)) * 256 + (a2 + a3)) = z := ⟨_, rfl⟩
  rw [hz]
  have q3 : z / 4294967296 = (((a7 * 256 + (a6 + a7)) * 256 + (a5 + a6 + a7)) * 256 + (a4 + a5 + a6 + a7)) := by omega
  rw [q3]
  clear q1 q2 q3
  refine ⟨?_, ?_, ?_, ?_⟩ <;> omega

/-! ### sets as numbers -/
/-- the set of the numbers less than c for which P holds -/
def setB (P : Nat → Bool) : Nat → Nat
  | 0 => 0
  | c + 1 => setB P c + (if P c then 2 ^ c else 0)
theorem setB_lt (P : Nat → Bool) : ∀ c, setB P c < 2 ^ c
  | 0 => by simp [setB]
  | c + 1 => by
    have := setB_lt P c
    rw [setB, Nat.pow_succ]
    split <;> omega
theorem setB_lt8 (P : Nat → Bool) (c : Nat) (h : c ≤ 8) : setB P c < 256 :=
  Nat.lt_of_lt_of_le (setB_lt P c) (Nat.pow_le_pow_right (by decide) h)
theorem setB_or (P : Nat → Bool) (c : Nat) : setB P c ||| (if P c then 2 ^ c else 0) = setB P (c + 1) := by
  rw [setB]
  have := setB_lt P c
  split
  · rw [Nat.or_comm, Nat.add_comm]
    have h := Nat.two_pow_add_eq_or_of_lt this 1
    rw [Nat.mul_one] at h
    exact h.symm
  · simp
theorem setB_bit (P : Nat → Bool) (i : Nat) : ∀ c, (setB P c).testBit i = (decide (i < c) && P i)
  | 0 => by simp [setB]
  | c + 1 => by
    rw [← setB_or, Nat.testBit_or, setB_bit P i c]
    by_cases h : i = c
    · subst h
      cases hp : P i <;> simp
    · have h2 : (if P c then 2 ^ c else 0).testBit i = false := by
        split
        · rw [Nat.testBit_two_pow]; simp; omega
        · simp
      rw [h2, Bool.or_false]
      congr 1
      rw [decide_eq_decide]
      omega
theorem pop8_bits (n : Nat) (h : n < 256) : pop8 n = sumN (fun i => (n.testBit i).toNat) 8 := by
  have hh : ∀ l : Fin 256, pop8 l.val = sumN (fun i => (l.val.testBit i).toNat) 8 := by decide +kernel
  exact hh ⟨n, h⟩
theorem bit_high (n i : Nat) (h : n < 256) (hi : 8 ≤ i) : n.testBit i = false :=
  Nat.testBit_lt_two_pow (Nat.lt_of_lt_of_le h (Nat.pow_le_pow_right (n := 2) (by decide) hi))
theorem bit_beyond (n i c : Nat) (h : n < 2 ^ c) (hi : c ≤ i) : n.testBit i = false :=
  Nat.testBit_lt_two_pow (Nat.lt_of_lt_of_le h (Nat.pow_le_pow_right (n := 2) (by decide) hi))
end Go.Proofs.YtbccachkkflceaaDoor.Pat
