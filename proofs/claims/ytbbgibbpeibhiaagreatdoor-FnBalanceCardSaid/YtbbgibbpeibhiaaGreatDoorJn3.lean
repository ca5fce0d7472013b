/-
  Texts of one seat, joined: Pat, Rect, Read, ReadN.
-/
import Derived.Test.YtbbgibbpeibhiaaGreatDoorJn1
import Derived.Laws.BitsAllLaws
import Derived.Test.YtbbgibbpeibhiaaGreatDoorRows
import Derived.WalkKit
import Derived.WalkSpells
import Derived.Lib.Hide
import Derived.Handy
import Derived.Outline
import Derived.Deep.QuietTactic
import Derived.BigQuiet
import Derived.Test.YtbbgibbpeibhiaaGreatDoorJn2
import Derived.Below
/-
  Plain facts on sets of entries as numbers: eight bytes, one for each row. Nothing of the program.
-/
namespace Go.Proofs.YtbbgibbpeibhiaaGreatDoor.Pat
open Go.RowKit Go.Proofs.YtbbgibbpeibhiaaGreatDoor.Plain

/-- the number whose bytes are f 0, f 1 .. -/
def pat (f : Nat → Nat) : Nat → Nat
  | 0 => 0
  | k + 1 => pat (fun x => f (x + 1)) k * 256 + f 0

theorem pat_lt (k : Nat) : ∀ (f : Nat → Nat), (∀ x, f x < 256) → pat f k < 256 ^ k := by
  induction k with
  | zero => intro f _; simp [pat]
  | succ k ih =>
    intro f h
    have h1 := ih (fun x => f (x + 1)) (fun x => h _)
    have h0 := h 0
    rw [pat, Nat.pow_succ]
    omega
theorem pat_congr (k : Nat) : ∀ (f g : Nat → Nat), (∀ x, x < k → f x = g x) → pat f k = pat g k := by
  induction k with
  | zero => intro f g _; rfl
  | succ k ih =>
    intro f g h
    rw [pat, pat, ih (fun x => f (x + 1)) (fun x => g (x + 1)) (fun x hx => h _ (by omega)), h 0 (by omega)]

theorem pat_mono (k : Nat) : ∀ (f g : Nat → Nat), (∀ x, f x ≤ g x) → pat f k ≤ pat g k := by
  induction k with
  | zero => intro f g _; exact Nat.le_refl _
  | succ k ih =>
    intro f g h
    have h1 := ih (fun x => f (x + 1)) (fun x => g (x + 1)) (fun x => h _)
    have h0 := h 0
    rw [pat, pat]
    omega

theorem split_bit (a b j : Nat) (hb : b < 256) : (a * 256 + b).testBit j = if j < 8 then b.testBit j else a.testBit (j - 8) := by
  rw [show a * 256 = 2 ^ 8 * a by omega]
  exact Nat.testBit_two_pow_mul_add a hb j
theorem split_and (h l H L : Nat) (hl : l < 256) (hL : L < 256) : (h * 256 + l) &&& (H * 256 + L) = (h &&& H) * 256 + (l &&& L) := by
  apply Nat.eq_of_testBit_eq
  intro j
  have hlt : l &&& L < 256 := Nat.and_lt_two_pow (n := 8) l hL
  rw [Nat.testBit_and, split_bit _ _ _ hl, split_bit _ _ _ hL, split_bit _ _ _ hlt]
  split <;> rw [Nat.testBit_and]
theorem split_or (h l H L : Nat) (hl : l < 256) (hL : L < 256) : (h * 256 + l) ||| (H * 256 + L) = (h ||| H) * 256 + (l ||| L) := by
  apply Nat.eq_of_testBit_eq
  intro j
  have hlt : l ||| L < 256 := Nat.or_lt_two_pow (n := 8) hl hL
  rw [Nat.testBit_or, split_bit _ _ _ hl, split_bit _ _ _ hL, split_bit _ _ _ hlt]
  split <;> rw [Nat.testBit_or]
theorem pat_and (k : Nat) : ∀ (f g : Nat → Nat), (∀ x, f x < 256) → (∀ x, g x < 256) → pat f k &&& pat g k = pat (fun x => f x &&& g x) k := by
  induction k with
  | zero => intro f g _ _; simp [pat]
  | succ k ih =>
    intro f g hf hg
    rw [pat, pat, pat, split_and _ _ _ _ (hf 0) (hg 0), ih _ _ (fun x => hf _) (fun x => hg _)]
theorem pat_or (k : Nat) : ∀ (f g : Nat → Nat), (∀ x, f x < 256) → (∀ x, g x < 256) → pat f k ||| pat g k = pat (fun x => f x ||| g x) k := by
  induction k with
  | zero => intro f g _ _; simp [pat]
  | succ k ih =>
    intro f g hf hg
    rw [pat, pat, pat, split_or _ _ _ _ (hf 0) (hg 0), ih _ _ (fun x => hf _) (fun x => hg _)]
theorem pat_not (k : Nat) : ∀ (f : Nat → Nat), (∀ x, f x < 256) → 256 ^ k - 1 - pat f k = pat (fun x => 255 - f x) k := by
  induction k with
  | zero => intro f _; simp [pat]
  | succ k ih =>
    intro f hf
    have h := ih (fun x => f (x + 1)) (fun x => hf _)
    have hlt := pat_lt k (fun x => f (x + 1)) (fun x => hf _)
    have h0 := hf 0
    rw [pat, pat, ← h, Nat.pow_succ]
    omega
theorem pat_zero (k : Nat) : ∀ (f : Nat → Nat), pat f k = 0 ↔ ∀ x, x < k → f x = 0 := by
  induction k with
  | zero => intro f; simp [pat]
  | succ k ih =>
    intro f
    rw [pat]
    constructor
    · intro h x hx
      cases x with
      | zero => omega
      | succ x => exact (ih (fun x => f (x + 1))).1 (by omega) x (by omega)
    · intro h
      rw [(ih (fun x => f (x + 1))).2 (fun x hx => h _ (by omega)), h 0 (by omega)]
/-- one byte at its place -/
theorem pat_one (x c : Nat) (hx : x < 8) : pat (fun j => if j = x then c else 0) 8 = c * 2 ^ (x * 8) := by
  have h : x = 0 ∨ x = 1 ∨ x = 2 ∨ x = 3 ∨ x = 4 ∨ x = 5 ∨ x = 6 ∨ x = 7 := by omega
  rcases h with rfl | rfl | rfl | rfl | rfl | rfl | rfl | rfl <;> simp [pat] <;> omega
theorem pat_none (k : Nat) : pat (fun _ => 0) k = 0 := (pat_zero k _).2 fun _ _ => rfl
theorem pat64 (f : Nat → Nat) (h : ∀ x, f x < 256) : pat f 8 < 18446744073709551616 := pat_lt 8 f h

/-! ### the number of ones -/
theorem s1_low : ∀ b l : Nat, b < 2 → l < 256 → (b * 128 + l / 2) &&& 85 = (l / 2 &&& 85) := by
  have h : ∀ b : Fin 2, ∀ l : Fin 256, (b.val * 128 + l.val / 2) &&& 85 = (l.val / 2 &&& 85) := by decide +kernel
  intro b l hb hl
  exact h ⟨b, hb⟩ ⟨l, hl⟩
theorem s2_low : ∀ b l : Nat, b < 4 → l < 256 → (b * 64 + l / 4) &&& 51 = (l / 4 &&& 51) := by
  have h : ∀ b : Fin 4, ∀ l : Fin 256, (b.val * 64 + l.val / 4) &&& 51 = (l.val / 4 &&& 51) := by decide +kernel
  intro b l hb hl
  exact h ⟨b, hb⟩ ⟨l, hl⟩
def b1 (l : Nat) : Nat := (l / 2 &&& 85) + (l &&& 85)
def b2 (l : Nat) : Nat := (l / 4 &&& 51) + (l &&& 51)
def b3 (l : Nat) : Nat := (l / 16 + l) % 16
theorem s1 (k : Nat) : ∀ (f : Nat → Nat), (∀ x, f x < 256) → (pat f k / 2 &&& pat (fun _ => 85) k) + (pat f k &&& pat (fun _ => 85) k) = pat (fun x => b1 (f x)) k := by
  induction k with
  | zero => intro f _; simp [pat]
  | succ k ih =>
    intro f hf
    have h := ih (fun x => f (x + 1)) (fun x => hf _)
    have h0 := hf 0
    rw [pat, pat, pat]
    generalize pat (fun x => f (x + 1)) k = p at *
    generalize pat (fun _ => 85) k = m at *
    have e : (p * 256 + f 0) / 2 = (p / 2) * 256 + (p % 2 * 128 + f 0 / 2) := by omega
    rw [e, split_and _ _ _ _ (by omega) (by omega), split_and _ _ _ _ h0 (by omega), s1_low _ _ (by omega) h0, ← h]
    unfold b1
    omega
theorem s2 (k : Nat) : ∀ (f : Nat → Nat), (∀ x, f x < 256) → (pat f k / 4 &&& pat (fun _ => 51) k) + (pat f k &&& pat (fun _ => 51) k) = pat (fun x => b2 (f x)) k := by
  induction k with
  | zero => intro f _; simp [pat]
  | succ k ih =>
    intro f hf
    have h := ih (fun x => f (x + 1)) (fun x => hf _)
    have h0 := hf 0
    rw [pat, pat, pat]
    generalize pat (fun x => f (x + 1)) k = p at *
    generalize pat (fun _ => 51) k = m at *
    have e : (p * 256 + f 0) / 4 = (p / 4) * 256 + (p % 4 * 64 + f 0 / 4) := by omega
    rw [e, split_and _ _ _ _ (by omega) (by omega), split_and _ _ _ _ h0 (by omega), s2_low _ _ (by omega) h0, ← h]
    unfold b2
    omega
theorem low4 (k : Nat) (f : Nat → Nat) (h : ∀ x, f x % 16 ≤ 4) : pat f k % 16 ≤ 4 := by
  cases k with
  | zero => simp [pat]
  | succ k =>
    have := h 0
    rw [pat]
    omega
theorem s3 (k : Nat) : ∀ (f : Nat → Nat), (∀ x, f x % 16 ≤ 4 ∧ f x / 16 ≤ 4) → (pat f k / 16 + pat f k) &&& pat (fun _ => 15) k = pat (fun x => b3 (f x)) k := by
  induction k with
  | zero => intro f _; simp [pat]
  | succ k ih =>
    intro f hf
    have h := ih (fun x => f (x + 1)) (fun x => hf _)
    have h4 := low4 k (fun x => f (x + 1)) (fun x => (hf _).1)
    have h0 := hf 0
    rw [pat, pat, pat]
    generalize pat (fun x => f (x + 1)) k = p at *
    generalize pat (fun _ => 15) k = m at *
    have e : (p * 256 + f 0) / 16 + (p * 256 + f 0) = (p / 16 + p) * 256 + (p % 16 * 16 + (f 0 / 16 + f 0)) := by omega
    rw [e, split_and _ _ _ _ (by omega) (by omega), ← h]
    have e2 : (p % 16 * 16 + (f 0 / 16 + f 0)) &&& 15 = b3 (f 0) := by
      rw [nat_mask4]
      unfold b3
      omega
    rw [e2]
/-- the number of ones of a byte -/
def pop8 (l : Nat) : Nat := l % 2 + l / 2 % 2 + l / 4 % 2 + l / 8 % 2 + l / 16 % 2 + l / 32 % 2 + l / 64 % 2 + l / 128 % 2
theorem pop8_le (l : Nat) : pop8 l ≤ 8 := by unfold pop8; omega
theorem b_facts : ∀ l : Nat, l < 256 → b1 l < 256 ∧ b2 (b1 l) % 16 ≤ 4 ∧ b2 (b1 l) / 16 ≤ 4 ∧ b3 (b2 (b1 l)) = pop8 l := by
  have h : ∀ l : Fin 256, b1 l.val < 256 ∧ b2 (b1 l.val) % 16 ≤ 4 ∧ b2 (b1 l.val) / 16 ≤ 4 ∧ b3 (b2 (b1 l.val)) = pop8 l.val := by decide +kernel
  intro l hl
  exact h ⟨l, hl⟩
/-- what the first three steps make of a number -/
def m1 (x : Nat) : Nat := (x / 2 &&& 6148914691236517205) + (x &&& 6148914691236517205)
def m2 (x : Nat) : Nat := (x / 4 &&& 3689348814741910323) + (x &&& 3689348814741910323)
def m3 (x : Nat) : Nat := (x / 16 + x) &&& 1085102592571150095
theorem m1_pat (f : Nat → Nat) (hf : ∀ x, f x < 256) : m1 (pat f 8) = pat (fun x => b1 (f x)) 8 := s1 8 f hf
theorem m2_pat (f : Nat → Nat) (hf : ∀ x, f x < 256) : m2 (pat f 8) = pat (fun x => b2 (f x)) 8 := s2 8 f hf
theorem m3_pat (f : Nat → Nat) (hf : ∀ x, f x % 16 ≤ 4 ∧ f x / 16 ≤ 4) : m3 (pat f 8) = pat (fun x => b3 (f x)) 8 := s3 8 f hf
theorem m123_pat (f : Nat → Nat) (hf : ∀ x, f x < 256) : m3 (m2 (m1 (pat f 8))) = pat (fun x => pop8 (f x)) 8 := by
  rw [m1_pat f hf, m2_pat _ (fun x => (b_facts _ (hf x)).1), m3_pat _ (fun x => ⟨(b_facts _ (hf x)).2.1, (b_facts _ (hf x)).2.2.1⟩)]
  exact pat_congr 8 _ _ fun x _ => (b_facts _ (hf x)).2.2.2
/-- the sum of so many numbers -/
def sumN (f : Nat → Nat) : Nat → Nat
  | 0 => 0
  | k + 1 => sumN f k + f k
theorem sumN_le (f : Nat → Nat) (b : Nat) (h : ∀ x, f x ≤ b) : ∀ k, sumN f k ≤ k * b
  | 0 => by simp [sumN]
  | k + 1 => by
    have := sumN_le f b h k
    have := h k
    rw [sumN, Nat.succ_mul]
    omega
theorem sumN_congr (f g : Nat → Nat) : ∀ k, (∀ x, x < k → f x = g x) → sumN f k = sumN g k
  | 0, _ => rfl
  | k + 1, h => by rw [sumN, sumN, sumN_congr f g k (fun x hx => h x (by omega)), h k (by omega)]
/-- the last three steps -/
theorem fold_pat (f : Nat → Nat) (h : ∀ x, f x ≤ 8) :
    ∃ y1 y2 y3 : Nat, y1 = pat f 8 + pat f 8 / 256 ∧ y2 = y1 + y1 / 65536 ∧ y3 = y2 + y2 / 4294967296 ∧ y1 < 18446744073709551616 ∧ y2 < 18446744073709551616 ∧ y3 < 9223372036854775808 ∧ y3 % 128 = sumN f 8 := by
  have h0 := h 0
  have h1 := h 1
  have h2 := h 2
  have h3 := h 3
  have h4 := h 4
  have h5 := h 5
  have h6 := h 6
  have h7 := h 7
  refine ⟨_, _, _, rfl, rfl, rfl, ?_⟩
  simp only [pat, sumN, Nat.zero_add, Nat.zero_mul, Nat.reduceAdd]
  generalize f 0 = a0 at *
  generalize f 1 = a1 at *
  generalize f 2 = a2 at *
  generalize f 3 = a3 at *
  generalize f 4 = a4 at *
  generalize f 5 = a5 at *
  generalize f 6 = a6 at *
  generalize f 7 = a7 at *
  obtain ⟨x, hx⟩ : ∃ x, (((((((a7 * 256 + a6) * 256 + a5) * 256 + a4) * 256 + a3) * 256 + a2) * 256 + a1) * 256 + a0) = x := ⟨_, rfl⟩
  rw [hx]
  have q1 : x / 256 = ((((((a7 * 256 + a6) * 256 + a5) * 256 + a4) * 256 + a3) * 256 + a2) * 256 + a1) := by omega
  rw [q1]
  obtain ⟨y, hy⟩ : ∃ y, x + ((((((a7 * 256 + a6) * 256 + a5) * 256 + a4) * 256 + a3) * 256 + a2) * 256 + a1) = y := ⟨_, rfl⟩
  rw [hy]
  have q2 : y / 65536 = (((((a7 * 256 + (a6 + a7)) * 256 + (a5 + a6)) * 256 + (a4 + a5)) * 256 + (a3 + a4)) * 256 + (a2 + a3)) := by omega
  rw [q2]
  obtain ⟨z, hz⟩ : ∃ z, y + (((((a7 * 256 + (a6 + a7)) * 256 + (a5 + a6)) * 256 + (a4 + a5)) * 256 + (a3 + a4)) * 256 + (a2 + a3)) = z := ⟨_, rfl⟩
  rw [hz]
  have q3 : z / 4294967296 = (((a7 * 256 + (a6 + a7)) * 256 + (a5 + a6 + a7)) * 256 + (a4 + a5 + a6 + a7)) := by omega
  rw [q3]
  clear q1 q2 q3
  refine ⟨?_, ?_, ?_, ?_⟩ <;> omega

/-! ### sets as numbers -/
/-- the set of the numbers less than c for which P holds -/
def setB (P : Nat → Bool) : Nat → Nat
  | 0 => 0
  | c + 1 => setB P c + (if P c then 2 ^ c else 0)
theorem setB_lt (P : Nat → Bool) : ∀ c, setB P c < 2 ^ c
  | 0 => by simp [setB]
  | c + 1 => by
    have := setB_lt P c
    rw [setB, Nat.pow_succ]
    split <;> omega
theorem setB_lt8 (P : Nat → Bool) (c : Nat) (h : c ≤ 8) : setB P c < 256 :=
  Nat.lt_of_lt_of_le (setB_lt P c) (Nat.pow_le_pow_right (by decide) h)
theorem setB_or (P : Nat → Bool) (c : Nat) : setB P c ||| (if P c then 2 ^ c else 0) = setB P (c + 1) := by
  rw [setB]
  have := setB_lt P c
  split
  · rw [Nat.or_comm, Nat.add_comm]
    have h := Nat.two_pow_add_eq_or_of_lt this 1
    rw [Nat.mul_one] at h
    exact h.symm
  · simp
theorem setB_bit (P : Nat → Bool) (i : Nat) : ∀ c, (setB P c).testBit i = (decide (i < c) && P i)
  | 0 => by simp [setB]
  | c + 1 => by
    rw [← setB_or, Nat.testBit_or, setB_bit P i c]
    by_cases h : i = c
    · subst h
      cases hp : P i <;> simp
    · have h2 : (if P c then 2 ^ c else 0).testBit i = false := by
        split
        · rw [Nat.testBit_two_pow]; simp; omega
        · simp
      rw [h2, Bool.or_false]
      congr 1
      rw [decide_eq_decide]
      omega
theorem pop8_bits (n : Nat) (h : n < 256) : pop8 n = sumN (fun i => (n.testBit i).toNat) 8 := by
  have hh : ∀ l : Fin 256, pop8 l.val = sumN (fun i => (l.val.testBit i).toNat) 8 := by decide +kernel
  exact hh ⟨n, h⟩
theorem bit_high (n i : Nat) (h : n < 256) (hi : 8 ≤ i) : n.testBit i = false :=
  Nat.testBit_lt_two_pow (Nat.lt_of_lt_of_le h (Nat.pow_le_pow_right (n := 2) (by decide) hi))
theorem bit_beyond (n i c : Nat) (h : n < 2 ^ c) (hi : c ≤ i) : n.testBit i = false :=
  Nat.testBit_lt_two_pow (Nat.lt_of_lt_of_le h (Nat.pow_le_pow_right (n := 2) (by decide) hi))
end Go.Proofs.YtbbgibbpeibhiaaGreatDoor.Pat

/-
  Contracts of the small functions on rectangles: l1In, l2Some, l2In, setValid, isRect, rectFrom, isIndex, inSet; toRect, eqRect.
-/
namespace Go.Proofs.YtbbgibbpeibhiaaGreatDoor.Rect
open Go.RowKit Go.Proofs.YtbbgibbpeibhiaaGreatDoor.Plain Go.Proofs.YtbbgibbpeibhiaaGreatDoor.Pat
set_option linter.unusedVariables false

/-- a rectangle as a value -/
abbrev rect (r c : Int) : Value := .agg #[.int .i64 r, .int .i64 c]

/-- what a callee leaves alone, one step more -/
theorem rstep {w a b : World} (h : Below w.heap.size w a) (h2 : Below a.heap.size a b) : Below w.heap.size w b := h.trans (h2.mono h.size)
theorem rstepA {w a : World} (h : Below w.heap.size w a) (o : Obj) : Below w.heap.size w (a.alloc o) := h.alloc h.size o

/-- two new blocks of two cells, behind a call that leaves them alone -/
theorem two_two {w w1 : World} {a b c d : Value} {T U : TypeId} (hb : Below ((w.alloc (.cells #[a, b] T)).alloc (.cells #[c, d] U)).heap.size ((w.alloc (.cells #[a, b] T)).alloc (.cells #[c, d] U)) w1) :
    w1.cell? ⟨w.heap.size, 0, none⟩ = some a ∧ w1.cell? ⟨w.heap.size, 1, none⟩ = some b ∧ w1.cell? ⟨w.heap.size + 1, 0, none⟩ = some c ∧ w1.cell? ⟨w.heap.size + 1, 1, none⟩ = some d ∧
      w1.frozen? ⟨w.heap.size, 0, none⟩ = false ∧ w1.frozen? ⟨w.heap.size, 1, none⟩ = false ∧ w.heap.size + 1 < w1.heap.size ∧ Below w.heap.size w w1 := by
  have hs : ((w.alloc (.cells #[a, b] T)).alloc (.cells #[c, d] U)).heap.size = w.heap.size + 2 := by simp
  refine ⟨?_, ?_, ?_, ?_, ?_, ?_, by have := hb.size; omega, ?_⟩
  · exact (hb.cell (p := ⟨w.heap.size, 0, none⟩) (by show w.heap.size < _; omega)).trans (by simp)
  · exact (hb.cell (p := ⟨w.heap.size, 1, none⟩) (by show w.heap.size < _; omega)).trans (by simp)
  · exact (hb.cell (p := ⟨w.heap.size + 1, 0, none⟩) (by show w.heap.size + 1 < _; omega)).trans (by simp)
  · exact (hb.cell (p := ⟨w.heap.size + 1, 1, none⟩) (by show w.heap.size + 1 < _; omega)).trans (by simp)
  · exact (hb.frozen (p := ⟨w.heap.size, 0, none⟩) (by show w.heap.size < _; omega)).trans (by simp)
  · exact (hb.frozen (p := ⟨w.heap.size, 1, none⟩) (by show w.heap.size < _; omega)).trans (by simp)
  · exact (((Below.refl w.heap.size w).alloc (Nat.le_refl _) _).alloc (by simp) _).trans (hb.mono (by omega))

/-- one box of two cells, behind a call that leaves it alone -/
theorem box2 {w w1 : World} {a b : Value} {T : TypeId} (hb : Below (w.alloc (.cells #[a, b] T)).heap.size (w.alloc (.cells #[a, b] T)) w1) :
    w1.cell? ⟨w.heap.size, 0, none⟩ = some a ∧ w1.cell? ⟨w.heap.size, 1, none⟩ = some b ∧ w.heap.size < w1.heap.size ∧ Hid (Below w.heap.size w w1) := by
  have hs : (w.alloc (.cells #[a, b] T)).heap.size = w.heap.size + 1 := by simp
  refine ⟨?_, ?_, by have := hb.size; omega, ?_⟩
  · exact (hb.cell (p := ⟨w.heap.size, 0, none⟩) (by show w.heap.size < _; omega)).trans (by simp)
  · exact (hb.cell (p := ⟨w.heap.size, 1, none⟩) (by show w.heap.size < _; omega)).trans (by simp)
  · exact ((Below.refl w.heap.size w).alloc (Nat.le_refl _) _).trans (hb.mono (by omega))
theorem two_on {w1 w2 : World} {g : Nat} {a b : Value} (hb : Below w1.heap.size w1 w2) (hg : g < w1.heap.size)
    (h0 : w1.cell? ⟨g, 0, none⟩ = some a) (h1 : w1.cell? ⟨g, 1, none⟩ = some b) : w2.cell? ⟨g, 0, none⟩ = some a ∧ w2.cell? ⟨g, 1, none⟩ = some b :=
  ⟨(hb.cell (p := ⟨g, 0, none⟩) hg).trans h0, (hb.cell (p := ⟨g, 1, none⟩) hg).trans h1⟩

set_option maxHeartbeats 400000 in
theorem in_any (n a b : Int) (w : World) :
    Calls Tryz.prog 38 #[.int .i64 n, .int .i64 a, .int .i64 b] w fun e w' => e = .returned (.bool (decide (a ≤ n ∧ n ≤ b))) ∧ w = w' := by
  by_cases h : a ≤ n
  · by_cases h2 : n ≤ b
    · rw [decide_eq_true ⟨h, h2⟩]
      go_enter Tryz.func38, Tryz.ntmps38
      go_wp2
      go_ret
      exact ⟨rfl, rfl⟩
    · rw [decide_eq_false (fun x => h2 x.2)]
      have h3 : b < n := by omega
      clear h2
      go_enter Tryz.func38, Tryz.ntmps38
      go_wp2
      go_ret
      exact ⟨by simp; omega, rfl⟩
  · rw [decide_eq_false (fun x => h x.1)]
    have h3 : n < a := by omega
    clear h
    go_enter Tryz.func38, Tryz.ntmps38
    go_wp2
    go_ret
    exact ⟨rfl, rfl⟩

/-- when both call two numbers a rectangle -/
def someB (r c : Int) : Bool := decide (1 ≤ r ∧ r ≤ 255) && decide (1 ≤ c ∧ c ≤ 255)
theorem someB_iff (r c : Int) : someB r c = true ↔ (1 ≤ r ∧ r ≤ 255) ∧ (1 ≤ c ∧ c ≤ 255) := by
  unfold someB
  rw [Bool.and_eq_true, decide_eq_true_iff, decide_eq_true_iff]

set_option maxHeartbeats 400000 in
theorem valid_any (s : Int) (c : Nat) (hc : c ≤ 8) (w : World) :
    Calls Tryz.prog 121 #[.int .i64 s, .int .i64 (c : Int)] w fun e w' => e = .returned (.bool (decide (1 ≤ s ∧ s ≤ 2 ^ c - 1))) ∧ w = w' := by
  have h : c = 0 ∨ c = 1 ∨ c = 2 ∨ c = 3 ∨ c = 4 ∨ c = 5 ∨ c = 6 ∨ c = 7 ∨ c = 8 := by omega
  by_cases h1 : 0 < s
  · obtain ⟨b, hb⟩ : ∃ b, decide (1 ≤ s ∧ s ≤ 2 ^ c - 1) = b := ⟨_, rfl⟩
    rw [hb]
    have HB := Lib.hid hb
    clear hb
    rcases h with rfl | rfl | rfl | rfl | rfl | rfl | rfl | rfl | rfl
    all_goals
      go_enter Tryz.func121, Tryz.ntmps121
      go_wp2
      go_ret
      refine ⟨congrArg (fun b => Ending.returned (Value.bool b)) (Eq.trans ?_ HB.out), rfl⟩
      rw [decide_eq_decide]
      omega
  · rw [decide_eq_false (by omega)]
    have h3 : s ≤ 0 := by omega
    clear h h1
    go_enter Tryz.func121, Tryz.ntmps121
    go_wp2
    go_ret
    exact ⟨rfl, rfl⟩

set_option maxHeartbeats 400000 in
theorem rect_any (r c : Int) (w : World) :
    Calls Tryz.prog 120 #[rect r c] w fun e w' => e = .returned (.bool (someB r c)) ∧ Below w.heap.size w w' := by
  unfold someB
  by_cases h : 1 ≤ r ∧ r ≤ 255
  · rw [decide_eq_true h, Bool.true_and]
    obtain ⟨b, hb⟩ : ∃ b, decide (1 ≤ c ∧ c ≤ 255) = b := ⟨_, rfl⟩
    rw [hb]
    have HB := Lib.hid hb
    have H := Lib.hid h
    clear h hb
    go_enter Tryz.func120, Tryz.ntmps120
    go_wp2_with fail
    refine (valid_any _ 8 (by omega) _).mono ?_
    rintro e w' ⟨rfl, rfl⟩
    rw [decide_eq_true (show 1 ≤ r ∧ r ≤ 2 ^ 8 - 1 from H.out)]
    go_wp2_with fail
    refine (valid_any _ 8 (by omega) _).mono ?_
    rintro e w' ⟨rfl, rfl⟩
    rw [show decide (1 ≤ c ∧ c ≤ 2 ^ 8 - 1) = b from HB.out]
    go_wp2_with fail
    go_ret
    exact ⟨rfl, by go_grown⟩
  · rw [decide_eq_false h, Bool.false_and]
    have H := Lib.hid h
    clear h
    go_enter Tryz.func120, Tryz.ntmps120
    go_wp2_with fail
    refine (valid_any _ 8 (by omega) _).mono ?_
    rintro e w' ⟨rfl, rfl⟩
    rw [decide_eq_false (show ¬ (1 ≤ r ∧ r ≤ 2 ^ 8 - 1) from H.out)]
    go_wp2_with fail
    go_ret
    exact ⟨rfl, by go_grown⟩


set_option maxHeartbeats 400000 in
theorem index_any (i : Int) (c : Int) (w : World) :
    Calls Tryz.prog 56 #[.int .i64 i, .int .i64 c] w fun e w' => e = .returned (.bool (decide (0 ≤ i ∧ i < c))) ∧ w = w' := by
  by_cases h : 0 ≤ i
  · by_cases h2 : i < c
    · rw [decide_eq_true ⟨h, h2⟩]
      go_enter Tryz.func56, Tryz.ntmps56
      go_wp2
      go_ret
      exact ⟨rfl, rfl⟩
    · rw [decide_eq_false (fun x => h2 x.2)]
      have h3 : c ≤ i := by omega
      clear h2
      go_enter Tryz.func56, Tryz.ntmps56
      go_wp2
      go_ret
      exact ⟨by simp; omega, rfl⟩
  · rw [decide_eq_false (fun x => h x.1)]
    have h3 : i < 0 := by omega
    clear h
    go_enter Tryz.func56, Tryz.ntmps56
    go_wp2
    go_ret
    exact ⟨rfl, rfl⟩

theorem bit_test (s i : Nat) (hs : s < 256) (hi : i < 8) : (Go.bits .and .i64 ((s : Int) / 2 ^ i) 1 == 1) = s.testBit i := by
  have h : ∀ k : Fin 256, ∀ j : Fin 8, (Go.bits .and .i64 (((k.val : Nat) : Int) / 2 ^ j.val) 1 == 1) = k.val.testBit j.val := by decide +kernel
  exact h ⟨s, hs⟩ ⟨i, hi⟩

set_option maxHeartbeats 400000 in
theorem inSet_yes (s i : Nat) (hs : s < 256) (hi : i < 8) (w : World) :
    Calls Tryz.prog 55 #[.int .i64 (s : Int), .int .i64 (i : Int)] w fun e w' => e = .returned (.bool (s.testBit i)) ∧ w = w' := by
  have HB := Lib.hid (bit_test s i hs hi)
  go_enter Tryz.func55, Tryz.ntmps55
  go_wp2_with fail
  refine (index_any _ _ _).mono ?_
  rintro e w' ⟨rfl, rfl⟩
  rw [decide_eq_true (by omega)]
  go_wp2_with fail
  go_ret
  exact ⟨congrArg (fun b => Ending.returned (.bool b)) HB.out, rfl⟩
set_option maxHeartbeats 400000 in
theorem inSet_no (s i : Int) (hi : i < 0 ∨ 8 ≤ i) (w : World) :
    Calls Tryz.prog 55 #[.int .i64 s, .int .i64 i] w fun e w' => e = .returned (.bool false) ∧ w = w' := by
  have HI := Lib.hid hi
  clear hi
  go_enter Tryz.func55, Tryz.ntmps55
  go_wp2_with fail
  refine (index_any _ _ _).mono ?_
  rintro e w' ⟨rfl, rfl⟩
  rw [decide_eq_false (by have := HI.out; omega)]
  go_wp2_with fail
  go_ret
  exact ⟨rfl, rfl⟩

end Go.Proofs.YtbbgibbpeibhiaaGreatDoor.Rect

/-
  The program's reading of a protocol: a tree of nodes, where there is one.
-/
namespace Go.Proofs.YtbbgibbpeibhiaaGreatDoor.Read
open Go.RowKit Go.Shelf Go.Proofs.YtbbgibbpeibhiaaGreatDoor.Plain Go.Proofs.YtbbgibbpeibhiaaGreatDoor.Tree Go.Proofs.YtbbgibbpeibhiaaGreatDoor.Hex Go.Proofs.YtbbgibbpeibhiaaGreatDoor.Rect
set_option linter.unusedVariables false

theorem drawn_at (w : World) (q : Nat) : Below w.heap.size w (w.drewN q) := ⟨rfl, rfl, rfl, Nat.le_refl _, fun _ _ => rfl⟩
/-- a node as a value -/
def sayV (a : Bool) (s : Int) (z o : Value) : Value := .iface 81 (.agg #[.int .u8 ((whoB a).toNat : Int), .int .i64 s, z, o])
def leafV (b : Bool) : Value := .iface 61 (.int .i64 (bitI b))
/-- a protocol as a value -/
def tree : T → Value
  | .leaf b => leafV b
  | .say a s z o => sayV a s (tree z) (tree o)
theorem tree_iface (t : T) : ∃ ty v, tree t = .iface ty v := by
  cases t
  · exact ⟨_, _, rfl⟩
  · exact ⟨_, _, rfl⟩

theorem index_byte (s : ByteArray) (c : Int) (w : World) :
    Calls Tryz.prog 66 #[.string s, .int .u8 c] w fun e w' => e = .returned (.int .i64 (Lib.indexByte s.data.toList c.toNat.toUInt8)) ∧ w' = w :=
  Any.strings_IndexByte Tryz.lays137 s c w
theorem index_hex (c : UInt8) (w : World) :
    Calls Tryz.prog 66 #[.string ⟨#[48, 49, 50, 51, 52, 53, 54, 55, 56, 57, 97, 98, 99, 100, 101, 102]⟩, .int .u8 (c.toNat : Int)] w fun e w' => e = .returned (.int .i64 (hexV c)) ∧ w = w' := by
  refine (index_byte _ _ w).mono ?_
  rintro e w' ⟨rfl, rfl⟩
  refine ⟨?_, rfl⟩
  have e : ((c.toNat : Int)).toNat.toUInt8 = c := by simp
  rw [e]
  rfl

set_option maxHeartbeats 400000 in
/-- the number that two digits tell -/
theorem set_w (q : ByteArray) (x y : UInt8) (hq : q.data.toList = [x, y]) (w : World) :
    Calls Tryz.prog 57 #[.string q] w fun e w' => e = .returned (.tuple #[.int .i64 (16 * hexV x + hexV y), .bool (decide (0 ≤ hexV x) && decide (0 ≤ hexV y))]) ∧ w = w' := by
  have hl : q.size = 2 := by have := congrArg List.length hq; simpa using this
  obtain ⟨h0, hx⟩ := at_drop (k := 0) (show q.data.toList.drop 0 = x :: [y] from hq)
  obtain ⟨h1, hy⟩ := at_drop (k := 1) (c := y) (r := []) (show q.data.toList.drop 1 = y :: [] by rw [hq]; rfl)
  have HX : Hid (∀ W, Calls Tryz.prog 66 #[.string ⟨#[48, 49, 50, 51, 52, 53, 54, 55, 56, 57, 97, 98, 99, 100, 101, 102]⟩, .int .u8 ((q[0]'h0).toNat : Int)] W fun e w' => e = .returned (.int .i64 (hexV x)) ∧ W = w') := fun W => by rw [hx]; exact index_hex x W
  have HY : Hid (∀ W, Calls Tryz.prog 66 #[.string ⟨#[48, 49, 50, 51, 52, 53, 54, 55, 56, 57, 97, 98, 99, 100, 101, 102]⟩, .int .u8 ((q[1]'h1).toNat : Int)] W fun e w' => e = .returned (.int .i64 (hexV y)) ∧ W = w') := fun W => by rw [hy]; exact index_hex y W
  have gx := hexV_ge x
  have gy := hexV_ge y
  have lx : hexV x < 16 := idx_hi x
  have ly : hexV y < 16 := idx_hi y
  generalize hexV x = a at *
  generalize hexV y = b at *
  clear hq hx hy
  by_cases ha : 0 ≤ a <;> by_cases hb : 0 ≤ b
  all_goals
    simp only [ha, hb, decide_true, decide_false, Bool.and_true, Bool.and_false]
    go_enter Tryz.func57, Tryz.ntmps57
    go_wp2_with fail
    refine (HX.out _).mono ?_
    rintro e w' ⟨rfl, rfl⟩
    go_wp2_with fail
    refine (HY.out _).mono ?_
    rintro e w' ⟨rfl, rfl⟩
    go_wp2_with fail
    go_returns
    exact ⟨by first | rfl | (simp; omega), rfl⟩

theorem eq_str {q : ByteArray} {r : List UInt8} (h : q.data.toList = r) : q = str r := by
  apply ByteArray.ext
  apply Array.ext'
  simp only [str]
  exact h
theorem data_extract (s : ByteArray) (i j : Nat) : (s.extract i j).data.toList = (s.data.toList.drop i).take (j - i) := by
  simp [ByteArray.data_extract, List.extract_eq_take_drop]
theorem extract_rest (s : ByteArray) (i : Nat) {r : List UInt8} (h : s.data.toList.drop i = r) : s.extract i s.size = str r := by
  apply eq_str
  rw [data_extract, h]
  apply List.take_of_length_le
  rw [← h]
  simp
theorem not_empty {s : ByteArray} (h : 0 < s.size) : s.toList.isEmpty = false := by
  rw [ByteArray.toList_eq]
  cases hl : s.data.toList with
  | nil =>
    have h2 : s.data.toList.length = 0 := by rw [hl]; rfl
    have h3 : s.data.toList.length = s.size := by simp
    omega
  | cons a l => rfl
theorem is_index (i : Int) (b : Bool) (h : decide (0 ≤ i ∧ i < 2) = b) (w : World) : Calls Tryz.prog 56 #[.int .i64 i, .int .i64 2] w fun e w' => e = .returned (.bool b) ∧ w = w' := by
  rw [← h]
  exact index_any i 2 w

set_option maxHeartbeats 2000000 in
set_option maxRecDepth 100000 in
theorem read_yes (t : T) : wf t → ∀ (s : ByteArray) (hs : s.size ≤ 1048576) (r : List UInt8) (h : s.data.toList = text t ++ r) (w : World),
    Calls Tryz.prog 45 #[.string s, .int .i64 2] w fun e w' => e = .returned (.tuple #[tree t, .string (str r)]) ∧ Below w.heap.size w w' := by
  induction t with
  | leaf b =>
    intro hw s hs r h w
    obtain ⟨hk, hx⟩ := at_drop (k := 0) (show s.data.toList.drop 0 = dig b :: r from h)
    have hr : s.extract 1 s.size = str r := extract_rest s 1 (by rw [h]; rfl)
    have hn : (s[0]'hk).toNat = (dig b).toNat := by rw [hx]
    have he := not_empty hk
    have HN := Lib.hid hn
    clear hx h hn
    cases b
    · have hn : (s[0]'hk).toNat = 48 := HN.out
      have HI : Hid (∀ W, Calls Tryz.prog 56 #[.int .i64 0, .int .i64 2] W fun e w' => e = .returned (.bool true) ∧ W = w') := is_index 0 true (by decide)
      clear HN
      go_enter Tryz.func45, Tryz.ntmps45
      go_wp2_with fail
      refine (HI.out _).mono ?_
      rintro e w' ⟨rfl, rfl⟩
      go_wp2_with fail
      go_quiet (fail)
      go_wp2_with fail
      go_returns
      exact ⟨by rw [← hr]; rfl, drawn_at _ _⟩
    · have hn : (s[0]'hk).toNat = 49 := HN.out
      have HI : Hid (∀ W, Calls Tryz.prog 56 #[.int .i64 1, .int .i64 2] W fun e w' => e = .returned (.bool true) ∧ W = w') := is_index 1 true (by decide)
      clear HN
      go_enter Tryz.func45, Tryz.ntmps45
      go_wp2_with fail
      refine (HI.out _).mono ?_
      rintro e w' ⟨rfl, rfl⟩
      go_wp2_with fail
      go_quiet (fail)
      go_wp2_with fail
      go_returns
      exact ⟨by rw [← hr]; rfl, drawn_at _ _⟩
  | say a v z o ihz iho =>
    intro hw s hs r h w
    have h0 : s.data.toList = [whoB a, hexD (v / 16), hexD (v % 16)] ++ (text z ++ (text o ++ r)) := by rw [h]; simp [text]
    obtain ⟨hk, hx⟩ := at_drop (k := 0) (show s.data.toList.drop 0 = whoB a :: (hexD (v / 16) :: (hexD (v % 16) :: (text z ++ (text o ++ r)))) from h0)
    have hl : 3 + (text z ++ (text o ++ r)).length = s.size := by have := congrArg List.length h0; simp at this ⊢; omega
    have hz : s.extract 3 s.size = str (text z ++ (text o ++ r)) := extract_rest s 3 (by rw [h0]; rfl)
    have hq : (s.extract 1 3).data.toList = [hexD (v / 16), hexD (v % 16)] := by rw [data_extract, h0]; rfl
    have hv : v < 256 := hw.1
    have HS : Hid (∀ W, Calls Tryz.prog 57 #[.string (s.extract 1 3)] W fun e w' => e = .returned (.tuple #[.int .i64 (v : Int), .bool true]) ∧ W = w') := fun W => by
      have h := set_w _ _ _ hq W
      rw [set_hex v hv, hexV_D _ (by omega), hexV_D _ (by omega)] at h
      refine h.mono ?_
      rintro e w' ⟨rfl, rfl⟩
      refine ⟨?_, rfl⟩
      congr 3
    have HZ : Hid (∀ W, Calls Tryz.prog 45 #[.string (s.extract 3 s.size), .int .i64 2] W fun e w' => e = .returned (.tuple #[tree z, .string (str (text o ++ r))]) ∧ Below W.heap.size W w') := fun W => by
      rw [hz]
      exact ihz hw.2.1 _ (by rw [str_size]; omega) _ rfl W
    have HO : Hid (∀ W, Calls Tryz.prog 45 #[.string (str (text o ++ r)), .int .i64 2] W fun e w' => e = .returned (.tuple #[tree o, .string (str r)]) ∧ Below W.heap.size W w') := fun W => by
      exact iho hw.2.2 _ (by rw [str_size]; simp at hl ⊢; omega) _ rfl W
    have hn : (s[0]'hk).toNat = (whoB a).toNat := by rw [hx]
    have he := not_empty hk
    have HN := Lib.hid hn
    have hl3 : 3 ≤ s.size := by omega
    obtain ⟨tz, vz, ez⟩ := tree_iface z
    obtain ⟨to, vo, eo⟩ := tree_iface o
    have HT : Hid (tree (.say a v z o) = .iface 81 (.agg #[.int .u8 ((whoB a).toNat : Int), .int .i64 (v : Int), .iface tz vz, .iface to vo])) := by
      show tree (.say a v z o) = _
      simp only [tree, sayV, ez, eo]
    rw [ez] at HZ
    rw [eo] at HO
    generalize str (text o ++ r) = q1 at *
    generalize str r = q2 at *
    clear hx h h0 hn hl hz hq hv hw ihz iho ez eo
    cases a
    · have hn : (s[0]'hk).toNat = 66 := HN.out
      have HI : Hid (∀ W, Calls Tryz.prog 56 #[.int .i64 18, .int .i64 2] W fun e w' => e = .returned (.bool false) ∧ W = w') := is_index 18 false (by decide)
      clear HN
      go_enter Tryz.func45, Tryz.ntmps45
      go_wp2_with fail
      refine (HI.out _).mono ?_
      rintro e w' ⟨rfl, rfl⟩
      go_wp2_with fail
      refine (HS.out _).mono ?_
      rintro e w' ⟨rfl, rfl⟩
      go_wp2_with fail
      refine (HZ.out _).mono ?_
      rintro e w1 ⟨rfl, hb1⟩
      go_wp2_with fail
      refine (HO.out _).mono ?_
      rintro e w2 ⟨rfl, hb2⟩
      have HB := Lib.hid (hb1.trans (hb2.mono hb1.size))
      clear hb1 hb2
      go_wp2_with fail
      go_returns
      exact ⟨by rw [HT.out]; rfl, HB.out⟩
    · have hn : (s[0]'hk).toNat = 65 := HN.out
      have HI : Hid (∀ W, Calls Tryz.prog 56 #[.int .i64 17, .int .i64 2] W fun e w' => e = .returned (.bool false) ∧ W = w') := is_index 17 false (by decide)
      clear HN
      go_enter Tryz.func45, Tryz.ntmps45
      go_wp2_with fail
      refine (HI.out _).mono ?_
      rintro e w' ⟨rfl, rfl⟩
      go_wp2_with fail
      refine (HS.out _).mono ?_
      rintro e w' ⟨rfl, rfl⟩
      go_wp2_with fail
      refine (HZ.out _).mono ?_
      rintro e w1 ⟨rfl, hb1⟩
      go_wp2_with fail
      refine (HO.out _).mono ?_
      rintro e w2 ⟨rfl, hb2⟩
      have HB := Lib.hid (hb1.trans (hb2.mono hb1.size))
      clear hb1 hb2
      go_wp2_with fail
      go_returns
      exact ⟨by rw [HT.out]; rfl, HB.out⟩

theorem is_empty {s : ByteArray} (h : s.size = 0) : s.toList.isEmpty = true := by
  rw [ByteArray.toList_eq]
  cases hl : s.data.toList with
  | nil => rfl
  | cons a l =>
    have h2 : s.data.toList.length = s.size := by simp
    rw [hl, h] at h2
    cases h2

end Go.Proofs.YtbbgibbpeibhiaaGreatDoor.Read

/-
  The program's reading of a text at whose begin no protocol stands.
-/
namespace Go.Proofs.YtbbgibbpeibhiaaGreatDoor.Read
open Go.RowKit Go.Shelf Go.Proofs.YtbbgibbpeibhiaaGreatDoor.Plain Go.Proofs.YtbbgibbpeibhiaaGreatDoor.Tree Go.Proofs.YtbbgibbpeibhiaaGreatDoor.Hex Go.Proofs.YtbbgibbpeibhiaaGreatDoor.Rect
set_option linter.unusedVariables false

set_option maxHeartbeats 4000000 in
set_option maxRecDepth 100000 in
theorem read_no (n : Nat) : ∀ (s : ByteArray) (hs : s.size ≤ 1048576) (hn : s.size ≤ n) (h : No s.data.toList) (w : World),
    Calls Tryz.prog 45 #[.string s, .int .i64 2] w fun e w' => e = .returned (.tuple #[.nilIface, .string (str [])]) ∧ Below w.heap.size w w' := by
  induction n with
  | zero =>
    intro s hs hn h w
    have he := is_empty (s := s) (by omega)
    have hl3 : s.size = 0 := by omega
    clear h hn
    go_enter Tryz.func45, Tryz.ntmps45
    go_wp2_with fail
    go_returns
    exact ⟨rfl, by go_grown⟩
  | succ n ih =>
    intro s hs hn h w
    by_cases h0 : s.size = 0
    · have he := is_empty h0
      clear h hn ih
      go_enter Tryz.func45, Tryz.ntmps45
      go_wp2_with fail
      go_returns
      exact ⟨rfl, by go_grown⟩
    have hk : 0 < s.size := by omega
    have he := not_empty hk
    have hd : s.data.toList = s[0]'hk :: s.data.toList.drop 1 := at_drop' (k := 0) hk
    have hdig : (s[0]'hk) ≠ 48 ∧ (s[0]'hk) ≠ 49 := by rw [hd] at h; exact h.not_dig
    have n48 : ((s[0]'hk).toNat : Int) ≠ 48 := fun e => hdig.1 (UInt8.toNat_inj.1 (by show _ = 48; omega))
    have n49 : ((s[0]'hk).toNat : Int) ≠ 49 := fun e => hdig.2 (UInt8.toNat_inj.1 (by show _ = 49; omega))
    obtain ⟨x, hx⟩ : ∃ x : Nat, (s[0]'hk).toNat = x := ⟨_, rfl⟩
    have hx8 : x < 256 := by rw [← hx]; exact UInt8.toNat_lt _
    rw [hx] at n48 n49
    have HI : Hid (∀ W, Calls Tryz.prog 56 #[.int .i64 ((x : Int) - 48), .int .i64 2] W fun e w' => e = .returned (.bool false) ∧ W = w') := is_index _ false (decide_eq_false (by omega))
    by_cases hwho : ¬ ((s[0]'hk) = 65 ∨ (s[0]'hk) = 66)
    · have N65 : ((x : Int) != 65) = true := by
        have e65 : (((s[0]'hk).toNat : Int) == 65) = false := not_byte (n := 65) (fun e => hwho (.inl e))
        rw [hx] at e65
        rw [bne, e65]
        rfl
      have N66 : ((x : Int) != 66) = true := by
        have e66 : (((s[0]'hk).toNat : Int) == 66) = false := not_byte (n := 66) (fun e => hwho (.inr e))
        rw [hx] at e66
        rw [bne, e66]
        rfl
      clear h hn ih hd hdig hwho n48 n49
      by_cases hl3 : s.size < 3
      · clear N65 N66
        go_enter Tryz.func45, Tryz.ntmps45
        go_wp2_with fail
        refine (HI.out _).mono ?_
        rintro e w' ⟨rfl, rfl⟩
        go_wp2_with fail
        go_returns
        exact ⟨rfl, by go_grown⟩
      · replace hl3 : 3 ≤ s.size := by omega
        go_enter Tryz.func45, Tryz.ntmps45
        go_wp2_with fail
        refine (HI.out _).mono ?_
        rintro e w' ⟨rfl, rfl⟩
        go_wp2_with fail
        go_returns
        exact ⟨rfl, by go_grown⟩
    replace hwho := Classical.not_not.1 hwho
    by_cases hl3 : s.size < 3
    · clear h hn ih hd hdig hwho n48 n49
      go_enter Tryz.func45, Tryz.ntmps45
      go_wp2_with fail
      refine (HI.out _).mono ?_
      rintro e w' ⟨rfl, rfl⟩
      go_wp2_with fail
      go_returns
      exact ⟨rfl, by go_grown⟩
    replace hl3 : 3 ≤ s.size := by omega
    have hd1 := at_drop' (s := s) (k := 1) (by omega)
    have hd2 := at_drop' (s := s) (k := 2) (by omega)
    have hq : (s.extract 1 3).data.toList = [s[1]'(by omega), s[2]'(by omega)] := by rw [data_extract, hd1, hd2]; rfl
    have HS : Hid (∀ W, Calls Tryz.prog 57 #[.string (s.extract 1 3)] W fun e w' => e = .returned (.tuple #[.int .i64 (16 * hexV (s[1]'(by omega)) + hexV (s[2]'(by omega))), .bool (decide (0 ≤ hexV (s[1]'(by omega))) && decide (0 ≤ hexV (s[2]'(by omega))))]) ∧ W = w') := fun W => set_w _ _ _ hq W
    have hN : No (str []).data.toList := No.nil
    have HE : ∃ v0 q1 v1 q2, (∀ W : World, Calls Tryz.prog 45 #[.string (s.extract 3 s.size), .int .i64 2] W fun e w' => e = .returned (.tuple #[v0, .string q1]) ∧ Below W.heap.size W w') ∧
        (∀ W : World, Calls Tryz.prog 45 #[.string q1, .int .i64 2] W fun e w' => e = .returned (.tuple #[v1, .string q2]) ∧ Below W.heap.size W w') ∧
        ((decide (0 ≤ hexV (s[1]'(by omega))) && decide (0 ≤ hexV (s[2]'(by omega)))) = false ∨ v0 = .nilIface ∨ ((∃ ty v, v0 = .iface ty v) ∧ v1 = .nilIface)) := by
      rcases yes_or_no (s.data.toList.drop 3) with ⟨z, r1, hz, e1⟩ | hno
      · have hx := extract_rest s 3 e1
        have hlr : (text z).length + r1.length + 3 = s.size := by have := congrArg List.length e1; simp at this; omega
        rcases yes_or_no r1 with ⟨o, r2, ho, e2⟩ | hno2
        · refine ⟨tree z, str r1, tree o, str r2, fun W => ?_, fun W => ?_, .inl ?_⟩
          · rw [hx]; exact read_yes z hz _ (by rw [str_size, List.length_append]; omega) r1 rfl W
          · exact read_yes o ho _ (by rw [str_size]; omega) r2 e2 W
          · cases hb : (decide (0 ≤ hexV (s[1]'(by omega))) && decide (0 ≤ hexV (s[2]'(by omega)))) with
            | false => rfl
            | true =>
              exfalso
              rw [Bool.and_eq_true, decide_eq_true_iff, decide_eq_true_iff] at hb
              obtain ⟨a, ha⟩ := who_or _ hwho
              refine No.say (a := a) (x := s[1]'(by omega)) (y := s[2]'(by omega)) (z := z) (o := o) (r := r2) ?_ hb.1 hb.2 hz ho
              rw [← e2, ← e1, ← ha]
              rw [hd, hd1, hd2] at h
              exact h
        · refine ⟨tree z, str r1, .nilIface, str [], fun W => ?_, fun W => ?_, .inr (.inr ⟨tree_iface z, rfl⟩)⟩
          · rw [hx]; exact read_yes z hz _ (by rw [str_size, List.length_append]; omega) r1 rfl W
          · exact ih (str r1) (by rw [str_size]; omega) (by rw [str_size]; have := text_pos z; omega) hno2 W
      · have hx := extract_rest s 3 rfl
        refine ⟨.nilIface, str [], .nilIface, str [], fun W => ?_, fun W => ?_, .inr (.inl rfl)⟩
        · rw [hx]
          exact ih _ (by rw [str_size]; simp; omega) (by rw [str_size]; simp; omega) hno W
        · exact ih (str []) (by rw [str_size]; simp) (by rw [str_size]; simp) hN W
    obtain ⟨v0, q1, v1, q2, HZ, HO, hsh⟩ := HE
    replace HZ := Lib.hid HZ
    replace HO := Lib.hid HO
    have HW := Lib.hid hwho
    have hx2 : x = 65 ∨ x = 66 := by rcases HW.out with e | e <;> rw [← hx, e] <;> simp
    have hv : ∃ V : Int, 16 * hexV (s[1]'(by omega)) + hexV (s[2]'(by omega)) = V := ⟨_, rfl⟩
    obtain ⟨V, hV⟩ := hv
    rw [hV] at HS
    generalize (decide (0 ≤ hexV (s[1]'(by omega))) && decide (0 ≤ hexV (s[2]'(by omega)))) = ok at *
    clear h hn ih hd hdig hwho n48 n49 hd1 hd2 hq hN hV HW
    rcases hsh with rfl | rfl | ⟨⟨ty, v, rfl⟩, rfl⟩
    · rcases hx2 with rfl | rfl
      all_goals
        go_enter Tryz.func45, Tryz.ntmps45
        go_wp2_with fail
        refine (HI.out _).mono ?_
        rintro e w' ⟨rfl, rfl⟩
        go_wp2_with fail
        refine (HS.out _).mono ?_
        rintro e w' ⟨rfl, rfl⟩
        go_wp2_with fail
        refine (HZ.out _).mono ?_
        rintro e w1 ⟨rfl, hb1⟩
        go_wp2_with fail
        refine (HO.out _).mono ?_
        rintro e w2 ⟨rfl, hb2⟩
        have HB := Lib.hid (hb1.trans (hb2.mono hb1.size))
        clear hb1 hb2
        go_wp2_with fail
        go_returns
        exact ⟨rfl, HB.out⟩
    · cases ok
      all_goals
        rcases hx2 with rfl | rfl
        all_goals
          go_enter Tryz.func45, Tryz.ntmps45
          go_wp2_with fail
          refine (HI.out _).mono ?_
          rintro e w' ⟨rfl, rfl⟩
          go_wp2_with fail
          refine (HS.out _).mono ?_
          rintro e w' ⟨rfl, rfl⟩
          go_wp2_with fail
          refine (HZ.out _).mono ?_
          rintro e w1 ⟨rfl, hb1⟩
          go_wp2_with fail
          refine (HO.out _).mono ?_
          rintro e w2 ⟨rfl, hb2⟩
          have HB := Lib.hid (hb1.trans (hb2.mono hb1.size))
          clear hb1 hb2
          go_wp2_with fail
          go_returns
          exact ⟨rfl, HB.out⟩
    · cases ok
      all_goals
        rcases hx2 with rfl | rfl
        all_goals
          go_enter Tryz.func45, Tryz.ntmps45
          go_wp2_with fail
          refine (HI.out _).mono ?_
          rintro e w' ⟨rfl, rfl⟩
          go_wp2_with fail
          refine (HS.out _).mono ?_
          rintro e w' ⟨rfl, rfl⟩
          go_wp2_with fail
          refine (HZ.out _).mono ?_
          rintro e w1 ⟨rfl, hb1⟩
          go_wp2_with fail
          refine (HO.out _).mono ?_
          rintro e w2 ⟨rfl, hb2⟩
          have HB := Lib.hid (hb1.trans (hb2.mono hb1.size))
          clear hb1 hb2
          go_wp2_with fail
          go_returns
          exact ⟨rfl, HB.out⟩
end Go.Proofs.YtbbgibbpeibhiaaGreatDoor.Read

