/-
  Sets of entries as numbers, and what the ends of a value cover.
-/
import Derived.Test.YtodfeaelidpckaaMatT
import Derived.Test.YtodfeaelidpckaaPatch
import Derived.Test.YtodfeaelidpckaaFrom
namespace Go.Proofs.Ytodfeaelidpckaa.MatP
open Go.RowKit Go.Proofs.Ytodfeaelidpckaa.Plain Go.Proofs.Ytodfeaelidpckaa.Pat Go.Proofs.Ytodfeaelidpckaa.Patch Go.Proofs.Ytodfeaelidpckaa.Rect Go.Proofs.Ytodfeaelidpckaa.Tree Go.Proofs.Ytodfeaelidpckaa.TrimT Go.Proofs.Ytodfeaelidpckaa.Leaf Go.Proofs.Ytodfeaelidpckaa.Talk Go.Proofs.Ytodfeaelidpckaa.MatT
set_option linter.unusedVariables false

set_option maxHeartbeats 1000000 in
theorem part_any (p q : Nat) (hp : p < 18446744073709551616) (hq : q < 18446744073709551616) (w : World) :
    Calls Try.prog 54 #[.int .u64 (p : Int), .int .u64 (q : Int)] w fun e w' => e = .returned (.bool (decide (p &&& (18446744073709551615 - q) = 0))) ∧ w = w' := by
  have HO := u64_andNot_nat p q hp hq
  generalize p &&& (18446744073709551615 - q) = n at *
  obtain ⟨b, hb⟩ : ∃ b, ((n : Int) == 0) = b := ⟨_, rfl⟩
  have HB : Hid (b = decide (n = 0)) := by
    unfold Hid
    rw [← hb, Bool.eq_iff_iff, beq_iff_eq, decide_eq_true_iff]
    omega
  go_enter Try.func54, Try.ntmps54
  go_wp2_with fail
  go_ret
  exact ⟨by rw [← HB.out]; rfl, rfl⟩

theorem sub_byte (a b : Nat) (ha : a < 256) (hb : b < 256) : a &&& (255 - b) = 0 ↔ ∀ y, a.testBit y = true → b.testBit y = true := by
  have h255 : ∀ y, (255 - b).testBit y = (decide (y < 8) && !b.testBit y) := fun y => by
    have := Nat.testBit_two_pow_sub_succ (x := b) (n := 8) hb y
    rwa [show 2 ^ 8 - (b + 1) = 255 - b by omega] at this
  constructor
  · intro h y hy
    have h2 : (a &&& (255 - b)).testBit y = false := by rw [h]; simp
    rw [Nat.testBit_and, hy, Bool.true_and, h255] at h2
    have h8 : y < 8 := by
      rcases Nat.lt_or_ge y 8 with h8 | h8
      · exact h8
      · rw [bit_high a y ha h8] at hy; cases hy
    simpa [h8] using h2
  · intro h
    apply Nat.eq_of_testBit_eq
    intro y
    rw [Nat.testBit_and, h255, Nat.zero_testBit]
    cases hy : a.testBit y with
    | false => rfl
    | true => simp [h y hy]
theorem part_pat (f g : Nat → Nat) (hf : ∀ x, f x < 256) (hg : ∀ x, g x < 256) : pat f 8 &&& (18446744073709551615 - pat g 8) = 0 ↔ ∀ x, x < 8 → ∀ y, (f x).testBit y = true → (g x).testBit y = true := by
  have hn := pat_not 8 g hg
  rw [show 18446744073709551615 - pat g 8 = 256 ^ 8 - 1 - pat g 8 from rfl, hn, pat_and 8 f _ hf (fun x => by have := hg x; omega), pat_zero]
  constructor
  · intro h x hx
    exact (sub_byte _ _ (hf x) (hg x)).1 (h x hx)
  · intro h x hx
    exact (sub_byte _ _ (hf x) (hg x)).2 (h x hx)
theorem below_same {P : Program} {f : FuncId} {args : Array Value} {v : Value} (h : ∀ w, Calls P f args w fun e w' => e = .returned v ∧ w = w') (w : World) : Calls P f args w fun e w' => e = .returned v ∧ Below w.heap.size w w' :=
  (h w).mono fun e w' ⟨he, hw⟩ => ⟨he, by subst hw; exact Below.refl _ _⟩

/-- the entries that the ends of a value cover, a byte a row -/
def fB (v : Bool) (l : List (Nat × Nat × Bool)) : Nat → Nat := fun j => l.foldr (fun p n => (if p.2.2 == v then rectB p.1 p.2.1 j else 0) ||| n) 0
theorem fB_nil (v : Bool) : fB v [] = fun _ => 0 := rfl
theorem fB_next (v : Bool) (l : List (Nat × Nat × Bool)) (p : Nat × Nat × Bool) (j : Nat) : fB v (l ++ [p]) j = fB v l j ||| (if p.2.2 == v then rectB p.1 p.2.1 j else 0) := by
  induction l with
  | nil => simp [fB]
  | cons q l ih =>
    simp only [fB] at ih ⊢
    simp only [List.cons_append, List.foldr_cons, ih, Nat.or_assoc]
theorem fB_bit (v : Bool) (x y : Nat) (l : List (Nat × Nat × Bool)) : (fB v l x).testBit y = covered v l x y := by
  induction l with
  | nil => simp [fB, covered]
  | cons p l ih =>
    simp only [fB, covered] at ih ⊢
    simp only [List.foldr_cons, List.any_cons, Nat.testBit_or, ih]
    congr 1
    cases h : p.2.2 == v
    · simp
    · simp only [if_true, Bool.true_and, rectB]
      cases hx : p.1.testBit x <;> simp
theorem fB_lt (v : Bool) (x : Nat) (l : List (Nat × Nat × Bool)) (h : ∀ p ∈ l, p.2.1 < 256) : fB v l x < 256 := by
  induction l with
  | nil => simp [fB]
  | cons p l ih =>
    have h1 := ih fun q hq => h q (List.mem_cons_of_mem _ hq)
    have h2 := h p (List.mem_cons_self ..)
    simp only [fB] at h1 ⊢
    simp only [List.foldr_cons]
    refine Nat.or_lt_two_pow (n := 8) ?_ h1
    split
    · exact rectB_lt _ _ h2 _
    · decide
theorem leaves_lt : ∀ (t : T) (R C : Nat), R < 256 → C < 256 → ∀ p ∈ leavesT t R C, p.1 < 256 ∧ p.2.1 < 256
  | .leaf b, R, C, hR, hC, p, hp => by
    simp only [leavesT] at hp
    split at hp
    · simp at hp
    · simp only [List.mem_singleton] at hp
      subst hp
      exact ⟨hR, hC⟩
  | .say a s z o, R, C, hR, hC, p, hp => by
    obtain ⟨h1, h2, h3, h4⟩ := parts_lt a s hR hC
    simp only [leavesT, List.mem_append] at hp
    rcases hp with hp | hp
    · exact leaves_lt z _ _ h1 h2 p hp
    · exact leaves_lt o _ _ h3 h4 p hp
theorem pow_lt8 {x : Nat} (hx : x < 8) : 2 ^ x < 256 := Nat.pow_lt_pow_right (by decide) hx
/-- an entry is in a set of entries -/
theorem part_bit (F : Nat → Nat) (hF : ∀ j, F j < 256) (x y : Nat) (hx : x < 8) (hy : y < 8) :
    decide (pat (rectB (2 ^ x) (2 ^ y)) 8 &&& (18446744073709551615 - pat F 8) = 0) = (F x).testBit y := by
  rw [Bool.eq_iff_iff, decide_eq_true_iff, part_pat _ F (fun j => rectB_lt _ _ (pow_lt8 hy) j) hF]
  constructor
  · intro h
    exact h x hx y (by simp [rectB, Nat.testBit_two_pow_self])
  · intro h j hj i hi
    simp only [rectB] at hi
    split at hi
    · rename_i hb
      rw [Nat.testBit_two_pow] at hb hi
      have e1 : x = j := by simpa using hb
      have e2 : y = i := by simpa using hi
      subst e1 e2
      exact h
    · simp at hi
/-- the number of the found entries grows by an end -/
theorem pat_next (v : Bool) (l : List (Nat × Nat × Bool)) (p : Nat × Nat × Bool) (h : ∀ q ∈ l, q.2.1 < 256) (hp : p.2.1 < 256) :
    pat (fB v (l ++ [p])) 8 = if p.2.2 == v then pat (fB v l) 8 ||| pat (rectB p.1 p.2.1) 8 else pat (fB v l) 8 := by
  rw [pat_congr 8 _ _ fun j _ => fB_next v l p j]
  cases hv : p.2.2 == v
  · simp
  · simp only [if_true]
    exact (pat_or 8 _ _ (fun j => fB_lt v j l h) (fun j => rectB_lt _ _ hp j)).symm
theorem shl_small {x : Nat} (hx : x < 8) : wrap64 ((2 : Int) ^ x) = ((2 ^ x : Nat) : Int) := by
  have e : x = 0 ∨ x = 1 ∨ x = 2 ∨ x = 3 ∨ x = 4 ∨ x = 5 ∨ x = 6 ∨ x = 7 := by omega
  rcases e with rfl | rfl | rfl | rfl | rfl | rfl | rfl | rfl <;> simp [wrap64]
end Go.Proofs.Ytodfeaelidpckaa.MatP
