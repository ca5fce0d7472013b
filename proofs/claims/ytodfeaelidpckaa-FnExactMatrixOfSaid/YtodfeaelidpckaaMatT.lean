/-
  The entries that the ends of a value cover are those at which the talk finds it. Nothing of the program.
-/
import Derived.Test.YtodfeaelidpckaaLeaf
import Derived.Test.YtodfeaelidpckaaTalk
namespace Go.Proofs.Ytodfeaelidpckaa.MatT
open Go.RowKit Go.Proofs.Ytodfeaelidpckaa.Plain Go.Proofs.Ytodfeaelidpckaa.Tree Go.Proofs.Ytodfeaelidpckaa.TrimT Go.Proofs.Ytodfeaelidpckaa.Leaf Go.Proofs.Ytodfeaelidpckaa.Talk
set_option linter.unusedVariables false

theorem meet_bit (a b i : Nat) (h : a < 256) : (meetN a b).testBit i = (a.testBit i && b.testBit i) := by
  unfold meetN
  have h64 : a < 2 ^ 64 := Nat.lt_trans h (by decide)
  rw [BitVec.toNat_and, Nat.testBit_and, BitVec.toNat_ofNat, BitVec.toNat_ofNat, Nat.mod_eq_of_lt h64, Nat.testBit_mod_two_pow]
  by_cases hi : i < 64
  · simp [hi]
  · have : a.testBit i = false := Nat.testBit_lt_two_pow (Nat.lt_of_lt_of_le h (by
      have : (2 : Nat) ^ 8 ≤ 2 ^ i := Nat.pow_le_pow_right (by decide) (by omega)
      exact this))
    simp [this]
theorem minus_bit (a b i : Nat) (h : a < 256) : (minusN a b).testBit i = (a.testBit i && !b.testBit i) := by
  unfold minusN
  rw [BitVec.toNat_and, Nat.testBit_and]
  by_cases hi : i < 64
  · have e : (~~~BitVec.ofNat 64 b).toNat.testBit i = !b.testBit i := by
      have h1 : (~~~BitVec.ofNat 64 b).getLsbD i = (decide (i < 64) && !(BitVec.ofNat 64 b).getLsbD i) := BitVec.getLsbD_not
      rw [BitVec.testBit_toNat, h1, BitVec.getLsbD_ofNat]
      simp [hi]
    rw [e, BitVec.testBit_toNat, BitVec.getLsbD_ofNat]
    simp [hi]
  · have : a.testBit i = false := Nat.testBit_lt_two_pow (Nat.lt_of_lt_of_le h (by
      have : (2 : Nat) ^ 8 ≤ 2 ^ i := Nat.pow_le_pow_right (by decide) (by omega)
      exact this))
    rw [BitVec.testBit_toNat, BitVec.getLsbD_ofNat]
    simp [hi, this]
/-- an entry is covered by an end of a value -/
def covered (v : Bool) (l : List (Nat × Nat × Bool)) (x y : Nat) : Bool := l.any fun p => p.2.2 == v && (p.1.testBit x && p.2.1.testBit y)
theorem covered_append (v : Bool) (l m : List (Nat × Nat × Bool)) (x y : Nat) : covered v (l ++ m) x y = (covered v l x y || covered v m x y) := by simp [covered]
theorem not_covered (v : Bool) : ∀ (t : T) (R C x y : Nat), R < 256 → C < 256 → (R.testBit x && C.testBit y) = false → covered v (leavesT t R C) x y = false
  | .leaf b, R, C, x, y, _, _, h => by
    simp only [leavesT]
    split
    · rfl
    · simp only [covered, List.any_cons, List.any_nil, h, Bool.and_false, Bool.or_false]
  | .say a s z o, R, C, x, y, hR, hC, h => by
    obtain ⟨h1, h2, h3, h4⟩ := parts_lt a s hR hC
    have iz := not_covered v z (outR a s R) (outC a s C) x y h1 h2 (by
      cases a
      · simp only [outR, outC, if_false, Bool.false_eq_true]
        rw [minus_bit C s y hC, ← Bool.and_assoc, h, Bool.false_and]
      · simp only [outR, outC, if_true]
        rw [minus_bit R s x hR, Bool.and_assoc, Bool.and_comm (!_), ← Bool.and_assoc, h, Bool.false_and])
    have io := not_covered v o (inR a s R) (inC a s C) x y h3 h4 (by
      cases a
      · simp only [inR, inC, if_false, Bool.false_eq_true]
        rw [meet_bit C s y hC, ← Bool.and_assoc, h, Bool.false_and]
      · simp only [inR, inC, if_true]
        rw [meet_bit R s x hR, Bool.and_assoc, Bool.and_comm (Nat.testBit s x), ← Bool.and_assoc, h, Bool.false_and])
    simp only [leavesT, covered_append, iz, io, Bool.or_false]
/-- an entry of the rectangle is covered by an end of a value exactly if the talk finds it -/
theorem covered_talk (v : Bool) : ∀ (t : T) (R C x y : Nat), R < 256 → C < 256 → R.testBit x = true → C.testBit y = true → covered v (leavesT t R C) x y = ((talkT t x y).2 == v)
  | .leaf b, R, C, x, y, _, _, hx, hy => by
    have hR : R ≠ 0 := fun e => by rw [e] at hx; simp at hx
    have hC : C ≠ 0 := fun e => by rw [e] at hy; simp at hy
    simp only [leavesT]
    rw [if_neg (by omega)]
    simp [covered, hx, hy, talkT]
  | .say a s z o, R, C, x, y, hR, hC, hx, hy => by
    obtain ⟨h1, h2, h3, h4⟩ := parts_lt a s hR hC
    simp only [leavesT, covered_append]
    obtain ⟨b, hb⟩ : ∃ b, saysB a s x y = b := ⟨_, rfl⟩
    have ht : talkT (.say a s z o) x y = if b then (true :: (talkT o x y).1, (talkT o x y).2) else (false :: (talkT z x y).1, (talkT z x y).2) := by rw [← hb]; rfl
    rw [ht]
    have hoR : (outR a s R).testBit x = (if a then !b else true) ∧ (outC a s C).testBit y = (if a then true else !b) ∧ (inR a s R).testBit x = (if a then b else true) ∧ (inC a s C).testBit y = (if a then true else b) := by
      cases a
      · simp only [saysB, if_false, Bool.false_eq_true] at hb
        simp only [outR, outC, inR, inC, if_false, Bool.false_eq_true, minus_bit C s y hC, meet_bit C s y hC, hx, hy, hb, Bool.true_and, and_self]
      · simp only [saysB, if_true] at hb
        simp only [outR, outC, inR, inC, if_true, minus_bit R s x hR, meet_bit R s x hR, hx, hy, hb, Bool.true_and, and_self]
    obtain ⟨k1, k2, k3, k4⟩ := hoR
    cases b
    · rw [not_covered v o _ _ x y h3 h4 (by rw [k3, k4]; cases a <;> rfl), covered_talk v z _ _ x y h1 h2 (by rw [k1]; cases a <;> rfl) (by rw [k2]; cases a <;> rfl)]
      simp
    · rw [not_covered v z _ _ x y h1 h2 (by rw [k1, k2]; cases a <;> rfl), covered_talk v o _ _ x y h3 h4 (by rw [k3]; cases a <;> rfl) (by rw [k4]; cases a <;> rfl)]
      simp
end Go.Proofs.Ytodfeaelidpckaa.MatT
