/-
  The mathematics of exchanged players, exchanged values and trimming: what is found, bits, ends; each undone or not done twice. Nothing of the program.
-/
import Derived.Test.YtffilggpimdikaaGreatDoorJ7
import Derived.Test.YtffilggpimdikaaGreatDoorJ24
namespace Go.Proofs.YtffilggpimdikaaGreatDoor.TnM
open Go.RowKit Go.Proofs.YtffilggpimdikaaGreatDoor.Plain Go.Proofs.YtffilggpimdikaaGreatDoor.Tree Go.Proofs.YtffilggpimdikaaGreatDoor.TrimT Go.Proofs.YtffilggpimdikaaGreatDoor.Leaf Go.Proofs.YtffilggpimdikaaGreatDoor.Talk Go.Proofs.YtffilggpimdikaaGreatDoor.MatT Go.Proofs.YtffilggpimdikaaGreatDoor.CutT Go.Proofs.YtffilggpimdikaaGreatDoor.HvM
set_option linter.unusedVariables false

theorem turn_turn : ∀ t : T, turnT (turnT t) = t
  | .leaf _ => rfl
  | .say a s z o => by simp only [turnT, turn_turn z, turn_turn o, Bool.not_not]
theorem turn_talk : ∀ (t : T) (x y : Nat), (talkT (turnT t) x y).2 = (talkT t y x).2
  | .leaf _, _, _ => rfl
  | .say a s z o, x, y => by
    have h1 := turn_talk z x y
    have h2 := turn_talk o x y
    have h3 : saysB (!a) s x y = saysB a s y x := by cases a <;> rfl
    show (if saysB (!a) s x y then (true :: (talkT (turnT o) x y).1, (talkT (turnT o) x y).2) else (false :: (talkT (turnT z) x y).1, (talkT (turnT z) x y).2)).2 = (if saysB a s y x then (true :: (talkT o y x).1, (talkT o y x).2) else (false :: (talkT z y x).1, (talkT z y x).2)).2
    rw [h3]
    cases saysB a s y x
    · exact h1
    · exact h2
theorem turn_bits : ∀ t : T, Tree.bits (turnT t) = Tree.bits t
  | .leaf _ => rfl
  | .say a s z o => by simp only [turnT, Tree.bits, turn_bits z, turn_bits o]
/-- values exchanged -/
def notT (t : T) : T := graftT (.leaf true) (.leaf false) t
theorem not_not : ∀ t : T, notT (notT t) = t
  | .leaf b => by cases b <;> rfl
  | .say a s z o => by
    have h1 := not_not z
    have h2 := not_not o
    unfold notT at h1 h2 ⊢
    simp only [graftT, h1, h2]
theorem not_talk : ∀ (t : T) (x y : Nat), (talkT (notT t) x y).2 = !(talkT t x y).2
  | .leaf b, _, _ => by cases b <;> rfl
  | .say a s z o, x, y => by
    have h1 := not_talk z x y
    have h2 := not_talk o x y
    show (if saysB a s x y then (true :: (talkT (notT o) x y).1, (talkT (notT o) x y).2) else (false :: (talkT (notT z) x y).1, (talkT (notT z) x y).2)).2 = !(if saysB a s x y then (true :: (talkT o x y).1, (talkT o x y).2) else (false :: (talkT z x y).1, (talkT z x y).2)).2
    cases saysB a s x y
    · exact h1
    · exact h2
theorem not_ends : ∀ t : T, ends (notT t) = ends t
  | .leaf b => by cases b <;> rfl
  | .say a s z o => by
    have h1 := not_ends z
    have h2 := not_ends o
    unfold notT at h1 h2 ⊢
    simp only [graftT, ends, h1, h2]
theorem not_wf (t : T) (h : wf t) : wf (notT t) := graft_wf (.leaf true) (.leaf false) trivial trivial t h
theorem not_length (t : T) : (text (notT t)).length = (text t).length := by
  have := graft_length (.leaf true) (.leaf false) t
  simp [text] at this
  exact this

theorem trim_bits : ∀ (t : T) (R C : Nat), Tree.bits (trimT t R C) ≤ Tree.bits t
  | .leaf _, _, _ => Nat.le_refl _
  | .say a s z o, R, C => by
    have h1 := trim_bits z
    have h2 := trim_bits o
    have k1 := h1 (outR a s R) (outC a s C)
    have k2 := h2 (inR a s R) (inC a s C)
    unfold trimT
    split
    · simp only [Tree.bits]; omega
    · split
      · simp only [Tree.bits]; omega
      · simp only [Tree.bits]; omega
theorem trim_again (t : T) (R C : Nat) (hR : R < 256) (hC : C < 256) (h1 : 1 ≤ R) (h2 : 1 ≤ C) : trimT (trimT t R C) R C = trimT t R C := tight_trim _ _ _ (trim_tight t R C hR hC h1 h2)
theorem trim_count (t : T) (R C : Nat) (hR : R < 256) (hC : C < 256) (h1 : 1 ≤ R) (h2 : 1 ≤ C) : ends (trimT t R C) = (leavesT t R C).length := by
  rw [← leaves_trim t R C hR hC h1 h2, tight_leaves _ _ _ h1 h2 (trim_tight t R C hR hC h1 h2)]
theorem trim_talk (t : T) (R C x y : Nat) (hR : R < 256) (hC : C < 256) (hx : R.testBit x = true) (hy : C.testBit y = true) : (talkT (trimT t R C) x y).2 = (talkT t x y).2 := by
  have h1 : 1 ≤ R := by
    rcases Nat.eq_zero_or_pos R with e | e
    · rw [e] at hx; simp at hx
    · exact e
  have h2 : 1 ≤ C := by
    rcases Nat.eq_zero_or_pos C with e | e
    · rw [e] at hy; simp at hy
    · exact e
  have a1 := covered_talk true (trimT t R C) R C x y hR hC hx hy
  have a2 := covered_talk true t R C x y hR hC hx hy
  rw [leaves_trim t R C hR hC h1 h2, a2] at a1
  revert a1
  cases (talkT (trimT t R C) x y).2 <;> cases (talkT t x y).2 <;> simp
theorem all_bit (n x : Nat) (h : x < n) : (2 ^ n - 1).testBit x = true := by
  rw [Nat.testBit_two_pow_sub_one]
  simpa using h
end Go.Proofs.YtffilggpimdikaaGreatDoor.TnM
