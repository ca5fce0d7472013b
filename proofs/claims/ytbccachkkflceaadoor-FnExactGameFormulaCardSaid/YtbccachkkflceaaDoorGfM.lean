/-
  The formula of a protocol that plays the game of a table. Nothing of the program.
-/
import Derived.Test.YtbccachkkflceaaDoorPlM
namespace Go.Proofs.YtbccachkkflceaaDoor.GfM
open Go.RowKit Go.Proofs.YtbccachkkflceaaDoor.Plain Go.Proofs.YtbccachkkflceaaDoor.Pat Go.Proofs.YtbccachkkflceaaDoor.Tree Go.Proofs.YtbccachkkflceaaDoor.TrimT Go.Proofs.YtbccachkkflceaaDoor.Leaf Go.Proofs.YtbccachkkflceaaDoor.Talk Go.Proofs.YtbccachkkflceaaDoor.PlM
open Go.Proofs.YtbccachkkflceaaDoor.Fm (F val)
set_option linter.unusedVariables false

/-- the least number of a set -/
def leastN (R : Nat) : Nat := ((List.range 8).find? fun x => R.testBit x).getD 0
theorem least_in {R : Nat} (h : R < 256) (h0 : R ≠ 0) : R.testBit (leastN R) = true ∧ leastN R < 8 ∧ ∀ x, x < leastN R → R.testBit x = false := by
  have key : ∀ R : Fin 256, R.1 ≠ 0 → R.1.testBit (leastN R.1) = true ∧ leastN R.1 < 8 ∧ ∀ x : Fin 8, x.1 < leastN R.1 → R.1.testBit x.1 = false := by decide +kernel
  obtain ⟨h1, h2, h3⟩ := key ⟨R, h⟩ h0
  have h2' : leastN R < 8 := h2
  exact ⟨h1, h2', fun x hx => h3 ⟨x, by omega⟩ hx⟩

/-- as the reference tells it -/
def frmS : T → Nat → Nat → F
  | .leaf b, R, C => .lit (gN b) ((leastN R).testBit (gN b))
  | .say a s z o, R, C =>
    if outR a s R = 0 ∨ outC a s C = 0 then frmS o (inR a s R) (inC a s C)
    else if inR a s R = 0 ∨ inC a s C = 0 then frmS z (outR a s R) (outC a s C)
    else .gate (!a) (frmS z (outR a s R) (outC a s C)) (frmS o (inR a s R) (inC a s C))
/-- as the program tells it, of a trimmed protocol -/
def frmI : T → Nat → Nat → F
  | .leaf b, R, C => match partL (gN b) R C with
    | some v => .lit (gN b) v
    | none => .lit 0 false
  | .say a s z o, R, C => .gate (!a) (frmI z (outR a s R) (outC a s C)) (frmI o (inR a s R) (inC a s C))
theorem frmS_wf : ∀ (t : T) (R C : Nat), Fm.wf 3 (frmS t R C)
  | .leaf b, _, _ => gN_lt b
  | .say a s z o, R, C => by
    have h1 := frmS_wf z (outR a s R) (outC a s C)
    have h2 := frmS_wf o (inR a s R) (inC a s C)
    unfold frmS
    split
    · exact h2
    · split
      · exact h1
      · exact ⟨h1, h2⟩
theorem frmI_wf : ∀ (t : T) (R C : Nat), Fm.wf 3 (frmI t R C)
  | .leaf b, R, C => by
    unfold frmI
    cases partL (gN b) R C with
    | none => show (0 : Nat) < 3; omega
    | some v => exact gN_lt b
  | .say a s z o, R, C => ⟨frmI_wf z _ _, frmI_wf o _ _⟩

theorem meet_meet (R s : Nat) (h : R < 256) : meetN R (meetN R s) = meetN R s := by
  apply Nat.eq_of_testBit_eq
  intro i
  rw [meet_bit R _ i h, meet_bit R s i h]
  cases R.testBit i <;> simp
theorem minus_meet (R s : Nat) (h : R < 256) : minusN R (meetN R s) = minusN R s := by
  apply Nat.eq_of_testBit_eq
  intro i
  rw [minus_bit R _ i h, meet_bit R s i h, minus_bit R s i h]
  cases R.testBit i <;> simp
theorem parts_again (a : Bool) (s R C : Nat) (hR : R < 256) (hC : C < 256) :
    outR a (if a then inR a s R else inC a s C) R = outR a s R ∧ outC a (if a then inR a s R else inC a s C) C = outC a s C ∧ inR a (if a then inR a s R else inC a s C) R = inR a s R ∧ inC a (if a then inR a s R else inC a s C) C = inC a s C := by
  cases a
  · simp only [outR, outC, inR, inC, if_false, Bool.false_eq_true, meet_meet C s hC, minus_meet C s hC, and_self]
  · simp only [outR, outC, inR, inC, if_true, meet_meet R s hR, minus_meet R s hR, and_self]
theorem play_parts (a : Bool) (s : Nat) (z o : T) (R C : Nat) (h : playB (.say a s z o) R C = true) : playB z (outR a s R) (outC a s C) = true ∧ playB o (inR a s R) (inC a s C) = true := by
  have e : playB (.say a s z o) R C = (playB z (outR a s R) (outC a s C) && playB o (inR a s R) (inC a s C)) := by
    unfold playB
    simp only [leavesT, List.all_append]
  rw [e, Bool.and_eq_true] at h
  exact h
theorem all_out (R s : Nat) (h : R < 256) (h0 : meetN R s = 0) : minusN R s = R := by
  apply Nat.eq_of_testBit_eq
  intro i
  have := zero_iff.1 h0 i
  rw [meet_bit R s i h] at this
  rw [minus_bit R s i h]
  cases hr : R.testBit i <;> cases hs : s.testBit i <;> simp [hr, hs] at this ⊢
theorem all_in (R s : Nat) (h : R < 256) (h0 : minusN R s = 0) : meetN R s = R := by
  apply Nat.eq_of_testBit_eq
  intro i
  have := zero_iff.1 h0 i
  rw [minus_bit R s i h] at this
  rw [meet_bit R s i h]
  cases hr : R.testBit i <;> cases hs : s.testBit i <;> simp [hr, hs] at this ⊢
theorem in_none (a : Bool) (s R C : Nat) (hR : R < 256) (hC : C < 256) (hR0 : R ≠ 0) (hC0 : C ≠ 0) (h : inR a s R = 0 ∨ inC a s C = 0) : outR a s R = R ∧ outC a s C = C := by
  cases a
  · simp only [outR, outC, inR, inC, if_false, Bool.false_eq_true] at h ⊢
    exact ⟨trivial, all_out C s hC (by omega)⟩
  · simp only [outR, outC, inR, inC, if_true] at h ⊢
    exact ⟨all_out R s hR (by omega), trivial⟩
theorem out_none (a : Bool) (s R C : Nat) (hR : R < 256) (hC : C < 256) (hR0 : R ≠ 0) (hC0 : C ≠ 0) (h : outR a s R = 0 ∨ outC a s C = 0) : inR a s R = R ∧ inC a s C = C := by
  cases a
  · simp only [outR, outC, inR, inC, if_false, Bool.false_eq_true] at h ⊢
    exact ⟨trivial, all_in C s hC (by omega)⟩
  · simp only [outR, outC, inR, inC, if_true] at h ⊢
    exact ⟨all_in R s hR (by omega), trivial⟩
/-- both are the same where it plays -/
theorem frm_same : ∀ (t : T) (R C : Nat), R < 256 → C < 256 → R ≠ 0 → C ≠ 0 → playB t R C = true → frmI (trimT t R C) R C = frmS t R C
  | .leaf b, R, C, hR, hC, hR0, hC0, hp => by
    have hs : (partL (gN b) R C).isSome = true := by
      unfold playB at hp
      simp only [leavesT] at hp
      rw [if_neg (by omega)] at hp
      simpa using hp
    obtain ⟨h1, _, _⟩ := least_in hR hR0
    show (match partL (gN b) R C with | some v => F.lit (gN b) v | none => F.lit 0 false) = F.lit (gN b) ((leastN R).testBit (gN b))
    unfold partL at hs ⊢
    by_cases p1 : partB (gN b) false R C
    · rw [if_pos p1]
      show F.lit (gN b) false = _
      rw [((part_iff hR hC).1 p1).1 _ h1]
    · rw [if_neg p1] at hs ⊢
      by_cases p2 : partB (gN b) true R C
      · rw [if_pos p2]
        show F.lit (gN b) true = _
        rw [((part_iff hR hC).1 p2).1 _ h1]
      · rw [if_neg p2] at hs
        cases hs
  | .say a s z o, R, C, hR, hC, hR0, hC0, hp => by
    obtain ⟨h1, h2, h3, h4⟩ := parts_lt a s hR hC
    obtain ⟨pz, po⟩ := play_parts a s z o R C hp
    have hnb := not_both a s hR hC (by omega) (by omega)
    unfold trimT frmS
    by_cases g1 : inR a s R = 0 ∨ inC a s C = 0
    · obtain ⟨k1, k2⟩ := hnb g1
      obtain ⟨e1, e2⟩ := in_none a s R C hR hC hR0 hC0 g1
      rw [if_pos g1, if_neg (by omega), if_pos g1, ← frm_same z _ _ h1 h2 (by omega) (by omega) pz]
      rw [e1, e2]
    · rw [if_neg g1]
      by_cases g2 : outR a s R = 0 ∨ outC a s C = 0
      · obtain ⟨e1, e2⟩ := out_none a s R C hR hC hR0 hC0 g2
        rw [if_pos g2, if_pos g2, ← frm_same o _ _ h3 h4 (by omega) (by omega) po]
        rw [e1, e2]
      · rw [if_neg g2, if_neg g2, if_neg g1]
        obtain ⟨e1, e2, e3, e4⟩ := parts_again a s R C hR hC
        show F.gate (!a) (frmI (trimT z (outR a s R) (outC a s C)) (outR a _ R) (outC a _ C)) (frmI (trimT o (inR a s R) (inC a s C)) (inR a _ R) (inC a _ C)) = _
        rw [e1, e2, e3, e4, frm_same z _ _ h1 h2 (by omega) (by omega) pz, frm_same o _ _ h3 h4 (by omega) (by omega) po]

/-- how many numbers are in a set -/
def cnt (R : Nat) : Nat := (List.range 8).countP fun i => R.testBit i
theorem cnt_split (R s : Nat) (h : R < 256) : cnt (minusN R s) + cnt (meetN R s) = cnt R := by
  have key : ∀ l : List Nat, (l.countP fun i => (minusN R s).testBit i) + (l.countP fun i => (meetN R s).testBit i) = l.countP fun i => R.testBit i := by
    intro l
    induction l with
    | nil => rfl
    | cons i l ih =>
      simp only [List.countP_cons, minus_bit R s i h, meet_bit R s i h] at ih ⊢
      cases R.testBit i <;> cases s.testBit i <;> simp at ih ⊢ <;> omega
  exact key _
theorem cnt_pos {R : Nat} (h : R < 256) (h0 : R ≠ 0) : 1 ≤ cnt R := by
  have key : ∀ R : Fin 256, R.1 ≠ 0 → 1 ≤ cnt R.1 := by decide +kernel
  exact key ⟨R, h⟩ h0
theorem cnt_both (P : Nat → Bool) (n : Nat) (h : n ≤ 8) : cnt (setB P n) + cnt (setB (fun k => !P k) n) ≤ 8 := by
  have key : ∀ l : List Nat, (l.countP fun i => (setB P n).testBit i) + (l.countP fun i => (setB (fun k => !P k) n).testBit i) ≤ l.length := by
    intro l
    induction l with
    | nil => exact Nat.le_refl _
    | cons i l ih =>
      simp only [List.countP_cons, setB_bit, List.length_cons] at ih ⊢
      cases decide (i < n) <;> cases P i <;> simp at ih ⊢ <;> omega
  have := key (List.range 8)
  rw [List.length_range] at this
  exact this
/-- no more letters than pairs of numbers -/
theorem frm_size : ∀ (t : T) (R C : Nat), R < 256 → C < 256 → R ≠ 0 → C ≠ 0 → Fm.size (frmS t R C) ≤ cnt R * cnt C
  | .leaf b, R, C, hR, hC, hR0, hC0 => Nat.mul_pos (cnt_pos hR hR0) (cnt_pos hC hC0)
  | .say a s z o, R, C, hR, hC, hR0, hC0 => by
    obtain ⟨h1, h2, h3, h4⟩ := parts_lt a s hR hC
    have hsum : cnt (outR a s R) * cnt (outC a s C) + cnt (inR a s R) * cnt (inC a s C) = cnt R * cnt C := by
      cases a
      · simp only [outR, outC, inR, inC, if_false, Bool.false_eq_true]
        rw [← Nat.mul_add, cnt_split C s hC]
      · simp only [outR, outC, inR, inC, if_true]
        rw [← Nat.add_mul, cnt_split R s hR]
    unfold frmS
    by_cases g1 : outR a s R = 0 ∨ outC a s C = 0
    · obtain ⟨e1, e2⟩ := out_none a s R C hR hC hR0 hC0 g1
      rw [if_pos g1, e1, e2]
      exact frm_size o R C hR hC hR0 hC0
    · rw [if_neg g1]
      by_cases g2 : inR a s R = 0 ∨ inC a s C = 0
      · obtain ⟨e1, e2⟩ := in_none a s R C hR hC hR0 hC0 g2
        rw [if_pos g2, e1, e2]
        exact frm_size z R C hR hC hR0 hC0
      · rw [if_neg g2]
        have i1 := frm_size z _ _ h1 h2 (by omega) (by omega)
        have i2 := frm_size o _ _ h3 h4 (by omega) (by omega)
        show Fm.size (frmS z _ _) + Fm.size (frmS o _ _) ≤ _
        omega
end Go.Proofs.YtbccachkkflceaaDoor.GfM
