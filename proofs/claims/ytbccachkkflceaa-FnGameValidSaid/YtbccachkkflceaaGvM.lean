/-
  Ends that are the third bit, and how a text tells them. Nothing of the program.
-/
import Derived.Test.YtbccachkkflceaaGTree
import Derived.Test.YtbccachkkflceaaGmM
namespace Go.Proofs.Ytbccachkkflceaa.GvM
open Go.RowKit Go.Proofs.Ytbccachkkflceaa.Plain Go.Proofs.Ytbccachkkflceaa.Tree
set_option linter.unusedVariables false

/-- some end is the third bit -/
def has2 : T → Bool
  | .leaf b => gN b == 2
  | .say _ _ z o => has2 z || has2 o
/-- the letter of a player -/
def isAB (c : UInt8) : Bool := decide (65 ≤ c.toNat) && decide (c.toNat ≤ 66)
/-- a byte 2 that stands neither one nor two bytes behind a letter -/
def tw : Bool → Bool → List UInt8 → Bool
  | _, _, [] => false
  | p1, p2, c :: l => (decide (c.toNat = 50) && !p1 && !p2) || tw (isAB c) p1 l
theorem hex_no : ∀ k : Fin 16, isAB (hexD k.1) = false := by decide
theorem who_ab (a : Bool) : isAB (whoB a) = true := by cases a <;> decide
theorem who_no2 (a : Bool) : decide ((whoB a).toNat = 50) = false := by cases a <;> decide
theorem leaf_no : ∀ b : V3, isAB (gD b) = false := by intro b; cases b <;> decide
theorem leaf_2 : ∀ b : V3, decide ((gD b).toNat = 50) = (gN b == 2) := by intro b; cases b <;> decide
theorem tw_text : ∀ (t : T), wf t → ∀ r, tw false false (text t ++ r) = (has2 t || tw false false r)
  | .leaf b, _, r => by
    show ((decide ((gD b).toNat = 50) && !false && !false) || tw (isAB (gD b)) false r) = _
    rw [leaf_no, leaf_2]
    simp [has2]
  | .say a s z o, hw, r => by
    have e : text (.say a s z o) ++ r = whoB a :: hexD (s / 16) :: hexD (s % 16) :: (text z ++ (text o ++ r)) := by simp [text]
    have h1 : s / 16 < 16 := by have := hw.1; omega
    have h2 : s % 16 < 16 := by omega
    rw [e]
    show ((decide ((whoB a).toNat = 50) && !false && !false) || ((decide ((hexD (s / 16)).toNat = 50) && !(isAB (whoB a)) && !false) || ((decide ((hexD (s % 16)).toNat = 50) && !(isAB (hexD (s / 16))) && !(isAB (whoB a))) || tw (isAB (hexD (s % 16))) (isAB (hexD (s / 16))) (text z ++ (text o ++ r))))) = _
    rw [who_ab, who_no2, hex_no ⟨_, h1⟩, hex_no ⟨_, h2⟩, tw_text z hw.2.1, tw_text o hw.2.2]
    simp [has2, Bool.or_assoc]
/-- whether the letter of a player stands so many bytes ahead -/
def pv (l : List UInt8) (k d : Nat) : Bool := decide (d ≤ k) && isAB (l.getD (k - d) 0)
theorem pv_one (l : List UInt8) (k : Nat) : pv l (k + 1) 1 = isAB (l.getD k 0) := by simp [pv]
theorem pv_two (l : List UInt8) (k : Nat) : pv l (k + 1) 2 = pv l k 1 := by
  unfold pv
  rw [show k + 1 - 2 = k - 1 by omega]
  congr 1
  simp
theorem pv_zero (l : List UInt8) (d : Nat) (h : 1 ≤ d) : pv l 0 d = false := by
  unfold pv
  rw [decide_eq_false (by omega)]
  rfl
/-- the loop's flag -/
theorem tw_next (l : List UInt8) (k : Nat) (hk : k < l.length) (g : Bool) (h : tw false false l = (g || tw (pv l k 1) (pv l k 2) (l.drop k))) :
    tw false false l = ((g || (decide ((l[k]).toNat = 50) && !(pv l k 1) && !(pv l k 2))) || tw (pv l (k + 1) 1) (pv l (k + 1) 2) (l.drop (k + 1))) := by
  rw [h, List.drop_eq_getElem_cons hk]
  have e : l.getD k 0 = l[k] := by rw [List.getD_eq_getElem?_getD, List.getElem?_eq_getElem hk]; rfl
  show (g || ((decide ((l[k]).toNat = 50) && !(pv l k 1) && !(pv l k 2)) || tw (isAB (l[k])) (pv l k 1) (l.drop (k + 1)))) = _
  rw [pv_one, pv_two, e, Bool.or_assoc]
theorem pow_ends : ∀ t : T, ends t ≤ 2 ^ Tree.bits t
  | .leaf _ => Nat.le_refl _
  | .say _ _ z o => by
    have h1 := pow_ends z
    have h2 := pow_ends o
    have h3 : 2 ^ Tree.bits z ≤ 2 ^ max (Tree.bits z) (Tree.bits o) := Nat.pow_le_pow_right (by decide) (Nat.le_max_left _ _)
    have h4 : 2 ^ Tree.bits o ≤ 2 ^ max (Tree.bits z) (Tree.bits o) := Nat.pow_le_pow_right (by decide) (Nat.le_max_right _ _)
    show ends z + ends o ≤ 2 ^ (1 + max (Tree.bits z) (Tree.bits o))
    rw [Nat.pow_add]
    omega
theorem bits_ends : ∀ t : T, Tree.bits t + 1 ≤ ends t
  | .leaf _ => Nat.le_refl _
  | .say _ _ z o => by
    have h1 := bits_ends z
    have h2 := bits_ends o
    show 1 + max (Tree.bits z) (Tree.bits o) + 1 ≤ ends z + ends o
    omega
end Go.Proofs.Ytbccachkkflceaa.GvM
