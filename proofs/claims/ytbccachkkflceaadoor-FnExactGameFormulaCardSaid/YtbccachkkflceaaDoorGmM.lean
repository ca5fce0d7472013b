/-
  The protocol of a formula. Nothing of the program.
-/
import Derived.Test.YtbccachkkflceaaDoorGTree
import Derived.Test.YtbccachkkflceaaDoorFm
import Derived.Test.YtbccachkkflceaaDoorPat
namespace Go.Proofs.YtbccachkkflceaaDoor.GmM
open Go.RowKit Go.Proofs.YtbccachkkflceaaDoor.Plain Go.Proofs.YtbccachkkflceaaDoor.Pat
open Go.Proofs.YtbccachkkflceaaDoor.Fm (F val size deep lets litB sgn dual)
open Go.Proofs.YtbccachkkflceaaDoor.Tree (T V3 gN gI gD whoB hexD)
set_option linter.unusedVariables false

/-- the end that names a bit -/
def gk : Nat → V3
  | 0 => .v0
  | 1 => .v1
  | _ => .v2
theorem gk_N (k : Nat) (h : k < 3) : gN (gk k) = k := by
  have : ∀ k : Fin 3, gN (gk k.1) = k.1 := by decide
  exact this ⟨k, h⟩
/-- the set that is asked at a gate -/
def askB (a : Bool) (f : F) : Nat := setB (fun n => val f n == a) 8
theorem ask_lt (a : Bool) (f : F) : askB a f < 256 := setB_lt8 _ 8 (Nat.le_refl _)
/-- the protocol of a formula -/
def gameT : F → T
  | .lit k _ => .leaf (gk k)
  | .gate a f g => .say (!a) (askB a f) (gameT f) (gameT g)
theorem game_wf : ∀ f : F, Tree.wf (gameT f)
  | .lit _ _ => trivial
  | .gate a f g => ⟨ask_lt a f, game_wf f, game_wf g⟩
theorem game_bits : ∀ f : F, Tree.bits (gameT f) = deep f
  | .lit _ _ => rfl
  | .gate a f g => by simp only [gameT, Tree.bits, deep, game_bits f, game_bits g]
theorem game_ends : ∀ f : F, Tree.ends (gameT f) = size f
  | .lit _ _ => rfl
  | .gate a f g => by simp only [gameT, Tree.ends, size, game_ends f, game_ends g]
theorem text_ends : ∀ t : T, (Tree.text t).length + 3 = 4 * Tree.ends t
  | .leaf _ => rfl
  | .say _ _ z o => by
    have h1 := text_ends z
    have h2 := text_ends o
    simp only [Tree.text, Tree.ends, List.length_cons, List.length_append]
    omega
/-- at most 100 letters: at most 397 bytes -/
theorem game_length (f : F) (h : (Fm.text f).length ≤ 200) : (Tree.text (gameT f)).length ≤ 400 := by
  have h1 := text_ends (gameT f)
  have h2 := Fm.text_size f
  rw [game_ends] at h1
  omega
end Go.Proofs.YtbccachkkflceaaDoor.GmM
