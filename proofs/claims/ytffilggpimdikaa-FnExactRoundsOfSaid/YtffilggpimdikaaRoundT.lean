/-
  How often the players of a protocol take turns. Nothing of the program.
-/
import Derived.Test.YtffilggpimdikaaTree
namespace Go.Proofs.Ytffilggpimdikaa.RoundT
open Go.RowKit Go.Proofs.Ytffilggpimdikaa.Plain Go.Proofs.Ytffilggpimdikaa.Tree
set_option linter.unusedVariables false

/-- the rounds behind a bit of a player (0: no one has spoken) -/
def roundT : Nat → T → Nat
  | _, .leaf _ => 0
  | p, .say a s z o => max (roundT (whoB a).toNat z) (roundT (whoB a).toNat o) + (if (whoB a).toNat = p then 0 else 1)
theorem round_le : ∀ (t : T) (p : Nat), roundT p t ≤ Tree.bits t
  | .leaf _, _ => Nat.le_refl _
  | .say a s z o, p => by
    have h1 := round_le z (whoB a).toNat
    have h2 := round_le o (whoB a).toNat
    simp only [roundT, Tree.bits]
    split <;> omega
theorem round_small (t : T) (p : Nat) : roundT p t ≤ (text t).length := Nat.le_trans (round_le t p) (Nat.le_of_lt (bits_lt t))
end Go.Proofs.Ytffilggpimdikaa.RoundT
