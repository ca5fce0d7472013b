/-
  The program's reading of a text at whose begin no formula stands; its trees of whole texts.
-/
import Derived.Test.YtbccachkkflceaaDoorFmRead
namespace Go.Proofs.YtbccachkkflceaaDoor.FmNo
open Go.RowKit Go.Shelf Go.Proofs.YtbccachkkflceaaDoor.Plain Go.Proofs.YtbccachkkflceaaDoor.Fm Go.Proofs.YtbccachkkflceaaDoor.FmB Go.Proofs.YtbccachkkflceaaDoor.Rect Go.Proofs.YtbccachkkflceaaDoor.FmRead
set_option linter.unusedVariables false

/-- a text is a formula of so many bits that is not too long -/
def Ok (b : Nat) (s : ByteArray) : Prop := s.size ≤ 200 ∧ Is b s.data.toList
theorem ok_or (b : Nat) (s : ByteArray) : (∃ t, wf b t ∧ s.data.toList = text t ∧ s.size ≤ 200) ∨ ¬ Ok b s := by
  by_cases h : Ok b s
  · obtain ⟨h1, t, h2, h3⟩ := h
    exact .inl ⟨t, h2, h3, h1⟩
  · exact .inr h

end Go.Proofs.YtbccachkkflceaaDoor.FmNo
