/-
  The program's reading of a formula: a tree of letters and gates, where there is one.
-/
import Derived.Test.YtbccachkkflceaaDoorFm
import Derived.Test.YtbccachkkflceaaDoorShelf
import Derived.Test.YtbccachkkflceaaDoorRect
import Derived.Test.YtbccachkkflceaaDoorFmB
import Derived.Below
import Derived.Deep.QuietTactic
import Derived.BigQuiet
namespace Go.Proofs.YtbccachkkflceaaDoor.FmRead
open Go.RowKit Go.Shelf Go.Proofs.YtbccachkkflceaaDoor.Plain Go.Proofs.YtbccachkkflceaaDoor.Fm Go.Proofs.YtbccachkkflceaaDoor.FmB Go.Proofs.YtbccachkkflceaaDoor.Rect
set_option linter.unusedVariables false

theorem drawn_at (w : World) (q : Nat) : Below w.heap.size w (w.drewN q) := ⟨rfl, rfl, rfl, Nat.le_refl _, fun _ _ => rfl⟩
/-- a formula as a value -/
def litV (k : Int) (v : Bool) : Value := .agg #[.int .i64 k, .int .i64 (bitI v)]
def gateV (a : Bool) (f g : Value) : Value := .agg #[f, g, .int .u8 ((sgn a).toNat : Int)]
def tree : F → Value
  | .lit k v => .iface 65 (litV (k : Int) v)
  | .gate a f g => .iface 83 (gateV a (tree f) (tree g))
theorem tree_iface (t : F) : ∃ ty v, tree t = .iface ty v := by
  cases t
  · exact ⟨_, _, rfl⟩
  · exact ⟨_, _, rfl⟩

theorem index_byte (s : ByteArray) (c : Int) (w : World) :
    Calls Tryd.prog 73 #[.string s, .int .u8 c] w fun e w' => e = .returned (.int .i64 (Lib.indexByte s.data.toList c.toNat.toUInt8)) ∧ w' = w :=
  Any.strings_IndexByte Tryd.lays137 s c w
theorem index_lets (c : UInt8) (w : World) :
    Calls Tryd.prog 73 #[.string ⟨#[88, 89, 90, 120, 121, 122]⟩, .int .u8 (c.toNat : Int)] w fun e w' => e = .returned (.int .i64 (ixB c)) ∧ w = w' := by
  refine (index_byte _ _ w).mono ?_
  rintro e w' ⟨rfl, rfl⟩
  refine ⟨?_, rfl⟩
  have e : ((c.toNat : Int)).toNat.toUInt8 = c := by simp
  rw [e]
  rfl
theorem index_sgn (c : UInt8) (w : World) :
    Calls Tryd.prog 73 #[.string ⟨#[38, 124]⟩, .int .u8 (c.toNat : Int)] w fun e w' => e = .returned (.int .i64 (Lib.indexByte [38, 124] c)) ∧ w = w' := by
  refine (index_byte _ _ w).mono ?_
  rintro e w' ⟨rfl, rfl⟩
  refine ⟨?_, rfl⟩
  have e : ((c.toNat : Int)).toNat.toUInt8 = c := by simp
  rw [e]
theorem ix_sgn (a : Bool) : Lib.indexByte [38, 124] (sgn a) = bitI (!a) := by cases a <;> decide
theorem ix_sgn_no (c : UInt8) (h : ∀ a, c ≠ sgn a) : Lib.indexByte [38, 124] c = -1 := by
  apply idx_none
  intro j hj
  have h1 := h true
  have h2 := h false
  have : j = 0 ∨ j = 1 := by simp at hj; omega
  rcases this with rfl | rfl
  · intro e; exact h1 e.symm
  · intro e; exact h2 e.symm

end Go.Proofs.YtbccachkkflceaaDoor.FmRead
