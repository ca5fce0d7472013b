/-
  What the functions of a valid matrix and a rectangle of it answer, told by the entries.
-/
import Derived.Test.YtgfhahlkffagaaaDoorJ15
import Derived.Test.YtgfhahlkffagaaaDoorJ16
import Derived.Test.YtgfhahlkffagaaaDoorOtherWalk
namespace Go.Proofs.YtgfhahlkffagaaaDoor.ColF
open Go.RowKit Go.Proofs.YtgfhahlkffagaaaDoor.Plain Go.Proofs.YtgfhahlkffagaaaDoor.Base Go.Proofs.YtgfhahlkffagaaaDoor.Valid Go.Proofs.YtgfhahlkffagaaaDoor.Law Go.Proofs.YtgfhahlkffagaaaDoor.GridPlain Go.Proofs.YtgfhahlkffagaaaDoor.Grid Go.Proofs.YtgfhahlkffagaaaDoor.Entry Go.Proofs.YtgfhahlkffagaaaDoor.Pat Go.Proofs.YtgfhahlkffagaaaDoor.Rect Go.Proofs.YtgfhahlkffagaaaDoor.Patch Go.Proofs.YtgfhahlkffagaaaDoor.FreeL Go.Proofs.YtgfhahlkffagaaaDoor.Board Go.Proofs.YtgfhahlkffagaaaDoor.BoardM Go.Proofs.YtgfhahlkffagaaaDoor.RValid Go.Proofs.YtgfhahlkffagaaaDoor.Area Go.Proofs.YtgfhahlkffagaaaDoor.Bal Go.Proofs.YtgfhahlkffagaaaDoor.Colour Go.Proofs.YtgfhahlkffagaaaDoor.Clos Go.Proofs.YtgfhahlkffagaaaDoor.SpecTO
set_option linter.unusedVariables false
set_option linter.unusedSectionVars false

theorem valid_rows (E : Nat → Nat → Bool) (R C : Nat) (h1 : 1 ≤ R) (h2 : R ≤ 8) (h3 : 1 ≤ C) (h4 : C ≤ 8) : validB R C (str (rowsB E R C)) = true := by
  rw [validB_in (by omega) (by omega) (by omega) (by omega)]
  have : okB (str (rowsB E R C)) = true := okB_true fun j hj => by
    have hj' : j < R * C := by rw [str_size, rowsB_length] at hj; exact hj
    rw [str_get _ j _ (rowsB_get E R C j hj') hj]
    cases E (j / C) (j % C) <;> rfl
  rw [this, Bool.true_and, str_size, rowsB_length]
  simp
theorem rows_small (E : Nat → Nat → Bool) (R C : Nat) (h2 : R ≤ 8) (h4 : C ≤ 8) : (str (rowsB E R C)).size ≤ 64 := by rw [str_size, rowsB_length]; exact prod_le h2 h4
theorem rows_max (E : Nat → Nat → Bool) (R C : Nat) (h2 : R ≤ 8) (h4 : C ≤ 8) : (str (rowsB E R C)).size ≤ maxLen := by
  have := rows_small E R C h2 h4
  unfold maxLen
  omega
theorem rv_yes (R C : Nat) (h2 : R ≤ 8) (h4 : C ≤ 8) (RS CS : Nat) (k1 : 1 ≤ RS) (k2 : RS < 2 ^ R) (k3 : 1 ≤ CS) (k4 : CS < 2 ^ C) : rvB R C RS CS = true := by
  unfold rvB
  rw [Bool.and_eq_true, decide_eq_true_iff, decide_eq_true_iff]
  have e1 : ((2 ^ R : Nat) : Int) = 2 ^ R := by simp
  have e2 : ((2 ^ C : Nat) : Int) = 2 ^ C := by simp
  omega
section
variable (E : Nat → Nat → Bool) (R C : Nat) (h1 : 1 ≤ R) (h2 : R ≤ 8) (h3 : 1 ≤ C) (h4 : C ≤ 8) (RS CS : Nat) (k1 : 1 ≤ RS) (k2 : RS < 2 ^ R) (k3 : 1 ≤ CS) (k4 : CS < 2 ^ C) (k5 : RS < 256) (k6 : CS < 256)
include h1 h2 h3 h4 k1 k2 k3 k4 k5 k6
end

end Go.Proofs.YtgfhahlkffagaaaDoor.ColF
