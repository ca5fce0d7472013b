/-
  The bytes of one row of a matrix, cut out of its text.
-/
import Derived.Test.YtbbgibbpeibhiaaDoorEntry
namespace Go.Proofs.YtbbgibbpeibhiaaDoor.Fmt
open Go.RowKit Go.Proofs.YtbbgibbpeibhiaaDoor.Plain Go.Proofs.YtbbgibbpeibhiaaDoor.Base Go.Proofs.YtbbgibbpeibhiaaDoor.Valid Go.Proofs.YtbbgibbpeibhiaaDoor.Law Go.Proofs.YtbbgibbpeibhiaaDoor.GridPlain Go.Proofs.YtbbgibbpeibhiaaDoor.Entry
set_option linter.unusedVariables false

theorem drop_rows (E : Nat → Nat → Bool) (r c k : Nat) (hk : k < r) : ((rowsB E r c).drop (k * c)).take c = rowB E k c := by
  apply List.ext_getElem?
  intro j
  by_cases hj : j < c
  · rw [List.getElem?_take_of_lt hj, List.getElem?_drop, rowsB_get E r c _ (size_xy hk hj), rowB_get E k c j hj]
    rw [Nat.mul_comm, Nat.mul_add_div (by omega), Nat.div_eq_of_lt hj, Nat.mul_add_mod, Nat.mod_eq_of_lt hj, Nat.add_zero]
  · rw [List.getElem?_eq_none (by simp; omega), List.getElem?_eq_none (by rw [rowB_length]; omega)]
theorem cut_row (E : Nat → Nat → Bool) (r c k : Nat) (s : ByteArray) (hs : s = str (rowsB E r c)) (hk : k < r) : s.extract (k * c) ((k + 1) * c) = str (rowB E k c) := by
  subst hs
  apply ByteArray.ext
  apply Array.ext'
  have h := drop_rows E r c k hk
  have h2 : (k + 1) * c - k * c = c := by rw [Nat.succ_mul]; omega
  simp only [str, ByteArray.data_extract, Array.toList_extract, List.extract_eq_take_drop, h2]
  exact h
end Go.Proofs.YtbbgibbpeibhiaaDoor.Fmt
