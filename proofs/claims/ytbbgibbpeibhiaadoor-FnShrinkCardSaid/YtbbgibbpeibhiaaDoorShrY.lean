/-
  What ShrinkMatrix answers, told by the entries, on both sides.
-/
import Derived.Test.YtbbgibbpeibhiaaDoorShr
import Derived.Test.YtbbgibbpeibhiaaDoorShrT
namespace Go.Proofs.YtbbgibbpeibhiaaDoor.ShrY
open Go.RowKit Go.Proofs.YtbbgibbpeibhiaaDoor.Plain Go.Proofs.YtbbgibbpeibhiaaDoor.Base Go.Proofs.YtbbgibbpeibhiaaDoor.Valid Go.Proofs.YtbbgibbpeibhiaaDoor.Law Go.Proofs.YtbbgibbpeibhiaaDoor.GridPlain Go.Proofs.YtbbgibbpeibhiaaDoor.Grid Go.Proofs.YtbbgibbpeibhiaaDoor.Entry Go.Proofs.YtbbgibbpeibhiaaDoor.First Go.Proofs.YtbbgibbpeibhiaaDoor.Line Go.Proofs.YtbbgibbpeibhiaaDoor.FirstI Go.Proofs.YtbbgibbpeibhiaaDoor.ShrM Go.Proofs.YtbbgibbpeibhiaaDoor.Shr Go.Proofs.YtbbgibbpeibhiaaDoor.ShrT
set_option linter.unusedVariables false
set_option linter.unusedSectionVars false
section
variable (E : Nat → Nat → Bool) (R C : Nat) (h1 : 1 ≤ R) (h2 : R ≤ 8) (h3 : 1 ≤ C) (h4 : C ≤ 8)
include h1 h2 h3 h4
/-- the value of what is left -/
abbrev shrV : Value := .tuple #[mat (rN E R C) (cN E R C) (str (rowsB (shrE E R C) (rN E R C) (cN E R C))), .bool true]
theorem shr_said (hs : (str (rowsB E R C)).size ≤ maxLen) (hv : validB R C (str (rowsB E R C)) = true) (w : World) : Calls Tryd.prog 10 #[mat R C (str (rowsB E R C))] w fun e w' => e = .returned (shrV E R C) ∧ Below w.heap.size w w' := by
  have hxl := firsts_len (keyR E C) R
  have hyl := firsts_len (keyC E R) C
  have hx1 := firsts_one (keyR E C) R h1
  have hy1 := firsts_one (keyC E R) C h3
  have hxm := firsts_lt (keyR E C) R
  have hym := firsts_lt (keyC E R) C
  exact shrink_spec R C _ (str (rowsB (fun x y => E y x) C R)) hs hv (firsts (keyR E C) R) (firsts (keyC E R) C) _ _ _ w (w.heap.size + 2) rfl
    (fun W h => first_sv E R C h2 h4 _ W h) (fun W => Turn1.turn_spec1 E R C h1 h2 h3 h4 W) (fun W h => first_sv (fun x y => E y x) C R h4 h2 _ W h)
    (fun v1 v2 W s1 s2 => pick_s E R C h2 h4 _ _ hxm hym hx1 (by omega) hy1 (by omega) _ v1 v2 W s1 s2)
theorem shr_yes (hs : (str (rowsB E R C)).size ≤ maxLen) (hv : validB R C (str (rowsB E R C)) = true) (w : World) : Calls Tryd.prog 9 #[mat R C (str (rowsB E R C))] w fun e w' => e = .returned (shrV E R C) ∧ Below w.heap.size w w' := by
  have hsz : (str (rowsB E R C)).size ≤ 64 := by rw [str_size, rowsB_length]; exact prod_le h2 h4
  have hG := fun W => grid_yes E R C h1 h2 h3 h4 _ rfl hs hsz hv W
  have hxl := firsts_len (keyR E C) R
  have hyl := firsts_len (keyC E R) C
  have hx1 := firsts_one (keyR E C) R h1
  have hy1 := firsts_one (keyC E R) C h3
  have hxm := firsts_lt (keyR E C) R
  have hym := firsts_lt (keyC E R) C
  exact shrink_impl R C _ R C _ (firsts (keyR E C) R) (firsts (keyC E R) C) _ _ _ true w (w.heap.size + 2) rfl hG
    (fun W h => firsts_rows E R C h2 h4 _ W h) (fun W h => firsts_cols E R C h2 h4 _ W h)
    (fun v1 v2 W s1 s2 => pick_i E R C h1 h2 h3 h4 _ _ _ hxm hym hx1 (by omega) hy1 (by omega) hG _ v1 v2 W s1 s2)
theorem rN_in : 1 ≤ rN E R C ∧ rN E R C ≤ R := ⟨firsts_one _ _ h1, firsts_len _ _⟩
theorem cN_in : 1 ≤ cN E R C ∧ cN E R C ≤ C := ⟨firsts_one _ _ h3, firsts_len _ _⟩
end
abbrev noneV : Value := .tuple #[mat 0 0 (str []), .bool false]
theorem shr_said_no (r c : Int) (s : ByteArray) (hs : s.size ≤ maxLen) (hv : validB r c s = false) (w : World) : Calls Tryd.prog 10 #[mat r c s] w fun e w' => e = .returned noneV ∧ Below w.heap.size w w' := shrink_spec_no r c s hs hv w
theorem shr_no (r c : Int) (s : ByteArray) (hs : s.size ≤ maxLen) (hv : validB r c s = false) (w : World) : Calls Tryd.prog 9 #[mat r c s] w fun e w' => e = .returned noneV ∧ Below w.heap.size w w' := by
  have hG := fun W => grid_no r c s hs hv W
  exact shrink_impl r c s 0 0 _ [] [] 0 0 (str []) false w (w.heap.size + 2) rfl hG (fun W h => firsts_none _ _ row_enters _ W h) (fun W h => firsts_none _ _ col_enters _ W h)
    (fun v1 v2 W s1 s2 => pick_n r c s hG _ v1 v2 W s1 s2)
end Go.Proofs.YtbbgibbpeibhiaaDoor.ShrY
