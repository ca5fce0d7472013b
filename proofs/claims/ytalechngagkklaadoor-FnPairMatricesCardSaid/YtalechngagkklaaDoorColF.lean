/-
  What the functions of a valid matrix and a rectangle of it answer, told by the entries.
-/
import Derived.Test.YtalechngagkklaaDoorColour
import Derived.Test.YtalechngagkklaaDoorColM
import Derived.Test.YtalechngagkklaaDoorEntWalk
import Derived.Test.YtalechngagkklaaDoorOtherWalk
namespace Go.Proofs.YtalechngagkklaaDoor.ColF
open Go.RowKit Go.Proofs.YtalechngagkklaaDoor.Plain Go.Proofs.YtalechngagkklaaDoor.Base Go.Proofs.YtalechngagkklaaDoor.Valid Go.Proofs.YtalechngagkklaaDoor.Law Go.Proofs.YtalechngagkklaaDoor.GridPlain Go.Proofs.YtalechngagkklaaDoor.Grid Go.Proofs.YtalechngagkklaaDoor.Entry Go.Proofs.YtalechngagkklaaDoor.Pat Go.Proofs.YtalechngagkklaaDoor.Rect Go.Proofs.YtalechngagkklaaDoor.Patch Go.Proofs.YtalechngagkklaaDoor.FreeL Go.Proofs.YtalechngagkklaaDoor.Board Go.Proofs.YtalechngagkklaaDoor.BoardM Go.Proofs.YtalechngagkklaaDoor.RValid Go.Proofs.YtalechngagkklaaDoor.Area Go.Proofs.YtalechngagkklaaDoor.Bal Go.Proofs.YtalechngagkklaaDoor.Colour Go.Proofs.YtalechngagkklaaDoor.Clos Go.Proofs.YtalechngagkklaaDoor.SpecTO
set_option linter.unusedVariables false
set_option linter.unusedSectionVars false

theorem valid_rows (E : Nat → Nat → Bool) (R C : Nat) (h1 : 1 ≤ R) (h2 : R ≤ 8) (h3 : 1 ≤ C) (h4 : C ≤ 8) : validB R C (str (rowsB E R C)) = true := by
  rw [validB_in (by omega) (by omega) (by omega) (by omega)]
  have : okB (str (rowsB E R C)) = true := okB_true fun j hj => by
    have hj' : j < R * C := by rw [str_size, rowsB_length] at hj; exact hj
    rw [str_get _ j _ (rowsB_get E R C j hj') hj]
    cases E (j / C) (j % C) <;> rfl
  rw [this, Bool.true_and, str_size, rowsB_length]
  simp
theorem rows_small (E : Nat → Nat → Bool) (R C : Nat) (h2 : R ≤ 8) (h4 : C ≤ 8) : (str (rowsB E R C)).size ≤ 64 := by rw [str_size, rowsB_length]; exact prod_le h2 h4
theorem rows_max (E : Nat → Nat → Bool) (R C : Nat) (h2 : R ≤ 8) (h4 : C ≤ 8) : (str (rowsB E R C)).size ≤ maxLen := by
  have := rows_small E R C h2 h4
  unfold maxLen
  omega
theorem entry_impl (E : Nat → Nat → Bool) (R C : Nat) (h1 : 1 ≤ R) (h2 : R ≤ 8) (h3 : 1 ≤ C) (h4 : C ≤ 8) (a b : Nat) (ha : a < R) (hb : b < C) (w : World) :
    Calls Tryd.prog 53 #[mat R C (str (rowsB E R C)), .int .i64 (a : Int), .int .i64 (b : Int)] w fun e w' => e = .returned (.int .i64 (bitI (E a b))) ∧ Below w.heap.size w w' :=
  fnExactEntryOf.impl_of _ _ _ _ _ _ _ _ _ w (fun W => grid_yes E R C h1 h2 h3 h4 _ rfl (rows_max E R C h2 h4) (rows_small E R C h2 h4) (valid_rows E R C h1 h2 h3 h4) W) (.inr ⟨a, b, rfl, rfl, by omega, by omega, ⟨⟨by omega, by omega⟩, by omega, by omega⟩, (gpart_all E R C a b ha hb h4).symm⟩)
set_option maxHeartbeats 1000000 in
theorem tp_entry (E : Nat → Nat → Bool) (R C : Nat) (h1 : 1 ≤ R) (h2 : R ≤ 8) (h3 : 1 ≤ C) (h4 : C ≤ 8) (a b : Nat) (ha : a < R) (hb : b < C) (w : World) :
    Calls Tryd.prog 19 #[mat R C (str (rowsB E R C)), .int .i64 (a : Int), .int .i64 (b : Int)] w fun e w' => e = .returned (.bool (E a b)) ∧ Below w.heap.size w w' := by
  have HE := Lib.hid (fun W => entry_impl E R C h1 h2 h3 h4 a b ha hb W)
  obtain ⟨v, hv⟩ : ∃ v, E a b = v := ⟨_, rfl⟩
  rw [hv] at HE ⊢
  generalize str (rowsB E R C) = s at *
  clear hv
  go_enter Tryd.func19, Tryd.ntmps19
  go_wp2_with fail
  refine (HE.out _).mono ?_
  rintro e w1 ⟨rfl, hb1⟩
  have HB := Lib.hid hb1
  clear hb1
  cases v
  · go_wp2_with fail
    go_ret
    exact ⟨rfl, bstep ((Below.refl w.heap.size w).alloc (Nat.le_refl _) _) HB.out⟩
  · go_wp2_with fail
    go_ret
    exact ⟨rfl, bstep ((Below.refl w.heap.size w).alloc (Nat.le_refl _) _) HB.out⟩
theorem other_yes (E : Nat → Nat → Bool) (R C : Nat) (h1 : 1 ≤ R) (h2 : R ≤ 8) (h3 : 1 ≤ C) (h4 : C ≤ 8) (w : World) :
    Calls Tryd.prog 20 #[mat R C (str (rowsB E R C))] w fun e w' => e = .returned (.tuple #[mat R C (str (rowsB (fun x y => !(E x y)) R C)), .bool true]) ∧ Below w.heap.size w w' :=
  other_impl E R C h1 h2 h3 h4 _ w fun W => grid_yes E R C h1 h2 h3 h4 _ rfl (rows_max E R C h2 h4) (rows_small E R C h2 h4) (valid_rows E R C h1 h2 h3 h4) W

theorem rv_yes (R C : Nat) (h2 : R ≤ 8) (h4 : C ≤ 8) (RS CS : Nat) (k1 : 1 ≤ RS) (k2 : RS < 2 ^ R) (k3 : 1 ≤ CS) (k4 : CS < 2 ^ C) : rvB R C RS CS = true := by
  unfold rvB
  rw [Bool.and_eq_true, decide_eq_true_iff, decide_eq_true_iff]
  have e1 : ((2 ^ R : Nat) : Int) = 2 ^ R := by simp
  have e2 : ((2 ^ C : Nat) : Int) = 2 ^ C := by simp
  omega
section
variable (E : Nat → Nat → Bool) (R C : Nat) (h1 : 1 ≤ R) (h2 : R ≤ 8) (h3 : 1 ≤ C) (h4 : C ≤ 8) (RS CS : Nat) (k1 : 1 ≤ RS) (k2 : RS < 2 ^ R) (k3 : 1 ≤ CS) (k4 : CS < 2 ^ C) (k5 : RS < 256) (k6 : CS < 256)
include h1 h2 h3 h4 k1 k2 k3 k4 k5 k6
theorem balance_yes : (∀ w, Calls Tryd.prog 15 #[mat R C (str (rowsB E R C)), rect RS CS] w fun e w' => e = .returned (.tuple #[.int .i64 (bal E RS CS R C), .bool true]) ∧ Below w.heap.size w w') ∧
    (∀ w, Calls Tryd.prog 14 #[mat R C (str (rowsB E R C)), rect RS CS] w fun e w' => e = .returned (.tuple #[.int .i64 (bal E RS CS R C), .bool true]) ∧ Below w.heap.size w w') := by
  have hs := rows_max E R C h2 h4
  have hv := valid_rows E R C h1 h2 h3 h4
  have ht := rv_yes R C h2 h4 RS CS k1 k2 k3 k4
  have hbd := fun W => board_yes R C E h1 h2 h3 h4 hs hv W
  have hrv := fun W => spec_rv R C h1 h2 h3 h4 _ hs hv RS CS W
  have hsp := spec_balOf R C _ RS CS true _ (fun W => by have := hrv W; rwa [ht] at this) (fun _ W => spec_bal E R C h1 h2 h3 h4 RS CS k5 k6 W)
  rw [if_pos rfl] at hsp
  refine ⟨hsp, fun w => impl_balOf_yes R C h2 h4 _ _ _ _ _ RS CS _ hbd ht (fun W => ?_) w⟩
  have hb := balance_any (R : Int) (C : Int) (onB (fun x y => !E x y) R C) (onB E R C) (onB_lt _ R C h4) (onB_lt _ R C h4) RS CS k5 k6 W
  rw [show (((sumN (fun x => pop8 (rectB RS CS x &&& onB E R C x)) 8 : Nat) : Int) - ((sumN (fun x => pop8 (rectB RS CS x &&& onB (fun x y => !E x y) R C x)) 8 : Nat) : Int)) = bal E RS CS R C from bal_count E RS CS R C h2 h4 k6] at hb
  exact hb
theorem colour_yes : (∀ w, Calls Tryd.prog 16 #[mat R C (str (rowsB E R C)), rect RS CS] w fun e w' => e = .returned (.int .i64 (colV (bal E RS CS R C) ((pop8 RS * pop8 CS : Nat) : Int))) ∧ Below w.heap.size w w') ∧
    (∀ w, Calls Tryd.prog 13 #[mat R C (str (rowsB E R C)), rect RS CS] w fun e w' => e = .returned (.int .i64 (colV (bal E RS CS R C) ((pop8 RS * pop8 CS : Nat) : Int))) ∧ Below w.heap.size w w') := by
  have hs := rows_max E R C h2 h4
  have hv := valid_rows E R C h1 h2 h3 h4
  have ht := rv_yes R C h2 h4 RS CS k1 k2 k3 k4
  have hbd := fun W => board_yes R C E h1 h2 h3 h4 hs hv W
  have hrv := fun W => spec_rv R C h1 h2 h3 h4 _ hs hv RS CS W
  have hsp := spec_col R C _ RS CS true _ (fun W => by have := hrv W; rwa [ht] at this) (fun _ W => spec_l2col E R C h1 h2 h3 h4 RS CS k1 k5 k3 k6 W)
  rw [if_pos rfl] at hsp
  have him := impl_col_yes R C h2 h4 _ _ (pat64 _ (onB_lt _ R C h4)) (pat64 _ (onB_lt _ R C h4)) _ _ _ RS CS k5 k6 hbd ht _ _ rfl rfl
  have e0 := plain_pat (fun x y => !E x y) R C RS CS h2 h4 k5 k6
  have e1 := plain_pat E R C RS CS h2 h4 k5 k6
  have a1 := bal_area E RS CS R C h2 h4 k2 k4
  have a0 := bal_area (fun x y => !E x y) RS CS R C h2 h4 k2 k4
  rw [← bal_not] at a0
  have hin : ∀ x y, RS.testBit x = true → CS.testBit y = true → x < R ∧ y < C := fun x y hx hy => by
    constructor
    · rcases Nat.lt_or_ge x R with h | h
      · exact h
      · rw [bit_beyond RS x R k2 h] at hx; cases hx
    · rcases Nat.lt_or_ge y C with h | h
      · exact h
      · rw [bit_beyond CS y C k4 h] at hy; cases hy
  have g1 : (bal E RS CS R C = ((pop8 RS * pop8 CS : Nat) : Int)) ↔ (pat (rectB RS CS) 8 &&& (18446744073709551615 - pat (onB E R C) 8) = 0) := by
    rw [e1, a1]
    exact ⟨fun h x y hx hy => ⟨hin x y hx hy, h x y hx hy⟩, fun h x y hx hy => (h x y hx hy).2⟩
  have g0 : (- bal E RS CS R C = ((pop8 RS * pop8 CS : Nat) : Int)) ↔ (pat (rectB RS CS) 8 &&& (18446744073709551615 - pat (onB (fun x y => !E x y) R C) 8) = 0) := by
    rw [e0, a0]
    exact ⟨fun h x y hx hy => ⟨hin x y hx hy, h x y hx hy⟩, fun h x y hx hy => (h x y hx hy).2⟩
  have hpos : 1 ≤ pop8 RS * pop8 CS := Nat.mul_le_mul (pop8_pos RS k1 k5) (pop8_pos CS k3 k6)
  refine ⟨hsp, fun w => ?_⟩
  have e : colV (bal E RS CS R C) ((pop8 RS * pop8 CS : Nat) : Int) = (if decide (pat (rectB RS CS) 8 &&& (18446744073709551615 - pat (onB (fun x y => !E x y) R C) 8) = 0) = true then 0 else if decide (pat (rectB RS CS) 8 &&& (18446744073709551615 - pat (onB E R C) 8) = 0) = true then 1 else -1) := by
    unfold colV
    by_cases hA : bal E RS CS R C = ((pop8 RS * pop8 CS : Nat) : Int)
    · rw [if_pos hA, decide_eq_true (g1.1 hA), decide_eq_false (fun h => by have := g0.2 h; omega)]
      rfl
    · rw [if_neg hA, decide_eq_false (fun h => hA (g1.2 h))]
      by_cases hB : bal E RS CS R C = - ((pop8 RS * pop8 CS : Nat) : Int)
      · rw [if_pos hB, decide_eq_true (g0.1 (by omega))]
        rfl
      · rw [if_neg hB, decide_eq_false (fun h => hB (by have := g0.2 h; omega))]
        rfl
  rw [e]
  exact him w
theorem rectvalid_yes (w : World) : Calls Tryd.prog 17 #[mat R C (str (rowsB E R C)), rect RS CS] w fun e w' => e = .returned (.bool true) ∧ Below w.heap.size w w' := by
  have hs := rows_max E R C h2 h4
  have hv := valid_rows E R C h1 h2 h3 h4
  have := impl_rv R C h2 h4 _ _ _ _ _ RS CS (fun W => board_yes R C E h1 h2 h3 h4 hs hv W) w
  rwa [rv_yes R C h2 h4 RS CS k1 k2 k3 k4] at this
end

/-- which matrices and rectangles there are: either all answer none, or both are told -/
theorem cases (a b : Int) (t : ByteArray) (hs : t.size ≤ maxLen) (x y : Int) :
    ((∀ w, Calls Tryd.prog 16 #[mat a b t, rect x y] w fun e w' => e = .returned (.int .i64 (-2)) ∧ Below w.heap.size w w') ∧
     (∀ w, Calls Tryd.prog 13 #[mat a b t, rect x y] w fun e w' => e = .returned (.int .i64 (-2)) ∧ Below w.heap.size w w') ∧
     (∀ w, Calls Tryd.prog 15 #[mat a b t, rect x y] w fun e w' => e = .returned (.tuple #[.int .i64 0, .bool false]) ∧ Below w.heap.size w w') ∧
     (∀ w, Calls Tryd.prog 14 #[mat a b t, rect x y] w fun e w' => e = .returned (.tuple #[.int .i64 0, .bool false]) ∧ Below w.heap.size w w') ∧
     (∀ w, Calls Tryd.prog 17 #[mat a b t, rect x y] w fun e w' => e = .returned (.bool false) ∧ Below w.heap.size w w')) ∨
    (∃ (R C : Nat) (E : Nat → Nat → Bool) (RS CS : Nat), a = R ∧ b = C ∧ t = str (rowsB E R C) ∧ x = RS ∧ y = CS ∧ (1 ≤ R ∧ R ≤ 8 ∧ 1 ≤ C ∧ C ≤ 8) ∧ 1 ≤ RS ∧ RS < 2 ^ R ∧ 1 ≤ CS ∧ CS < 2 ^ C ∧ RS < 256 ∧ CS < 256) := by
  by_cases hv : validB a b t = true
  · obtain ⟨R, C, E, rfl, rfl, h1, h2, h3, h4, rfl⟩ := valid_form hv
    have hbd := fun W => board_yes R C E h1 h2 h3 h4 hs hv W
    have hrv := fun W => spec_rv R C h1 h2 h3 h4 _ hs hv x y W
    by_cases ht : rvB R C x y = true
    · obtain ⟨RS, CS, rfl, rfl, k⟩ := rv_nat h2 h4 ht
      exact .inr ⟨R, C, E, RS, CS, rfl, rfl, rfl, rfl, rfl, ⟨h1, h2, h3, h4⟩, k⟩
    · rw [Bool.not_eq_true] at ht
      have hsp := spec_col R C _ x y false 0 (fun W => by have := hrv W; rwa [ht] at this) (fun h => by cases h)
      have hsb := spec_balOf R C _ x y false 0 (fun W => by have := hrv W; rwa [ht] at this) (fun h => by cases h)
      rw [if_neg (by decide)] at hsp hsb
      refine .inl ⟨hsp, fun w => impl_col_no R C h2 h4 _ _ _ _ _ x y hbd ht w, hsb, fun w => impl_balOf_no R C h2 h4 _ _ _ _ _ x y hbd ht w, fun w => ?_⟩
      have := impl_rv R C h2 h4 _ _ _ _ _ x y hbd w
      rwa [ht] at this
  · have hv' : validB a b t = false := by simpa using hv
    have hsp := spec_col a b t x y false 0 (fun W => spec_rv_no a b t hs hv' x y W) (fun h => by cases h)
    have hsb := spec_balOf a b t x y false 0 (fun W => spec_rv_no a b t hs hv' x y W) (fun h => by cases h)
    rw [if_neg (by decide)] at hsp hsb
    refine .inl ⟨hsp, fun w => impl_col_no 0 0 (by omega) (by omega) _ _ a b t x y (fun W => board_no a b t hs hv' W) (rvB_zero x y) w, hsb, fun w => impl_balOf_no 0 0 (by omega) (by omega) _ _ a b t x y (fun W => board_no a b t hs hv' W) (rvB_zero x y) w, fun w => ?_⟩
    have := impl_rv 0 0 (by omega) (by omega) _ _ a b t x y (fun W => board_no a b t hs hv' W) w
    rwa [rvB_zero] at this
end Go.Proofs.YtalechngagkklaaDoor.ColF
