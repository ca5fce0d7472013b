/-
  What the functions of a valid matrix and a rectangle of it answer, told by the entries.
-/
import Derived.Test.YtgmhddceeomjbaaDoorColour
import Derived.Test.YtgmhddceeomjbaaDoorColM
import Derived.Test.YtgmhddceeomjbaaDoorEntWalk
import Derived.Test.YtgmhddceeomjbaaDoorOtherWalk
namespace Go.Proofs.YtgmhddceeomjbaaDoor.ColF
open Go.RowKit Go.Proofs.YtgmhddceeomjbaaDoor.Plain Go.Proofs.YtgmhddceeomjbaaDoor.Base Go.Proofs.YtgmhddceeomjbaaDoor.Valid Go.Proofs.YtgmhddceeomjbaaDoor.Law Go.Proofs.YtgmhddceeomjbaaDoor.GridPlain Go.Proofs.YtgmhddceeomjbaaDoor.Grid Go.Proofs.YtgmhddceeomjbaaDoor.Entry Go.Proofs.YtgmhddceeomjbaaDoor.Pat Go.Proofs.YtgmhddceeomjbaaDoor.Rect Go.Proofs.YtgmhddceeomjbaaDoor.Patch Go.Proofs.YtgmhddceeomjbaaDoor.FreeL Go.Proofs.YtgmhddceeomjbaaDoor.Board Go.Proofs.YtgmhddceeomjbaaDoor.BoardM Go.Proofs.YtgmhddceeomjbaaDoor.RValid Go.Proofs.YtgmhddceeomjbaaDoor.Area Go.Proofs.YtgmhddceeomjbaaDoor.Bal Go.Proofs.YtgmhddceeomjbaaDoor.Colour Go.Proofs.YtgmhddceeomjbaaDoor.Clos Go.Proofs.YtgmhddceeomjbaaDoor.SpecTO
set_option linter.unusedVariables false
set_option linter.unusedSectionVars false

theorem valid_rows (E : Nat → Nat → Bool) (R C : Nat) (h1 : 1 ≤ R) (h2 : R ≤ 8) (h3 : 1 ≤ C) (h4 : C ≤ 8) : validB R C (str (rowsB E R C)) = true := by
  rw [validB_in (by omega) (by omega) (by omega) (by omega)]
  have : okB (str (rowsB E R C)) = true := okB_true fun j hj => by
    have hj' : j < R * C := by rw [str_size, rowsB_length] at hj; exact hj
    rw [str_get _ j _ (rowsB_get E R C j hj') hj]
    cases E (j / C) (j % C) <;> rfl
  rw [this, Bool.true_and, str_size, rowsB_length]
  simp
theorem rows_small (E : Nat → Nat → Bool) (R C : Nat) (h2 : R ≤ 8) (h4 : C ≤ 8) : (str (rowsB E R C)).size ≤ 64 := by rw [str_size, rowsB_length]; exact prod_le h2 h4
theorem rows_max (E : Nat → Nat → Bool) (R C : Nat) (h2 : R ≤ 8) (h4 : C ≤ 8) : (str (rowsB E R C)).size ≤ maxLen := by
  have := rows_small E R C h2 h4
  unfold maxLen
  omega
theorem entry_impl (E : Nat → Nat → Bool) (R C : Nat) (h1 : 1 ≤ R) (h2 : R ≤ 8) (h3 : 1 ≤ C) (h4 : C ≤ 8) (a b : Nat) (ha : a < R) (hb : b < C) (w : World) :
    Calls Tryd.prog 24 #[mat R C (str (rowsB E R C)), .int .i64 (a : Int), .int .i64 (b : Int)] w fun e w' => e = .returned (.int .i64 (bitI (E a b))) ∧ Below w.heap.size w w' :=
  fnExactEntryOf.impl_of _ _ _ _ _ _ _ _ _ w (fun W => grid_yes E R C h1 h2 h3 h4 _ rfl (rows_max E R C h2 h4) (rows_small E R C h2 h4) (valid_rows E R C h1 h2 h3 h4) W) (.inr ⟨a, b, rfl, rfl, by omega, by omega, ⟨⟨by omega, by omega⟩, by omega, by omega⟩, (gpart_all E R C a b ha hb h4).symm⟩)
set_option maxHeartbeats 1000000 in
theorem tp_entry (E : Nat → Nat → Bool) (R C : Nat) (h1 : 1 ≤ R) (h2 : R ≤ 8) (h3 : 1 ≤ C) (h4 : C ≤ 8) (a b : Nat) (ha : a < R) (hb : b < C) (w : World) :
    Calls Tryd.prog 35 #[mat R C (str (rowsB E R C)), .int .i64 (a : Int), .int .i64 (b : Int)] w fun e w' => e = .returned (.bool (E a b)) ∧ Below w.heap.size w w' := by
  have HE := Lib.hid (fun W => entry_impl E R C h1 h2 h3 h4 a b ha hb W)
  obtain ⟨v, hv⟩ : ∃ v, E a b = v := ⟨_, rfl⟩
  rw [hv] at HE ⊢
  generalize str (rowsB E R C) = s at *
  clear hv
  go_enter Tryd.func35, Tryd.ntmps35
  go_wp2_with fail
  refine (HE.out _).mono ?_
  rintro e w1 ⟨rfl, hb1⟩
  have HB := Lib.hid hb1
  clear hb1
  cases v
  · go_wp2_with fail
    go_ret
    exact ⟨rfl, bstep ((Below.refl w.heap.size w).alloc (Nat.le_refl _) _) HB.out⟩
  · go_wp2_with fail
    go_ret
    exact ⟨rfl, bstep ((Below.refl w.heap.size w).alloc (Nat.le_refl _) _) HB.out⟩
theorem other_yes (E : Nat → Nat → Bool) (R C : Nat) (h1 : 1 ≤ R) (h2 : R ≤ 8) (h3 : 1 ≤ C) (h4 : C ≤ 8) (w : World) :
    Calls Tryd.prog 46 #[mat R C (str (rowsB E R C))] w fun e w' => e = .returned (.tuple #[mat R C (str (rowsB (fun x y => !(E x y)) R C)), .bool true]) ∧ Below w.heap.size w w' :=
  other_impl E R C h1 h2 h3 h4 _ w fun W => grid_yes E R C h1 h2 h3 h4 _ rfl (rows_max E R C h2 h4) (rows_small E R C h2 h4) (valid_rows E R C h1 h2 h3 h4) W

theorem rv_yes (R C : Nat) (h2 : R ≤ 8) (h4 : C ≤ 8) (RS CS : Nat) (k1 : 1 ≤ RS) (k2 : RS < 2 ^ R) (k3 : 1 ≤ CS) (k4 : CS < 2 ^ C) : rvB R C RS CS = true := by
  unfold rvB
  rw [Bool.and_eq_true, decide_eq_true_iff, decide_eq_true_iff]
  have e1 : ((2 ^ R : Nat) : Int) = 2 ^ R := by simp
  have e2 : ((2 ^ C : Nat) : Int) = 2 ^ C := by simp
  omega
section
variable (E : Nat → Nat → Bool) (R C : Nat) (h1 : 1 ≤ R) (h2 : R ≤ 8) (h3 : 1 ≤ C) (h4 : C ≤ 8) (RS CS : Nat) (k1 : 1 ≤ RS) (k2 : RS < 2 ^ R) (k3 : 1 ≤ CS) (k4 : CS < 2 ^ C) (k5 : RS < 256) (k6 : CS < 256)
include h1 h2 h3 h4 k1 k2 k3 k4 k5 k6
theorem colour_yes : (∀ w, Calls Tryd.prog 77 #[mat R C (str (rowsB E R C)), rect RS CS] w fun e w' => e = .returned (.int .i64 (colV (bal E RS CS R C) ((pop8 RS * pop8 CS : Nat) : Int))) ∧ Below w.heap.size w w') ∧
    (∀ w, Calls Tryd.prog 29 #[mat R C (str (rowsB E R C)), rect RS CS] w fun e w' => e = .returned (.int .i64 (colV (bal E RS CS R C) ((pop8 RS * pop8 CS : Nat) : Int))) ∧ Below w.heap.size w w') := by
  have hs := rows_max E R C h2 h4
  have hv := valid_rows E R C h1 h2 h3 h4
  have ht := rv_yes R C h2 h4 RS CS k1 k2 k3 k4
  have hbd := fun W => board_yes R C E h1 h2 h3 h4 hs hv W
  have hrv := fun W => spec_rv R C h1 h2 h3 h4 _ hs hv RS CS W
  have hsp := spec_col R C _ RS CS true _ (fun W => by have := hrv W; rwa [ht] at this) (fun _ W => spec_l2col E R C h1 h2 h3 h4 RS CS k1 k5 k3 k6 W)
  rw [if_pos rfl] at hsp
  have him := impl_col_yes R C h2 h4 _ _ (pat64 _ (onB_lt _ R C h4)) (pat64 _ (onB_lt _ R C h4)) _ _ _ RS CS k5 k6 hbd ht _ _ rfl rfl
  have e0 := plain_pat (fun x y => !E x y) R C RS CS h2 h4 k5 k6
  have e1 := plain_pat E R C RS CS h2 h4 k5 k6
  have a1 := bal_area E RS CS R C h2 h4 k2 k4
  have a0 := bal_area (fun x y => !E x y) RS CS R C h2 h4 k2 k4
  rw [← bal_not] at a0
  have hin : ∀ x y, RS.testBit x = true → CS.testBit y = true → x < R ∧ y < C := fun x y hx hy => by
    constructor
    · rcases Nat.lt_or_ge x R with h | h
      · exact h
      · rw [bit_beyond RS x R k2 h] at hx; cases hx
    · rcases Nat.lt_or_ge y C with h | h
      · exact h
      · rw [bit_beyond CS y C k4 h] at hy; cases hy
  have g1 : (bal E RS CS R C = ((pop8 RS * pop8 CS : Nat) : Int)) ↔ (pat (rectB RS CS) 8 &&& (18446744073709551615 - pat (onB E R C) 8) = 0) := by
    rw [e1, a1]
    exact ⟨fun h x y hx hy => ⟨hin x y hx hy, h x y hx hy⟩, fun h x y hx hy => (h x y hx hy).2⟩
  have g0 : (- bal E RS CS R C = ((pop8 RS * pop8 CS : Nat) : Int)) ↔ (pat (rectB RS CS) 8 &&& (18446744073709551615 - pat (onB (fun x y => !E x y) R C) 8) = 0) := by
    rw [e0, a0]
    exact ⟨fun h x y hx hy => ⟨hin x y hx hy, h x y hx hy⟩, fun h x y hx hy => (h x y hx hy).2⟩
  have hpos : 1 ≤ pop8 RS * pop8 CS := Nat.mul_le_mul (pop8_pos RS k1 k5) (pop8_pos CS k3 k6)
  refine ⟨hsp, fun w => ?_⟩
  have e : colV (bal E RS CS R C) ((pop8 RS * pop8 CS : Nat) : Int) = (if decide (pat (rectB RS CS) 8 &&& (18446744073709551615 - pat (onB (fun x y => !E x y) R C) 8) = 0) = true then 0 else if decide (pat (rectB RS CS) 8 &&& (18446744073709551615 - pat (onB E R C) 8) = 0) = true then 1 else -1) := by
    unfold colV
    by_cases hA : bal E RS CS R C = ((pop8 RS * pop8 CS : Nat) : Int)
    · rw [if_pos hA, decide_eq_true (g1.1 hA), decide_eq_false (fun h => by have := g0.2 h; omega)]
      rfl
    · rw [if_neg hA, decide_eq_false (fun h => hA (g1.2 h))]
      by_cases hB : bal E RS CS R C = - ((pop8 RS * pop8 CS : Nat) : Int)
      · rw [if_pos hB, decide_eq_true (g0.1 (by omega))]
        rfl
      · rw [if_neg hB, decide_eq_false (fun h => hB (by have := g0.2 h; omega))]
        rfl
  rw [e]
  exact him w
theorem rectvalid_yes (w : World) : Calls Tryd.prog 25 #[mat R C (str (rowsB E R C)), rect RS CS] w fun e w' => e = .returned (.bool true) ∧ Below w.heap.size w w' := by
  have hs := rows_max E R C h2 h4
  have hv := valid_rows E R C h1 h2 h3 h4
  have := impl_rv R C h2 h4 _ _ _ _ _ RS CS (fun W => board_yes R C E h1 h2 h3 h4 hs hv W) w
  rwa [rv_yes R C h2 h4 RS CS k1 k2 k3 k4] at this
end

end Go.Proofs.YtgmhddceeomjbaaDoor.ColF
