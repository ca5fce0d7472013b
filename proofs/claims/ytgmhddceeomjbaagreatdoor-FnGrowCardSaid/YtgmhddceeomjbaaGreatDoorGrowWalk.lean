/-
  The walk of the law on GrowRect.
-/
import Derived.Test.YtgmhddceeomjbaaGreatDoorGrowOf
namespace Go.Proofs.YtgmhddceeomjbaaGreatDoor.fnExactGrowRect
open Go.RowKit Go.Proofs.YtgmhddceeomjbaaGreatDoor.Plain Go.Proofs.YtgmhddceeomjbaaGreatDoor.Base Go.Proofs.YtgmhddceeomjbaaGreatDoor.Valid Go.Proofs.YtgmhddceeomjbaaGreatDoor.Law Go.Proofs.YtgmhddceeomjbaaGreatDoor.GridPlain Go.Proofs.YtgmhddceeomjbaaGreatDoor.Entry Go.Proofs.YtgmhddceeomjbaaGreatDoor.Pat Go.Proofs.YtgmhddceeomjbaaGreatDoor.Rect Go.Proofs.YtgmhddceeomjbaaGreatDoor.Patch Go.Proofs.YtgmhddceeomjbaaGreatDoor.FreeL Go.Proofs.YtgmhddceeomjbaaGreatDoor.Board Go.Proofs.YtgmhddceeomjbaaGreatDoor.BoardM Go.Proofs.YtgmhddceeomjbaaGreatDoor.RValid Go.Proofs.YtgmhddceeomjbaaGreatDoor.Area Go.Proofs.YtgmhddceeomjbaaGreatDoor.Bal Go.Proofs.YtgmhddceeomjbaaGreatDoor.Colour Go.Proofs.YtgmhddceeomjbaaGreatDoor.With Go.Proofs.YtgmhddceeomjbaaGreatDoor.Cols Go.Proofs.YtgmhddceeomjbaaGreatDoor.Grow Go.Proofs.YtgmhddceeomjbaaGreatDoor.GrowOf
open Go.Proofs.YtgmhddceeomjbaaGreatDoor.Free (fill wp_value wp_enter wp_load_row freeB wp_region_one get_of)
set_option linter.unusedVariables false

/-- both find one colour of a rectangle of a matrix -/
theorem col_yes (R C : Nat) (E : Nat → Nat → Bool) (h1 : 1 ≤ R) (h2 : R ≤ 8) (h3 : 1 ≤ C) (h4 : C ≤ 8) (hs : (str (rowsB E R C)).size ≤ maxLen) (hv : validB R C (str (rowsB E R C)) = true)
    (RS CS : Nat) (k1 : 1 ≤ RS) (k2 : RS < 2 ^ R) (k3 : 1 ≤ CS) (k4 : CS < 2 ^ C) (k5 : RS < 256) (k6 : CS < 256) (ht : rvB R C RS CS = true) : ∃ v : Int, (v = -1 ∨ v = 0 ∨ v = 1) ∧
    (∀ w, Calls Tryz.prog 50 #[mat R C (str (rowsB E R C)), rect RS CS] w fun e w' => e = .returned (.int .i64 v) ∧ Below w.heap.size w w') ∧
    (∀ w, Calls Tryz.prog 17 #[mat R C (str (rowsB E R C)), rect RS CS] w fun e w' => e = .returned (.int .i64 v) ∧ Below w.heap.size w w') := by
  have hbd := fun W => board_yes R C E h1 h2 h3 h4 hs hv W
  have hrv := fun W => spec_rv R C h1 h2 h3 h4 _ hs hv RS CS W
  have hsp := spec_col R C _ RS CS true _ (fun W => by have := hrv W; rwa [ht] at this) (fun _ W => spec_l2col E R C h1 h2 h3 h4 RS CS k1 k5 k3 k6 W)
  rw [if_pos rfl] at hsp
  have him := impl_col_yes R C h2 h4 _ _ (pat64 _ (onB_lt _ R C h4)) (pat64 _ (onB_lt _ R C h4)) _ _ _ RS CS k5 k6 hbd ht _ _ rfl rfl
  have e0 := plain_pat (fun x y => !E x y) R C RS CS h2 h4 k5 k6
  have e1 := plain_pat E R C RS CS h2 h4 k5 k6
  have a1 := bal_area E RS CS R C h2 h4 k2 k4
  have a0 := bal_area (fun x y => !E x y) RS CS R C h2 h4 k2 k4
  rw [← bal_not] at a0
  have hin : ∀ x y, RS.testBit x = true → CS.testBit y = true → x < R ∧ y < C := fun x y hx hy => by
    constructor
    · rcases Nat.lt_or_ge x R with h | h
      · exact h
      · rw [bit_beyond RS x R k2 h] at hx; cases hx
    · rcases Nat.lt_or_ge y C with h | h
      · exact h
      · rw [bit_beyond CS y C k4 h] at hy; cases hy
  have g1 : (bal E RS CS R C = ((pop8 RS * pop8 CS : Nat) : Int)) ↔ (pat (rectB RS CS) 8 &&& (18446744073709551615 - pat (onB E R C) 8) = 0) := by
    rw [e1, a1]
    exact ⟨fun h x y hx hy => ⟨hin x y hx hy, h x y hx hy⟩, fun h x y hx hy => (h x y hx hy).2⟩
  have g0 : (- bal E RS CS R C = ((pop8 RS * pop8 CS : Nat) : Int)) ↔ (pat (rectB RS CS) 8 &&& (18446744073709551615 - pat (onB (fun x y => !E x y) R C) 8) = 0) := by
    rw [e0, a0]
    exact ⟨fun h x y hx hy => ⟨hin x y hx hy, h x y hx hy⟩, fun h x y hx hy => (h x y hx hy).2⟩
  have hpos : 1 ≤ pop8 RS * pop8 CS := Nat.mul_le_mul (pop8_pos RS k1 k5) (pop8_pos CS k3 k6)
  refine ⟨_, ?_, hsp, fun w => ?_⟩
  · unfold colV
    split
    · exact .inr (.inr rfl)
    · split
      · exact .inr (.inl rfl)
      · exact .inl rfl
  have e : colV (bal E RS CS R C) ((pop8 RS * pop8 CS : Nat) : Int) = (if decide (pat (rectB RS CS) 8 &&& (18446744073709551615 - pat (onB (fun x y => !E x y) R C) 8) = 0) = true then 0 else if decide (pat (rectB RS CS) 8 &&& (18446744073709551615 - pat (onB E R C) 8) = 0) = true then 1 else -1) := by
    unfold colV
    by_cases hA : bal E RS CS R C = ((pop8 RS * pop8 CS : Nat) : Int)
    · rw [if_pos hA, decide_eq_true (g1.1 hA), decide_eq_false (fun h => by have := g0.2 h; omega)]
      rfl
    · rw [if_neg hA, decide_eq_false (fun h => hA (g1.2 h))]
      by_cases hB : bal E RS CS R C = - ((pop8 RS * pop8 CS : Nat) : Int)
      · rw [if_pos hB, decide_eq_true (g0.1 (by omega))]
        rfl
      · rw [if_neg hB, decide_eq_false (fun h => hB (by have := g0.2 h; omega))]
        rfl
  rw [e]
  exact him w

/-- both find one rectangle -/
theorem both (r c : Int) (s : ByteArray) (hs : s.size ≤ maxLen) (x y : Int) : ∃ (A B : Int) (t : Bool),
    (∀ w, Calls Tryz.prog 16 #[mat r c s, rect x y] w fun e w' => e = .returned (.tuple #[rect A B, .bool t]) ∧ Below w.heap.size w w') ∧
    (∀ w, Calls Tryz.prog 15 #[mat r c s, rect x y] w fun e w' => e = .returned (.tuple #[rect A B, .bool t]) ∧ Below w.heap.size w w') := by
  by_cases hv : validB r c s = true
  · obtain ⟨R, C, E, rfl, rfl, h1, h2, h3, h4, rfl⟩ := valid_form hv
    by_cases ht : rvB R C x y = true
    · obtain ⟨RS, CS, rfl, rfl, k1, k2, k3, k4, k5, k6⟩ := rv_nat h2 h4 ht
      have hbd := fun W => board_yes R C E h1 h2 h3 h4 hs hv W
      obtain ⟨v, hv3, hsp, him⟩ := col_yes R C E h1 h2 h3 h4 hs hv RS CS k1 k2 k3 k4 k5 k6 ht
      have z64 := pat64 (onB (fun x y => !E x y) R C) (onB_lt _ R C h4)
      have o64 := pat64 (onB E R C) (onB_lt _ R C h4)
      have hcs : ∀ y, CS.testBit y = true → y < C := fun y hy => by
        rcases Nat.lt_or_ge y C with h | h
        · exact h
        · rw [bit_beyond CS y C k4 h] at hy; cases hy
      rcases hv3 with rfl | rfl | rfl
      · exact ⟨0, 0, false, spec_growOf_no _ _ _ _ _ (-1) (by omega) hsp, impl_growOf_no _ _ _ _ _ (-1) (by omega) (by omega) him⟩
      · have hP : ∀ x y, (fun x y => !E x y) x y = (E x y == false) := fun x y => by show (!E x y) = _; cases E x y <;> rfl
        have er := rows_eq E (fun x y => !E x y) false hP R C CS h2 h4 k6 hcs
        have hrb : ∀ x, (setB (fun x => allTo (fun y x => E x y) CS false x C) R).testBit x = true → x < R := fun x hx => by
          rw [setB_bit, Bool.and_eq_true, decide_eq_true_iff] at hx
          exact hx.1
        have ec := cols_eq E (fun x y => !E x y) false hP R C _ h2 h4 (setB_lt8 _ R h2) hrb
        have sr := fun W => rows_any E R C h1 h2 h3 h4 CS k6 false W
        have sc := fun W => cols_any E R C h1 h2 h3 h4 _ (setB_lt8 (fun x => allTo (fun y x => E x y) CS false x C) R h2) false W
        have ir := fun W => rows_with0 R C h2 h4 _ _ z64 o64 CS k6 W
        have ic := fun W => cols_with0 R C h2 h4 _ _ z64 o64 _ (setB_lt8 (fun x => allTo (fun y x => E x y) CS false x C) R h2) W
        have er' := fun W => (by rw [← er]; exact ir W : Calls Tryz.prog 87 #[brd R C (pat (onB (fun x y => !E x y) R C) 8) (pat (onB E R C) 8), .int .i64 (CS : Int), .int .i64 0] W fun e w' => e = .returned (.int .i64 ((setB (fun x => allTo (fun y x => E x y) CS false x C) R : Nat) : Int)) ∧ Below W.heap.size W w')
        have ec' := fun W => (by rw [← ec]; exact ic W : Calls Tryz.prog 88 #[brd R C (pat (onB (fun x y => !E x y) R C) 8) (pat (onB E R C) 8), .int .i64 ((setB (fun x => allTo (fun y x => E x y) CS false x C) R : Nat) : Int), .int .i64 0] W fun e w' => e = .returned (.int .i64 ((setB (fun y => allTo E (setB (fun x => allTo (fun y x => E x y) CS false x C) R) false y R) C : Nat) : Int)) ∧ Below W.heap.size W w')
        have sg := fun W => spec_grow R C _ RS CS _ _ 0 sr sc W
        have ig := fun W => impl_grow R C _ _ RS CS _ _ 0 er' ec' W
        exact ⟨_, _, true, spec_growOf_yes _ _ _ _ _ 0 _ _ (by omega) hsp sg, impl_growOf_yes _ _ _ _ _ _ _ _ _ 0 _ _ (by omega) (by omega) him hbd ig⟩
      · have hP : ∀ x y, E x y = (E x y == true) := fun x y => by show E x y = _; cases E x y <;> rfl
        have er := rows_eq E E true hP R C CS h2 h4 k6 hcs
        have hrb : ∀ x, (setB (fun x => allTo (fun y x => E x y) CS true x C) R).testBit x = true → x < R := fun x hx => by
          rw [setB_bit, Bool.and_eq_true, decide_eq_true_iff] at hx
          exact hx.1
        have ec := cols_eq E E true hP R C _ h2 h4 (setB_lt8 _ R h2) hrb
        have sr := fun W => rows_any E R C h1 h2 h3 h4 CS k6 true W
        have sc := fun W => cols_any E R C h1 h2 h3 h4 _ (setB_lt8 (fun x => allTo (fun y x => E x y) CS true x C) R h2) true W
        have ir := fun W => rows_with1 R C h2 h4 _ _ z64 o64 CS k6 W
        have ic := fun W => cols_with1 R C h2 h4 _ _ z64 o64 _ (setB_lt8 (fun x => allTo (fun y x => E x y) CS true x C) R h2) W
        have er' := fun W => (by rw [← er]; exact ir W : Calls Tryz.prog 87 #[brd R C (pat (onB (fun x y => !E x y) R C) 8) (pat (onB E R C) 8), .int .i64 (CS : Int), .int .i64 1] W fun e w' => e = .returned (.int .i64 ((setB (fun x => allTo (fun y x => E x y) CS true x C) R : Nat) : Int)) ∧ Below W.heap.size W w')
        have ec' := fun W => (by rw [← ec]; exact ic W : Calls Tryz.prog 88 #[brd R C (pat (onB (fun x y => !E x y) R C) 8) (pat (onB E R C) 8), .int .i64 ((setB (fun x => allTo (fun y x => E x y) CS true x C) R : Nat) : Int), .int .i64 1] W fun e w' => e = .returned (.int .i64 ((setB (fun y => allTo E (setB (fun x => allTo (fun y x => E x y) CS true x C) R) true y R) C : Nat) : Int)) ∧ Below W.heap.size W w')
        have sg := fun W => spec_grow R C _ RS CS _ _ 1 sr sc W
        have ig := fun W => impl_grow R C _ _ RS CS _ _ 1 er' ec' W
        exact ⟨_, _, true, spec_growOf_yes _ _ _ _ _ 1 _ _ (by omega) hsp sg, impl_growOf_yes _ _ _ _ _ _ _ _ _ 1 _ _ (by omega) (by omega) him hbd ig⟩
    · rw [Bool.not_eq_true] at ht
      have hbd := fun W => board_yes R C E h1 h2 h3 h4 hs hv W
      have hrv := fun W => spec_rv R C h1 h2 h3 h4 _ hs hv x y W
      have hsp := spec_col R C _ x y false 0 (fun W => by have := hrv W; rwa [ht] at this) (fun h => by cases h)
      rw [if_neg (by decide)] at hsp
      exact ⟨0, 0, false, spec_growOf_no _ _ _ _ _ (-2) (by omega) hsp, impl_growOf_no _ _ _ _ _ (-2) (by omega) (by omega) (fun w => impl_col_no R C h2 h4 _ _ _ _ _ x y hbd ht w)⟩
  · have hv' : validB r c s = false := by simpa using hv
    have hsp := spec_col r c s x y false 0 (fun W => spec_rv_no r c s hs hv' x y W) (fun h => by cases h)
    rw [if_neg (by decide)] at hsp
    exact ⟨0, 0, false, spec_growOf_no _ _ _ _ _ (-2) (by omega) hsp, impl_growOf_no _ _ _ _ _ (-2) (by omega) (by omega) (fun w => impl_col_no 0 0 (by omega) (by omega) _ _ r c s x y (fun W => board_no r c s hs hv' W) (rvB_zero x y) w)⟩

/-- the law's own boxes -/
def MBox (w : World) (b : Nat) (r c : Int) (s : ByteArray) : Prop := MHolds w b 23 r c s
theorem MBox.on {w w1 : World} {b : Nat} {r c : Int} {s : ByteArray} (h : MBox w b r c s) (hb : Below w.heap.size w w1) : MBox w1 b r c s := mh_on h hb
def RBox (w : World) (b : Nat) (t : TypeId) (r c : Int) : Prop := THolds w b t r c
theorem RBox.on {w w1 : World} {b : Nat} {t : TypeId} {r c : Int} (h : RBox w b t r c) (hb : Below w.heap.size w w1) : RBox w1 b t r c := th_on h hb

end Go.Proofs.YtgmhddceeomjbaaGreatDoor.fnExactGrowRect
