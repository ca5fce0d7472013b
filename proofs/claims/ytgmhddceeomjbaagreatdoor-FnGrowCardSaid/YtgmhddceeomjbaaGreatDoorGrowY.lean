/-
  What a plain rectangle of a valid matrix grows to, told by the entries; what else answers none.
-/
import Derived.Test.YtgmhddceeomjbaaGreatDoorGrowWalk
import Derived.Test.YtgmhddceeomjbaaGreatDoorJ35
import Derived.Test.YtgmhddceeomjbaaGreatDoorJ20
import Derived.Test.YtgmhddceeomjbaaGreatDoorMeet
namespace Go.Proofs.YtgmhddceeomjbaaGreatDoor.GrowY
open Go.RowKit Go.Proofs.YtgmhddceeomjbaaGreatDoor.Plain Go.Proofs.YtgmhddceeomjbaaGreatDoor.Base Go.Proofs.YtgmhddceeomjbaaGreatDoor.Valid Go.Proofs.YtgmhddceeomjbaaGreatDoor.Law Go.Proofs.YtgmhddceeomjbaaGreatDoor.GridPlain Go.Proofs.YtgmhddceeomjbaaGreatDoor.Grid Go.Proofs.YtgmhddceeomjbaaGreatDoor.Entry Go.Proofs.YtgmhddceeomjbaaGreatDoor.Pat Go.Proofs.YtgmhddceeomjbaaGreatDoor.Rect Go.Proofs.YtgmhddceeomjbaaGreatDoor.Patch Go.Proofs.YtgmhddceeomjbaaGreatDoor.FreeL Go.Proofs.YtgmhddceeomjbaaGreatDoor.Board Go.Proofs.YtgmhddceeomjbaaGreatDoor.BoardM Go.Proofs.YtgmhddceeomjbaaGreatDoor.RValid Go.Proofs.YtgmhddceeomjbaaGreatDoor.Area Go.Proofs.YtgmhddceeomjbaaGreatDoor.Bal Go.Proofs.YtgmhddceeomjbaaGreatDoor.Colour Go.Proofs.YtgmhddceeomjbaaGreatDoor.Where Go.Proofs.YtgmhddceeomjbaaGreatDoor.With Go.Proofs.YtgmhddceeomjbaaGreatDoor.Cols Go.Proofs.YtgmhddceeomjbaaGreatDoor.Grow Go.Proofs.YtgmhddceeomjbaaGreatDoor.GrowOf Go.Proofs.YtgmhddceeomjbaaGreatDoor.MaxM Go.Proofs.YtgmhddceeomjbaaGreatDoor.Meet Go.Proofs.YtgmhddceeomjbaaGreatDoor.ColF
set_option linter.unusedVariables false
set_option linter.unusedSectionVars false

/-- all entries have the value -/
def plainE (E : Nat → Nat → Bool) (b : Bool) (RS CS : Nat) : Prop := ∀ x y, RS.testBit x = true → CS.testBit y = true → E x y = b
theorem colV_plain (E : Nat → Nat → Bool) (b : Bool) (RS CS R C : Nat) (h2 : R ≤ 8) (h4 : C ≤ 8) (k1 : 1 ≤ RS) (k2 : RS < 2 ^ R) (k3 : 1 ≤ CS) (k4 : CS < 2 ^ C) (k5 : RS < 256) (k6 : CS < 256) (hp : plainE E b RS CS) :
    colV (bal E RS CS R C) ((pop8 RS * pop8 CS : Nat) : Int) = bitI b := by
  have hpos : 1 ≤ pop8 RS * pop8 CS := Nat.mul_le_mul (pop8_pos RS k1 k5) (pop8_pos CS k3 k6)
  unfold colV
  cases b with
  | true =>
    rw [if_pos ((bal_area E RS CS R C h2 h4 k2 k4).2 hp)]
    rfl
  | false =>
    have h := (bal_area (fun x y => !E x y) RS CS R C h2 h4 k2 k4).2 (fun x y hx hy => by rw [hp x y hx hy]; rfl)
    rw [← bal_not] at h
    rw [if_neg (by omega), if_pos (by omega)]
    rfl
section
variable (E : Nat → Nat → Bool) (R C : Nat) (h1 : 1 ≤ R) (h2 : R ≤ 8) (h3 : 1 ≤ C) (h4 : C ≤ 8) (RS CS : Nat) (k1 : 1 ≤ RS) (k2 : RS < 2 ^ R) (k3 : 1 ≤ CS) (k4 : CS < 2 ^ C) (k5 : RS < 256) (k6 : CS < 256) (b : Bool) (hp : plainE E b RS CS)
include h1 h2 h3 h4 k1 k2 k3 k4 k5 k6 hp
theorem col_plain (w : World) : Calls Tryz.prog 17 #[mat R C (str (rowsB E R C)), rect RS CS] w fun e w' => e = .returned (.int .i64 (bitI b)) ∧ Below w.heap.size w w' := by
  have hcol := (colour_yes E R C h1 h2 h3 h4 RS CS k1 k2 k3 k4 k5 k6).2
  rw [colV_plain E b RS CS R C h2 h4 k1 k2 k3 k4 k5 k6 hp] at hcol
  exact hcol w
theorem grow_yes : (∀ w, Calls Tryz.prog 16 #[mat R C (str (rowsB E R C)), rect RS CS] w fun e w' => e = .returned (.tuple #[rect ((rS E b R C CS : Nat) : Int) ((cS E b R C (rS E b R C CS) : Nat) : Int), .bool true]) ∧ Below w.heap.size w w') ∧
    (∀ w, Calls Tryz.prog 15 #[mat R C (str (rowsB E R C)), rect RS CS] w fun e w' => e = .returned (.tuple #[rect ((rS E b R C CS : Nat) : Int) ((cS E b R C (rS E b R C CS) : Nat) : Int), .bool true]) ∧ Below w.heap.size w w') := by
  have hcol := colour_yes E R C h1 h2 h3 h4 RS CS k1 k2 k3 k4 k5 k6
  rw [colV_plain E b RS CS R C h2 h4 k1 k2 k3 k4 k5 k6 hp] at hcol
  have hbd := fun W => board_yes R C E h1 h2 h3 h4 (rows_max E R C h2 h4) (valid_rows E R C h1 h2 h3 h4) W
  have z64 := pat64 (onB (fun x y => !E x y) R C) (onB_lt _ R C h4)
  have o64 := pat64 (onB E R C) (onB_lt _ R C h4)
  have hcs : ∀ y, CS.testBit y = true → y < C := fun y hy => by
    rcases Nat.lt_or_ge y C with h | h
    · exact h
    · rw [bit_beyond CS y C k4 h] at hy; cases hy
  cases b
  · have hP : ∀ x y, (!E x y) = (E x y == false) := fun x y => by cases E x y <;> rfl
    have hsp : ∀ w, Calls Tryz.prog 50 #[mat R C (str (rowsB E R C)), rect RS CS] w fun e w' => e = .returned (.int .i64 0) ∧ Below w.heap.size w w' := hcol.1
    have him : ∀ w, Calls Tryz.prog 17 #[mat R C (str (rowsB E R C)), rect RS CS] w fun e w' => e = .returned (.int .i64 0) ∧ Below w.heap.size w w' := hcol.2
    have er := rows_eq E (fun x y => !E x y) false hP R C CS h2 h4 k6 hcs
    have hrb : ∀ x, (rS E false R C CS).testBit x = true → x < R := fun x hx => ((rS_bit ..).1 hx).1
    have ec := cols_eq E (fun x y => !E x y) false hP R C _ h2 h4 (setB_lt8 _ R h2) hrb
    have sr := fun W => rows_any E R C h1 h2 h3 h4 CS k6 false W
    have sc := fun W => cols_any E R C h1 h2 h3 h4 (rS E false R C CS) (setB_lt8 _ R h2) false W
    have ir := fun W => rows_with0 R C h2 h4 _ _ z64 o64 CS k6 W
    have ic := fun W => cols_with0 R C h2 h4 _ _ z64 o64 _ (setB_lt8 (fun x => allTo (fun y x => E x y) CS false x C) R h2) W
    have er' := fun W => (by rw [← er]; exact ir W : Calls Tryz.prog 87 #[brd R C (pat (onB (fun x y => !E x y) R C) 8) (pat (onB E R C) 8), .int .i64 (CS : Int), .int .i64 0] W fun e w' => e = .returned (.int .i64 ((setB (fun x => allTo (fun y x => E x y) CS false x C) R : Nat) : Int)) ∧ Below W.heap.size W w')
    have ec' := fun W => (by rw [← ec]; exact ic W : Calls Tryz.prog 88 #[brd R C (pat (onB (fun x y => !E x y) R C) 8) (pat (onB E R C) 8), .int .i64 ((setB (fun x => allTo (fun y x => E x y) CS false x C) R : Nat) : Int), .int .i64 0] W fun e w' => e = .returned (.int .i64 ((setB (fun y => allTo E (setB (fun x => allTo (fun y x => E x y) CS false x C) R) false y R) C : Nat) : Int)) ∧ Below W.heap.size W w')
    have sg := fun W => spec_grow R C _ RS CS _ _ 0 sr sc W
    have ig := fun W => impl_grow R C _ _ RS CS _ _ 0 er' ec' W
    exact ⟨spec_growOf_yes _ _ _ _ _ 0 _ _ (by omega) hsp sg, impl_growOf_yes _ _ _ _ _ _ _ _ _ 0 _ _ (by omega) (by omega) him hbd ig⟩
  · have hP : ∀ x y, (E x y) = (E x y == true) := fun x y => by cases E x y <;> rfl
    have hsp : ∀ w, Calls Tryz.prog 50 #[mat R C (str (rowsB E R C)), rect RS CS] w fun e w' => e = .returned (.int .i64 1) ∧ Below w.heap.size w w' := hcol.1
    have him : ∀ w, Calls Tryz.prog 17 #[mat R C (str (rowsB E R C)), rect RS CS] w fun e w' => e = .returned (.int .i64 1) ∧ Below w.heap.size w w' := hcol.2
    have er := rows_eq E (fun x y => E x y) true hP R C CS h2 h4 k6 hcs
    have hrb : ∀ x, (rS E true R C CS).testBit x = true → x < R := fun x hx => ((rS_bit ..).1 hx).1
    have ec := cols_eq E (fun x y => E x y) true hP R C _ h2 h4 (setB_lt8 _ R h2) hrb
    have sr := fun W => rows_any E R C h1 h2 h3 h4 CS k6 true W
    have sc := fun W => cols_any E R C h1 h2 h3 h4 (rS E true R C CS) (setB_lt8 _ R h2) true W
    have ir := fun W => rows_with1 R C h2 h4 _ _ z64 o64 CS k6 W
    have ic := fun W => cols_with1 R C h2 h4 _ _ z64 o64 _ (setB_lt8 (fun x => allTo (fun y x => E x y) CS true x C) R h2) W
    have er' := fun W => (by rw [← er]; exact ir W : Calls Tryz.prog 87 #[brd R C (pat (onB (fun x y => !E x y) R C) 8) (pat (onB E R C) 8), .int .i64 (CS : Int), .int .i64 1] W fun e w' => e = .returned (.int .i64 ((setB (fun x => allTo (fun y x => E x y) CS true x C) R : Nat) : Int)) ∧ Below W.heap.size W w')
    have ec' := fun W => (by rw [← ec]; exact ic W : Calls Tryz.prog 88 #[brd R C (pat (onB (fun x y => !E x y) R C) 8) (pat (onB E R C) 8), .int .i64 ((setB (fun x => allTo (fun y x => E x y) CS true x C) R : Nat) : Int), .int .i64 1] W fun e w' => e = .returned (.int .i64 ((setB (fun y => allTo E (setB (fun x => allTo (fun y x => E x y) CS true x C) R) true y R) C : Nat) : Int)) ∧ Below W.heap.size W w')
    have sg := fun W => spec_grow R C _ RS CS _ _ 1 sr sc W
    have ig := fun W => impl_grow R C _ _ RS CS _ _ 1 er' ec' W
    exact ⟨spec_growOf_yes _ _ _ _ _ 1 _ _ (by omega) hsp sg, impl_growOf_yes _ _ _ _ _ _ _ _ _ 1 _ _ (by omega) (by omega) him hbd ig⟩
/-- the rectangle that it grows to -/
theorem grown : plainE E b (rS E b R C CS) (cS E b R C (rS E b R C CS)) ∧ rS E b R C (cS E b R C (rS E b R C CS)) = rS E b R C CS ∧
    RS &&& rS E b R C CS = RS ∧ CS &&& cS E b R C (rS E b R C CS) = CS ∧ 1 ≤ rS E b R C CS ∧ 1 ≤ cS E b R C (rS E b R C CS) ∧
    (((rS E b R C CS : Nat) : Int), ((cS E b R C (rS E b R C CS) : Nat) : Int)) ∈ mx E b R C (2 ^ R - 1) := by
  have hpw := Nat.one_le_two_pow (n := R)
  have hin : ∀ x y, RS.testBit x = true → CS.testBit y = true → x < R ∧ y < C := fun x y hx hy => by
    constructor
    · rcases Nat.lt_or_ge x R with h | h
      · exact h
      · rw [bit_beyond RS x R k2 h] at hx; cases hx
    · rcases Nat.lt_or_ge y C with h | h
      · exact h
      · rw [bit_beyond CS y C k4 h] at hy; cases hy
  obtain ⟨x0, hx0⟩ : ∃ x, RS.testBit x = true := Nat.exists_testBit_of_ne_zero (by omega)
  obtain ⟨y0, hy0⟩ : ∃ y, CS.testBit y = true := Nat.exists_testBit_of_ne_zero (by omega)
  have hR : ∀ x, RS.testBit x = true → (rS E b R C CS).testBit x = true := fun x hx => (rS_bit ..).2 ⟨(hin x y0 hx hy0).1, fun y hy hb => hp x y hx hb⟩
  have hC : ∀ y, CS.testBit y = true → (cS E b R C (rS E b R C CS)).testBit y = true := fun y hy => (cS_bit ..).2 ⟨(hin x0 y hx0 hy).2, fun x hx hb => ((rS_bit ..).1 hb).2 y (hin x0 y hx0 hy).2 hy⟩
  have hclosed : rS E b R C (cS E b R C (rS E b R C CS)) = rS E b R C CS := by
    refine Nat.eq_of_testBit_eq fun x => ?_
    rw [Bool.eq_iff_iff]
    constructor
    · intro h
      obtain ⟨g1, g2⟩ := (rS_bit ..).1 h
      exact (rS_bit ..).2 ⟨g1, fun y hy hb => g2 y hy (hC y hb)⟩
    · intro h
      exact (rS_bit ..).2 ⟨((rS_bit ..).1 h).1, fun y hy hb => ((cS_bit ..).1 hb).2 x ((rS_bit ..).1 h).1 h⟩
  have p1 : 1 ≤ rS E b R C CS := by
    rcases Nat.eq_zero_or_pos (rS E b R C CS) with h0 | h0
    · have := hR x0 hx0
      rw [h0] at this
      simp at this
    · exact h0
  have p2 : 1 ≤ cS E b R C (rS E b R C CS) := by
    rcases Nat.eq_zero_or_pos (cS E b R C (rS E b R C CS)) with h0 | h0
    · have := hC y0 hy0
      rw [h0] at this
      simp at this
    · exact h0
  have hlt := rS_lt E b R C CS
  have sub : ∀ a c : Nat, (∀ i, a.testBit i = true → c.testBit i = true) → a &&& c = a := fun a c h => Nat.eq_of_testBit_eq fun i => by
    rw [Nat.testBit_and]
    cases ha : a.testBit i with
    | false => rfl
    | true => rw [h i ha]; rfl
  refine ⟨fun x y hx hy => ((cS_bit ..).1 hy).2 x ((rS_bit ..).1 hx).1 hx, hclosed, sub _ _ hR, sub _ _ hC, p1, p2, ?_⟩
  exact (mx_mem ..).2 ⟨rS E b R C CS, p1, by omega, by omega, hclosed, rfl⟩
end
theorem and_nat (A B : Nat) (hA : A < 256) (hB : B < 256) : Go.bits .and .i64 (A : Int) (B : Int) = ((A &&& B : Nat) : Int) :=
  (bits_nat .i64 8 (by decide) (fun n h0 h1 => by rw [IntKind.wrap_i64]; omega) A B (by omega) (by omega)).1
theorem meet_in (G1 G2 RS CS : Nat) (g1 : 1 ≤ G1) (g2 : 1 ≤ G2) (g3 : G1 < 256) (g4 : G2 < 256) (k1 : 1 ≤ RS) (k3 : 1 ≤ CS) (k5 : RS < 256) (k6 : CS < 256) (e1 : RS &&& G1 = RS) (e2 : CS &&& G2 = CS) (w : World) :
    Calls Tryz.prog 18 #[rect G1 G2, rect RS CS] w fun e w' => e = .returned (.tuple #[rect RS CS, .bool true]) ∧ Below w.heap.size w w' := by
  have h := impl_meetC G1 G2 RS CS ((someB_iff _ _).2 (by omega)) ((someB_iff _ _).2 (by omega)) w
  rw [and_nat G1 RS g3 k5, and_nat G2 CS g4 k6, Nat.and_comm G1, Nat.and_comm G2, e1, e2, (someB_iff _ _).2 (by omega : (1 ≤ (RS : Int) ∧ (RS : Int) ≤ 255) ∧ 1 ≤ (CS : Int) ∧ (CS : Int) ≤ 255)] at h
  exact h

/-- which matrices and rectangles there are: nothing grows, or the rectangle is plain -/
theorem cases (a b : Int) (t : ByteArray) (hs : t.size ≤ maxLen) (x y : Int) :
    (∃ v : Int, v < 0 ∧ -2 ≤ v ∧ (∀ w, Calls Tryz.prog 17 #[mat a b t, rect x y] w fun e w' => e = .returned (.int .i64 v) ∧ Below w.heap.size w w') ∧
     (∀ w, Calls Tryz.prog 16 #[mat a b t, rect x y] w fun e w' => e = .returned (.tuple #[rect 0 0, .bool false]) ∧ Below w.heap.size w w') ∧
     (∀ w, Calls Tryz.prog 15 #[mat a b t, rect x y] w fun e w' => e = .returned (.tuple #[rect 0 0, .bool false]) ∧ Below w.heap.size w w')) ∨
    (∃ (R C : Nat) (E : Nat → Nat → Bool) (RS CS : Nat) (c : Bool), a = R ∧ b = C ∧ t = str (rowsB E R C) ∧ x = RS ∧ y = CS ∧ (1 ≤ R ∧ R ≤ 8 ∧ 1 ≤ C ∧ C ≤ 8) ∧ (1 ≤ RS ∧ RS < 2 ^ R ∧ 1 ≤ CS ∧ CS < 2 ^ C ∧ RS < 256 ∧ CS < 256) ∧ plainE E c RS CS) := by
  by_cases hv : validB a b t = true
  · obtain ⟨R, C, E, rfl, rfl, h1, h2, h3, h4, rfl⟩ := valid_form hv
    have hbd := fun W => board_yes R C E h1 h2 h3 h4 hs hv W
    by_cases ht : rvB R C x y = true
    · obtain ⟨RS, CS, rfl, rfl, k1, k2, k3, k4, k5, k6⟩ := rv_nat h2 h4 ht
      have hcol := colour_yes E R C h1 h2 h3 h4 RS CS k1 k2 k3 k4 k5 k6
      by_cases ha : bal E RS CS R C = ((pop8 RS * pop8 CS : Nat) : Int)
      · exact .inr ⟨R, C, E, RS, CS, true, rfl, rfl, rfl, rfl, rfl, ⟨h1, h2, h3, h4⟩, ⟨k1, k2, k3, k4, k5, k6⟩, (bal_area E RS CS R C h2 h4 k2 k4).1 ha⟩
      by_cases hb : bal E RS CS R C = - ((pop8 RS * pop8 CS : Nat) : Int)
      · refine .inr ⟨R, C, E, RS, CS, false, rfl, rfl, rfl, rfl, rfl, ⟨h1, h2, h3, h4⟩, ⟨k1, k2, k3, k4, k5, k6⟩, fun i j hi hj => ?_⟩
        have := (bal_area (fun x y => !E x y) RS CS R C h2 h4 k2 k4).1 (by rw [← bal_not]; omega) i j hi hj
        simpa using this
      · have e : colV (bal E RS CS R C) ((pop8 RS * pop8 CS : Nat) : Int) = -1 := by unfold colV; rw [if_neg ha, if_neg hb]
        rw [e] at hcol
        exact .inl ⟨-1, by omega, by omega, hcol.2, spec_growOf_no _ _ _ _ _ (-1) (by omega) hcol.1, impl_growOf_no _ _ _ _ _ (-1) (by omega) (by omega) hcol.2⟩
    · rw [Bool.not_eq_true] at ht
      have hrv := fun W => spec_rv R C h1 h2 h3 h4 _ hs hv x y W
      have hsp := spec_col R C _ x y false 0 (fun W => by have := hrv W; rwa [ht] at this) (fun h => by cases h)
      rw [if_neg (by decide)] at hsp
      have hic := fun w => impl_col_no R C h2 h4 _ _ _ _ _ x y hbd ht w
      exact .inl ⟨-2, by omega, by omega, hic, spec_growOf_no _ _ _ _ _ (-2) (by omega) hsp, impl_growOf_no _ _ _ _ _ (-2) (by omega) (by omega) hic⟩
  · have hv' : validB a b t = false := by simpa using hv
    have hsp := spec_col a b t x y false 0 (fun W => spec_rv_no a b t hs hv' x y W) (fun h => by cases h)
    rw [if_neg (by decide)] at hsp
    have hic := fun w => impl_col_no 0 0 (by omega) (by omega) _ _ a b t x y (fun W => board_no a b t hs hv' W) (rvB_zero x y) w
    exact .inl ⟨-2, by omega, by omega, hic, spec_growOf_no _ _ _ _ _ (-2) (by omega) hsp, impl_growOf_no _ _ _ _ _ (-2) (by omega) (by omega) hic⟩
end Go.Proofs.YtgmhddceeomjbaaGreatDoor.GrowY
