/-
  Texts of one seat, joined: IsCoverWalk, RectValidWalk, IcM.
-/
import Derived.Test.YtohkllmhknjkoaaDoorJp1
import Derived.Test.YtohkllmhknjkoaaDoorJp22
import Derived.Test.YtohkllmhknjkoaaDoorJp17
import Derived.Test.YtohkllmhknjkoaaDoorJp14
/-
  The walk of the law on IsCover.
-/
namespace Go.Proofs.YtohkllmhknjkoaaDoor.fnExactIsCover
open Go.RowKit Go.Proofs.YtohkllmhknjkoaaDoor.Plain Go.Proofs.YtohkllmhknjkoaaDoor.Base Go.Proofs.YtohkllmhknjkoaaDoor.Valid Go.Proofs.YtohkllmhknjkoaaDoor.Law Go.Proofs.YtohkllmhknjkoaaDoor.GridPlain Go.Proofs.YtohkllmhknjkoaaDoor.Entry Go.Proofs.YtohkllmhknjkoaaDoor.Pat Go.Proofs.YtohkllmhknjkoaaDoor.Rect Go.Proofs.YtohkllmhknjkoaaDoor.Patch Go.Proofs.YtohkllmhknjkoaaDoor.FreeL Go.Proofs.YtohkllmhknjkoaaDoor.Board Go.Proofs.YtohkllmhknjkoaaDoor.BoardM Go.Proofs.YtohkllmhknjkoaaDoor.RValid Go.Proofs.YtohkllmhknjkoaaDoor.Area Go.Proofs.YtohkllmhknjkoaaDoor.Bal Go.Proofs.YtohkllmhknjkoaaDoor.Colour Go.Proofs.YtohkllmhknjkoaaDoor.Rects Go.Proofs.YtohkllmhknjkoaaDoor.Cover Go.Proofs.YtohkllmhknjkoaaDoor.CoverS Go.Proofs.YtohkllmhknjkoaaDoor.CovM
set_option linter.unusedVariables false

set_option maxHeartbeats 1000000 in
theorem spec_no (r c : Int) (s : ByteArray) (hs : s.size ≤ maxLen) (bit : Int) (b : Bool) (hb : validB r c s = b) (h : b = false ∨ (bit ≠ 0 ∧ bit ≠ 1)) (v : Value) (w : World) :
    Calls Tryd.prog 25 #[mat r c s, .int .i64 bit, v] w fun e w' => e = .returned (.bool false) ∧ Below w.heap.size w w' := by
  have HV := Lib.hid hb
  have HH := Lib.hid h
  clear hb h
  go_enter Tryd.func25, Tryd.ntmps25
  go_wp2_with fail
  refine (spec_valid r c s hs _).mono ?_
  rintro e w1 ⟨rfl, hb1⟩
  rw [HV.out]
  have HB := Lib.hid (bstep ((Below.refl w.heap.size w).alloc (Nat.le_refl _) _) hb1)
  clear hb1
  cases b
  · go_wp2_with fail
    go_ret
    exact ⟨rfl, HB.out⟩
  · have HN : Hid (decide (0 ≤ bit ∧ bit ≤ 1) = false) := decide_eq_false (by have := HH.out; simp at this; omega)
    go_wp2_with fail
    refine (in_any bit 0 1 _).mono ?_
    rintro e w' ⟨rfl, rfl⟩
    rw [HN.out]
    go_wp2_with fail
    go_ret
    exact ⟨rfl, HB.out⟩

theorem eq_pair (W : World) : (Op.equalIn 9999 79 (.agg #[.int .u64 0, .int .u64 0]) (.agg #[.int .u64 0, .int .u64 0])).run Tryd.prog W = .ok true W := by
  kernel_rfl

set_option maxHeartbeats 1000000 in
set_option maxRecDepth 100000 in
theorem impl_no_board (rr cc : Int) (s : ByteArray) (bit : Int) (hbo : ∀ W : World, Calls Tryd.prog 64 #[mat rr cc s] W fun e w' => e = .returned (.agg #[.int .i64 0, .int .i64 0, .int .u64 0, .int .u64 0]) ∧ Below W.heap.size W w') (v : Value) (w : World) :
    Calls Tryd.prog 24 #[mat rr cc s, .int .i64 bit, v] w fun e w' => e = .returned (.bool false) ∧ Below w.heap.size w w' := by
  have HBO := Lib.hid hbo
  clear hbo
  go_enter Tryd.func24, Tryd.ntmps24
  go_wp2_with fail
  refine (HBO.out _).mono ?_
  rintro e w1 ⟨rfl, hb1⟩
  have hbx : Below w.heap.size w w1 := rstep ((Below.refl w.heap.size w).alloc (Nat.le_refl _) _) hb1
  have HB : Hid (Below w.heap.size w (w1.alloc (.cells #[.int .i64 0, .int .i64 0, .int .u64 0, .int .u64 0] 81))) := hbx.alloc hbx.size _
  clear hb1 hbx HBO
  have heq := eq_pair
  go_wp2_with fail
  go_ret
  exact ⟨rfl, HB.out⟩

set_option maxHeartbeats 1000000 in
theorem impl_no_bit (R C : Nat) (hR1 : 1 ≤ R) (z o : Nat) (rr cc : Int) (s : ByteArray) (bit : Int) (h0 : bit ≠ 0) (h1 : bit ≠ 1) (hbo : ∀ W : World, Calls Tryd.prog 64 #[mat rr cc s] W fun e w' => e = .returned (brd R C z o) ∧ Below W.heap.size W w') (v : Value) (w : World) :
    Calls Tryd.prog 24 #[mat rr cc s, .int .i64 bit, v] w fun e w' => e = .returned (.bool false) ∧ Below w.heap.size w w' := by
  have HBO := Lib.hid hbo
  have HBIT := Lib.hid (fun W => bit_all bit W)
  rw [show (bit == 0 || bit == 1) = false by rw [beq_false_of_ne h0, beq_false_of_ne h1]; rfl] at HBIT
  clear hbo h0 h1
  go_enter Tryd.func24, Tryd.ntmps24
  go_wp2_with fail
  refine (HBO.out _).mono ?_
  rintro e w1 ⟨rfl, hb1⟩
  have hbx : Below w.heap.size w w1 := rstep ((Below.refl w.heap.size w).alloc (Nat.le_refl _) _) hb1
  have HB : Hid (Below w.heap.size w (w1.alloc (.cells #[.int .i64 (R : Int), .int .i64 (C : Int), .int .u64 (z : Int), .int .u64 (o : Int)] 81))) := hbx.alloc hbx.size _
  clear hb1 hbx HBO
  go_wp2_with fail
  refine (HBIT.out _).mono ?_
  rintro e w' ⟨rfl, rfl⟩
  go_wp2_with fail
  go_ret
  exact ⟨rfl, HB.out⟩

/-- both find one truth value -/
theorem both (r c : Int) (s : ByteArray) (hs : s.size ≤ maxLen) (bit : Int) (xs : List (Int × Int)) : ∃ t : Bool,
    (∀ v w, RV w w.heap.size v xs → Calls Tryd.prog 25 #[mat r c s, .int .i64 bit, v] w fun e w' => e = .returned (.bool t) ∧ Below w.heap.size w w') ∧
    (∀ v w, RV w w.heap.size v xs → Calls Tryd.prog 24 #[mat r c s, .int .i64 bit, v] w fun e w' => e = .returned (.bool t) ∧ Below w.heap.size w w') := by
  by_cases hv : validB r c s = true
  · obtain ⟨R, C, E, rfl, rfl, h1, h2, h3, h4, rfl⟩ := valid_form hv
    have hbd := fun W => board_yes R C E h1 h2 h3 h4 hs hv W
    have z64 := pat64 (onB (fun x y => !E x y) R C) (onB_lt _ R C h4)
    have o64 := pat64 (onB E R C) (onB_lt _ R C h4)
    have hcol := fun r c W => colR_any E R C h1 h2 h3 h4 hs hv r c W
    have hcv : ∀ bit : Int, 0 ≤ bit → ∀ r c, colR E R C r c = bit → ∃ RS CS : Nat, r = (RS : Int) ∧ c = (CS : Int) ∧ 1 ≤ RS ∧ RS < 256 ∧ 1 ≤ CS ∧ CS < 256 := fun bit hb r c h => by
      unfold colR at h
      by_cases ht : rvB R C r c = true
      · obtain ⟨RS, CS, e1, e2, k1, k2, k3, k4, k5, k6⟩ := rv_nat h2 h4 ht
        exact ⟨RS, CS, e1, e2, k1, k5, k3, k6⟩
      · rw [if_neg ht] at h
        omega
    by_cases b0 : bit = 0
    · subst b0
      refine ⟨_, fun v w hiv => spec_cover E R C h1 h2 h3 h4 _ rfl hs hv 0 (.inl rfl) _ hcol (hcv 0 (by omega)) xs v w hiv, fun v w hiv => ?_⟩
      rw [cover_eq E (fun x y => !E x y) 0 (fun x y => by cases E x y <;> rfl) R C h2 h4 xs (colR_zero E R C h2 h4)]
      exact impl_cover R C h1 h2 h4 _ _ _ z64 0 (.inl ⟨rfl, rfl⟩) _ _ _ hbd (fun RS CS k5 k6 W => plain0 R C _ _ z64 o64 RS CS k5 k6 W) xs v w hiv
    · by_cases b1 : bit = 1
      · subst b1
        refine ⟨_, fun v w hiv => spec_cover E R C h1 h2 h3 h4 _ rfl hs hv 1 (.inr rfl) _ hcol (hcv 1 (by omega)) xs v w hiv, fun v w hiv => ?_⟩
        rw [cover_eq E E 1 (fun x y => by cases E x y <;> rfl) R C h2 h4 xs (colR_one E R C h2 h4)]
        exact impl_cover R C h1 h2 h4 _ _ _ o64 1 (.inr ⟨rfl, rfl⟩) _ _ _ hbd (fun RS CS k5 k6 W => plain1 R C _ _ z64 o64 RS CS k5 k6 W) xs v w hiv
      · exact ⟨false, fun v w _ => spec_no R C _ hs bit true hv (.inr ⟨b0, b1⟩) v w, fun v w _ => impl_no_bit R C h1 _ _ _ _ _ bit b0 b1 hbd v w⟩
  · have hv' : validB r c s = false := by simpa using hv
    refine ⟨false, fun v w _ => spec_no r c s hs bit false hv' (.inl rfl) v w, fun v w _ => impl_no_board r c s bit (fun W => ?_) v w⟩
    have h := board_no r c s hs hv' W
    rw [show pat (onB (fun _ _ => true) 0 0) 8 = 0 from (pat_zero 8 _).2 fun x _ => by unfold onB; rw [if_neg (by omega)], show pat (onB (fun _ _ => false) 0 0) 8 = 0 from (pat_zero 8 _).2 fun x _ => by unfold onB; rw [if_neg (by omega)]] at h
    exact h

/-- the law's own copy of the matrix -/
def LBox (w : World) (b : Nat) (r c : Int) (s : ByteArray) : Prop := MHolds w b 23 r c s
theorem LBox.on {w w1 : World} {b : Nat} {r c : Int} {s : ByteArray} (h : LBox w b r c s) (hb : Below w.heap.size w w1) : LBox w1 b r c s := mh_on h hb

end Go.Proofs.YtohkllmhknjkoaaDoor.fnExactIsCover

/-
  The walk of the law on RectValid.
-/
namespace Go.Proofs.YtohkllmhknjkoaaDoor.fnExactRectValid
open Go.RowKit Go.Proofs.YtohkllmhknjkoaaDoor.Plain Go.Proofs.YtohkllmhknjkoaaDoor.Base Go.Proofs.YtohkllmhknjkoaaDoor.Valid Go.Proofs.YtohkllmhknjkoaaDoor.Law Go.Proofs.YtohkllmhknjkoaaDoor.GridPlain Go.Proofs.YtohkllmhknjkoaaDoor.Entry Go.Proofs.YtohkllmhknjkoaaDoor.Pat Go.Proofs.YtohkllmhknjkoaaDoor.Rect Go.Proofs.YtohkllmhknjkoaaDoor.Patch Go.Proofs.YtohkllmhknjkoaaDoor.FreeL Go.Proofs.YtohkllmhknjkoaaDoor.Board Go.Proofs.YtohkllmhknjkoaaDoor.BoardM Go.Proofs.YtohkllmhknjkoaaDoor.RValid
open Go.Proofs.YtohkllmhknjkoaaDoor.Free (fill wp_value wp_enter wp_load_row freeB)
set_option linter.unusedVariables false

/-- both find one truth value -/
theorem both (r c : Int) (s : ByteArray) (hs : s.size ≤ maxLen) (x y : Int) : ∃ v : Bool,
    (∀ w, Calls Tryd.prog 115 #[mat r c s, rect x y] w fun e w' => e = .returned (.bool v) ∧ Below w.heap.size w w') ∧
    (∀ w, Calls Tryd.prog 29 #[mat r c s, rect x y] w fun e w' => e = .returned (.bool v) ∧ Below w.heap.size w w') := by
  by_cases hv : validB r c s = true
  · obtain ⟨R, C, E, rfl, rfl, h1, h2, h3, h4, rfl⟩ := valid_form hv
    exact ⟨_, fun w => spec_rv R C h1 h2 h3 h4 _ hs hv x y w, fun w => impl_rv R C h2 h4 _ _ _ _ _ x y (fun W => board_yes R C E h1 h2 h3 h4 hs hv W) w⟩
  · have hv' : validB r c s = false := by simpa using hv
    refine ⟨false, fun w => spec_rv_no r c s hs hv' x y w, fun w => ?_⟩
    have := impl_rv 0 0 (by omega) (by omega) _ _ r c s x y (fun W => board_no r c s hs hv' W) w
    rwa [rvB_zero] at this

end Go.Proofs.YtohkllmhknjkoaaDoor.fnExactRectValid

/-
  Rectangles that cover: the entries and the rectangles one by one.
-/
namespace Go.Proofs.YtohkllmhknjkoaaDoor.IcM
open Go.RowKit Go.Proofs.YtohkllmhknjkoaaDoor.Plain Go.Proofs.YtohkllmhknjkoaaDoor.Base Go.Proofs.YtohkllmhknjkoaaDoor.Valid Go.Proofs.YtohkllmhknjkoaaDoor.Law Go.Proofs.YtohkllmhknjkoaaDoor.GridPlain Go.Proofs.YtohkllmhknjkoaaDoor.Grid Go.Proofs.YtohkllmhknjkoaaDoor.Entry Go.Proofs.YtohkllmhknjkoaaDoor.Pat Go.Proofs.YtohkllmhknjkoaaDoor.Rect Go.Proofs.YtohkllmhknjkoaaDoor.Patch Go.Proofs.YtohkllmhknjkoaaDoor.Board Go.Proofs.YtohkllmhknjkoaaDoor.BoardM Go.Proofs.YtohkllmhknjkoaaDoor.RValid Go.Proofs.YtohkllmhknjkoaaDoor.Bal Go.Proofs.YtohkllmhknjkoaaDoor.Colour Go.Proofs.YtohkllmhknjkoaaDoor.Rects Go.Proofs.YtohkllmhknjkoaaDoor.Cover Go.Proofs.YtohkllmhknjkoaaDoor.CoverS Go.Proofs.YtohkllmhknjkoaaDoor.CovM
set_option linter.unusedVariables false

/-- whether an entry is in a rectangle -/
def inB (r : Int × Int) (x y : Nat) : Bool := someB r.1 r.2 && (r.1.toNat.testBit x && r.2.toNat.testBit y)
theorem in_any (r c : Int) (x y : Nat) (hx : x < 8) (hy : y < 8) (w : World) :
    Calls Tryd.prog 27 #[rect r c, .int .i64 (x : Int), .int .i64 (y : Int)] w fun e w' => e = .returned (.bool (inB (r, c) x y)) ∧ Below w.heap.size w w' := by
  by_cases h : someB r c = true
  · have hh := (someB_iff r c).1 h
    obtain ⟨R, rfl⟩ := Int.eq_ofNat_of_zero_le (show 0 ≤ r by omega)
    obtain ⟨C, rfl⟩ := Int.eq_ofNat_of_zero_le (show 0 ≤ c by omega)
    unfold inB
    rw [h, Bool.true_and]
    exact fnExactInRect.impl_yes R C x y h _ _ (fun W => inSet_yes R x (by omega) hx W) (fun W => inSet_yes C y (by omega) hy W) w
  · have h' : someB r c = false := by simpa using h
    unfold inB
    rw [h', Bool.false_and]
    exact fnExactInRect.impl_none r c x y h' w
theorem entry_any (E : Nat → Nat → Bool) (R C : Nat) (h1 : 1 ≤ R) (h2 : R ≤ 8) (h3 : 1 ≤ C) (h4 : C ≤ 8) (hv : validB R C (str (rowsB E R C)) = true) (hs : (str (rowsB E R C)).size ≤ maxLen) (a b : Nat) (ha : a < R) (hb : b < C) (w : World) :
    Calls Tryd.prog 28 #[mat R C (str (rowsB E R C)), .int .i64 (a : Int), .int .i64 (b : Int)] w fun e w' => e = .returned (.int .i64 (bitI (E a b))) ∧ Below w.heap.size w w' := by
  have hsz : (str (rowsB E R C)).size ≤ 64 := by rw [str_size, rowsB_length]; exact prod_le h2 h4
  exact fnExactEntryOf.impl_of _ _ _ _ _ _ _ _ _ w (fun W => grid_yes E R C h1 h2 h3 h4 _ rfl hs hsz hv W) (.inr ⟨a, b, rfl, rfl, by omega, by omega, ⟨⟨by omega, by omega⟩, by omega, by omega⟩, (gpart_all E R C a b ha hb h4).symm⟩)
theorem valid_any (E : Nat → Nat → Bool) (R C : Nat) (h1 : 1 ≤ R) (h2 : R ≤ 8) (h3 : 1 ≤ C) (h4 : C ≤ 8) (hv : validB R C (str (rowsB E R C)) = true) (hs : (str (rowsB E R C)).size ≤ maxLen) (x y : Int) (w : World) :
    Calls Tryd.prog 29 #[mat R C (str (rowsB E R C)), rect x y] w fun e w' => e = .returned (.bool (rvB R C x y)) ∧ Below w.heap.size w w' :=
  impl_rv R C h2 h4 _ _ _ _ _ x y (fun W => board_yes R C E h1 h2 h3 h4 hs hv W) w

/-- an entry is in some rectangle just if it has the value -/
def cellOK (E : Nat → Nat → Bool) (bt : Bool) (xs : List (Int × Int)) (x y : Nat) : Bool := (xs.any fun r => inB r x y) == (E x y == bt)
def rowTo (E : Nat → Nat → Bool) (bt : Bool) (xs : List (Int × Int)) (x k : Nat) : Bool := (List.range k).all (cellOK E bt xs x)
def allTo (E : Nat → Nat → Bool) (bt : Bool) (xs : List (Int × Int)) (C k : Nat) : Bool := (List.range k).all fun x => rowTo E bt xs x C
def goodB (E : Nat → Nat → Bool) (bt : Bool) (xs : List (Int × Int)) (R C : Nat) : Bool := allTo E bt xs C R && xs.all fun r => rvB R C r.1 r.2
theorem row_next (E : Nat → Nat → Bool) (bt : Bool) (xs : List (Int × Int)) (x k : Nat) : rowTo E bt xs x (k + 1) = (rowTo E bt xs x k && cellOK E bt xs x k) := by
  simp [rowTo, List.range_succ]
theorem all_next (E : Nat → Nat → Bool) (bt : Bool) (xs : List (Int × Int)) (C k : Nat) : allTo E bt xs C (k + 1) = (allTo E bt xs C k && rowTo E bt xs k C) := by
  simp [allTo, List.range_succ]
theorem take_any {α : Type} (xs : List α) (f : α → Bool) (k : Nat) (h : k < xs.length) : (xs.take (k + 1)).any f = ((xs.take k).any f || f xs[k]) := by
  rw [List.take_succ_eq_append_getElem h, List.any_append]
  simp
theorem take_all {α : Type} (xs : List α) (f : α → Bool) (k : Nat) (h : k < xs.length) : (xs.take (k + 1)).all f = ((xs.take k).all f && f xs[k]) := by
  rw [List.take_succ_eq_append_getElem h, List.all_append]
  simp
theorem cell_any (E : Nat → Nat → Bool) (bit : Int) (xs : List (Int × Int)) (x y : Nat) : ∀ k, k ≤ xs.length → cellTo E bit xs x y k = ((bitI (E x y) != bit) || (xs.take k).any fun r => r.1.toNat.testBit x && r.2.toNat.testBit y)
  | 0, _ => by simp [cellTo]
  | k + 1, hk => by rw [cellTo_next E bit xs x y k (by omega), cell_any E bit xs x y k (by omega), take_any xs _ k (by omega), Bool.or_assoc]
theorem in_rv {R C : Nat} (h2 : R ≤ 8) (h4 : C ≤ 8) {r : Int × Int} (h : rvB R C r.1 r.2 = true) (x y : Nat) : inB r x y = (r.1.toNat.testBit x && r.2.toNat.testBit y) := by
  obtain ⟨RS, CS, e1, e2, k1, k2, k3, k4, k5, k6⟩ := rv_nat h2 h4 h
  unfold inB
  rw [(someB_iff _ _).2 ⟨by rw [e1]; omega, by rw [e2]; omega⟩, Bool.true_and]
theorem cov_good (E : Nat → Nat → Bool) (bt : Bool) (P : Nat → Nat → Bool) (hP : ∀ x y, P x y = (E x y == bt)) (R C : Nat) (h2 : R ≤ 8) (h4 : C ≤ 8) (xs : List (Int × Int))
    (hc : ∀ r c, (colR E R C r c == bitI bt) = hpB R C (pat (onB P R C) 8) r c) :
    (xs.all (fun r => colR E R C r.1 r.2 == bitI bt) && cellsAll E (bitI bt) xs R C) = goodB E bt xs R C := by
  have e : (fun r : Int × Int => colR E R C r.1 r.2 == bitI bt) = fun r => hpB R C (pat (onB P R C) 8) r.1 r.2 := funext fun r => hc r.1 r.2
  have hbit : ∀ x y, (bitI (E x y) != bitI bt) = !P x y := fun x y => by rw [hP]; cases E x y <;> cases bt <;> rfl
  rw [e, Bool.eq_iff_iff]
  unfold goodB cellsAll allTo rowTo cellOK
  simp only [Bool.and_eq_true, List.all_eq_true, decide_eq_true_iff, List.mem_range, beq_iff_eq]
  constructor
  · rintro ⟨ha, hb⟩
    have hrv : ∀ r ∈ xs, rvB R C r.1 r.2 = true := fun r hr => by
      have := ha r hr
      unfold hpB at this
      exact (Bool.and_eq_true _ _ ▸ this).1
    refine ⟨fun x hx y hy => ?_, hrv⟩
    rw [← hP, Bool.eq_iff_iff]
    constructor
    · intro h
      obtain ⟨r, hr, hi⟩ := List.any_eq_true.1 h
      rw [in_rv h2 h4 (hrv r hr), Bool.and_eq_true] at hi
      obtain ⟨RS, CS, e1, e2, k1, k2, k3, k4, k5, k6⟩ := rv_nat h2 h4 (hrv r hr)
      have hp := ha r hr
      unfold hpB at hp
      rw [Bool.and_eq_true] at hp
      have hp2 := hp.2
      rw [e1, e2, Int.toNat_natCast, Int.toNat_natCast] at hp2 hi
      exact ((plain_pat P R C RS CS h2 h4 k5 k6).1 (of_decide_eq_true hp2) x y hi.1 hi.2).2
    · intro h
      have h3 := hb x hx y hy
      rw [cell_any E _ xs x y _ (Nat.le_refl _), hbit, h, List.take_length] at h3
      obtain ⟨r, hr, hi⟩ := List.any_eq_true.1 (by simpa using h3 : (xs.any fun r => r.1.toNat.testBit x && r.2.toNat.testBit y) = true)
      exact List.any_eq_true.2 ⟨r, hr, by rw [in_rv h2 h4 (hrv r hr)]; exact hi⟩
  · rintro ⟨hb, hrv⟩
    constructor
    · intro r hr
      obtain ⟨RS, CS, e1, e2, k1, k2, k3, k4, k5, k6⟩ := rv_nat h2 h4 (hrv r hr)
      unfold hpB
      rw [hrv r hr, Bool.true_and, decide_eq_true_iff, e1, e2, Int.toNat_natCast, Int.toNat_natCast]
      refine (plain_pat P R C RS CS h2 h4 k5 k6).2 fun x y hx hy => ?_
      have hxR : x < R := by
        rcases Nat.lt_or_ge x R with h | h
        · exact h
        · rw [bit_beyond RS x R k2 h] at hx; cases hx
      have hyC : y < C := by
        rcases Nat.lt_or_ge y C with h | h
        · exact h
        · rw [bit_beyond CS y C k4 h] at hy; cases hy
      refine ⟨⟨hxR, hyC⟩, ?_⟩
      rw [hP, ← hb x hxR y hyC]
      exact List.any_eq_true.2 ⟨r, hr, by rw [in_rv h2 h4 (hrv r hr), e1, e2, Int.toNat_natCast, Int.toNat_natCast, hx, hy]; rfl⟩
    · intro x hx y hy
      rw [cell_any E _ xs x y _ (Nat.le_refl _), hbit, List.take_length]
      cases hp : P x y with
      | false => rfl
      | true =>
        have h3 := hb x hx y hy
        rw [← hP, hp] at h3
        obtain ⟨r, hr, hi⟩ := List.any_eq_true.1 h3
        rw [in_rv h2 h4 (hrv r hr)] at hi
        exact List.any_eq_true.2 ⟨r, hr, hi⟩
/-- both find one truth value, and where there is a matrix it is told entry by entry -/
theorem both2 (r c : Int) (s : ByteArray) (hs : s.size ≤ maxLen) (bit : Int) (xs : List (Int × Int)) : ∃ t : Bool,
    (∀ v w, RV w w.heap.size v xs → Calls Tryd.prog 25 #[mat r c s, .int .i64 bit, v] w fun e w' => e = .returned (.bool t) ∧ Below w.heap.size w w') ∧
    (∀ v w, RV w w.heap.size v xs → Calls Tryd.prog 24 #[mat r c s, .int .i64 bit, v] w fun e w' => e = .returned (.bool t) ∧ Below w.heap.size w w') ∧
    ((validB r c s = false ∨ (bit ≠ 0 ∧ bit ≠ 1)) ∨ ∃ (R C : Nat) (E : Nat → Nat → Bool) (bt : Bool), r = R ∧ c = C ∧ s = str (rowsB E R C) ∧ 1 ≤ R ∧ R ≤ 8 ∧ 1 ≤ C ∧ C ≤ 8 ∧ bit = bitI bt ∧ t = goodB E bt xs R C) := by
  by_cases hno : validB r c s = false ∨ (bit ≠ 0 ∧ bit ≠ 1)
  · obtain ⟨t, h1, h2⟩ := fnExactIsCover.both r c s hs bit xs
    exact ⟨t, h1, h2, .inl hno⟩
  · have hv : validB r c s = true := by
      cases h : validB r c s with
      | false => exact absurd (.inl h) hno
      | true => rfl
    obtain ⟨bt, rfl⟩ : ∃ bt, bit = bitI bt := by
      have : bit = 0 ∨ bit = 1 := by
        by_cases h0 : bit = 0
        · exact .inl h0
        · by_cases h1 : bit = 1
          · exact .inr h1
          · exact absurd (.inr ⟨h0, h1⟩) hno
      rcases this with rfl | rfl
      · exact ⟨false, rfl⟩
      · exact ⟨true, rfl⟩
    obtain ⟨R, C, E, rfl, rfl, h1, h2, h3, h4, rfl⟩ := valid_form hv
    have hbd := fun W => board_yes R C E h1 h2 h3 h4 hs hv W
    have z64 := pat64 (onB (fun x y => !E x y) R C) (onB_lt _ R C h4)
    have o64 := pat64 (onB E R C) (onB_lt _ R C h4)
    have hcol := fun r c W => colR_any E R C h1 h2 h3 h4 hs hv r c W
    have hcv : ∀ bit : Int, 0 ≤ bit → ∀ r c, colR E R C r c = bit → ∃ RS CS : Nat, r = (RS : Int) ∧ c = (CS : Int) ∧ 1 ≤ RS ∧ RS < 256 ∧ 1 ≤ CS ∧ CS < 256 := fun bit hb r c h => by
      unfold colR at h
      by_cases ht : rvB R C r c = true
      · obtain ⟨RS, CS, e1, e2, k1, k2, k3, k4, k5, k6⟩ := rv_nat h2 h4 ht
        exact ⟨RS, CS, e1, e2, k1, k5, k3, k6⟩
      · rw [if_neg ht] at h
        omega
    cases bt with
    | false =>
      have hg := cov_good E false (fun x y => !E x y) (fun x y => by cases E x y <;> rfl) R C h2 h4 xs (colR_zero E R C h2 h4)
      refine ⟨goodB E false xs R C, fun v w hiv => ?_, fun v w hiv => ?_, .inr ⟨R, C, E, false, rfl, rfl, rfl, h1, h2, h3, h4, rfl, rfl⟩⟩
      · rw [← hg]
        exact spec_cover E R C h1 h2 h3 h4 _ rfl hs hv 0 (.inl rfl) _ hcol (hcv 0 (by omega)) xs v w hiv
      · rw [← hg]
        have := impl_cover R C h1 h2 h4 _ _ _ z64 0 (.inl ⟨rfl, rfl⟩) _ _ _ hbd (fun RS CS k5 k6 W => plain0 R C _ _ z64 o64 RS CS k5 k6 W) xs v w hiv
        rw [← cover_eq E (fun x y => !E x y) 0 (fun x y => by cases E x y <;> rfl) R C h2 h4 xs (colR_zero E R C h2 h4)] at this
        exact this
    | true =>
      have hg := cov_good E true E (fun x y => by cases E x y <;> rfl) R C h2 h4 xs (colR_one E R C h2 h4)
      refine ⟨goodB E true xs R C, fun v w hiv => ?_, fun v w hiv => ?_, .inr ⟨R, C, E, true, rfl, rfl, rfl, h1, h2, h3, h4, rfl, rfl⟩⟩
      · rw [← hg]
        exact spec_cover E R C h1 h2 h3 h4 _ rfl hs hv 1 (.inr rfl) _ hcol (hcv 1 (by omega)) xs v w hiv
      · rw [← hg]
        have := impl_cover R C h1 h2 h4 _ _ _ o64 1 (.inr ⟨rfl, rfl⟩) _ _ _ hbd (fun RS CS k5 k6 W => plain1 R C _ _ z64 o64 RS CS k5 k6 W) xs v w hiv
        rw [← cover_eq E E 1 (fun x y => by cases E x y <;> rfl) R C h2 h4 xs (colR_one E R C h2 h4)] at this
        exact this
end Go.Proofs.YtohkllmhknjkoaaDoor.IcM

