/-
  Texts of one seat, joined: IcM, IcLaw.
-/
import Derived.Test.YtohkllmhknjkoaaDoorJm1
import Derived.Test.YtohkllmhknjkoaaDoorJm21
import Derived.Test.YtohkllmhknjkoaaDoorJm13
import Derived.Test.YtohkllmhknjkoaaDoorJm20
import Derived.Test.YtohkllmhknjkoaaDoorJm2
/-
  Rectangles that cover: the entries and the rectangles one by one.
-/
namespace Go.Proofs.YtohkllmhknjkoaaDoor.IcM
open Go.RowKit Go.Proofs.YtohkllmhknjkoaaDoor.Plain Go.Proofs.YtohkllmhknjkoaaDoor.Base Go.Proofs.YtohkllmhknjkoaaDoor.Valid Go.Proofs.YtohkllmhknjkoaaDoor.Law Go.Proofs.YtohkllmhknjkoaaDoor.GridPlain Go.Proofs.YtohkllmhknjkoaaDoor.Grid Go.Proofs.YtohkllmhknjkoaaDoor.Entry Go.Proofs.YtohkllmhknjkoaaDoor.Pat Go.Proofs.YtohkllmhknjkoaaDoor.Rect Go.Proofs.YtohkllmhknjkoaaDoor.Patch Go.Proofs.YtohkllmhknjkoaaDoor.Board Go.Proofs.YtohkllmhknjkoaaDoor.BoardM Go.Proofs.YtohkllmhknjkoaaDoor.RValid Go.Proofs.YtohkllmhknjkoaaDoor.Bal Go.Proofs.YtohkllmhknjkoaaDoor.Colour Go.Proofs.YtohkllmhknjkoaaDoor.Rects Go.Proofs.YtohkllmhknjkoaaDoor.Cover Go.Proofs.YtohkllmhknjkoaaDoor.CoverS Go.Proofs.YtohkllmhknjkoaaDoor.CovM
set_option linter.unusedVariables false

/-- whether an entry is in a rectangle -/
def inB (r : Int × Int) (x y : Nat) : Bool := someB r.1 r.2 && (r.1.toNat.testBit x && r.2.toNat.testBit y)
theorem in_any (r c : Int) (x y : Nat) (hx : x < 8) (hy : y < 8) (w : World) :
    Calls Tryd.prog 27 #[rect r c, .int .i64 (x : Int), .int .i64 (y : Int)] w fun e w' => e = .returned (.bool (inB (r, c) x y)) ∧ Below w.heap.size w w' := by
  by_cases h : someB r c = true
  · have hh := (someB_iff r c).1 h
    obtain ⟨R, rfl⟩ := Int.eq_ofNat_of_zero_le (show 0 ≤ r by omega)
    obtain ⟨C, rfl⟩ := Int.eq_ofNat_of_zero_le (show 0 ≤ c by omega)
    unfold inB
    rw [h, Bool.true_and]
    exact fnExactInRect.impl_yes R C x y h _ _ (fun W => inSet_yes R x (by omega) hx W) (fun W => inSet_yes C y (by omega) hy W) w
  · have h' : someB r c = false := by simpa using h
    unfold inB
    rw [h', Bool.false_and]
    exact fnExactInRect.impl_none r c x y h' w
theorem entry_any (E : Nat → Nat → Bool) (R C : Nat) (h1 : 1 ≤ R) (h2 : R ≤ 8) (h3 : 1 ≤ C) (h4 : C ≤ 8) (hv : validB R C (str (rowsB E R C)) = true) (hs : (str (rowsB E R C)).size ≤ maxLen) (a b : Nat) (ha : a < R) (hb : b < C) (w : World) :
    Calls Tryd.prog 28 #[mat R C (str (rowsB E R C)), .int .i64 (a : Int), .int .i64 (b : Int)] w fun e w' => e = .returned (.int .i64 (bitI (E a b))) ∧ Below w.heap.size w w' := by
  have hsz : (str (rowsB E R C)).size ≤ 64 := by rw [str_size, rowsB_length]; exact prod_le h2 h4
  exact fnExactEntryOf.impl_of _ _ _ _ _ _ _ _ _ w (fun W => grid_yes E R C h1 h2 h3 h4 _ rfl hs hsz hv W) (.inr ⟨a, b, rfl, rfl, by omega, by omega, ⟨⟨by omega, by omega⟩, by omega, by omega⟩, (gpart_all E R C a b ha hb h4).symm⟩)
theorem valid_any (E : Nat → Nat → Bool) (R C : Nat) (h1 : 1 ≤ R) (h2 : R ≤ 8) (h3 : 1 ≤ C) (h4 : C ≤ 8) (hv : validB R C (str (rowsB E R C)) = true) (hs : (str (rowsB E R C)).size ≤ maxLen) (x y : Int) (w : World) :
    Calls Tryd.prog 29 #[mat R C (str (rowsB E R C)), rect x y] w fun e w' => e = .returned (.bool (rvB R C x y)) ∧ Below w.heap.size w w' :=
  impl_rv R C h2 h4 _ _ _ _ _ x y (fun W => board_yes R C E h1 h2 h3 h4 hs hv W) w

/-- an entry is in some rectangle just if it has the value -/
def cellOK (E : Nat → Nat → Bool) (bt : Bool) (xs : List (Int × Int)) (x y : Nat) : Bool := (xs.any fun r => inB r x y) == (E x y == bt)
def rowTo (E : Nat → Nat → Bool) (bt : Bool) (xs : List (Int × Int)) (x k : Nat) : Bool := (List.range k).all (cellOK E bt xs x)
def allTo (E : Nat → Nat → Bool) (bt : Bool) (xs : List (Int × Int)) (C k : Nat) : Bool := (List.range k).all fun x => rowTo E bt xs x C
def goodB (E : Nat → Nat → Bool) (bt : Bool) (xs : List (Int × Int)) (R C : Nat) : Bool := allTo E bt xs C R && xs.all fun r => rvB R C r.1 r.2
theorem row_next (E : Nat → Nat → Bool) (bt : Bool) (xs : List (Int × Int)) (x k : Nat) : rowTo E bt xs x (k + 1) = (rowTo E bt xs x k && cellOK E bt xs x k) := by
  simp [rowTo, List.range_succ]
theorem all_next (E : Nat → Nat → Bool) (bt : Bool) (xs : List (Int × Int)) (C k : Nat) : allTo E bt xs C (k + 1) = (allTo E bt xs C k && rowTo E bt xs k C) := by
  simp [allTo, List.range_succ]
theorem take_any {α : Type} (xs : List α) (f : α → Bool) (k : Nat) (h : k < xs.length) : (xs.take (k + 1)).any f = ((xs.take k).any f || f xs[k]) := by
  rw [List.take_succ_eq_append_getElem h, List.any_append]
  simp
theorem take_all {α : Type} (xs : List α) (f : α → Bool) (k : Nat) (h : k < xs.length) : (xs.take (k + 1)).all f = ((xs.take k).all f && f xs[k]) := by
  rw [List.take_succ_eq_append_getElem h, List.all_append]
  simp
theorem cell_any (E : Nat → Nat → Bool) (bit : Int) (xs : List (Int × Int)) (x y : Nat) : ∀ k, k ≤ xs.length → cellTo E bit xs x y k = ((bitI (E x y) != bit) || (xs.take k).any fun r => r.1.toNat.testBit x && r.2.toNat.testBit y)
  | 0, _ => by simp [cellTo]
  | k + 1, hk => by rw [cellTo_next E bit xs x y k (by omega), cell_any E bit xs x y k (by omega), take_any xs _ k (by omega), Bool.or_assoc]
theorem in_rv {R C : Nat} (h2 : R ≤ 8) (h4 : C ≤ 8) {r : Int × Int} (h : rvB R C r.1 r.2 = true) (x y : Nat) : inB r x y = (r.1.toNat.testBit x && r.2.toNat.testBit y) := by
  obtain ⟨RS, CS, e1, e2, k1, k2, k3, k4, k5, k6⟩ := rv_nat h2 h4 h
  unfold inB
  rw [(someB_iff _ _).2 ⟨by rw [e1]; omega, by rw [e2]; omega⟩, Bool.true_and]
theorem cov_good (E : Nat → Nat → Bool) (bt : Bool) (P : Nat → Nat → Bool) (hP : ∀ x y, P x y = (E x y == bt)) (R C : Nat) (h2 : R ≤ 8) (h4 : C ≤ 8) (xs : List (Int × Int))
    (hc : ∀ r c, (colR E R C r c == bitI bt) = hpB R C (pat (onB P R C) 8) r c) :
    (xs.all (fun r => colR E R C r.1 r.2 == bitI bt) && cellsAll E (bitI bt) xs R C) = goodB E bt xs R C := by
  have e : (fun r : Int × Int => colR E R C r.1 r.2 == bitI bt) = fun r => hpB R C (pat (onB P R C) 8) r.1 r.2 := funext fun r => hc r.1 r.2
  have hbit : ∀ x y, (bitI (E x y) != bitI bt) = !P x y := fun x y => by rw [hP]; cases E x y <;> cases bt <;> rfl
  rw [e, Bool.eq_iff_iff]
  unfold goodB cellsAll allTo rowTo cellOK
  simp only [Bool.and_eq_true, List.all_eq_true, decide_eq_true_iff, List.mem_range, beq_iff_eq]
  constructor
  · rintro ⟨ha, hb⟩
    have hrv : ∀ r ∈ xs, rvB R C r.1 r.2 = true := fun r hr => by
      have := ha r hr
      unfold hpB at this
      exact (Bool.and_eq_true _ _ ▸ this).1
    refine ⟨fun x hx y hy => ?_, hrv⟩
    rw [← hP, Bool.eq_iff_iff]
    constructor
    · intro h
      obtain ⟨r, hr, hi⟩ := List.any_eq_true.1 h
      rw [in_rv h2 h4 (hrv r hr), Bool.and_eq_true] at hi
      obtain ⟨RS, CS, e1, e2, k1, k2, k3, k4, k5, k6⟩ := rv_nat h2 h4 (hrv r hr)
      have hp := ha r hr
      unfold hpB at hp
      rw [Bool.and_eq_true] at hp
      have hp2 := hp.2
      rw [e1, e2, Int.toNat_natCast, Int.toNat_natCast] at hp2 hi
      exact ((plain_pat P R C RS CS h2 h4 k5 k6).1 (of_decide_eq_true hp2) x y hi.1 hi.2).2
    · intro h
      have h3 := hb x hx y hy
      rw [cell_any E _ xs x y _ (Nat.le_refl _), hbit, h, List.take_length] at h3
      obtain ⟨r, hr, hi⟩ := List.any_eq_true.1 (by simpa using h3 : (xs.any fun r => r.1.toNat.testBit x && r.2.toNat.testBit y) = true)
      exact List.any_eq_true.2 ⟨r, hr, by rw [in_rv h2 h4 (hrv r hr)]; exact hi⟩
  · rintro ⟨hb, hrv⟩
    constructor
    · intro r hr
      obtain ⟨RS, CS, e1, e2, k1, k2, k3, k4, k5, k6⟩ := rv_nat h2 h4 (hrv r hr)
      unfold hpB
      rw [hrv r hr, Bool.true_and, decide_eq_true_iff, e1, e2, Int.toNat_natCast, Int.toNat_natCast]
      refine (plain_pat P R C RS CS h2 h4 k5 k6).2 fun x y hx hy => ?_
      have hxR : x < R := by
        rcases Nat.lt_or_ge x R with h | h
        · exact h
        · rw [bit_beyond RS x R k2 h] at hx; cases hx
      have hyC : y < C := by
        rcases Nat.lt_or_ge y C with h | h
        · exact h
        · rw [bit_beyond CS y C k4 h] at hy; cases hy
      refine ⟨⟨hxR, hyC⟩, ?_⟩
      rw [hP, ← hb x hxR y hyC]
      exact List.any_eq_true.2 ⟨r, hr, by rw [in_rv h2 h4 (hrv r hr), e1, e2, Int.toNat_natCast, Int.toNat_natCast, hx, hy]; rfl⟩
    · intro x hx y hy
      rw [cell_any E _ xs x y _ (Nat.le_refl _), hbit, List.take_length]
      cases hp : P x y with
      | false => rfl
      | true =>
        have h3 := hb x hx y hy
        rw [← hP, hp] at h3
        obtain ⟨r, hr, hi⟩ := List.any_eq_true.1 h3
        rw [in_rv h2 h4 (hrv r hr)] at hi
        exact List.any_eq_true.2 ⟨r, hr, hi⟩
/-- both find one truth value, and where there is a matrix it is told entry by entry -/
theorem both2 (r c : Int) (s : ByteArray) (hs : s.size ≤ maxLen) (bit : Int) (xs : List (Int × Int)) : ∃ t : Bool,
    (∀ v w, RV w w.heap.size v xs → Calls Tryd.prog 25 #[mat r c s, .int .i64 bit, v] w fun e w' => e = .returned (.bool t) ∧ Below w.heap.size w w') ∧
    (∀ v w, RV w w.heap.size v xs → Calls Tryd.prog 24 #[mat r c s, .int .i64 bit, v] w fun e w' => e = .returned (.bool t) ∧ Below w.heap.size w w') ∧
    ((validB r c s = false ∨ (bit ≠ 0 ∧ bit ≠ 1)) ∨ ∃ (R C : Nat) (E : Nat → Nat → Bool) (bt : Bool), r = R ∧ c = C ∧ s = str (rowsB E R C) ∧ 1 ≤ R ∧ R ≤ 8 ∧ 1 ≤ C ∧ C ≤ 8 ∧ bit = bitI bt ∧ t = goodB E bt xs R C) := by
  by_cases hno : validB r c s = false ∨ (bit ≠ 0 ∧ bit ≠ 1)
  · obtain ⟨t, h1, h2⟩ := fnExactIsCover.both r c s hs bit xs
    exact ⟨t, h1, h2, .inl hno⟩
  · have hv : validB r c s = true := by
      cases h : validB r c s with
      | false => exact absurd (.inl h) hno
      | true => rfl
    obtain ⟨bt, rfl⟩ : ∃ bt, bit = bitI bt := by
      have : bit = 0 ∨ bit = 1 := by
        by_cases h0 : bit = 0
        · exact .inl h0
        · by_cases h1 : bit = 1
          · exact .inr h1
          · exact absurd (.inr ⟨h0, h1⟩) hno
      rcases this with rfl | rfl
      · exact ⟨false, rfl⟩
      · exact ⟨true, rfl⟩
    obtain ⟨R, C, E, rfl, rfl, h1, h2, h3, h4, rfl⟩ := valid_form hv
    have hbd := fun W => board_yes R C E h1 h2 h3 h4 hs hv W
    have z64 := pat64 (onB (fun x y => !E x y) R C) (onB_lt _ R C h4)
    have o64 := pat64 (onB E R C) (onB_lt _ R C h4)
    have hcol := fun r c W => colR_any E R C h1 h2 h3 h4 hs hv r c W
    have hcv : ∀ bit : Int, 0 ≤ bit → ∀ r c, colR E R C r c = bit → ∃ RS CS : Nat, r = (RS : Int) ∧ c = (CS : Int) ∧ 1 ≤ RS ∧ RS < 256 ∧ 1 ≤ CS ∧ CS < 256 := fun bit hb r c h => by
      unfold colR at h
      by_cases ht : rvB R C r c = true
      · obtain ⟨RS, CS, e1, e2, k1, k2, k3, k4, k5, k6⟩ := rv_nat h2 h4 ht
        exact ⟨RS, CS, e1, e2, k1, k5, k3, k6⟩
      · rw [if_neg ht] at h
        omega
    cases bt with
    | false =>
      have hg := cov_good E false (fun x y => !E x y) (fun x y => by cases E x y <;> rfl) R C h2 h4 xs (colR_zero E R C h2 h4)
      refine ⟨goodB E false xs R C, fun v w hiv => ?_, fun v w hiv => ?_, .inr ⟨R, C, E, false, rfl, rfl, rfl, h1, h2, h3, h4, rfl, rfl⟩⟩
      · rw [← hg]
        exact spec_cover E R C h1 h2 h3 h4 _ rfl hs hv 0 (.inl rfl) _ hcol (hcv 0 (by omega)) xs v w hiv
      · rw [← hg]
        have := impl_cover R C h1 h2 h4 _ _ _ z64 0 (.inl ⟨rfl, rfl⟩) _ _ _ hbd (fun RS CS k5 k6 W => plain0 R C _ _ z64 o64 RS CS k5 k6 W) xs v w hiv
        rw [← cover_eq E (fun x y => !E x y) 0 (fun x y => by cases E x y <;> rfl) R C h2 h4 xs (colR_zero E R C h2 h4)] at this
        exact this
    | true =>
      have hg := cov_good E true E (fun x y => by cases E x y <;> rfl) R C h2 h4 xs (colR_one E R C h2 h4)
      refine ⟨goodB E true xs R C, fun v w hiv => ?_, fun v w hiv => ?_, .inr ⟨R, C, E, true, rfl, rfl, rfl, h1, h2, h3, h4, rfl, rfl⟩⟩
      · rw [← hg]
        exact spec_cover E R C h1 h2 h3 h4 _ rfl hs hv 1 (.inr rfl) _ hcol (hcv 1 (by omega)) xs v w hiv
      · rw [← hg]
        have := impl_cover R C h1 h2 h4 _ _ _ o64 1 (.inr ⟨rfl, rfl⟩) _ _ _ hbd (fun RS CS k5 k6 W => plain1 R C _ _ z64 o64 RS CS k5 k6 W) xs v w hiv
        rw [← cover_eq E E 1 (fun x y => by cases E x y <;> rfl) R C h2 h4 xs (colR_one E R C h2 h4)] at this
        exact this
end Go.Proofs.YtohkllmhknjkoaaDoor.IcM

/-
  The walk of the drawn law on IsCover.
-/
namespace Go.Proofs.YtohkllmhknjkoaaDoor.fnIsCover
open Go.RowKit Go.Proofs.YtohkllmhknjkoaaDoor.Plain Go.Proofs.YtohkllmhknjkoaaDoor.Base Go.Proofs.YtohkllmhknjkoaaDoor.Valid Go.Proofs.YtohkllmhknjkoaaDoor.Law Go.Proofs.YtohkllmhknjkoaaDoor.GridPlain Go.Proofs.YtohkllmhknjkoaaDoor.Grid Go.Proofs.YtohkllmhknjkoaaDoor.Entry Go.Proofs.YtohkllmhknjkoaaDoor.Pat Go.Proofs.YtohkllmhknjkoaaDoor.Rect Go.Proofs.YtohkllmhknjkoaaDoor.RValid Go.Proofs.YtohkllmhknjkoaaDoor.BoardM Go.Proofs.YtohkllmhknjkoaaDoor.Rects Go.Proofs.YtohkllmhknjkoaaDoor.IcM Go.Proofs.YtohkllmhknjkoaaDoor.Rd
open Go.Proofs.YtohkllmhknjkoaaDoor.Kept (region_kept wq_step wq_nil)
set_option linter.unusedVariables false
set_option linter.unusedSimpArgs false

theorem valid_rows (E : Nat → Nat → Bool) (R C : Nat) (h1 : 1 ≤ R) (h2 : R ≤ 8) (h3 : 1 ≤ C) (h4 : C ≤ 8) : validB R C (str (rowsB E R C)) = true := by
  rw [validB_in (by omega) (by omega) (by omega) (by omega)]
  have : okB (str (rowsB E R C)) = true := okB_true fun j hj => by
    have hj' : j < R * C := by rw [str_size, rowsB_length] at hj; exact hj
    rw [str_get _ j _ (rowsB_get E R C j hj') hj]
    cases E (j / C) (j % C) <;> rfl
  rw [this, Bool.true_and, str_size, rowsB_length]
  simp

/-- what lies all the time: the matrix' box -/
structure LS (w1 : World) (a b : Int) (t : ByteArray) (r0 : Nat) (W : World) : Prop where
  box : W.heap[r0]? = some (.cells #[.int .i64 a, .int .i64 b, .string t] 26 (0, 0))
  below : Below w1.heap.size w1 W
theorem LS.later {w1 W W' : World} {a b : Int} {t : ByteArray} {r0 : Nat} (h : LS w1 a b t r0 W) (hb : Below W.heap.size W W') : LS w1 a b t r0 W' :=
  ⟨(hb.block _ (Array.getElem?_eq_some_iff.1 h.box).1).trans h.box, h.below.trans (hb.mono h.below.size)⟩
theorem LS.drew {w1 W : World} {a b : Int} {t : ByteArray} {r0 : Nat} (h : LS w1 a b t r0 W) : LS w1 a b t r0 { W with drawn := W.drawn + 1 } := h.later (drawn_at W 1)
theorem LS.cells {w1 W : World} {a b : Int} {t : ByteArray} {r0 : Nat} (h : LS w1 a b t r0 W) : W.cell? ⟨r0, 0, none⟩ = some (.int .i64 a) ∧ W.cell? ⟨r0, 1, none⟩ = some (.int .i64 b) ∧ W.cell? ⟨r0, 2, none⟩ = some (.string t) :=
  ⟨cell_of_row _ _ 0 _ _ _ h.box, cell_of_row _ _ 1 _ _ _ h.box, cell_of_row _ _ 2 _ _ _ h.box⟩
theorem LS.call {P : Program} {f : FuncId} {args : Array Value} {w1 wx : World} {v : Value} {a b : Int} {t : ByteArray} {r0 : Nat} (hC : LS w1 a b t r0 wx) (h : Calls P f args wx fun e w' => e = .returned v ∧ Below wx.heap.size wx w') :
    Calls P f args wx fun e w' => e = .returned v ∧ LS w1 a b t r0 w' := h.mono fun e w' ⟨he, hb⟩ => ⟨he, hC.later hb⟩

set_option maxHeartbeats 8000000 in
set_option maxRecDepth 100000 in
theorem walk (v : Value) (n : Nat) (w : World) (h : ByteArg w v n) :
    Calls Tryd.prog 7 #[v] w fun e w' => e = .returned (.bool true) ∧ Below w.heap.size w w' := by
  obtain ⟨hn0, a, c, rfl, hc, hb0⟩ := id h
  clear hb0
  have HD := Lib.hid (Go.Proofs.YtohkllmhknjkoaaDoor.DrawIC.draw_any _ n w h)
  clear h
  by_cases hbig : 1048576 < n
  · have hbi : (1048576 : Int) < (n : Int) := by omega
    go_enter Tryd.func7, Tryd.ntmps7
    go_wp2_with fail
    go_ret
    exact ⟨rfl, Below.refl _ _⟩
  · have hbi : ¬ (1048576 : Int) < (n : Int) := by omega
    go_enter Tryd.func7, Tryd.ntmps7
    go_wp2_with fail
    refine HD.out.mono ?_
    rintro e w1 ⟨ma, mb, mt, x, u, xs, rfl, wa, wb, ht, hx, hl, hrv, hb⟩
    obtain ⟨p, k, rfl⟩ := hrv.slice
    have hts : mt.size ≤ maxLen := by unfold maxLen; omega
    obtain ⟨tv, hspec, himpl, hcase⟩ := both2 ma mb mt hts x xs
    have HB1 := Lib.hid hb
    have hbx : Below w1.heap.size w1 (w1.alloc (.cells #[.int .i64 ma, .int .i64 mb, .string mt] 26)) := (Below.refl _ _).alloc (Nat.le_refl _) _
    have HP1 : Hid (LS w1 ma mb mt w1.heap.size (w1.alloc (.cells #[.int .i64 ma, .int .i64 mb, .string mt] 26))) := ⟨heap_alloc_new w1 _, hbx⟩
    have HRV : Hid (∀ W, Below w1.heap.size w1 W → RV W W.heap.size (.slice p xs.length k) xs) := fun W hW => (hrv.later (Nat.le_refl _) hW).mono hW.size
    have HXJ : Hid (∀ j (hj : j < xs.length), ∃ b off, p = some ⟨b, off, none⟩ ∧ ∀ W, Below w1.heap.size w1 W → W.cell? ⟨b, off + j * 2, none⟩ = some (.int .i64 xs[j].1) ∧ W.cell? ⟨b, off + j * 2 + 1, none⟩ = some (.int .i64 xs[j].2)) := fun j hj => by
      rcases hrv.2 with ⟨-, h0⟩ | ⟨q, off, cc, e, hq, hcs⟩
      · rw [h0] at hj; exact absurd hj (by simp)
      injection e with e1 _ _
      exact ⟨q, off, e1, fun W hW => ⟨(hW.cell (p := ⟨q, off + j * 2, none⟩) hq).trans (hcs j hj).1, (hW.cell (p := ⟨q, off + j * 2 + 1, none⟩) hq).trans (hcs j hj).2⟩⟩
    have HI := Lib.hid himpl
    have HS := Lib.hid hspec
    have HMV := Lib.hid (fun W => impl_valid ma mb mt hts W)
    have HCS := Lib.hid hcase
    clear hrv hb HD hbig hbi hbx himpl hspec hcase wa wb
    go_wp2_with fail
    obtain ⟨w2, hw2⟩ : ∃ w2, w1.alloc (.cells #[.int .i64 ma, .int .i64 mb, .string mt] 26) = w2 := ⟨_, rfl⟩
    rw [hw2] at HP1
    first | rw [hw2] | skip
    clear hw2
    have HP2 := HP1
    clear HP1
    obtain ⟨r0, hr0⟩ : ∃ r0, w1.heap.size = r0 := ⟨_, rfl⟩
    have HR0 := Lib.hid hr0
    rw [hr0] at HP2
    first | rw [hr0] | skip
    clear hr0
    refine (HI.out _ _ (HRV.out _ HP2.out.below)).mono ?_
    rintro e w3 ⟨rfl, hb3⟩
    have HP3 := Lib.hid (HP2.out.later hb3)
    obtain ⟨d0, d1, d2⟩ := HP3.out.cells
    clear hb3 HP2 HI
    go_wp2_with fail
    refine (HS.out _ _ (HRV.out _ HP3.out.below)).mono ?_
    rintro e w4 ⟨rfl, hb4⟩
    have HP4 := Lib.hid (HP3.out.later hb4)
    obtain ⟨d0, d1, d2⟩ := HP4.out.cells
    clear hb4 HP3
    have htv : (tv != tv) = false := by cases tv <;> rfl
    go_wp2_with fail
    refine (HMV.out _).mono ?_
    rintro e w5 ⟨rfl, hb5⟩
    have HP5 := Lib.hid (HP4.out.later hb5)
    obtain ⟨d0, d1, d2⟩ := HP5.out.cells
    clear hb5 HP4 htv
    rcases hbad : HCS.out with hno | hyes
    · have hno2 : (validB ma mb mt = false) ∨ (validB ma mb mt = true ∧ x < 0) ∨ (validB ma mb mt = true ∧ ¬ x < 0 ∧ 1 < x) := by
        cases hv : validB ma mb mt with
        | false => exact .inl rfl
        | true =>
          rcases hno with h | h
          · rw [hv] at h; cases h
          · by_cases h0 : x < 0
            · exact .inr (.inl ⟨rfl, h0⟩)
            · exact .inr (.inr ⟨rfl, h0, by omega⟩)
      clear hno hbad HCS
      rcases hno2 with hv | ⟨hv, hx0⟩ | ⟨hv, hx0, hx1⟩
      all_goals
        rw [hv]
        clear hv
        go_wp2_with fail
        refine (HS.out _ _ (HRV.out _ HP5.out.below)).mono ?_
        rintro e w6 ⟨rfl, hb6⟩
        have HP6 := Lib.hid (HP5.out.later hb6)
        clear hb6 HP5 d0 d1 d2
        go_wp2_with fail
        go_ret
        exact ⟨by simp, HB1.out.trans (HP6.out.below.mono HB1.out.size)⟩
    · obtain ⟨R, C, E, bt, rfl, rfl, rfl, h1, h2, h3, h4, rfl, htv⟩ := hyes
      have hv := valid_rows E R C h1 h2 h3 h4
      have HIN := Lib.hid (fun r c x y hx hy W => in_any r c x y hx hy W)
      have HEN := Lib.hid (fun a b ha hb W => entry_any E R C h1 h2 h3 h4 hv hts a b ha hb W)
      have HRL := Lib.hid (fun x y W => valid_any E R C h1 h2 h3 h4 hv hts x y W)
      have HTV := Lib.hid htv
      rw [hv]
      clear hv htv hbad HCS HMV HS hts hx ht
      obtain ⟨s, hs⟩ : ∃ s, str (rowsB E R C) = s := ⟨_, rfl⟩
      rw [hs] at HP5 HEN HRL d2
      first | rw [hs] | skip
      clear hs
      have hb0 : ¬ (bitI bt : Int) < 0 := by cases bt <;> decide
      have hb1 : ¬ (1 : Int) < bitI bt := by cases bt <;> decide
      go_wp2_with fail
      clear hb0 hb1 d0 d1 d2
      go_loopw [7, 8] (fun g x wr => ∃ i : Nat, i ≤ R ∧ g = .bool (allTo E bt xs C i) ∧ x = .int .i64 (i : Int) ∧ Hid (LS w1 R C s r0 wr)) (fun _ x _ => R - (intOf x).toNat)
      case atStart => exact ⟨0, Nat.zero_le _, rfl, rfl, HP5⟩
      case round =>
        obtain ⟨i, hi, rfl, rfl, HL⟩ := hrel
        clear HP5
        obtain ⟨d0, d1, d2⟩ := HL.out.cells
        by_cases hlt : i < R
        · obtain ⟨g0, hg0⟩ : ∃ g, allTo E bt xs C i = g := ⟨_, rfl⟩
          have hg1 := all_next E bt xs C i
          rw [hg0] at hg1
          first | rw [hg0] | skip
          have HG1 := Lib.hid hg1
          clear hg0 hg1
          go_wp2_with fail
          clear d0 d1 d2
          go_loopw [7, 9] (fun g y wr => ∃ k : Nat, k ≤ C ∧ g = .bool (g0 && rowTo E bt xs i k) ∧ y = .int .i64 (k : Int) ∧ Hid (LS w1 R C s r0 wr)) (fun _ y _ => C - (intOf y).toNat)
          case atStart => exact ⟨0, Nat.zero_le _, by simp [rowTo], rfl, HL⟩
          case round =>
            obtain ⟨kk, hk, rfl, rfl, HQ⟩ := hrel
            clear HL
            obtain ⟨d0, d1, d2⟩ := HQ.out.cells
            by_cases hkt : kk < C
            · obtain ⟨g1, hg1⟩ : ∃ g, (g0 && rowTo E bt xs i kk) = g := ⟨_, rfl⟩
              have hg2 : (g0 && rowTo E bt xs i (kk + 1)) = (g1 && ((xs.any fun r => inB r i kk) == (E i kk == bt))) := by rw [row_next, ← Bool.and_assoc, hg1]; rfl
              first | rw [hg1] | skip
              have HG2 := Lib.hid hg2
              clear hg1 hg2
              have HE := Lib.hid (fun W => HEN.out i kk hlt hkt W)
              go_wp2_with fail
              clear d0 d1 d2
              go_loopw [10, 11] (fun f z wr => ∃ j : Nat, j ≤ xs.length ∧ f = .bool ((xs.take j).any fun r => inB r i kk) ∧ z = .int .i64 (j : Int) ∧ Hid (LS w1 R C s r0 wr)) (fun _ z _ => xs.length - (intOf z).toNat)
              case atStart => exact ⟨0, Nat.zero_le _, by simp, rfl, HQ⟩
              case round =>
                obtain ⟨j, hj, rfl, rfl, HT⟩ := hrel
                clear HQ
                by_cases hjt : j < xs.length
                · obtain ⟨b, off, rfl, hcs⟩ := HXJ.out j hjt
                  obtain ⟨c0, c1⟩ := hcs _ HT.out.below
                  have hn := take_any xs (fun r => inB r i kk) j hjt
                  obtain ⟨f0, hf0⟩ : ∃ f, ((xs.take j).any fun r => inB r i kk) = f := ⟨_, rfl⟩
                  rw [hf0] at hn
                  first | rw [hf0] | skip
                  obtain ⟨q, hq⟩ : ∃ q, xs[j] = q := ⟨_, rfl⟩
                  rw [hq] at hn c0 c1
                  obtain ⟨q0, q1⟩ := q
                  have HN := Lib.hid hn
                  have HQ1 := Lib.hid (fun W => HIN.out q0 q1 i kk (by omega) (by omega) W)
                  clear hcs hf0 hq hn
                  simp only at c0 c1
                  cases f0 with
                  | true =>
                    go_wp2_with fail
                    go_roundw
                    case rel => exact ⟨j + 1, by omega, by rw [HN.out]; simp, by go_num, HT⟩
                    case measure => simp [intOf]; omega
                  | false =>
                    go_wp2_with fail
                    refine (HQ1.out _).mono ?_
                    rintro e w20 ⟨rfl, hb20⟩
                    have HT2 := Lib.hid (HT.out.later hb20)
                    clear hb20 HT c0 c1
                    go_wp2_with fail
                    go_roundw
                    case rel => exact ⟨j + 1, by omega, by rw [HN.out]; simp, by go_num, HT2⟩
                    case measure => simp [intOf]; omega
                · obtain rfl : j = xs.length := by omega
                  rw [List.take_length]
                  obtain ⟨sv, hsv⟩ : ∃ z, (xs.any fun r => inB r i kk) = z := ⟨_, rfl⟩
                  rw [hsv]
                  have HG3 : Hid ((g0 && rowTo E bt xs i (kk + 1)) = (g1 && (sv == (E i kk == bt)))) := hsv ▸ HG2.out
                  clear hsv HG2
                  obtain ⟨d0, d1, d2⟩ := HT.out.cells
                  cases g1 with
                  | false =>
                    go_wp2_with fail
                    go_roundw
                    case rel => exact ⟨kk + 1, by omega, by rw [HG3.out]; simp, by go_num, HT⟩
                    case measure => simp [intOf]; omega
                  | true =>
                    go_wp2_with fail
                    refine (HE.out _).mono ?_
                    rintro e w21 ⟨rfl, hb21⟩
                    have HT2 := Lib.hid (HT.out.later hb21)
                    clear hb21 HT d0 d1 d2
                    obtain ⟨ev, hev⟩ : ∃ z, E i kk = z := ⟨_, rfl⟩
                    have HG4 : Hid ((g0 && rowTo E bt xs i (kk + 1)) = (true && (sv == (ev == bt)))) := hev ▸ HG3.out
                    first | rw [hev] | skip
                    clear hev HG3 HE
                    cases ev <;> cases bt <;> cases sv
                    all_goals
                      go_wp2_with fail
                      go_roundw
                      case rel => exact ⟨kk + 1, by omega, by rw [HG4.out]; rfl, by go_num, HT2⟩
                      case measure => simp [intOf]; omega
            · obtain rfl : kk = C := by omega
              go_wp2_with fail
              clear d0 d1 d2
              go_roundw
              case rel => exact ⟨i + 1, by omega, by rw [HG1.out], by go_num, HQ⟩
              case measure => simp [intOf]; omega
        · obtain rfl : i = R := by omega
          obtain ⟨ga, hga⟩ : ∃ g, allTo E bt xs C i = g := ⟨_, rfl⟩
          have HTV2 : Hid (tv = (ga && xs.all fun r => rvB i C r.1 r.2)) := by rw [← hga]; exact HTV.out
          rw [hga]
          clear hga HTV
          go_wp2_with fail
          clear d0 d1 d2
          go_loopw [7, 12] (fun g z wr => ∃ j : Nat, j ≤ xs.length ∧ g = .bool (ga && (xs.take j).all fun r => rvB i C r.1 r.2) ∧ z = .int .i64 (j : Int) ∧ Hid (LS w1 i C s r0 wr)) (fun _ z _ => xs.length - (intOf z).toNat)
          case atStart => exact ⟨0, Nat.zero_le _, by simp, rfl, HL⟩
          case round =>
            obtain ⟨j, hj, rfl, rfl, HT⟩ := hrel
            clear HL
            by_cases hjt : j < xs.length
            · obtain ⟨b, off, rfl, hcs⟩ := HXJ.out j hjt
              have hn := take_all xs (fun r => rvB i C r.1 r.2) j hjt
              obtain ⟨f0, hf0⟩ : ∃ f, (ga && (xs.take j).all fun r => rvB i C r.1 r.2) = f := ⟨_, rfl⟩
              have hn2 : (ga && (xs.take (j + 1)).all fun r => rvB i C r.1 r.2) = (f0 && rvB i C xs[j].1 xs[j].2) := by rw [hn, ← Bool.and_assoc, hf0]
              first | rw [hf0] | skip
              obtain ⟨q, hq⟩ : ∃ q, xs[j] = q := ⟨_, rfl⟩
              rw [hq] at hn2
              have HCS : Hid (∀ W, Below w1.heap.size w1 W → W.cell? ⟨b, off + j * 2, none⟩ = some (.int .i64 q.1) ∧ W.cell? ⟨b, off + j * 2 + 1, none⟩ = some (.int .i64 q.2)) := by rw [← hq]; exact hcs
              obtain ⟨q0, q1⟩ := q
              have HN := Lib.hid hn2
              have HQ1 := Lib.hid (fun W => HRL.out q0 q1 W)
              clear hcs hf0 hq hn hn2
              cases f0
              all_goals
                go_wp2_with fail
                refine region_kept (C := fun wx => LS w1 i C s r0 wx) HT.out.drew (by kernel_rfl) (by kernel_rfl) ?_
                repeat
                  (refine wq_step (fun K hK => ?_)
                   go_simp
                   first
                     | (refine hK _ ?_; clear hK K)
                     | (refine hK ?_; clear hK K)
                     | (apply Exists.intro
                        refine ⟨fun wx hC => ?_, hK _ ?_⟩
                        · first
                          | with_reducible rfl
                          | with_reducible exact hC.call (HQ1.out wx)
                          | (obtain ⟨d0, d1, d2⟩ := hC.cells; obtain ⟨c0, c1⟩ := HCS.out wx hC.below; (try simp only at c0 c1); go_simp; first | done | rfl)
                        clear hK K))
                refine wq_nil ?_
                intro w22 hC
                have HT2 : Hid (LS w1 i C s r0 w22) := hC
                clear hC HT
                go_simp
                go_wp2_with fail
                go_roundw
                case rel => exact ⟨j + 1, by omega, by rw [HN.out]; simp, by go_num, HT2⟩
                case measure => simp [intOf]; omega
            · obtain rfl : j = xs.length := by omega
              rw [List.take_length]
              have htv := HTV2.out
              rw [← htv]
              go_wp2_with fail
              go_ret
              exact ⟨by simp, HB1.out.trans (HT.out.below.mono HB1.out.size)⟩
end Go.Proofs.YtohkllmhknjkoaaDoor.fnIsCover

