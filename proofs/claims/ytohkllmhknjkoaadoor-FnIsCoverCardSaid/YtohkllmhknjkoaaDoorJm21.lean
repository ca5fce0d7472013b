/-
  Texts of one seat, joined: CovM, IsCoverWalk, RectValidWalk.
-/
import Derived.Test.YtohkllmhknjkoaaDoorJm1
import Derived.Test.YtohkllmhknjkoaaDoorJm20
import Derived.Test.YtohkllmhknjkoaaDoorJm16
/-
  Plain facts: when a rectangle has one value; the entries of rectangles together.
-/
namespace Go.Proofs.YtohkllmhknjkoaaDoor.CovM
open Go.RowKit Go.Proofs.YtohkllmhknjkoaaDoor.Plain Go.Proofs.YtohkllmhknjkoaaDoor.Base Go.Proofs.YtohkllmhknjkoaaDoor.Valid Go.Proofs.YtohkllmhknjkoaaDoor.Law Go.Proofs.YtohkllmhknjkoaaDoor.Pat Go.Proofs.YtohkllmhknjkoaaDoor.Rect Go.Proofs.YtohkllmhknjkoaaDoor.Patch Go.Proofs.YtohkllmhknjkoaaDoor.Board Go.Proofs.YtohkllmhknjkoaaDoor.BoardM Go.Proofs.YtohkllmhknjkoaaDoor.RValid Go.Proofs.YtohkllmhknjkoaaDoor.Bal Go.Proofs.YtohkllmhknjkoaaDoor.Colour Go.Proofs.YtohkllmhknjkoaaDoor.Rects Go.Proofs.YtohkllmhknjkoaaDoor.Cover Go.Proofs.YtohkllmhknjkoaaDoor.CoverS
set_option linter.unusedVariables false

/-- all entries of a rectangle of the matrix are 1, by the balance and by sets of entries -/
theorem ones_iff (E : Nat → Nat → Bool) (R C RS CS : Nat) (h2 : R ≤ 8) (h4 : C ≤ 8) (k2 : RS < 2 ^ R) (k4 : CS < 2 ^ C) :
    (bal E RS CS R C = ((pop8 RS * pop8 CS : Nat) : Int)) ↔ (pat (rectB RS CS) 8 &&& (18446744073709551615 - pat (onB E R C) 8) = 0) := by
  have k5 : RS < 256 := Nat.lt_of_lt_of_le k2 (Nat.pow_le_pow_right (n := 2) (by decide) h2)
  have k6 : CS < 256 := Nat.lt_of_lt_of_le k4 (Nat.pow_le_pow_right (n := 2) (by decide) h4)
  have hin : ∀ x y, RS.testBit x = true → CS.testBit y = true → x < R ∧ y < C := fun x y hx hy => by
    constructor
    · rcases Nat.lt_or_ge x R with h | h
      · exact h
      · rw [bit_beyond RS x R k2 h] at hx; cases hx
    · rcases Nat.lt_or_ge y C with h | h
      · exact h
      · rw [bit_beyond CS y C k4 h] at hy; cases hy
  rw [plain_pat E R C RS CS h2 h4 k5 k6, bal_area E RS CS R C h2 h4 k2 k4]
  exact ⟨fun h x y hx hy => ⟨hin x y hx hy, h x y hx hy⟩, fun h x y hx hy => (h x y hx hy).2⟩

/-- what the reference's ColourOf finds -/
def colR (E : Nat → Nat → Bool) (R C : Nat) (r c : Int) : Int := if rvB R C r c = true then colV (bal E r.toNat c.toNat R C) ((pop8 r.toNat * pop8 c.toNat : Nat) : Int) else -2
theorem colR_any (E : Nat → Nat → Bool) (R C : Nat) (h1 : 1 ≤ R) (h2 : R ≤ 8) (h3 : 1 ≤ C) (h4 : C ≤ 8) (hs : (str (rowsB E R C)).size ≤ maxLen) (hv : validB R C (str (rowsB E R C)) = true) (r c : Int) (W : World) :
    Calls Tryd.prog 70 #[mat R C (str (rowsB E R C)), rect r c] W fun e w' => e = .returned (.int .i64 (colR E R C r c)) ∧ Below W.heap.size W w' := by
  unfold colR
  by_cases ht : rvB R C r c = true
  · obtain ⟨RS, CS, rfl, rfl, k1, k2, k3, k4, k5, k6⟩ := rv_nat h2 h4 ht
    have h := spec_col R C (str (rowsB E R C)) RS CS true _ (fun W => by have := spec_rv R C h1 h2 h3 h4 _ hs hv RS CS W; rwa [ht] at this) (fun _ W => spec_l2col E R C h1 h2 h3 h4 RS CS k1 k5 k3 k6 W) W
    rw [if_pos ht, Int.toNat_natCast, Int.toNat_natCast]
    rw [if_pos rfl] at h
    exact h
  · rw [if_neg ht]
    rw [Bool.not_eq_true] at ht
    have h := spec_col R C (str (rowsB E R C)) r c false 0 (fun W => by have := spec_rv R C h1 h2 h3 h4 _ hs hv r c W; rwa [ht] at this) (fun h => by cases h) W
    rw [if_neg (by decide)] at h
    exact h
theorem colR_one (E : Nat → Nat → Bool) (R C : Nat) (h2 : R ≤ 8) (h4 : C ≤ 8) (r c : Int) : (colR E R C r c == 1) = hpB R C (pat (onB E R C) 8) r c := by
  unfold colR hpB
  by_cases ht : rvB R C r c = true
  · obtain ⟨RS, CS, rfl, rfl, k1, k2, k3, k4, k5, k6⟩ := rv_nat h2 h4 ht
    rw [if_pos ht, ht, Bool.true_and, Int.toNat_natCast, Int.toNat_natCast]
    have e := ones_iff E R C RS CS h2 h4 k2 k4
    rw [Bool.eq_iff_iff, beq_iff_eq, decide_eq_true_iff, ← e]
    unfold colV
    split
    · rename_i h; exact ⟨fun _ => h, fun _ => rfl⟩
    · rename_i h
      split
      · exact ⟨fun h' => by omega, fun h' => absurd h' h⟩
      · exact ⟨fun h' => by omega, fun h' => absurd h' h⟩
  · rw [if_neg ht]
    rw [Bool.not_eq_true] at ht
    rw [ht]
    rfl
theorem colR_zero (E : Nat → Nat → Bool) (R C : Nat) (h2 : R ≤ 8) (h4 : C ≤ 8) (r c : Int) : (colR E R C r c == 0) = hpB R C (pat (onB (fun x y => !E x y) R C) 8) r c := by
  unfold colR hpB
  by_cases ht : rvB R C r c = true
  · obtain ⟨RS, CS, rfl, rfl, k1, k2, k3, k4, k5, k6⟩ := rv_nat h2 h4 ht
    rw [if_pos ht, ht, Bool.true_and, Int.toNat_natCast, Int.toNat_natCast]
    have e := ones_iff (fun x y => !E x y) R C RS CS h2 h4 k2 k4
    rw [← bal_not] at e
    have hpos : 1 ≤ pop8 RS * pop8 CS := Nat.mul_le_mul (pop8_pos RS k1 k5) (pop8_pos CS k3 k6)
    rw [Bool.eq_iff_iff, beq_iff_eq, decide_eq_true_iff, ← e]
    unfold colV
    split
    · exact ⟨fun h' => by omega, fun h' => by omega⟩
    · split
      · exact ⟨fun _ => by omega, fun _ => rfl⟩
      · exact ⟨fun h' => by omega, fun h' => by omega⟩
  · rw [if_neg ht]
    rw [Bool.not_eq_true] at ht
    rw [ht]
    rfl

theorem pat_inj (k : Nat) : ∀ (f g : Nat → Nat), (∀ x, f x < 256) → (∀ x, g x < 256) → pat f k = pat g k → ∀ x, x < k → f x = g x := by
  induction k with
  | zero => intro f g _ _ _ x hx; omega
  | succ k ih =>
    intro f g hf hg h x hx
    rw [pat, pat] at h
    have h0 := hf 0
    have h1 := hg 0
    have e1 : f 0 = g 0 := by omega
    have e2 : pat (fun x => f (x + 1)) k = pat (fun x => g (x + 1)) k := by omega
    cases x with
    | zero => exact e1
    | succ x => exact ih _ _ (fun x => hf _) (fun x => hg _) e2 x (by omega)

/-- the bytes of the first k rectangles together -/
def covB (xs : List (Int × Int)) : Nat → Nat → Nat
  | 0 => fun _ => 0
  | k + 1 => fun x => covB xs k x ||| (match xs[k]? with | some r => rectB r.1.toNat r.2.toNat x | none => 0)
theorem covB_next (xs : List (Int × Int)) (k : Nat) (hk : k < xs.length) (x : Nat) : covB xs (k + 1) x = covB xs k x ||| rectB xs[k].1.toNat xs[k].2.toNat x := by
  rw [covB, List.getElem?_eq_getElem hk]
theorem covB_lt (xs : List (Int × Int)) (h : ∀ j (hj : j < xs.length), xs[j].2.toNat < 256) : ∀ k, k ≤ xs.length → ∀ x, covB xs k x < 256
  | 0, _, x => by show 0 < 256; omega
  | k + 1, hk, x => by
    rw [covB_next xs k (by omega)]
    exact Nat.or_lt_two_pow (n := 8) (covB_lt xs h k (by omega) x) (rectB_lt _ _ (h k (by omega)) x)
theorem covTo_pat (xs : List (Int × Int)) (h : ∀ j (hj : j < xs.length), xs[j].2.toNat < 256) : ∀ k, k ≤ xs.length → covTo xs k = pat (covB xs k) 8
  | 0, _ => (pat_none 8).symm
  | k + 1, hk => by
    rw [covTo_next xs k (by omega), covTo_pat xs h k (by omega), pat_or 8 _ _ (covB_lt xs h k (by omega)) (rectB_lt _ _ (h k (by omega)))]
    exact pat_congr 8 _ _ fun x _ => (covB_next xs k (by omega) x).symm
theorem rectB_bit (r c x y : Nat) : (rectB r c x).testBit y = (r.testBit x && c.testBit y) := by
  unfold rectB
  cases r.testBit x
  · simp
  · simp
/-- what the reference finds at an entry -/
theorem cell_cov (E : Nat → Nat → Bool) (bit : Int) (xs : List (Int × Int)) (x y : Nat) : ∀ k, k ≤ xs.length → cellTo E bit xs x y k = ((bitI (E x y) != bit) || (covB xs k x).testBit y)
  | 0, _ => by
    rw [cellTo]
    show _ = (_ || (0 : Nat).testBit y)
    simp
  | k + 1, hk => by
    rw [cellTo_next E bit xs x y k (by omega), cell_cov E bit xs x y k (by omega), covB_next xs k (by omega), Nat.testBit_or, rectB_bit, Bool.or_assoc]
theorem onB_bit (P : Nat → Nat → Bool) (R C x y : Nat) : (onB P R C x).testBit y = (decide (x < R) && (decide (y < C) && P x y)) := by
  unfold onB
  by_cases h : x < R
  · rw [if_pos h, setB_bit, decide_eq_true h, Bool.true_and]
  · rw [if_neg h, decide_eq_false h, Bool.false_and, Nat.zero_testBit]
/-- rectangles that have the value have no other entries -/
theorem cov_sub (P : Nat → Nat → Bool) (R C : Nat) (hR : R ≤ 8) (hC : C ≤ 8) (xs : List (Int × Int)) (h : ∀ j (hj : j < xs.length), hpB R C (pat (onB P R C) 8) xs[j].1 xs[j].2 = true) (x y : Nat) : ∀ k, k ≤ xs.length → (covB xs k x).testBit y = true → (onB P R C x).testBit y = true
  | 0, _, hb => by rw [show covB xs 0 x = 0 from rfl, Nat.zero_testBit] at hb; cases hb
  | k + 1, hk, hb => by
    rw [covB_next xs k (by omega), Nat.testBit_or, Bool.or_eq_true] at hb
    rcases hb with hb | hb
    · exact cov_sub P R C hR hC xs h x y k (by omega) hb
    · have hp := h k (by omega)
      unfold hpB at hp
      rw [Bool.and_eq_true] at hp
      obtain ⟨RS, CS, e1, e2, k1, k2, k3, k4, k5, k6⟩ := rv_nat hR hC hp.1
      have h2 := hp.2
      rw [e1, e2, Int.toNat_natCast, Int.toNat_natCast] at h2
      rw [e1, e2, Int.toNat_natCast, Int.toNat_natCast, rectB_bit, Bool.and_eq_true] at hb
      have h3 := (plain_pat P R C RS CS hR hC k5 k6).1 (of_decide_eq_true h2) x y hb.1 hb.2
      rw [onB_bit, decide_eq_true h3.1.1, decide_eq_true h3.1.2, h3.2]
      rfl
theorem hp_lt {R C q : Nat} (hR : R ≤ 8) (hC : C ≤ 8) {xs : List (Int × Int)} (h : ∀ j (hj : j < xs.length), hpB R C q xs[j].1 xs[j].2 = true) : ∀ j (hj : j < xs.length), xs[j].2.toNat < 256 := fun j hj => by
  have hp := h j hj
  unfold hpB at hp
  rw [Bool.and_eq_true] at hp
  obtain ⟨RS, CS, e1, e2, k1, k2, k3, k4, k5, k6⟩ := rv_nat hR hC hp.1
  rw [e2, Int.toNat_natCast]
  exact k6
/-- rectangles that have the value cover it just if each entry with it is in one -/
theorem cov_iff (E P : Nat → Nat → Bool) (bit : Int) (hP : ∀ x y, P x y = (bitI (E x y) == bit)) (R C : Nat) (hR : R ≤ 8) (hC : C ≤ 8) (xs : List (Int × Int)) (h : ∀ j (hj : j < xs.length), hpB R C (pat (onB P R C) 8) xs[j].1 xs[j].2 = true) :
    (covTo xs xs.length == pat (onB P R C) 8) = cellsAll E bit xs R C := by
  have hlt := hp_lt hR hC h
  rw [covTo_pat xs hlt _ (Nat.le_refl _), Bool.eq_iff_iff, beq_iff_eq]
  unfold cellsAll
  rw [decide_eq_true_iff]
  have hc : ∀ x y, cellTo E bit xs x y xs.length = (!P x y || (covB xs xs.length x).testBit y) := fun x y => by
    rw [cell_cov E bit xs x y _ (Nat.le_refl _), hP]; rfl
  constructor
  · intro he x hx y hy
    have := pat_inj 8 _ _ (covB_lt xs hlt _ (Nat.le_refl _)) (onB_lt P R C hC) he x (by omega)
    rw [hc, this, onB_bit, decide_eq_true hx, decide_eq_true hy]
    cases P x y <;> rfl
  · intro ha
    refine pat_congr 8 _ _ fun x hx => Nat.eq_of_testBit_eq fun y => ?_
    rw [Bool.eq_iff_iff]
    refine ⟨fun hb => cov_sub P R C hR hC xs h x y _ (Nat.le_refl _) hb, fun hb => ?_⟩
    rw [onB_bit, Bool.and_eq_true, Bool.and_eq_true, decide_eq_true_iff, decide_eq_true_iff] at hb
    have := ha x hb.1 y hb.2.1
    rw [hc, hb.2.2] at this
    exact this
/-- both results are one -/
theorem cover_eq (E P : Nat → Nat → Bool) (bit : Int) (hP : ∀ x y, P x y = (bitI (E x y) == bit)) (R C : Nat) (hR : R ≤ 8) (hC : C ≤ 8) (xs : List (Int × Int))
    (hc : ∀ r c, (colR E R C r c == bit) = hpB R C (pat (onB P R C) 8) r c) :
    (xs.all (fun r => colR E R C r.1 r.2 == bit) && cellsAll E bit xs R C) = (xs.all (fun r => hpB R C (pat (onB P R C) 8) r.1 r.2) && (covTo xs xs.length == pat (onB P R C) 8)) := by
  have e : (fun r : Int × Int => colR E R C r.1 r.2 == bit) = fun r => hpB R C (pat (onB P R C) 8) r.1 r.2 := by
    funext r
    exact hc r.1 r.2
  rw [e]
  by_cases h : xs.all (fun r => hpB R C (pat (onB P R C) 8) r.1 r.2) = true
  · rw [h, Bool.true_and, Bool.true_and]
    rw [List.all_eq_true] at h
    exact (cov_iff E P bit hP R C hR hC xs fun j hj => h xs[j] (List.getElem_mem hj)).symm
  · rw [Bool.not_eq_true] at h
    rw [h]
    rfl
end Go.Proofs.YtohkllmhknjkoaaDoor.CovM

/-
  The walk of the law on IsCover.
-/
namespace Go.Proofs.YtohkllmhknjkoaaDoor.fnExactIsCover
open Go.RowKit Go.Proofs.YtohkllmhknjkoaaDoor.Plain Go.Proofs.YtohkllmhknjkoaaDoor.Base Go.Proofs.YtohkllmhknjkoaaDoor.Valid Go.Proofs.YtohkllmhknjkoaaDoor.Law Go.Proofs.YtohkllmhknjkoaaDoor.GridPlain Go.Proofs.YtohkllmhknjkoaaDoor.Entry Go.Proofs.YtohkllmhknjkoaaDoor.Pat Go.Proofs.YtohkllmhknjkoaaDoor.Rect Go.Proofs.YtohkllmhknjkoaaDoor.Patch Go.Proofs.YtohkllmhknjkoaaDoor.FreeL Go.Proofs.YtohkllmhknjkoaaDoor.Board Go.Proofs.YtohkllmhknjkoaaDoor.BoardM Go.Proofs.YtohkllmhknjkoaaDoor.RValid Go.Proofs.YtohkllmhknjkoaaDoor.Area Go.Proofs.YtohkllmhknjkoaaDoor.Bal Go.Proofs.YtohkllmhknjkoaaDoor.Colour Go.Proofs.YtohkllmhknjkoaaDoor.Rects Go.Proofs.YtohkllmhknjkoaaDoor.Cover Go.Proofs.YtohkllmhknjkoaaDoor.CoverS Go.Proofs.YtohkllmhknjkoaaDoor.CovM
set_option linter.unusedVariables false

set_option maxHeartbeats 1000000 in
theorem spec_no (r c : Int) (s : ByteArray) (hs : s.size ≤ maxLen) (bit : Int) (b : Bool) (hb : validB r c s = b) (h : b = false ∨ (bit ≠ 0 ∧ bit ≠ 1)) (v : Value) (w : World) :
    Calls Tryd.prog 25 #[mat r c s, .int .i64 bit, v] w fun e w' => e = .returned (.bool false) ∧ Below w.heap.size w w' := by
  have HV := Lib.hid hb
  have HH := Lib.hid h
  clear hb h
  go_enter Tryd.func25, Tryd.ntmps25
  go_wp2_with fail
  refine (spec_valid r c s hs _).mono ?_
  rintro e w1 ⟨rfl, hb1⟩
  rw [HV.out]
  have HB := Lib.hid (bstep ((Below.refl w.heap.size w).alloc (Nat.le_refl _) _) hb1)
  clear hb1
  cases b
  · go_wp2_with fail
    go_ret
    exact ⟨rfl, HB.out⟩
  · have HN : Hid (decide (0 ≤ bit ∧ bit ≤ 1) = false) := decide_eq_false (by have := HH.out; simp at this; omega)
    go_wp2_with fail
    refine (in_any bit 0 1 _).mono ?_
    rintro e w' ⟨rfl, rfl⟩
    rw [HN.out]
    go_wp2_with fail
    go_ret
    exact ⟨rfl, HB.out⟩

theorem eq_pair (W : World) : (Op.equalIn 9999 79 (.agg #[.int .u64 0, .int .u64 0]) (.agg #[.int .u64 0, .int .u64 0])).run Tryd.prog W = .ok true W := by
  kernel_rfl

set_option maxHeartbeats 1000000 in
set_option maxRecDepth 100000 in
theorem impl_no_board (rr cc : Int) (s : ByteArray) (bit : Int) (hbo : ∀ W : World, Calls Tryd.prog 64 #[mat rr cc s] W fun e w' => e = .returned (.agg #[.int .i64 0, .int .i64 0, .int .u64 0, .int .u64 0]) ∧ Below W.heap.size W w') (v : Value) (w : World) :
    Calls Tryd.prog 24 #[mat rr cc s, .int .i64 bit, v] w fun e w' => e = .returned (.bool false) ∧ Below w.heap.size w w' := by
  have HBO := Lib.hid hbo
  clear hbo
  go_enter Tryd.func24, Tryd.ntmps24
  go_wp2_with fail
  refine (HBO.out _).mono ?_
  rintro e w1 ⟨rfl, hb1⟩
  have hbx : Below w.heap.size w w1 := rstep ((Below.refl w.heap.size w).alloc (Nat.le_refl _) _) hb1
  have HB : Hid (Below w.heap.size w (w1.alloc (.cells #[.int .i64 0, .int .i64 0, .int .u64 0, .int .u64 0] 81))) := hbx.alloc hbx.size _
  clear hb1 hbx HBO
  have heq := eq_pair
  go_wp2_with fail
  go_ret
  exact ⟨rfl, HB.out⟩

set_option maxHeartbeats 1000000 in
theorem impl_no_bit (R C : Nat) (hR1 : 1 ≤ R) (z o : Nat) (rr cc : Int) (s : ByteArray) (bit : Int) (h0 : bit ≠ 0) (h1 : bit ≠ 1) (hbo : ∀ W : World, Calls Tryd.prog 64 #[mat rr cc s] W fun e w' => e = .returned (brd R C z o) ∧ Below W.heap.size W w') (v : Value) (w : World) :
    Calls Tryd.prog 24 #[mat rr cc s, .int .i64 bit, v] w fun e w' => e = .returned (.bool false) ∧ Below w.heap.size w w' := by
  have HBO := Lib.hid hbo
  have HBIT := Lib.hid (fun W => bit_all bit W)
  rw [show (bit == 0 || bit == 1) = false by rw [beq_false_of_ne h0, beq_false_of_ne h1]; rfl] at HBIT
  clear hbo h0 h1
  go_enter Tryd.func24, Tryd.ntmps24
  go_wp2_with fail
  refine (HBO.out _).mono ?_
  rintro e w1 ⟨rfl, hb1⟩
  have hbx : Below w.heap.size w w1 := rstep ((Below.refl w.heap.size w).alloc (Nat.le_refl _) _) hb1
  have HB : Hid (Below w.heap.size w (w1.alloc (.cells #[.int .i64 (R : Int), .int .i64 (C : Int), .int .u64 (z : Int), .int .u64 (o : Int)] 81))) := hbx.alloc hbx.size _
  clear hb1 hbx HBO
  go_wp2_with fail
  refine (HBIT.out _).mono ?_
  rintro e w' ⟨rfl, rfl⟩
  go_wp2_with fail
  go_ret
  exact ⟨rfl, HB.out⟩

/-- both find one truth value -/
theorem both (r c : Int) (s : ByteArray) (hs : s.size ≤ maxLen) (bit : Int) (xs : List (Int × Int)) : ∃ t : Bool,
    (∀ v w, RV w w.heap.size v xs → Calls Tryd.prog 25 #[mat r c s, .int .i64 bit, v] w fun e w' => e = .returned (.bool t) ∧ Below w.heap.size w w') ∧
    (∀ v w, RV w w.heap.size v xs → Calls Tryd.prog 24 #[mat r c s, .int .i64 bit, v] w fun e w' => e = .returned (.bool t) ∧ Below w.heap.size w w') := by
  by_cases hv : validB r c s = true
  · obtain ⟨R, C, E, rfl, rfl, h1, h2, h3, h4, rfl⟩ := valid_form hv
    have hbd := fun W => board_yes R C E h1 h2 h3 h4 hs hv W
    have z64 := pat64 (onB (fun x y => !E x y) R C) (onB_lt _ R C h4)
    have o64 := pat64 (onB E R C) (onB_lt _ R C h4)
    have hcol := fun r c W => colR_any E R C h1 h2 h3 h4 hs hv r c W
    have hcv : ∀ bit : Int, 0 ≤ bit → ∀ r c, colR E R C r c = bit → ∃ RS CS : Nat, r = (RS : Int) ∧ c = (CS : Int) ∧ 1 ≤ RS ∧ RS < 256 ∧ 1 ≤ CS ∧ CS < 256 := fun bit hb r c h => by
      unfold colR at h
      by_cases ht : rvB R C r c = true
      · obtain ⟨RS, CS, e1, e2, k1, k2, k3, k4, k5, k6⟩ := rv_nat h2 h4 ht
        exact ⟨RS, CS, e1, e2, k1, k5, k3, k6⟩
      · rw [if_neg ht] at h
        omega
    by_cases b0 : bit = 0
    · subst b0
      refine ⟨_, fun v w hiv => spec_cover E R C h1 h2 h3 h4 _ rfl hs hv 0 (.inl rfl) _ hcol (hcv 0 (by omega)) xs v w hiv, fun v w hiv => ?_⟩
      rw [cover_eq E (fun x y => !E x y) 0 (fun x y => by cases E x y <;> rfl) R C h2 h4 xs (colR_zero E R C h2 h4)]
      exact impl_cover R C h1 h2 h4 _ _ _ z64 0 (.inl ⟨rfl, rfl⟩) _ _ _ hbd (fun RS CS k5 k6 W => plain0 R C _ _ z64 o64 RS CS k5 k6 W) xs v w hiv
    · by_cases b1 : bit = 1
      · subst b1
        refine ⟨_, fun v w hiv => spec_cover E R C h1 h2 h3 h4 _ rfl hs hv 1 (.inr rfl) _ hcol (hcv 1 (by omega)) xs v w hiv, fun v w hiv => ?_⟩
        rw [cover_eq E E 1 (fun x y => by cases E x y <;> rfl) R C h2 h4 xs (colR_one E R C h2 h4)]
        exact impl_cover R C h1 h2 h4 _ _ _ o64 1 (.inr ⟨rfl, rfl⟩) _ _ _ hbd (fun RS CS k5 k6 W => plain1 R C _ _ z64 o64 RS CS k5 k6 W) xs v w hiv
      · exact ⟨false, fun v w _ => spec_no R C _ hs bit true hv (.inr ⟨b0, b1⟩) v w, fun v w _ => impl_no_bit R C h1 _ _ _ _ _ bit b0 b1 hbd v w⟩
  · have hv' : validB r c s = false := by simpa using hv
    refine ⟨false, fun v w _ => spec_no r c s hs bit false hv' (.inl rfl) v w, fun v w _ => impl_no_board r c s bit (fun W => ?_) v w⟩
    have h := board_no r c s hs hv' W
    rw [show pat (onB (fun _ _ => true) 0 0) 8 = 0 from (pat_zero 8 _).2 fun x _ => by unfold onB; rw [if_neg (by omega)], show pat (onB (fun _ _ => false) 0 0) 8 = 0 from (pat_zero 8 _).2 fun x _ => by unfold onB; rw [if_neg (by omega)]] at h
    exact h

/-- the law's own copy of the matrix -/
def LBox (w : World) (b : Nat) (r c : Int) (s : ByteArray) : Prop := MHolds w b 23 r c s
theorem LBox.on {w w1 : World} {b : Nat} {r c : Int} {s : ByteArray} (h : LBox w b r c s) (hb : Below w.heap.size w w1) : LBox w1 b r c s := mh_on h hb

end Go.Proofs.YtohkllmhknjkoaaDoor.fnExactIsCover

/-
  The walk of the law on RectValid.
-/
namespace Go.Proofs.YtohkllmhknjkoaaDoor.fnExactRectValid
open Go.RowKit Go.Proofs.YtohkllmhknjkoaaDoor.Plain Go.Proofs.YtohkllmhknjkoaaDoor.Base Go.Proofs.YtohkllmhknjkoaaDoor.Valid Go.Proofs.YtohkllmhknjkoaaDoor.Law Go.Proofs.YtohkllmhknjkoaaDoor.GridPlain Go.Proofs.YtohkllmhknjkoaaDoor.Entry Go.Proofs.YtohkllmhknjkoaaDoor.Pat Go.Proofs.YtohkllmhknjkoaaDoor.Rect Go.Proofs.YtohkllmhknjkoaaDoor.Patch Go.Proofs.YtohkllmhknjkoaaDoor.FreeL Go.Proofs.YtohkllmhknjkoaaDoor.Board Go.Proofs.YtohkllmhknjkoaaDoor.BoardM Go.Proofs.YtohkllmhknjkoaaDoor.RValid
open Go.Proofs.YtohkllmhknjkoaaDoor.Free (fill wp_value wp_enter wp_load_row freeB)
set_option linter.unusedVariables false

/-- both find one truth value -/
theorem both (r c : Int) (s : ByteArray) (hs : s.size ≤ maxLen) (x y : Int) : ∃ v : Bool,
    (∀ w, Calls Tryd.prog 115 #[mat r c s, rect x y] w fun e w' => e = .returned (.bool v) ∧ Below w.heap.size w w') ∧
    (∀ w, Calls Tryd.prog 29 #[mat r c s, rect x y] w fun e w' => e = .returned (.bool v) ∧ Below w.heap.size w w') := by
  by_cases hv : validB r c s = true
  · obtain ⟨R, C, E, rfl, rfl, h1, h2, h3, h4, rfl⟩ := valid_form hv
    exact ⟨_, fun w => spec_rv R C h1 h2 h3 h4 _ hs hv x y w, fun w => impl_rv R C h2 h4 _ _ _ _ _ x y (fun W => board_yes R C E h1 h2 h3 h4 hs hv W) w⟩
  · have hv' : validB r c s = false := by simpa using hv
    refine ⟨false, fun w => spec_rv_no r c s hs hv' x y w, fun w => ?_⟩
    have := impl_rv 0 0 (by omega) (by omega) _ _ r c s x y (fun W => board_no r c s hs hv' W) w
    rwa [rvB_zero] at this

end Go.Proofs.YtohkllmhknjkoaaDoor.fnExactRectValid

