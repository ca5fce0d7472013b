/-
  Texts of one seat, joined: CovM, IsCoverWalk, RectValidWalk.
-/
import Derived.Test.YtemmagkkigdhjaaGreatDoorJn27
import Derived.Test.YtemmagkkigdhjaaGreatDoorJn19
/-
  Plain facts: when a rectangle has one value; the entries of rectangles together.
-/
namespace Go.Proofs.YtemmagkkigdhjaaGreatDoor.CovM
open Go.RowKit Go.Proofs.YtemmagkkigdhjaaGreatDoor.Plain Go.Proofs.YtemmagkkigdhjaaGreatDoor.Base Go.Proofs.YtemmagkkigdhjaaGreatDoor.Valid Go.Proofs.YtemmagkkigdhjaaGreatDoor.Law Go.Proofs.YtemmagkkigdhjaaGreatDoor.Pat Go.Proofs.YtemmagkkigdhjaaGreatDoor.Rect Go.Proofs.YtemmagkkigdhjaaGreatDoor.Patch Go.Proofs.YtemmagkkigdhjaaGreatDoor.Board Go.Proofs.YtemmagkkigdhjaaGreatDoor.BoardM Go.Proofs.YtemmagkkigdhjaaGreatDoor.RValid Go.Proofs.YtemmagkkigdhjaaGreatDoor.Bal Go.Proofs.YtemmagkkigdhjaaGreatDoor.Colour Go.Proofs.YtemmagkkigdhjaaGreatDoor.Rects Go.Proofs.YtemmagkkigdhjaaGreatDoor.Cover Go.Proofs.YtemmagkkigdhjaaGreatDoor.CoverS
set_option linter.unusedVariables false

/-- all entries of a rectangle of the matrix are 1, by the balance and by sets of entries -/
theorem ones_iff (E : Nat → Nat → Bool) (R C RS CS : Nat) (h2 : R ≤ 8) (h4 : C ≤ 8) (k2 : RS < 2 ^ R) (k4 : CS < 2 ^ C) :
    (bal E RS CS R C = ((pop8 RS * pop8 CS : Nat) : Int)) ↔ (pat (rectB RS CS) 8 &&& (18446744073709551615 - pat (onB E R C) 8) = 0) := by
  have k5 : RS < 256 := Nat.lt_of_lt_of_le k2 (Nat.pow_le_pow_right (n := 2) (by decide) h2)
  have k6 : CS < 256 := Nat.lt_of_lt_of_le k4 (Nat.pow_le_pow_right (n := 2) (by decide) h4)
  have hin : ∀ x y, RS.testBit x = true → CS.testBit y = true → x < R ∧ y < C := fun x y hx hy => by
    constructor
    · rcases Nat.lt_or_ge x R with h | h
      · exact h
      · rw [bit_beyond RS x R k2 h] at hx; cases hx
    · rcases Nat.lt_or_ge y C with h | h
      · exact h
      · rw [bit_beyond CS y C k4 h] at hy; cases hy
  rw [plain_pat E R C RS CS h2 h4 k5 k6, bal_area E RS CS R C h2 h4 k2 k4]
  exact ⟨fun h x y hx hy => ⟨hin x y hx hy, h x y hx hy⟩, fun h x y hx hy => (h x y hx hy).2⟩

/-- what the reference's ColourOf finds -/
def colR (E : Nat → Nat → Bool) (R C : Nat) (r c : Int) : Int := if rvB R C r c = true then colV (bal E r.toNat c.toNat R C) ((pop8 r.toNat * pop8 c.toNat : Nat) : Int) else -2
theorem colR_one (E : Nat → Nat → Bool) (R C : Nat) (h2 : R ≤ 8) (h4 : C ≤ 8) (r c : Int) : (colR E R C r c == 1) = hpB R C (pat (onB E R C) 8) r c := by
  unfold colR hpB
  by_cases ht : rvB R C r c = true
  · obtain ⟨RS, CS, rfl, rfl, k1, k2, k3, k4, k5, k6⟩ := rv_nat h2 h4 ht
    rw [if_pos ht, ht, Bool.true_and, Int.toNat_natCast, Int.toNat_natCast]
    have e := ones_iff E R C RS CS h2 h4 k2 k4
    rw [Bool.eq_iff_iff, beq_iff_eq, decide_eq_true_iff, ← e]
    unfold colV
    split
    · rename_i h; exact ⟨fun _ => h, fun _ => rfl⟩
    · rename_i h
      split
      · exact ⟨fun h' => by omega, fun h' => absurd h' h⟩
      · exact ⟨fun h' => by omega, fun h' => absurd h' h⟩
  · rw [if_neg ht]
    rw [Bool.not_eq_true] at ht
    rw [ht]
    rfl
theorem colR_zero (E : Nat → Nat → Bool) (R C : Nat) (h2 : R ≤ 8) (h4 : C ≤ 8) (r c : Int) : (colR E R C r c == 0) = hpB R C (pat (onB (fun x y => !E x y) R C) 8) r c := by
  unfold colR hpB
  by_cases ht : rvB R C r c = true
  · obtain ⟨RS, CS, rfl, rfl, k1, k2, k3, k4, k5, k6⟩ := rv_nat h2 h4 ht
    rw [if_pos ht, ht, Bool.true_and, Int.toNat_natCast, Int.toNat_natCast]
    have e := ones_iff (fun x y => !E x y) R C RS CS h2 h4 k2 k4
    rw [← bal_not] at e
    have hpos : 1 ≤ pop8 RS * pop8 CS := Nat.mul_le_mul (pop8_pos RS k1 k5) (pop8_pos CS k3 k6)
    rw [Bool.eq_iff_iff, beq_iff_eq, decide_eq_true_iff, ← e]
    unfold colV
    split
    · exact ⟨fun h' => by omega, fun h' => by omega⟩
    · split
      · exact ⟨fun _ => by omega, fun _ => rfl⟩
      · exact ⟨fun h' => by omega, fun h' => by omega⟩
  · rw [if_neg ht]
    rw [Bool.not_eq_true] at ht
    rw [ht]
    rfl

theorem pat_inj (k : Nat) : ∀ (f g : Nat → Nat), (∀ x, f x < 256) → (∀ x, g x < 256) → pat f k = pat g k → ∀ x, x < k → f x = g x := by
  induction k with
  | zero => intro f g _ _ _ x hx; omega
  | succ k ih =>
    intro f g hf hg h x hx
    rw [pat, pat] at h
    have h0 := hf 0
    have h1 := hg 0
    have e1 : f 0 = g 0 := by omega
    have e2 : pat (fun x => f (x + 1)) k = pat (fun x => g (x + 1)) k := by omega
    cases x with
    | zero => exact e1
    | succ x => exact ih _ _ (fun x => hf _) (fun x => hg _) e2 x (by omega)

/-- the bytes of the first k rectangles together -/
def covB (xs : List (Int × Int)) : Nat → Nat → Nat
  | 0 => fun _ => 0
  | k + 1 => fun x => covB xs k x ||| (match xs[k]? with | some r => rectB r.1.toNat r.2.toNat x | none => 0)
theorem covB_next (xs : List (Int × Int)) (k : Nat) (hk : k < xs.length) (x : Nat) : covB xs (k + 1) x = covB xs k x ||| rectB xs[k].1.toNat xs[k].2.toNat x := by
  rw [covB, List.getElem?_eq_getElem hk]
theorem covB_lt (xs : List (Int × Int)) (h : ∀ j (hj : j < xs.length), xs[j].2.toNat < 256) : ∀ k, k ≤ xs.length → ∀ x, covB xs k x < 256
  | 0, _, x => by show 0 < 256; omega
  | k + 1, hk, x => by
    rw [covB_next xs k (by omega)]
    exact Nat.or_lt_two_pow (n := 8) (covB_lt xs h k (by omega) x) (rectB_lt _ _ (h k (by omega)) x)
theorem covTo_pat (xs : List (Int × Int)) (h : ∀ j (hj : j < xs.length), xs[j].2.toNat < 256) : ∀ k, k ≤ xs.length → covTo xs k = pat (covB xs k) 8
  | 0, _ => (pat_none 8).symm
  | k + 1, hk => by
    rw [covTo_next xs k (by omega), covTo_pat xs h k (by omega), pat_or 8 _ _ (covB_lt xs h k (by omega)) (rectB_lt _ _ (h k (by omega)))]
    exact pat_congr 8 _ _ fun x _ => (covB_next xs k (by omega) x).symm
theorem rectB_bit (r c x y : Nat) : (rectB r c x).testBit y = (r.testBit x && c.testBit y) := by
  unfold rectB
  cases r.testBit x
  · simp
  · simp
/-- what the reference finds at an entry -/
theorem cell_cov (E : Nat → Nat → Bool) (bit : Int) (xs : List (Int × Int)) (x y : Nat) : ∀ k, k ≤ xs.length → cellTo E bit xs x y k = ((bitI (E x y) != bit) || (covB xs k x).testBit y)
  | 0, _ => by
    rw [cellTo]
    show _ = (_ || (0 : Nat).testBit y)
    simp
  | k + 1, hk => by
    rw [cellTo_next E bit xs x y k (by omega), cell_cov E bit xs x y k (by omega), covB_next xs k (by omega), Nat.testBit_or, rectB_bit, Bool.or_assoc]
theorem onB_bit (P : Nat → Nat → Bool) (R C x y : Nat) : (onB P R C x).testBit y = (decide (x < R) && (decide (y < C) && P x y)) := by
  unfold onB
  by_cases h : x < R
  · rw [if_pos h, setB_bit, decide_eq_true h, Bool.true_and]
  · rw [if_neg h, decide_eq_false h, Bool.false_and, Nat.zero_testBit]
/-- rectangles that have the value have no other entries -/
theorem cov_sub (P : Nat → Nat → Bool) (R C : Nat) (hR : R ≤ 8) (hC : C ≤ 8) (xs : List (Int × Int)) (h : ∀ j (hj : j < xs.length), hpB R C (pat (onB P R C) 8) xs[j].1 xs[j].2 = true) (x y : Nat) : ∀ k, k ≤ xs.length → (covB xs k x).testBit y = true → (onB P R C x).testBit y = true
  | 0, _, hb => by rw [show covB xs 0 x = 0 from rfl, Nat.zero_testBit] at hb; cases hb
  | k + 1, hk, hb => by
    rw [covB_next xs k (by omega), Nat.testBit_or, Bool.or_eq_true] at hb
    rcases hb with hb | hb
    · exact cov_sub P R C hR hC xs h x y k (by omega) hb
    · have hp := h k (by omega)
      unfold hpB at hp
      rw [Bool.and_eq_true] at hp
      obtain ⟨RS, CS, e1, e2, k1, k2, k3, k4, k5, k6⟩ := rv_nat hR hC hp.1
      have h2 := hp.2
      rw [e1, e2, Int.toNat_natCast, Int.toNat_natCast] at h2
      rw [e1, e2, Int.toNat_natCast, Int.toNat_natCast, rectB_bit, Bool.and_eq_true] at hb
      have h3 := (plain_pat P R C RS CS hR hC k5 k6).1 (of_decide_eq_true h2) x y hb.1 hb.2
      rw [onB_bit, decide_eq_true h3.1.1, decide_eq_true h3.1.2, h3.2]
      rfl
theorem hp_lt {R C q : Nat} (hR : R ≤ 8) (hC : C ≤ 8) {xs : List (Int × Int)} (h : ∀ j (hj : j < xs.length), hpB R C q xs[j].1 xs[j].2 = true) : ∀ j (hj : j < xs.length), xs[j].2.toNat < 256 := fun j hj => by
  have hp := h j hj
  unfold hpB at hp
  rw [Bool.and_eq_true] at hp
  obtain ⟨RS, CS, e1, e2, k1, k2, k3, k4, k5, k6⟩ := rv_nat hR hC hp.1
  rw [e2, Int.toNat_natCast]
  exact k6
/-- rectangles that have the value cover it just if each entry with it is in one -/
theorem cov_iff (E P : Nat → Nat → Bool) (bit : Int) (hP : ∀ x y, P x y = (bitI (E x y) == bit)) (R C : Nat) (hR : R ≤ 8) (hC : C ≤ 8) (xs : List (Int × Int)) (h : ∀ j (hj : j < xs.length), hpB R C (pat (onB P R C) 8) xs[j].1 xs[j].2 = true) :
    (covTo xs xs.length == pat (onB P R C) 8) = cellsAll E bit xs R C := by
  have hlt := hp_lt hR hC h
  rw [covTo_pat xs hlt _ (Nat.le_refl _), Bool.eq_iff_iff, beq_iff_eq]
  unfold cellsAll
  rw [decide_eq_true_iff]
  have hc : ∀ x y, cellTo E bit xs x y xs.length = (!P x y || (covB xs xs.length x).testBit y) := fun x y => by
    rw [cell_cov E bit xs x y _ (Nat.le_refl _), hP]; rfl
  constructor
  · intro he x hx y hy
    have := pat_inj 8 _ _ (covB_lt xs hlt _ (Nat.le_refl _)) (onB_lt P R C hC) he x (by omega)
    rw [hc, this, onB_bit, decide_eq_true hx, decide_eq_true hy]
    cases P x y <;> rfl
  · intro ha
    refine pat_congr 8 _ _ fun x hx => Nat.eq_of_testBit_eq fun y => ?_
    rw [Bool.eq_iff_iff]
    refine ⟨fun hb => cov_sub P R C hR hC xs h x y _ (Nat.le_refl _) hb, fun hb => ?_⟩
    rw [onB_bit, Bool.and_eq_true, Bool.and_eq_true, decide_eq_true_iff, decide_eq_true_iff] at hb
    have := ha x hb.1 y hb.2.1
    rw [hc, hb.2.2] at this
    exact this
/-- both results are one -/
theorem cover_eq (E P : Nat → Nat → Bool) (bit : Int) (hP : ∀ x y, P x y = (bitI (E x y) == bit)) (R C : Nat) (hR : R ≤ 8) (hC : C ≤ 8) (xs : List (Int × Int))
    (hc : ∀ r c, (colR E R C r c == bit) = hpB R C (pat (onB P R C) 8) r c) :
    (xs.all (fun r => colR E R C r.1 r.2 == bit) && cellsAll E bit xs R C) = (xs.all (fun r => hpB R C (pat (onB P R C) 8) r.1 r.2) && (covTo xs xs.length == pat (onB P R C) 8)) := by
  have e : (fun r : Int × Int => colR E R C r.1 r.2 == bit) = fun r => hpB R C (pat (onB P R C) 8) r.1 r.2 := by
    funext r
    exact hc r.1 r.2
  rw [e]
  by_cases h : xs.all (fun r => hpB R C (pat (onB P R C) 8) r.1 r.2) = true
  · rw [h, Bool.true_and, Bool.true_and]
    rw [List.all_eq_true] at h
    exact (cov_iff E P bit hP R C hR hC xs fun j hj => h xs[j] (List.getElem_mem hj)).symm
  · rw [Bool.not_eq_true] at h
    rw [h]
    rfl
end Go.Proofs.YtemmagkkigdhjaaGreatDoor.CovM

/-
  The walk of the law on IsCover.
-/
namespace Go.Proofs.YtemmagkkigdhjaaGreatDoor.fnExactIsCover
open Go.RowKit Go.Proofs.YtemmagkkigdhjaaGreatDoor.Plain Go.Proofs.YtemmagkkigdhjaaGreatDoor.Base Go.Proofs.YtemmagkkigdhjaaGreatDoor.Valid Go.Proofs.YtemmagkkigdhjaaGreatDoor.Law Go.Proofs.YtemmagkkigdhjaaGreatDoor.GridPlain Go.Proofs.YtemmagkkigdhjaaGreatDoor.Entry Go.Proofs.YtemmagkkigdhjaaGreatDoor.Pat Go.Proofs.YtemmagkkigdhjaaGreatDoor.Rect Go.Proofs.YtemmagkkigdhjaaGreatDoor.Patch Go.Proofs.YtemmagkkigdhjaaGreatDoor.FreeL Go.Proofs.YtemmagkkigdhjaaGreatDoor.Board Go.Proofs.YtemmagkkigdhjaaGreatDoor.BoardM Go.Proofs.YtemmagkkigdhjaaGreatDoor.RValid Go.Proofs.YtemmagkkigdhjaaGreatDoor.Area Go.Proofs.YtemmagkkigdhjaaGreatDoor.Bal Go.Proofs.YtemmagkkigdhjaaGreatDoor.Colour Go.Proofs.YtemmagkkigdhjaaGreatDoor.Rects Go.Proofs.YtemmagkkigdhjaaGreatDoor.Cover Go.Proofs.YtemmagkkigdhjaaGreatDoor.CoverS Go.Proofs.YtemmagkkigdhjaaGreatDoor.CovM
set_option linter.unusedVariables false

theorem eq_pair (W : World) : (Op.equalIn 9999 48 (.agg #[.int .u64 0, .int .u64 0]) (.agg #[.int .u64 0, .int .u64 0])).run Tryz.prog W = .ok true W := by
  kernel_rfl

set_option maxHeartbeats 1000000 in
set_option maxRecDepth 100000 in
theorem impl_no_board (rr cc : Int) (s : ByteArray) (bit : Int) (hbo : ∀ W : World, Calls Tryz.prog 20 #[mat rr cc s] W fun e w' => e = .returned (.agg #[.int .i64 0, .int .i64 0, .int .u64 0, .int .u64 0]) ∧ Below W.heap.size W w') (v : Value) (w : World) :
    Calls Tryz.prog 15 #[mat rr cc s, .int .i64 bit, v] w fun e w' => e = .returned (.bool false) ∧ Below w.heap.size w w' := by
  have HBO := Lib.hid hbo
  clear hbo
  go_enter Tryz.func15, Tryz.ntmps15
  go_wp2_with fail
  refine (HBO.out _).mono ?_
  rintro e w1 ⟨rfl, hb1⟩
  have hbx : Below w.heap.size w w1 := rstep ((Below.refl w.heap.size w).alloc (Nat.le_refl _) _) hb1
  have HB : Hid (Below w.heap.size w (w1.alloc (.cells #[.int .i64 0, .int .i64 0, .int .u64 0, .int .u64 0] 50))) := hbx.alloc hbx.size _
  clear hb1 hbx HBO
  have heq := eq_pair
  go_wp2_with fail
  go_ret
  exact ⟨rfl, HB.out⟩

set_option maxHeartbeats 1000000 in
theorem impl_no_bit (R C : Nat) (hR1 : 1 ≤ R) (z o : Nat) (rr cc : Int) (s : ByteArray) (bit : Int) (h0 : bit ≠ 0) (h1 : bit ≠ 1) (hbo : ∀ W : World, Calls Tryz.prog 20 #[mat rr cc s] W fun e w' => e = .returned (brd R C z o) ∧ Below W.heap.size W w') (v : Value) (w : World) :
    Calls Tryz.prog 15 #[mat rr cc s, .int .i64 bit, v] w fun e w' => e = .returned (.bool false) ∧ Below w.heap.size w w' := by
  have HBO := Lib.hid hbo
  have HBIT := Lib.hid (fun W => bit_all bit W)
  rw [show (bit == 0 || bit == 1) = false by rw [beq_false_of_ne h0, beq_false_of_ne h1]; rfl] at HBIT
  clear hbo h0 h1
  go_enter Tryz.func15, Tryz.ntmps15
  go_wp2_with fail
  refine (HBO.out _).mono ?_
  rintro e w1 ⟨rfl, hb1⟩
  have hbx : Below w.heap.size w w1 := rstep ((Below.refl w.heap.size w).alloc (Nat.le_refl _) _) hb1
  have HB : Hid (Below w.heap.size w (w1.alloc (.cells #[.int .i64 (R : Int), .int .i64 (C : Int), .int .u64 (z : Int), .int .u64 (o : Int)] 50))) := hbx.alloc hbx.size _
  clear hb1 hbx HBO
  go_wp2_with fail
  refine (HBIT.out _).mono ?_
  rintro e w' ⟨rfl, rfl⟩
  go_wp2_with fail
  go_ret
  exact ⟨rfl, HB.out⟩

end Go.Proofs.YtemmagkkigdhjaaGreatDoor.fnExactIsCover

/-
  The walk of the law on RectValid.
-/
namespace Go.Proofs.YtemmagkkigdhjaaGreatDoor.fnExactRectValid
open Go.RowKit Go.Proofs.YtemmagkkigdhjaaGreatDoor.Plain Go.Proofs.YtemmagkkigdhjaaGreatDoor.Base Go.Proofs.YtemmagkkigdhjaaGreatDoor.Valid Go.Proofs.YtemmagkkigdhjaaGreatDoor.Law Go.Proofs.YtemmagkkigdhjaaGreatDoor.GridPlain Go.Proofs.YtemmagkkigdhjaaGreatDoor.Entry Go.Proofs.YtemmagkkigdhjaaGreatDoor.Pat Go.Proofs.YtemmagkkigdhjaaGreatDoor.Rect Go.Proofs.YtemmagkkigdhjaaGreatDoor.Patch Go.Proofs.YtemmagkkigdhjaaGreatDoor.FreeL Go.Proofs.YtemmagkkigdhjaaGreatDoor.Board Go.Proofs.YtemmagkkigdhjaaGreatDoor.BoardM Go.Proofs.YtemmagkkigdhjaaGreatDoor.RValid
open Go.Proofs.YtemmagkkigdhjaaGreatDoor.Free (fill wp_value wp_enter wp_load_row freeB)
set_option linter.unusedVariables false

end Go.Proofs.YtemmagkkigdhjaaGreatDoor.fnExactRectValid

