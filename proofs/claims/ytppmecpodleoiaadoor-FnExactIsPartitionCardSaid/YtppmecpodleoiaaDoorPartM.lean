/-
  Plain facts: rectangles that part a matrix.
-/
import Derived.Test.YtppmecpodleoiaaDoorCovM
import Derived.Test.YtppmecpodleoiaaDoorPartS
import Derived.Test.YtppmecpodleoiaaDoorPartI
namespace Go.Proofs.YtppmecpodleoiaaDoor.PartM
open Go.RowKit Go.Proofs.YtppmecpodleoiaaDoor.Plain Go.Proofs.YtppmecpodleoiaaDoor.Base Go.Proofs.YtppmecpodleoiaaDoor.Valid Go.Proofs.YtppmecpodleoiaaDoor.Law Go.Proofs.YtppmecpodleoiaaDoor.Pat Go.Proofs.YtppmecpodleoiaaDoor.Rect Go.Proofs.YtppmecpodleoiaaDoor.Patch Go.Proofs.YtppmecpodleoiaaDoor.Board Go.Proofs.YtppmecpodleoiaaDoor.BoardM Go.Proofs.YtppmecpodleoiaaDoor.RValid Go.Proofs.YtppmecpodleoiaaDoor.Bal Go.Proofs.YtppmecpodleoiaaDoor.Colour Go.Proofs.YtppmecpodleoiaaDoor.Rects Go.Proofs.YtppmecpodleoiaaDoor.Cover Go.Proofs.YtppmecpodleoiaaDoor.CoverS Go.Proofs.YtppmecpodleoiaaDoor.CovM Go.Proofs.YtppmecpodleoiaaDoor.PartS Go.Proofs.YtppmecpodleoiaaDoor.PartI
set_option linter.unusedVariables false

theorem bit_of_pos {n : Nat} (h : n ≠ 0) : ∃ i, n.testBit i = true := by
  apply Classical.byContradiction
  intro hn
  apply h
  apply Nat.eq_of_testBit_eq
  intro i
  rw [Nat.zero_testBit]
  cases hb : n.testBit i
  · rfl
  · exact absurd ⟨i, hb⟩ hn
theorem pos_of_bit {n i : Nat} (h : n.testBit i = true) : n ≠ 0 := fun e => by
  rw [e, Nat.zero_testBit] at h
  cases h
theorem and_pos (a b : Nat) : (a &&& b != 0) = true ↔ ∃ i, a.testBit i = true ∧ b.testBit i = true := by
  rw [bne_iff_ne]
  constructor
  · intro h
    obtain ⟨i, hi⟩ := bit_of_pos h
    rw [Nat.testBit_and, Bool.and_eq_true] at hi
    exact ⟨i, hi⟩
  · rintro ⟨i, h1, h2⟩
    exact pos_of_bit (i := i) (by rw [Nat.testBit_and, h1, h2]; rfl)
theorem meet_iff (a b : Int × Int) : meetB a b = true ↔ ∃ x y, (a.1.toNat.testBit x = true ∧ a.2.toNat.testBit y = true) ∧ b.1.toNat.testBit x = true ∧ b.2.toNat.testBit y = true := by
  unfold meetB meetN
  rw [Bool.and_eq_true, and_pos, and_pos]
  constructor
  · rintro ⟨⟨x, h1, h2⟩, y, h3, h4⟩
    exact ⟨x, y, ⟨h1, h3⟩, h2, h4⟩
  · rintro ⟨x, y, ⟨h1, h3⟩, h2, h4⟩
    exact ⟨⟨x, h1, h2⟩, y, h3, h4⟩
theorem covB_bit (xs : List (Int × Int)) (x y : Nat) : ∀ k, k ≤ xs.length → ((covB xs k x).testBit y = true ↔ ∃ i, ∃ hi : i < xs.length, i < k ∧ xs[i].1.toNat.testBit x = true ∧ xs[i].2.toNat.testBit y = true)
  | 0, _ => by
    rw [show covB xs 0 x = 0 from rfl, Nat.zero_testBit]
    exact ⟨fun h => (by cases h), fun ⟨i, _, h, _⟩ => absurd h (by omega)⟩
  | k + 1, hk => by
    rw [covB_next xs k (by omega), Nat.testBit_or, Bool.or_eq_true, covB_bit xs x y k (by omega), rectB_bit, Bool.and_eq_true]
    constructor
    · rintro (⟨i, hi, h, hb⟩ | hb)
      · exact ⟨i, hi, by omega, hb⟩
      · exact ⟨k, by omega, by omega, hb⟩
    · rintro ⟨i, hi, h, hb⟩
      by_cases e : i = k
      · subst e; exact .inr hb
      · exact .inl ⟨i, hi, by omega, hb⟩
/-- the next rectangle has no entry in common with those before just if it meets none -/
theorem apart_iff (xs : List (Int × Int)) (h1 : ∀ j (hj : j < xs.length), xs[j].1.toNat < 256) (h2 : ∀ j (hj : j < xs.length), xs[j].2.toNat < 256) (k : Nat) (hk : k < xs.length) :
    covTo xs k &&& pat (rectB xs[k].1.toNat xs[k].2.toNat) 8 = 0 ↔ ∀ i (hi : i < xs.length), i < k → meetB xs[k] xs[i] = false := by
  rw [covTo_pat xs h2 k (by omega), pat_and 8 _ _ (covB_lt xs h2 k (by omega)) (rectB_lt _ _ (h2 k hk)), pat_zero]
  constructor
  · intro h i hi hik
    cases hm : meetB xs[k] xs[i]
    · rfl
    · obtain ⟨x, y, ⟨b1, b2⟩, b3, b4⟩ := (meet_iff _ _).1 hm
      have hx : x < 8 := by
        rcases Nat.lt_or_ge x 8 with h8 | h8
        · exact h8
        · rw [bit_high _ x (h1 k hk) h8] at b1; cases b1
      refine absurd (h x hx) (pos_of_bit (i := y) ?_)
      rw [Nat.testBit_and, Bool.and_eq_true]
      exact ⟨(covB_bit xs x y k (by omega)).2 ⟨i, hi, hik, b3, b4⟩, by rw [rectB_bit, b1, b2]; rfl⟩
  · intro h x hx
    apply Classical.byContradiction
    intro hne
    obtain ⟨y, hy⟩ := bit_of_pos hne
    rw [Nat.testBit_and, Bool.and_eq_true, rectB_bit, Bool.and_eq_true] at hy
    obtain ⟨i, hi, hik, b3, b4⟩ := (covB_bit xs x y k (by omega)).1 hy.1
    have := h i hi hik
    rw [(meet_iff _ _).2 ⟨x, y, hy.2, b3, b4⟩] at this
    cases this

theorem sumN_add (f g : Nat → Nat) : ∀ n, sumN (fun x => f x + g x) n = sumN f n + sumN g n
  | 0 => rfl
  | n + 1 => by
    rw [sumN, sumN, sumN, sumN_add f g n]
    omega
theorem pop8_or (a b : Nat) (ha : a < 256) (hb : b < 256) (h : a &&& b = 0) : pop8 (a ||| b) = pop8 a + pop8 b := by
  rw [pop8_bits _ (Nat.or_lt_two_pow (n := 8) ha hb), pop8_bits a ha, pop8_bits b hb, ← sumN_add]
  refine sumN_congr _ _ 8 fun i _ => ?_
  rw [Nat.testBit_or]
  have h2 : (a &&& b).testBit i = false := by rw [h, Nat.zero_testBit]
  rw [Nat.testBit_and] at h2
  cases h3 : a.testBit i <;> cases h4 : b.testBit i
  · rfl
  · rfl
  · rfl
  · rw [h3, h4] at h2; cases h2
/-- rectangles that do not meet have as many entries together as their areas -/
theorem area_cov (xs : List (Int × Int)) (h1 : ∀ j (hj : j < xs.length), xs[j].1.toNat < 256) (h2 : ∀ j (hj : j < xs.length), xs[j].2.toNat < 256)
    (hap : ∀ k (hk : k < xs.length), covTo xs k &&& pat (rectB xs[k].1.toNat xs[k].2.toNat) 8 = 0) : ∀ k, k ≤ xs.length → sumN (fun x => pop8 (covB xs k x)) 8 = areaTo xs k
  | 0, _ => by show sumN (fun _ => pop8 0) 8 = 0; decide
  | k + 1, hk => by
    have hz := hap k (by omega)
    rw [covTo_pat xs h2 k (by omega), pat_and 8 _ _ (covB_lt xs h2 k (by omega)) (rectB_lt _ _ (h2 k (by omega))), pat_zero] at hz
    rw [areaTo_next xs k (by omega), ← area_cov xs h1 h2 hap k (by omega), ← area_pop _ xs[k].2.toNat (h1 k (by omega)), ← sumN_add]
    refine sumN_congr _ _ 8 fun x hx => ?_
    rw [covB_next xs k (by omega)]
    exact pop8_or _ _ (covB_lt xs h2 k (by omega) x) (rectB_lt _ _ (h2 k (by omega)) x) (hz x hx)
theorem pop8_sub {a b : Nat} (ha : a < 256) (hb : b < 256) (h : ∀ y, a.testBit y = true → b.testBit y = true) : pop8 a ≤ pop8 b ∧ (pop8 a = pop8 b → a = b) := by
  have hle : ∀ y, y < 8 → (((a.testBit y).toNat : Nat) : Int) ≤ (((b.testBit y).toNat : Nat) : Int) := fun y _ => by
    have := h y
    cases h1 : a.testBit y
    · simp
    · rw [this h1]; simp
  have hs := sumI_eq (fun y => (((a.testBit y).toNat : Nat) : Int)) (fun y => (((b.testBit y).toNat : Nat) : Int)) 8 hle
  rw [← sumI_cast (fun y => (a.testBit y).toNat), ← sumI_cast (fun y => (b.testBit y).toNat), ← pop8_bits a ha, ← pop8_bits b hb] at hs
  refine ⟨by omega, fun he => Nat.eq_of_testBit_eq fun y => ?_⟩
  rcases Nat.lt_or_ge y 8 with h8 | h8
  · have := hs.2.1 (by omega) y h8
    cases h1 : a.testBit y <;> cases h2 : b.testBit y
    · rfl
    · rw [h1, h2] at this; simp at this
    · rw [h1, h2] at this; simp at this
    · rfl
  · rw [bit_high a y ha h8, bit_high b y hb h8]
/-- the bytes of all entries -/
def allB (R C : Nat) : Nat → Nat := fun x => if x < R then 2 ^ C - 1 else 0
theorem allB_lt (R C : Nat) (hC : C ≤ 8) (x : Nat) : allB R C x < 256 := by
  unfold allB
  have := Nat.pow_le_pow_right (n := 2) (by decide) hC
  split <;> omega
theorem allB_bit (R C x y : Nat) : (allB R C x).testBit y = (decide (x < R) && decide (y < C)) := by
  unfold allB
  by_cases h : x < R
  · rw [if_pos h, Nat.testBit_two_pow_sub_one, decide_eq_true h, Bool.true_and]
  · rw [if_neg h, decide_eq_false h, Nat.zero_testBit, Bool.false_and]
theorem allB_pop : ∀ R C : Nat, R ≤ 8 → C ≤ 8 → sumN (fun x => pop8 (allB R C x)) 8 = R * C := by
  have h : ∀ R C : Fin 9, sumN (fun x => pop8 (allB R.val C.val x)) 8 = R.val * C.val := by decide +kernel
  intro R C hR hC
  exact h ⟨R, by omega⟩ ⟨C, by omega⟩
theorem all_or (E : Nat → Nat → Bool) (R C : Nat) (hC : C ≤ 8) : pat (onB (fun x y => !E x y) R C) 8 ||| pat (onB E R C) 8 = pat (allB R C) 8 := by
  rw [pat_or 8 _ _ (onB_lt _ R C hC) (onB_lt E R C hC)]
  refine pat_congr 8 _ _ fun x _ => Nat.eq_of_testBit_eq fun y => ?_
  rw [Nat.testBit_or, onB_bit, onB_bit, allB_bit]
  cases decide (x < R) <;> cases decide (y < C) <;> cases E x y <;> rfl

theorem col_plain (E : Nat → Nat → Bool) (R C : Nat) (h2 : R ≤ 8) (h4 : C ≤ 8) (r c : Int) : 0 ≤ colR E R C r c ↔ (hpB R C (pat (onB (fun x y => !E x y) R C) 8) r c || hpB R C (pat (onB E R C) 8) r c) = true := by
  rw [← colR_zero E R C h2 h4, ← colR_one E R C h2 h4, Bool.or_eq_true, beq_iff_eq, beq_iff_eq]
  have hle : colR E R C r c ≤ 1 := by
    unfold colR colV
    split
    · split
      · omega
      · split <;> omega
    · omega
  omega
theorem hp_any {E : Nat → Nat → Bool} {R C : Nat} (h2 : R ≤ 8) (h4 : C ≤ 8) {r c : Int} (h : (hpB R C (pat (onB (fun x y => !E x y) R C) 8) r c || hpB R C (pat (onB E R C) 8) r c) = true) :
    ∃ RS CS : Nat, r = (RS : Int) ∧ c = (CS : Int) ∧ 1 ≤ RS ∧ RS < 2 ^ R ∧ 1 ≤ CS ∧ CS < 2 ^ C ∧ RS < 256 ∧ CS < 256 := by
  rw [Bool.or_eq_true] at h
  rcases h with h | h
  all_goals
    unfold hpB at h
    rw [Bool.and_eq_true] at h
    exact rv_nat h2 h4 h.1

/-- both results are one -/
theorem part_eq (E : Nat → Nat → Bool) (R C : Nat) (h1 : 1 ≤ R) (h2 : R ≤ 8) (h4 : C ≤ 8) (xs : List (Int × Int)) :
    partS (colR E R C) xs (R * C) = partI R C (pat (onB (fun x y => !E x y) R C) 8) (pat (onB E R C) 8) xs := by
  unfold partS partI
  rw [decide_eq_true h1, Bool.true_and, all_or E R C h4]
  by_cases hp : ∀ j (hj : j < xs.length), 0 ≤ colR E R C xs[j].1 xs[j].2
  · rw [decide_eq_true hp, Bool.true_and]
    have hn := fun j hj => hp_any (E := E) h2 h4 ((col_plain E R C h2 h4 _ _).1 (hp j hj))
    have hb1 : ∀ j (hj : j < xs.length), xs[j].1.toNat < 256 := fun j hj => by
      obtain ⟨RS, CS, e1, e2, _, _, _, _, k5, k6⟩ := hn j hj
      rw [e1, Int.toNat_natCast]; exact k5
    have hb2 : ∀ j (hj : j < xs.length), xs[j].2.toNat < 256 := fun j hj => by
      obtain ⟨RS, CS, e1, e2, _, _, _, _, k5, k6⟩ := hn j hj
      rw [e2, Int.toNat_natCast]; exact k6
    have hok : (∀ k, k < xs.length → okAt R C (pat (onB (fun x y => !E x y) R C) 8) (pat (onB E R C) 8) xs k = true) ↔ ∀ j (hj : j < xs.length), ∀ i (hi : i < xs.length), i < j → meetB xs[j] xs[i] = false := by
      constructor
      · intro h j hj
        have := h j hj
        rw [okAt_some (List.getElem?_eq_getElem hj), Bool.and_eq_true, beq_iff_eq] at this
        exact (apart_iff xs hb1 hb2 j hj).1 this.2
      · intro h k hk
        rw [okAt_some (List.getElem?_eq_getElem hk), Bool.and_eq_true, beq_iff_eq]
        exact ⟨(col_plain E R C h2 h4 _ _).1 (hp k hk), (apart_iff xs hb1 hb2 k hk).2 (h k hk)⟩
    by_cases ha : ∀ j (hj : j < xs.length), ∀ i (hi : i < xs.length), i < j → meetB xs[j] xs[i] = false
    · rw [decide_eq_true ha, decide_eq_true (hok.2 ha), Bool.true_and, Bool.true_and]
      have hap := fun k hk => (apart_iff xs hb1 hb2 k hk).2 (ha k hk)
      have har := area_cov xs hb1 hb2 hap _ (Nat.le_refl _)
      have hlt := covB_lt xs hb2 _ (Nat.le_refl _)
      have hsub : ∀ x y, (covB xs xs.length x).testBit y = true → (allB R C x).testBit y = true := fun x y hb => by
        obtain ⟨i, hi, _, b1, b2⟩ := (covB_bit xs x y _ (Nat.le_refl _)).1 hb
        obtain ⟨RS, CS, e1, e2, _, k2, _, k4, _, _⟩ := hn i hi
        rw [e1, Int.toNat_natCast] at b1
        rw [e2, Int.toNat_natCast] at b2
        rw [allB_bit, Bool.and_eq_true, decide_eq_true_iff, decide_eq_true_iff]
        constructor
        · rcases Nat.lt_or_ge x R with h | h
          · exact h
          · rw [bit_beyond RS x R k2 h] at b1; cases b1
        · rcases Nat.lt_or_ge y C with h | h
          · exact h
          · rw [bit_beyond CS y C k4 h] at b2; cases b2
      rw [covTo_pat xs hb2 _ (Nat.le_refl _), ← har, ← allB_pop R C h2 h4, Bool.eq_iff_iff, beq_iff_eq, beq_iff_eq]
      have hs := sumI_eq (fun x => ((pop8 (covB xs xs.length x) : Nat) : Int)) (fun x => ((pop8 (allB R C x) : Nat) : Int)) 8 (fun x _ => by
        have := (pop8_sub (hlt x) (allB_lt R C h4 x) (hsub x)).1
        omega)
      rw [← sumI_cast (fun x => pop8 (covB xs xs.length x)), ← sumI_cast (fun x => pop8 (allB R C x))] at hs
      constructor
      · intro he
        refine pat_congr 8 _ _ fun x hx => (pop8_sub (hlt x) (allB_lt R C h4 x) (hsub x)).2 ?_
        have := hs.2.1 (by rw [he]) x hx
        omega
      · intro he
        have := pat_inj 8 _ _ hlt (allB_lt R C h4) he
        exact sumN_congr _ _ 8 fun x hx => by rw [this x hx]
    · rw [decide_eq_false ha, decide_eq_false (fun h => ha (hok.1 h)), Bool.false_and, Bool.false_and]
  · rw [decide_eq_false hp, Bool.false_and, decide_eq_false, Bool.false_and]
    intro h
    refine hp fun j hj => (col_plain E R C h2 h4 _ _).2 ?_
    have := h j hj
    rw [okAt_some (List.getElem?_eq_getElem hj), Bool.and_eq_true] at this
    exact this.1
end Go.Proofs.YtppmecpodleoiaaDoor.PartM
