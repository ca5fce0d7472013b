/-
  Texts of one seat, joined: MaxM, DiscT.
-/
import Derived.Test.YtgmhddceeomjbaaGreatDoorJ19
import Derived.Test.YtgmhddceeomjbaaGreatDoorJ18
/-
  The mathematics of maximal rectangles: closed pairs of sets of rows and columns, their list by rising rows.
-/
namespace Go.Proofs.YtgmhddceeomjbaaGreatDoor.MaxM
open Go.RowKit Go.Proofs.YtgmhddceeomjbaaGreatDoor.Pat Go.Proofs.YtgmhddceeomjbaaGreatDoor.Cols
set_option linter.unusedVariables false

/-- the columns that have a value in all rows of a set; the rows that have it in all columns of a set -/
def cS (E : Nat → Nat → Bool) (b : Bool) (R C S : Nat) : Nat := setB (fun y => allTo E S b y R) C
def rS (E : Nat → Nat → Bool) (b : Bool) (R C T : Nat) : Nat := setB (fun x => allTo (fun y x => E x y) T b x C) R
theorem cS_bit (E : Nat → Nat → Bool) (b : Bool) (R C S y : Nat) : (cS E b R C S).testBit y = true ↔ y < C ∧ ∀ x, x < R → S.testBit x = true → E x y = b := by
  unfold cS
  rw [setB_bit, Bool.and_eq_true, decide_eq_true_iff, allTo_iff]
theorem rS_bit (E : Nat → Nat → Bool) (b : Bool) (R C T x : Nat) : (rS E b R C T).testBit x = true ↔ x < R ∧ ∀ y, y < C → T.testBit y = true → E x y = b := by
  unfold rS
  rw [setB_bit, Bool.and_eq_true, decide_eq_true_iff, allTo_iff]
theorem cS_lt (E : Nat → Nat → Bool) (b : Bool) (R C S : Nat) : cS E b R C S < 2 ^ C := setB_lt _ C
theorem rS_lt (E : Nat → Nat → Bool) (b : Bool) (R C S : Nat) : rS E b R C S < 2 ^ R := setB_lt _ R
/-- the rows that fit have the first ones -/
theorem rows_grow (E : Nat → Nat → Bool) (b : Bool) (R C S x : Nat) (hx : x < R) (h : S.testBit x = true) : (rS E b R C (cS E b R C S)).testBit x = true :=
  (rS_bit ..).2 ⟨hx, fun y hy hb => ((cS_bit ..).1 hb).2 x hx h⟩
/-- the columns that fit do not change -/
theorem cols_closed (E : Nat → Nat → Bool) (b : Bool) (R C S : Nat) : cS E b R C (rS E b R C (cS E b R C S)) = cS E b R C S := by
  refine Nat.eq_of_testBit_eq fun y => ?_
  rw [Bool.eq_iff_iff]
  constructor
  · intro h
    obtain ⟨h1, h2⟩ := (cS_bit ..).1 h
    exact (cS_bit ..).2 ⟨h1, fun x hx hb => h2 x hx (rows_grow E b R C S x hx hb)⟩
  · intro h
    obtain ⟨h1, h2⟩ := (cS_bit ..).1 h
    exact (cS_bit ..).2 ⟨h1, fun x hx hb => ((rS_bit ..).1 hb).2 y h1 h⟩
/-- a set that is not empty keeps a row -/
theorem rows_pos (E : Nat → Nat → Bool) (b : Bool) (R C S : Nat) (h1 : 1 ≤ S) (h2 : S < 2 ^ R) : 1 ≤ rS E b R C (cS E b R C S) := by
  obtain ⟨x, hx⟩ : ∃ x, S.testBit x = true := Nat.exists_testBit_of_ne_zero (by omega)
  have hxR : x < R := by
    rcases Nat.lt_or_ge x R with h | h
    · exact h
    · rw [bit_beyond S x R h2 h] at hx
      cases hx
  have h := rows_grow E b R C S x hxR hx
  rcases Nat.eq_zero_or_pos (rS E b R C (cS E b R C S)) with h0 | h0
  · rw [h0] at h
    simp at h
  · exact h0

/-- the maximal rectangles whose rows are at most k -/
def mx (E : Nat → Nat → Bool) (b : Bool) (R C : Nat) : Nat → List (Int × Int)
  | 0 => []
  | k + 1 => mx E b R C k ++ (if 0 < cS E b R C (k + 1) ∧ rS E b R C (cS E b R C (k + 1)) = k + 1 then [(((k + 1 : Nat) : Int), ((cS E b R C (k + 1) : Nat) : Int))] else [])
theorem mx_len (E : Nat → Nat → Bool) (b : Bool) (R C : Nat) : ∀ k, (mx E b R C k).length ≤ k
  | 0 => Nat.le_refl _
  | k + 1 => by
    have := mx_len E b R C k
    rw [mx, List.length_append]
    split <;> simp <;> omega
theorem mx_mem (E : Nat → Nat → Bool) (b : Bool) (R C : Nat) (p : Int × Int) : ∀ k, p ∈ mx E b R C k ↔ ∃ S, 1 ≤ S ∧ S ≤ k ∧ 0 < cS E b R C S ∧ rS E b R C (cS E b R C S) = S ∧ p = ((S : Int), ((cS E b R C S : Nat) : Int))
  | 0 => by
    constructor
    · intro h; cases h
    · rintro ⟨S, h1, h2, _⟩; omega
  | k + 1 => by
    rw [mx, List.mem_append, mx_mem E b R C p k]
    constructor
    · rintro (⟨S, h1, h2, h3⟩ | h)
      · exact ⟨S, h1, by omega, h3⟩
      · split at h
        · rename_i hc
          simp only [List.mem_singleton] at h
          exact ⟨k + 1, by omega, Nat.le_refl _, hc.1, hc.2, h⟩
        · cases h
    · rintro ⟨S, h1, h2, h3, h4, h5⟩
      by_cases e : S = k + 1
      · subst e
        right
        rw [if_pos ⟨h3, h4⟩, h5]
        exact List.mem_singleton.2 rfl
      · exact .inl ⟨S, h1, by omega, h3, h4, h5⟩
theorem mx_rises (E : Nat → Nat → Bool) (b : Bool) (R C : Nat) : ∀ k, (mx E b R C k).Pairwise (fun p q => p.1 < q.1)
  | 0 => List.Pairwise.nil
  | k + 1 => by
    rw [mx, List.pairwise_append]
    refine ⟨mx_rises E b R C k, by split <;> simp, fun p hp q hq => ?_⟩
    obtain ⟨S, h1, h2, _, _, rfl⟩ := (mx_mem E b R C p k).1 hp
    split at hq
    · simp only [List.mem_singleton] at hq
      subst hq
      show (S : Int) < ((k + 1 : Nat) : Int)
      omega
    · cases hq
theorem mx_wf (E : Nat → Nat → Bool) (b : Bool) (R C k : Nat) (hC : C ≤ 8) (p : Int × Int) (h : p ∈ mx E b R C k) : (1 ≤ p.1 ∧ p.1 ≤ k) ∧ 1 ≤ p.2 ∧ p.2 < 256 := by
  obtain ⟨S, h1, h2, h3, _, rfl⟩ := (mx_mem E b R C p k).1 h
  have h4 := cS_lt E b R C S
  have h5 : 2 ^ C ≤ 256 := Nat.pow_le_pow_right (n := 2) (by decide) hC
  refine ⟨⟨?_, ?_⟩, ?_, ?_⟩ <;> simp only <;> omega

/-- what a set of rows grows to -/
def growP (E : Nat → Nat → Bool) (b : Bool) (R C S : Nat) : Int × Int := (((rS E b R C (cS E b R C S) : Nat) : Int), ((cS E b R C (rS E b R C (cS E b R C S)) : Nat) : Int))
/-- grown sets are the maximal ones -/
theorem found_iff (E : Nat → Nat → Bool) (b : Bool) (R C : Nat) (p : Int × Int) :
    (∃ S, 1 ≤ S ∧ S ≤ 2 ^ R - 1 ∧ cS E b R C S ≠ 0 ∧ p = growP E b R C S) ↔ p ∈ mx E b R C (2 ^ R - 1) := by
  have hp := Nat.one_le_two_pow (n := R)
  rw [mx_mem]
  constructor
  · rintro ⟨S, h1, h2, h3, rfl⟩
    have h4 := rS_lt E b R C (cS E b R C S)
    have h5 := cols_closed E b R C S
    refine ⟨rS E b R C (cS E b R C S), rows_pos E b R C S h1 (by omega), by omega, ?_, ?_, rfl⟩
    · rw [h5]; omega
    · rw [h5]
  · rintro ⟨S, h1, h2, h3, h4, rfl⟩
    refine ⟨S, h1, h2, by omega, ?_⟩
    unfold growP
    rw [h4]
/-- a list of the same rectangles by rising rows is the one list -/
theorem same_list (E : Nat → Nat → Bool) (b : Bool) (R C k : Nat) {l : List (Int × Int)} (hn : l.Nodup) (hs : l.Pairwise (fun p q => p.1 ≤ q.1)) (hm : ∀ p, p ∈ l ↔ p ∈ mx E b R C k) : l = mx E b R C k := by
  have hr := mx_rises E b R C k
  have hn2 : (mx E b R C k).Nodup := hr.imp (fun {p q} h e => by rw [e] at h; omega)
  refine List.Perm.eq_of_pairwise (le := fun p q : Int × Int => p.1 ≤ q.1) (fun p q hp hq h1 h2 => ?_) hs (hr.imp (fun {p q} h => by omega)) ((List.perm_ext_iff_of_nodup hn hn2).2 hm)
  obtain ⟨S, _, _, _, _, rfl⟩ := (mx_mem E b R C p k).1 ((hm p).1 hp)
  obtain ⟨T, _, _, _, _, rfl⟩ := (mx_mem E b R C q k).1 hq
  simp only at h1 h2
  obtain rfl : S = T := by omega
  rfl
end Go.Proofs.YtgmhddceeomjbaaGreatDoor.MaxM

/-
  The mathematics of the discrepancy: it is the greatest balance without its sign, the same turned and with the values exchanged.
-/
namespace Go.Proofs.YtgmhddceeomjbaaGreatDoor.DiscT
open Go.RowKit Go.Proofs.YtgmhddceeomjbaaGreatDoor.Plain Go.Proofs.YtgmhddceeomjbaaGreatDoor.Pat Go.Proofs.YtgmhddceeomjbaaGreatDoor.Bal Go.Proofs.YtgmhddceeomjbaaGreatDoor.Disc Go.Proofs.YtgmhddceeomjbaaGreatDoor.ColM
set_option linter.unusedVariables false

theorem sumI_le (f g : Nat → Int) (n : Nat) (h : ∀ x, x < n → f x ≤ g x) : sumI f n ≤ sumI g n := (sumI_eq f g n h).1
theorem sumI_const (b : Int) : ∀ n : Nat, sumI (fun _ => b) n = b * n
  | 0 => by rw [sumI]; simp
  | n + 1 => by rw [sumI, sumI_const b n, Int.natCast_succ, Int.mul_add]; omega
theorem sumI_swap (f : Nat → Nat → Int) (c : Nat) : ∀ r, sumI (fun x => sumI (f x) c) r = sumI (fun y => sumI (fun x => f x y) r) c
  | 0 => by
    rw [sumI, sumI_zero]
    intro x hx
    rfl
  | r + 1 => by
    rw [sumI, sumI_swap f c r, sumI_add]
    rfl
theorem sumI_at (f : Nat → Int) (y : Nat) (h : ∀ x, x ≠ y → f x = 0) : ∀ n, y < n → sumI f n = f y
  | 0, hy => absurd hy (by omega)
  | n + 1, hy => by
    rw [sumI]
    by_cases e : n = y
    · subst e
      rw [sumI_zero f n (fun x hx => h x (by omega))]
      omega
    · rw [sumI_at f y h n (by omega), h n e]
      omega
/-- the balance of one column -/
theorem bal_one (E : Nat → Nat → Bool) (RS R C y : Nat) (hy : y < C) : bal E RS (2 ^ y) R C = sumI (fun x => term E RS (2 ^ y) x y) R := by
  unfold bal
  refine sumI_congr _ _ R fun x hx => ?_
  refine sumI_at _ y (fun z hz => ?_) C hy
  unfold term
  rw [Nat.testBit_two_pow]
  rw [if_neg]
  simp
  intro _ h
  exact absurd h.symm hz
/-- a balance is the sum of its columns' -/
theorem bal_cols (E : Nat → Nat → Bool) (RS CS R C : Nat) : bal E RS CS R C = sumI (fun y => if CS.testBit y = true then bal E RS (2 ^ y) R C else 0) C := by
  unfold bal
  rw [sumI_swap]
  refine sumI_congr _ _ C fun y hy => ?_
  by_cases h : CS.testBit y = true
  · rw [if_pos h]
    have := bal_one E RS R C y hy
    unfold bal at this
    rw [this]
    refine sumI_congr _ _ R fun x hx => ?_
    unfold term
    rw [h, Nat.testBit_two_pow]
    simp
  · rw [if_neg h]
    refine sumI_zero _ R fun x hx => ?_
    unfold term
    rw [if_neg]
    simp [h]
theorem bal_le_more (E : Nat → Nat → Bool) (RS CS R C : Nat) : bal E RS CS R C ≤ moreTo E RS R C C := by
  rw [bal_cols]
  unfold moreTo
  refine sumI_le _ _ C fun y hy => ?_
  split <;> omega
theorem bal_le_less (E : Nat → Nat → Bool) (RS CS R C : Nat) : - bal E RS CS R C ≤ lessTo E RS R C C := by
  rw [bal_cols, sumI_neg]
  unfold lessTo
  refine sumI_le _ _ C fun y hy => ?_
  split <;> omega
/-- the columns with more ones -/
def posS (E : Nat → Nat → Bool) (RS R C : Nat) : Nat := setB (fun y => decide (0 < bal E RS (2 ^ y) R C)) C
theorem more_is (E : Nat → Nat → Bool) (RS R C : Nat) : moreTo E RS R C C = bal E RS (posS E RS R C) R C := by
  rw [bal_cols]
  unfold moreTo
  refine sumI_congr _ _ C fun y hy => ?_
  have : (posS E RS R C).testBit y = decide (0 < bal E RS (2 ^ y) R C) := by
    unfold posS
    rw [setB_bit, decide_eq_true hy, Bool.true_and]
  rw [this]
  by_cases h : 0 < bal E RS (2 ^ y) R C
  · rw [if_pos (decide_eq_true h)]
    omega
  · rw [if_neg (by simpa using h)]
    omega
theorem more_not (E : Nat → Nat → Bool) (RS R C : Nat) : moreTo (fun x y => !E x y) RS R C C = lessTo E RS R C C := by
  unfold moreTo lessTo
  refine sumI_congr _ _ C fun y hy => ?_
  rw [← bal_not]
theorem less_not (E : Nat → Nat → Bool) (RS R C : Nat) : lessTo (fun x y => !E x y) RS R C C = moreTo E RS R C C := by
  unfold moreTo lessTo
  refine sumI_congr _ _ C fun y hy => ?_
  rw [← bal_not]
  omega
theorem fold_not (E : Nat → Nat → Bool) (R C : Nat) (b0 : Int) : ∀ k, foldTo (fun x y => !E x y) R C b0 k = foldTo E R C b0 k
  | 0 => rfl
  | k + 1 => by rw [foldTo, foldTo, fold_not E R C b0 k, more_not, less_not, Int.max_comm (lessTo E (k + 1) R C C)]
theorem fold_up (E : Nat → Nat → Bool) (R C : Nat) (b0 : Int) (S : Nat) (h1 : 1 ≤ S) : ∀ k, S ≤ k → moreTo E S R C C ≤ foldTo E R C b0 k ∧ lessTo E S R C C ≤ foldTo E R C b0 k
  | 0, h => absurd h (by omega)
  | k + 1, h => by
    rw [foldTo]
    by_cases e : S = k + 1
    · subst e
      omega
    · have := fold_up E R C b0 S h1 k (by omega)
      omega
theorem fold_least (E : Nat → Nat → Bool) (R C : Nat) (b0 v : Int) (h0 : b0 ≤ v) : ∀ k, (∀ S, 1 ≤ S → S ≤ k → moreTo E S R C C ≤ v ∧ lessTo E S R C C ≤ v) → foldTo E R C b0 k ≤ v
  | 0, h => h0
  | k + 1, h => by
    rw [foldTo]
    have h1 := fold_least E R C b0 v h0 k (fun S a b => h S a (by omega))
    have h2 := h (k + 1) (by omega) (Nat.le_refl _)
    omega
/-- the discrepancy -/
def disc (E : Nat → Nat → Bool) (R C : Nat) : Int := foldTo E R C (-1) (2 ^ R - 1)
theorem disc_pos (E : Nat → Nat → Bool) (R C : Nat) (h1 : 1 ≤ R) (hR : R ≤ 8) (hC : C ≤ 8) : 0 ≤ disc E R C := by
  have hp : 2 ≤ 2 ^ R := by
    have := Nat.pow_le_pow_right (n := 2) (by decide) h1
    omega
  unfold disc
  rw [← fold_eq E R C hR hC _ (by omega), fold_same E R C hR hC]
  omega
theorem disc_up (E : Nat → Nat → Bool) (R C : Nat) (RS CS : Nat) (h1 : 1 ≤ RS) (h2 : RS < 2 ^ R) : bal E RS CS R C ≤ disc E R C ∧ - bal E RS CS R C ≤ disc E R C := by
  have h := fold_up E R C (-1) RS h1 (2 ^ R - 1) (by omega)
  have h3 := bal_le_more E RS CS R C
  have h4 := bal_le_less E RS CS R C
  unfold disc
  omega
theorem disc_not (E : Nat → Nat → Bool) (R C : Nat) : disc (fun x y => !E x y) R C = disc E R C := fold_not E R C (-1) _
theorem term_turn (E : Nat → Nat → Bool) (RS CS x y : Nat) : term (fun y x => E x y) CS RS y x = term E RS CS x y := by
  unfold term
  rw [Bool.and_comm]
theorem bal_turn (E : Nat → Nat → Bool) (RS CS R C : Nat) : bal (fun y x => E x y) CS RS C R = bal E RS CS R C := by
  unfold bal
  rw [sumI_swap]
  refine sumI_congr _ _ R fun x hx => sumI_congr _ _ C fun y hy => term_turn E RS CS x y
theorem bal_none (E : Nat → Nat → Bool) (RS R C : Nat) : bal E RS 0 R C = 0 := by
  rw [bal_cols]
  refine sumI_zero _ C fun y hy => ?_
  rw [if_neg (by simp)]
theorem more_turn_le (E : Nat → Nat → Bool) (R C : Nat) (h1 : 1 ≤ R) (hR : R ≤ 8) (hC : C ≤ 8) (S : Nat) (hs1 : 1 ≤ S) (hs2 : S < 2 ^ C) : moreTo (fun y x => E x y) S C R R ≤ disc E R C := by
  rw [more_is]
  have hlt : posS (fun y x => E x y) S C R < 2 ^ R := setB_lt _ R
  generalize posS (fun y x => E x y) S C R = P at *
  rcases Nat.eq_zero_or_pos P with rfl | hp
  · rw [bal_none]
    exact disc_pos E R C h1 hR hC
  · rw [bal_turn]
    exact (disc_up E R C P S hp hlt).1
theorem disc_turn_le (E : Nat → Nat → Bool) (R C : Nat) (h1 : 1 ≤ R) (hR : R ≤ 8) (h3 : 1 ≤ C) (hC : C ≤ 8) : disc (fun y x => E x y) C R ≤ disc E R C := by
  have h0 := disc_pos E R C h1 hR hC
  have hp := Nat.one_le_two_pow (n := C)
  refine fold_least _ C R (-1) _ (by omega) _ fun S a b => ⟨more_turn_le E R C h1 hR hC S a (by omega), ?_⟩
  have := more_turn_le (fun x y => !E x y) R C h1 hR hC S a (by omega)
  rw [disc_not] at this
  rw [show moreTo (fun y x => !E x y) S C R R = lessTo (fun y x => E x y) S C R R from more_not (fun y x => E x y) S C R] at this
  exact this
theorem disc_turn (E : Nat → Nat → Bool) (R C : Nat) (h1 : 1 ≤ R) (hR : R ≤ 8) (h3 : 1 ≤ C) (hC : C ≤ 8) : disc (fun y x => E x y) C R = disc E R C :=
  Int.le_antisymm (disc_turn_le E R C h1 hR h3 hC) (disc_turn_le (fun y x => E x y) C R h3 hC h1 hR)
theorem one_bound (E : Nat → Nat → Bool) (S R C y : Nat) (hy : y < C) : - (R : Int) ≤ bal E S (2 ^ y) R C ∧ bal E S (2 ^ y) R C ≤ R := by
  rw [bal_one E S R C y hy]
  have := sumI_bound (fun x => term E S (2 ^ y) x y) 1 (fun x => term_bound E S (2 ^ y) x y) R
  omega
theorem disc_all (E : Nat → Nat → Bool) (R C : Nat) : disc E R C ≤ ((R * C : Nat) : Int) := by
  have key : sumI (fun _ => (R : Int)) C = ((R * C : Nat) : Int) := by rw [sumI_const, Int.natCast_mul]
  refine fold_least E R C (-1) _ (by omega) _ fun S a b => ⟨?_, ?_⟩
  · rw [← key]
    refine sumI_le _ _ C fun y hy => ?_
    have := one_bound E S R C y hy
    omega
  · rw [← key]
    refine sumI_le _ _ C fun y hy => ?_
    have := one_bound E S R C y hy
    omega
theorem disc_le64 (E : Nat → Nat → Bool) (R C : Nat) (hR : R ≤ 8) (hC : C ≤ 8) : disc E R C ≤ 64 := by
  have := disc_all E R C
  have := prod_le hR hC
  omega
end Go.Proofs.YtgmhddceeomjbaaGreatDoor.DiscT

