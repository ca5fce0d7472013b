/-
  The mathematics of maximal rectangles: closed pairs of sets of rows and columns, their list by rising rows.
-/
import Derived.Test.YtalechngagkklaaDoorGrow
namespace Go.Proofs.YtalechngagkklaaDoor.MaxM
open Go.RowKit Go.Proofs.YtalechngagkklaaDoor.Pat Go.Proofs.YtalechngagkklaaDoor.Cols
set_option linter.unusedVariables false

/-- the columns that have a value in all rows of a set; the rows that have it in all columns of a set -/
def cS (E : Nat → Nat → Bool) (b : Bool) (R C S : Nat) : Nat := setB (fun y => allTo E S b y R) C
def rS (E : Nat → Nat → Bool) (b : Bool) (R C T : Nat) : Nat := setB (fun x => allTo (fun y x => E x y) T b x C) R
theorem cS_bit (E : Nat → Nat → Bool) (b : Bool) (R C S y : Nat) : (cS E b R C S).testBit y = true ↔ y < C ∧ ∀ x, x < R → S.testBit x = true → E x y = b := by
  unfold cS
  rw [setB_bit, Bool.and_eq_true, decide_eq_true_iff, allTo_iff]
theorem rS_bit (E : Nat → Nat → Bool) (b : Bool) (R C T x : Nat) : (rS E b R C T).testBit x = true ↔ x < R ∧ ∀ y, y < C → T.testBit y = true → E x y = b := by
  unfold rS
  rw [setB_bit, Bool.and_eq_true, decide_eq_true_iff, allTo_iff]
theorem cS_lt (E : Nat → Nat → Bool) (b : Bool) (R C S : Nat) : cS E b R C S < 2 ^ C := setB_lt _ C
theorem rS_lt (E : Nat → Nat → Bool) (b : Bool) (R C S : Nat) : rS E b R C S < 2 ^ R := setB_lt _ R
/-- the rows that fit have the first ones -/
theorem rows_grow (E : Nat → Nat → Bool) (b : Bool) (R C S x : Nat) (hx : x < R) (h : S.testBit x = true) : (rS E b R C (cS E b R C S)).testBit x = true :=
  (rS_bit ..).2 ⟨hx, fun y hy hb => ((cS_bit ..).1 hb).2 x hx h⟩
/-- the columns that fit do not change -/
theorem cols_closed (E : Nat → Nat → Bool) (b : Bool) (R C S : Nat) : cS E b R C (rS E b R C (cS E b R C S)) = cS E b R C S := by
  refine Nat.eq_of_testBit_eq fun y => ?_
  rw [Bool.eq_iff_iff]
  constructor
  · intro h
    obtain ⟨h1, h2⟩ := (cS_bit ..).1 h
    exact (cS_bit ..).2 ⟨h1, fun x hx hb => h2 x hx (rows_grow E b R C S x hx hb)⟩
  · intro h
    obtain ⟨h1, h2⟩ := (cS_bit ..).1 h
    exact (cS_bit ..).2 ⟨h1, fun x hx hb => ((rS_bit ..).1 hb).2 y h1 h⟩
/-- a set that is not empty keeps a row -/
theorem rows_pos (E : Nat → Nat → Bool) (b : Bool) (R C S : Nat) (h1 : 1 ≤ S) (h2 : S < 2 ^ R) : 1 ≤ rS E b R C (cS E b R C S) := by
  obtain ⟨x, hx⟩ : ∃ x, S.testBit x = true := Nat.exists_testBit_of_ne_zero (by omega)
  have hxR : x < R := by
    rcases Nat.lt_or_ge x R with h | h
    · exact h
    · rw [bit_beyond S x R h2 h] at hx
      cases hx
  have h := rows_grow E b R C S x hxR hx
  rcases Nat.eq_zero_or_pos (rS E b R C (cS E b R C S)) with h0 | h0
  · rw [h0] at h
    simp at h
  · exact h0

/-- the maximal rectangles whose rows are at most k -/
def mx (E : Nat → Nat → Bool) (b : Bool) (R C : Nat) : Nat → List (Int × Int)
  | 0 => []
  | k + 1 => mx E b R C k ++ (if 0 < cS E b R C (k + 1) ∧ rS E b R C (cS E b R C (k + 1)) = k + 1 then [(((k + 1 : Nat) : Int), ((cS E b R C (k + 1) : Nat) : Int))] else [])
theorem mx_len (E : Nat → Nat → Bool) (b : Bool) (R C : Nat) : ∀ k, (mx E b R C k).length ≤ k
  | 0 => Nat.le_refl _
  | k + 1 => by
    have := mx_len E b R C k
    rw [mx, List.length_append]
    split <;> simp <;> omega
theorem mx_mem (E : Nat → Nat → Bool) (b : Bool) (R C : Nat) (p : Int × Int) : ∀ k, p ∈ mx E b R C k ↔ ∃ S, 1 ≤ S ∧ S ≤ k ∧ 0 < cS E b R C S ∧ rS E b R C (cS E b R C S) = S ∧ p = ((S : Int), ((cS E b R C S : Nat) : Int))
  | 0 => by
    constructor
    · intro h; cases h
    · rintro ⟨S, h1, h2, _⟩; omega
  | k + 1 => by
    rw [mx, List.mem_append, mx_mem E b R C p k]
    constructor
    · rintro (⟨S, h1, h2, h3⟩ | h)
      · exact ⟨S, h1, by omega, h3⟩
      · split at h
        · rename_i hc
          simp only [List.mem_singleton] at h
          exact ⟨k + 1, by omega, Nat.le_refl _, hc.1, hc.2, h⟩
        · cases h
    · rintro ⟨S, h1, h2, h3, h4, h5⟩
      by_cases e : S = k + 1
      · subst e
        right
        rw [if_pos ⟨h3, h4⟩, h5]
        exact List.mem_singleton.2 rfl
      · exact .inl ⟨S, h1, by omega, h3, h4, h5⟩
theorem mx_rises (E : Nat → Nat → Bool) (b : Bool) (R C : Nat) : ∀ k, (mx E b R C k).Pairwise (fun p q => p.1 < q.1)
  | 0 => List.Pairwise.nil
  | k + 1 => by
    rw [mx, List.pairwise_append]
    refine ⟨mx_rises E b R C k, by split <;> simp, fun p hp q hq => ?_⟩
    obtain ⟨S, h1, h2, _, _, rfl⟩ := (mx_mem E b R C p k).1 hp
    split at hq
    · simp only [List.mem_singleton] at hq
      subst hq
      show (S : Int) < ((k + 1 : Nat) : Int)
      omega
    · cases hq
theorem mx_wf (E : Nat → Nat → Bool) (b : Bool) (R C k : Nat) (hC : C ≤ 8) (p : Int × Int) (h : p ∈ mx E b R C k) : (1 ≤ p.1 ∧ p.1 ≤ k) ∧ 1 ≤ p.2 ∧ p.2 < 256 := by
  obtain ⟨S, h1, h2, h3, _, rfl⟩ := (mx_mem E b R C p k).1 h
  have h4 := cS_lt E b R C S
  have h5 : 2 ^ C ≤ 256 := Nat.pow_le_pow_right (n := 2) (by decide) hC
  refine ⟨⟨?_, ?_⟩, ?_, ?_⟩ <;> simp only <;> omega

/-- what a set of rows grows to -/
def growP (E : Nat → Nat → Bool) (b : Bool) (R C S : Nat) : Int × Int := (((rS E b R C (cS E b R C S) : Nat) : Int), ((cS E b R C (rS E b R C (cS E b R C S)) : Nat) : Int))
/-- grown sets are the maximal ones -/
theorem found_iff (E : Nat → Nat → Bool) (b : Bool) (R C : Nat) (p : Int × Int) :
    (∃ S, 1 ≤ S ∧ S ≤ 2 ^ R - 1 ∧ cS E b R C S ≠ 0 ∧ p = growP E b R C S) ↔ p ∈ mx E b R C (2 ^ R - 1) := by
  have hp := Nat.one_le_two_pow (n := R)
  rw [mx_mem]
  constructor
  · rintro ⟨S, h1, h2, h3, rfl⟩
    have h4 := rS_lt E b R C (cS E b R C S)
    have h5 := cols_closed E b R C S
    refine ⟨rS E b R C (cS E b R C S), rows_pos E b R C S h1 (by omega), by omega, ?_, ?_, rfl⟩
    · rw [h5]; omega
    · rw [h5]
  · rintro ⟨S, h1, h2, h3, h4, rfl⟩
    refine ⟨S, h1, h2, by omega, ?_⟩
    unfold growP
    rw [h4]
/-- a list of the same rectangles by rising rows is the one list -/
theorem same_list (E : Nat → Nat → Bool) (b : Bool) (R C k : Nat) {l : List (Int × Int)} (hn : l.Nodup) (hs : l.Pairwise (fun p q => p.1 ≤ q.1)) (hm : ∀ p, p ∈ l ↔ p ∈ mx E b R C k) : l = mx E b R C k := by
  have hr := mx_rises E b R C k
  have hn2 : (mx E b R C k).Nodup := hr.imp (fun {p q} h e => by rw [e] at h; omega)
  refine List.Perm.eq_of_pairwise (le := fun p q : Int × Int => p.1 ≤ q.1) (fun p q hp hq h1 h2 => ?_) hs (hr.imp (fun {p q} h => by omega)) ((List.perm_ext_iff_of_nodup hn hn2).2 hm)
  obtain ⟨S, _, _, _, _, rfl⟩ := (mx_mem E b R C p k).1 ((hm p).1 hp)
  obtain ⟨T, _, _, _, _, rfl⟩ := (mx_mem E b R C q k).1 hq
  simp only at h1 h2
  obtain rfl : S = T := by omega
  rfl
end Go.Proofs.YtalechngagkklaaDoor.MaxM
