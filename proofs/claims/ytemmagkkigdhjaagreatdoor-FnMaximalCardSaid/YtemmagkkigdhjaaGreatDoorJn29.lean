/-
  Texts of one seat, joined: IcM, MxM, AreaI.
-/
import Derived.Test.YtemmagkkigdhjaaGreatDoorJn28
import Derived.Test.YtemmagkkigdhjaaGreatDoorJn15
import Derived.Test.YtemmagkkigdhjaaGreatDoorJn13
import Derived.Test.YtemmagkkigdhjaaGreatDoorJn21
import Derived.Test.YtemmagkkigdhjaaGreatDoorJn25
import Derived.Test.YtemmagkkigdhjaaGreatDoorJn27
import Derived.Test.YtemmagkkigdhjaaGreatDoorJn18
import Derived.WalkSmall
/-
  Rectangles that cover: the entries and the rectangles one by one.
-/
namespace Go.Proofs.YtemmagkkigdhjaaGreatDoor.IcM
open Go.RowKit Go.Proofs.YtemmagkkigdhjaaGreatDoor.Plain Go.Proofs.YtemmagkkigdhjaaGreatDoor.Base Go.Proofs.YtemmagkkigdhjaaGreatDoor.Valid Go.Proofs.YtemmagkkigdhjaaGreatDoor.Law Go.Proofs.YtemmagkkigdhjaaGreatDoor.GridPlain Go.Proofs.YtemmagkkigdhjaaGreatDoor.Grid Go.Proofs.YtemmagkkigdhjaaGreatDoor.Entry Go.Proofs.YtemmagkkigdhjaaGreatDoor.Pat Go.Proofs.YtemmagkkigdhjaaGreatDoor.Rect Go.Proofs.YtemmagkkigdhjaaGreatDoor.Patch Go.Proofs.YtemmagkkigdhjaaGreatDoor.Board Go.Proofs.YtemmagkkigdhjaaGreatDoor.BoardM Go.Proofs.YtemmagkkigdhjaaGreatDoor.RValid Go.Proofs.YtemmagkkigdhjaaGreatDoor.Bal Go.Proofs.YtemmagkkigdhjaaGreatDoor.Colour Go.Proofs.YtemmagkkigdhjaaGreatDoor.Rects Go.Proofs.YtemmagkkigdhjaaGreatDoor.Cover Go.Proofs.YtemmagkkigdhjaaGreatDoor.CoverS Go.Proofs.YtemmagkkigdhjaaGreatDoor.CovM
set_option linter.unusedVariables false

/-- whether an entry is in a rectangle -/
def inB (r : Int × Int) (x y : Nat) : Bool := someB r.1 r.2 && (r.1.toNat.testBit x && r.2.toNat.testBit y)
/-- an entry is in some rectangle just if it has the value -/
def cellOK (E : Nat → Nat → Bool) (bt : Bool) (xs : List (Int × Int)) (x y : Nat) : Bool := (xs.any fun r => inB r x y) == (E x y == bt)
def rowTo (E : Nat → Nat → Bool) (bt : Bool) (xs : List (Int × Int)) (x k : Nat) : Bool := (List.range k).all (cellOK E bt xs x)
def allTo (E : Nat → Nat → Bool) (bt : Bool) (xs : List (Int × Int)) (C k : Nat) : Bool := (List.range k).all fun x => rowTo E bt xs x C
def goodB (E : Nat → Nat → Bool) (bt : Bool) (xs : List (Int × Int)) (R C : Nat) : Bool := allTo E bt xs C R && xs.all fun r => rvB R C r.1 r.2
theorem row_next (E : Nat → Nat → Bool) (bt : Bool) (xs : List (Int × Int)) (x k : Nat) : rowTo E bt xs x (k + 1) = (rowTo E bt xs x k && cellOK E bt xs x k) := by
  simp [rowTo, List.range_succ]
theorem all_next (E : Nat → Nat → Bool) (bt : Bool) (xs : List (Int × Int)) (C k : Nat) : allTo E bt xs C (k + 1) = (allTo E bt xs C k && rowTo E bt xs k C) := by
  simp [allTo, List.range_succ]
theorem take_any {α : Type} (xs : List α) (f : α → Bool) (k : Nat) (h : k < xs.length) : (xs.take (k + 1)).any f = ((xs.take k).any f || f xs[k]) := by
  rw [List.take_succ_eq_append_getElem h, List.any_append]
  simp
theorem take_all {α : Type} (xs : List α) (f : α → Bool) (k : Nat) (h : k < xs.length) : (xs.take (k + 1)).all f = ((xs.take k).all f && f xs[k]) := by
  rw [List.take_succ_eq_append_getElem h, List.all_append]
  simp
theorem cell_any (E : Nat → Nat → Bool) (bit : Int) (xs : List (Int × Int)) (x y : Nat) : ∀ k, k ≤ xs.length → cellTo E bit xs x y k = ((bitI (E x y) != bit) || (xs.take k).any fun r => r.1.toNat.testBit x && r.2.toNat.testBit y)
  | 0, _ => by simp [cellTo]
  | k + 1, hk => by rw [cellTo_next E bit xs x y k (by omega), cell_any E bit xs x y k (by omega), take_any xs _ k (by omega), Bool.or_assoc]
theorem in_rv {R C : Nat} (h2 : R ≤ 8) (h4 : C ≤ 8) {r : Int × Int} (h : rvB R C r.1 r.2 = true) (x y : Nat) : inB r x y = (r.1.toNat.testBit x && r.2.toNat.testBit y) := by
  obtain ⟨RS, CS, e1, e2, k1, k2, k3, k4, k5, k6⟩ := rv_nat h2 h4 h
  unfold inB
  rw [(someB_iff _ _).2 ⟨by rw [e1]; omega, by rw [e2]; omega⟩, Bool.true_and]
theorem cov_good (E : Nat → Nat → Bool) (bt : Bool) (P : Nat → Nat → Bool) (hP : ∀ x y, P x y = (E x y == bt)) (R C : Nat) (h2 : R ≤ 8) (h4 : C ≤ 8) (xs : List (Int × Int))
    (hc : ∀ r c, (colR E R C r c == bitI bt) = hpB R C (pat (onB P R C) 8) r c) :
    (xs.all (fun r => colR E R C r.1 r.2 == bitI bt) && cellsAll E (bitI bt) xs R C) = goodB E bt xs R C := by
  have e : (fun r : Int × Int => colR E R C r.1 r.2 == bitI bt) = fun r => hpB R C (pat (onB P R C) 8) r.1 r.2 := funext fun r => hc r.1 r.2
  have hbit : ∀ x y, (bitI (E x y) != bitI bt) = !P x y := fun x y => by rw [hP]; cases E x y <;> cases bt <;> rfl
  rw [e, Bool.eq_iff_iff]
  unfold goodB cellsAll allTo rowTo cellOK
  simp only [Bool.and_eq_true, List.all_eq_true, decide_eq_true_iff, List.mem_range, beq_iff_eq]
  constructor
  · rintro ⟨ha, hb⟩
    have hrv : ∀ r ∈ xs, rvB R C r.1 r.2 = true := fun r hr => by
      have := ha r hr
      unfold hpB at this
      exact (Bool.and_eq_true _ _ ▸ this).1
    refine ⟨fun x hx y hy => ?_, hrv⟩
    rw [← hP, Bool.eq_iff_iff]
    constructor
    · intro h
      obtain ⟨r, hr, hi⟩ := List.any_eq_true.1 h
      rw [in_rv h2 h4 (hrv r hr), Bool.and_eq_true] at hi
      obtain ⟨RS, CS, e1, e2, k1, k2, k3, k4, k5, k6⟩ := rv_nat h2 h4 (hrv r hr)
      have hp := ha r hr
      unfold hpB at hp
      rw [Bool.and_eq_true] at hp
      have hp2 := hp.2
      rw [e1, e2, Int.toNat_natCast, Int.toNat_natCast] at hp2 hi
      exact ((plain_pat P R C RS CS h2 h4 k5 k6).1 (of_decide_eq_true hp2) x y hi.1 hi.2).2
    · intro h
      have h3 := hb x hx y hy
      rw [cell_any E _ xs x y _ (Nat.le_refl _), hbit, h, List.take_length] at h3
      obtain ⟨r, hr, hi⟩ := List.any_eq_true.1 (by simpa using h3 : (xs.any fun r => r.1.toNat.testBit x && r.2.toNat.testBit y) = true)
      exact List.any_eq_true.2 ⟨r, hr, by rw [in_rv h2 h4 (hrv r hr)]; exact hi⟩
  · rintro ⟨hb, hrv⟩
    constructor
    · intro r hr
      obtain ⟨RS, CS, e1, e2, k1, k2, k3, k4, k5, k6⟩ := rv_nat h2 h4 (hrv r hr)
      unfold hpB
      rw [hrv r hr, Bool.true_and, decide_eq_true_iff, e1, e2, Int.toNat_natCast, Int.toNat_natCast]
      refine (plain_pat P R C RS CS h2 h4 k5 k6).2 fun x y hx hy => ?_
      have hxR : x < R := by
        rcases Nat.lt_or_ge x R with h | h
        · exact h
        · rw [bit_beyond RS x R k2 h] at hx; cases hx
      have hyC : y < C := by
        rcases Nat.lt_or_ge y C with h | h
        · exact h
        · rw [bit_beyond CS y C k4 h] at hy; cases hy
      refine ⟨⟨hxR, hyC⟩, ?_⟩
      rw [hP, ← hb x hxR y hyC]
      exact List.any_eq_true.2 ⟨r, hr, by rw [in_rv h2 h4 (hrv r hr), e1, e2, Int.toNat_natCast, Int.toNat_natCast, hx, hy]; rfl⟩
    · intro x hx y hy
      rw [cell_any E _ xs x y _ (Nat.le_refl _), hbit, List.take_length]
      cases hp : P x y with
      | false => rfl
      | true =>
        have h3 := hb x hx y hy
        rw [← hP, hp] at h3
        obtain ⟨r, hr, hi⟩ := List.any_eq_true.1 h3
        rw [in_rv h2 h4 (hrv r hr)] at hi
        exact List.any_eq_true.2 ⟨r, hr, hi⟩
end Go.Proofs.YtemmagkkigdhjaaGreatDoor.IcM

/-
  Maximal rectangles of the turned and of the other matrix; they cover their value; the greatest area. Nothing of the program but names.
-/
namespace Go.Proofs.YtemmagkkigdhjaaGreatDoor.MxM
open Go.RowKit Go.Proofs.YtemmagkkigdhjaaGreatDoor.Plain Go.Proofs.YtemmagkkigdhjaaGreatDoor.Pat Go.Proofs.YtemmagkkigdhjaaGreatDoor.Rect Go.Proofs.YtemmagkkigdhjaaGreatDoor.Cols Go.Proofs.YtemmagkkigdhjaaGreatDoor.MaxM Go.Proofs.YtemmagkkigdhjaaGreatDoor.MaxC Go.Proofs.YtemmagkkigdhjaaGreatDoor.GrowY
open Go.Proofs.YtemmagkkigdhjaaGreatDoor.BoardM (rvB)
open Go.Proofs.YtemmagkkigdhjaaGreatDoor.IcM (inB goodB)
set_option linter.unusedVariables false
set_option linter.unusedSimpArgs false

theorem set_ext (P Q : Nat → Bool) (h : ∀ x, P x = Q x) (n : Nat) : setB P n = setB Q n := by rw [show P = Q from funext h]
theorem all_other (E : Nat → Nat → Bool) (S : Nat) (b : Bool) (y : Nat) : ∀ k, allTo (fun x y => !E x y) S (!b) y k = allTo E S b y k
  | 0 => rfl
  | k + 1 => by
    rw [allTo, allTo, all_other E S b y k]
    congr 2
    cases E k y <;> cases b <;> rfl
theorem cS_other (E : Nat → Nat → Bool) (b : Bool) (R C S : Nat) : cS (fun x y => !E x y) (!b) R C S = cS E b R C S := set_ext _ _ (fun y => all_other E S b y R) C
theorem rS_other (E : Nat → Nat → Bool) (b : Bool) (R C T : Nat) : rS (fun x y => !E x y) (!b) R C T = rS E b R C T := set_ext _ _ (fun x => all_other (fun y x => E x y) T b x C) R
theorem mx_other (E : Nat → Nat → Bool) (b : Bool) (R C : Nat) : ∀ k, mx (fun x y => !E x y) (!b) R C k = mx E b R C k
  | 0 => rfl
  | k + 1 => by rw [mx, mx, mx_other E b R C k, cS_other, rS_other]
theorem cS_turn (E : Nat → Nat → Bool) (b : Bool) (R C T : Nat) : cS (fun x y => E y x) b C R T = rS E b R C T := rfl
theorem rS_turn (E : Nat → Nat → Bool) (b : Bool) (R C S : Nat) : rS (fun x y => E y x) b C R S = cS E b R C S := rfl
theorem mem_turn (E : Nat → Nat → Bool) (b : Bool) (R C : Nat) (h1 : 1 ≤ R) (h3 : 1 ≤ C) (p : Int × Int) (h : p ∈ mx E b R C (2 ^ R - 1)) : (p.2, p.1) ∈ mx (fun x y => E y x) b C R (2 ^ C - 1) := by
  obtain ⟨S, hS1, hS2, hc, hr, rfl⟩ := (mx_mem E b R C p _).1 h
  have hlt := cS_lt E b R C S
  have hk : cS (fun x y => E y x) b C R (cS E b R C S) = S := hr
  refine (mx_mem _ b C R _ _).2 ⟨cS E b R C S, hc, by omega, ?_, ?_, ?_⟩
  · rw [hk]; omega
  · rw [hk]; rfl
  · rw [hk]
theorem turn_len (E : Nat → Nat → Bool) (b : Bool) (R C : Nat) (h1 : 1 ≤ R) (h3 : 1 ≤ C) : (mx (fun x y => E y x) b C R (2 ^ C - 1)).length = (mx E b R C (2 ^ R - 1)).length := by
  have n1 : (mx E b R C (2 ^ R - 1)).Nodup := (mx_rises E b R C _).imp (fun {p q} h e => by rw [e] at h; omega)
  have n2 : (mx (fun x y => E y x) b C R (2 ^ C - 1)).Nodup := (mx_rises _ b C R _).imp (fun {p q} h e => by rw [e] at h; omega)
  have n3 : ((mx E b R C (2 ^ R - 1)).map fun p => (p.2, p.1)).Nodup := by
    rw [List.nodup_iff_pairwise_ne, List.pairwise_map]
    exact n1.imp fun {p q} h e => h (by
      obtain ⟨a, c⟩ := p
      obtain ⟨d, f⟩ := q
      simp only [Prod.mk.injEq] at e ⊢
      exact ⟨e.2, e.1⟩)
  have hp := (List.perm_ext_iff_of_nodup n2 n3).2 fun p => ⟨fun h => ?_, fun h => ?_⟩
  · rw [hp.length_eq, List.length_map]
  · refine List.mem_map.2 ⟨(p.2, p.1), ?_, rfl⟩
    exact mem_turn (fun x y => E y x) b C R h3 h1 p h
  · obtain ⟨q, hq, rfl⟩ := List.mem_map.1 h
    exact mem_turn E b R C h1 h3 q hq

/-- a maximal rectangle is plain -/
theorem mem_plain (E : Nat → Nat → Bool) (b : Bool) (R C : Nat) (p : Int × Int) (h : p ∈ mx E b R C (2 ^ R - 1)) : ∃ RS CS : Nat, p = ((RS : Int), (CS : Int)) ∧ 1 ≤ RS ∧ RS < 2 ^ R ∧ 1 ≤ CS ∧ CS < 2 ^ C ∧ plainE E b RS CS ∧ rS E b R C CS = RS ∧ cS E b R C RS = CS := by
  obtain ⟨S, hS1, hS2, hc, hr, rfl⟩ := (mx_mem E b R C p _).1 h
  have hp := Nat.one_le_two_pow (n := R)
  refine ⟨S, _, rfl, hS1, by omega, hc, cS_lt E b R C S, fun x y hx hy => ?_, hr, rfl⟩
  have h2 := (cS_bit E b R C S y).1 hy
  refine h2.2 x ?_ hx
  apply Classical.byContradiction
  intro hxR
  have : S.testBit x = false := bit_beyond S x R (by omega) (by omega)
  rw [this] at hx
  cases hx
theorem some_of (R C : Nat) (h2 : R ≤ 8) (h4 : C ≤ 8) (RS CS : Nat) (k1 : 1 ≤ RS) (k2 : RS < 2 ^ R) (k3 : 1 ≤ CS) (k4 : CS < 2 ^ C) : someB (RS : Int) (CS : Int) = true := by
  have hqR : 2 ^ R ≤ 256 := Nat.pow_le_pow_right (n := 2) (by decide) h2
  have hqC : 2 ^ C ≤ 256 := Nat.pow_le_pow_right (n := 2) (by decide) h4
  exact (someB_iff _ _).2 (by omega)
/-- together they have all entries of the value and no others -/
theorem mx_cover (E : Nat → Nat → Bool) (b : Bool) (R C : Nat) (h1 : 1 ≤ R) (h2 : R ≤ 8) (h3 : 1 ≤ C) (h4 : C ≤ 8) : goodB E b (mx E b R C (2 ^ R - 1)) R C = true := by
  have hqR : 2 ^ R ≤ 256 := Nat.pow_le_pow_right (n := 2) (by decide) h2
  have hqC : 2 ^ C ≤ 256 := Nat.pow_le_pow_right (n := 2) (by decide) h4
  unfold goodB
  rw [Bool.and_eq_true]
  constructor
  · unfold IcM.allTo
    rw [List.all_eq_true]
    intro x hx
    unfold IcM.rowTo
    rw [List.all_eq_true]
    intro y hy
    have hxR := List.mem_range.1 hx
    have hyC := List.mem_range.1 hy
    unfold IcM.cellOK
    rw [beq_iff_eq, Bool.eq_iff_iff, List.any_eq_true, beq_iff_eq]
    constructor
    · rintro ⟨p, hp, hin⟩
      obtain ⟨RS, CS, rfl, k1, k2, k3, k4, hpl, _⟩ := mem_plain E b R C p hp
      unfold inB at hin
      rw [Bool.and_eq_true, Bool.and_eq_true] at hin
      exact hpl x y (by simpa using hin.2.1) (by simpa using hin.2.2)
    · intro hE
      have k2 : 2 ^ x < 2 ^ R := Nat.pow_lt_pow_right (by decide) hxR
      have k4 : 2 ^ y < 2 ^ C := Nat.pow_lt_pow_right (by decide) hyC
      have hpl : plainE E b (2 ^ x) (2 ^ y) := by
        intro u v hu hv
        rw [Nat.testBit_two_pow, decide_eq_true_iff] at hu hv
        subst hu hv
        exact hE
      have hg := grown E R C h1 h2 h3 h4 (2 ^ x) (2 ^ y) Nat.one_le_two_pow k2 Nat.one_le_two_pow k4 (by omega) (by omega) b hpl
      obtain ⟨_, _, e1, e2, g1, g2, hmem⟩ := hg
      refine ⟨_, hmem, ?_⟩
      have hlt1 := rS_lt E b R C (2 ^ y)
      have hlt2 := cS_lt E b R C (rS E b R C (2 ^ y))
      have b1 : (2 ^ x &&& rS E b R C (2 ^ y)).testBit x = true := by rw [e1, Nat.testBit_two_pow]; simp
      have b2 : (2 ^ y &&& cS E b R C (rS E b R C (2 ^ y))).testBit y = true := by rw [e2, Nat.testBit_two_pow]; simp
      rw [Nat.testBit_and, Bool.and_eq_true] at b1 b2
      unfold inB
      rw [some_of R C h2 h4 _ _ g1 hlt1 g2 hlt2, Bool.true_and, Bool.and_eq_true]
      exact ⟨by simpa using b1.2, by simpa using b2.2⟩
  · rw [List.all_eq_true]
    intro p hp
    obtain ⟨RS, CS, rfl, k1, k2, k3, k4, _⟩ := mem_plain E b R C p hp
    unfold rvB
    rw [Bool.and_eq_true, decide_eq_true_iff, decide_eq_true_iff]
    have q1 : ((2 ^ R : Nat) : Int) = (2 : Int) ^ R := by simp
    have q2 : ((2 ^ C : Nat) : Int) = (2 : Int) ^ C := by simp
    rw [← q1, ← q2]
    simp only
    omega
/-- the greatest area so far -/
def topA (ts : List (Int × Int)) : Nat → Int
  | 0 => 0
  | k + 1 => max (topA ts k) (ar ts[k]!)
theorem top_best (ts : List (Int × Int)) (h : ∀ p ∈ ts, 1 ≤ ar p) : ∀ k, k ≤ ts.length → (k = 0 ∧ topA ts k = 0 ∧ bestTo ts k = (0, 0)) ∨ (1 ≤ k ∧ ar (bestTo ts k) = topA ts k ∧ 1 ≤ topA ts k)
  | 0, _ => .inl ⟨rfl, rfl, rfl⟩
  | k + 1, hk => by
    right
    have hkl : k < ts.length := by omega
    have hm : 1 ≤ ar ts[k]! := by rw [getElem!_pos ts k hkl]; exact h _ (List.getElem_mem hkl)
    refine ⟨by omega, ?_⟩
    rcases top_best ts h k (by omega) with ⟨rfl, h2, h3⟩ | ⟨_, h2, h3⟩
    · rw [bestTo, topA, h2, h3, ar_zero, if_pos (by omega)]
      omega
    · rw [bestTo, topA, h2]
      by_cases hlt : topA ts k < ar ts[k]!
      · rw [if_pos hlt]; omega
      · rw [if_neg hlt, h2]; omega
end Go.Proofs.YtemmagkkigdhjaaGreatDoor.MxM

/-
  The program's AreaOf.
-/
namespace Go.Proofs.YtemmagkkigdhjaaGreatDoor.AreaI
open Go.RowKit Go.Proofs.YtemmagkkigdhjaaGreatDoor.Plain Go.Proofs.YtemmagkkigdhjaaGreatDoor.Pat Go.Proofs.YtemmagkkigdhjaaGreatDoor.Rect Go.Proofs.YtemmagkkigdhjaaGreatDoor.Patch
set_option linter.unusedVariables false

set_option maxHeartbeats 1000000 in
theorem impl_area (R C : Nat) (hR1 : 1 ≤ R) (hR : R < 256) (hC1 : 1 ≤ C) (hC : C < 256) (w : World) :
    Calls Tryz.prog 10 #[rect R C] w fun e w' => e = .returned (.int .i64 ((pop8 R * pop8 C : Nat) : Int)) ∧ Below w.heap.size w w' := by
  have HS := Lib.hid (show someB R C = true by rw [someB_iff]; omega)
  have HP := Lib.hid (patch_any R C hR hC)
  have HZ := Lib.hid (size_any (rectB R C) (rectB_lt R C hC))
  rw [area_pop R C hR] at HZ
  generalize pat (rectB R C) 8 = p at *
  go_enter Tryz.func10, Tryz.ntmps10
  go_wp2_with fail
  refine (rect_any _ _ _).mono ?_
  rintro e w1 ⟨rfl, hb1⟩
  rw [HS.out]
  obtain ⟨c0, c1, hz, HB⟩ := box2 hb1
  clear hb1
  go_wp2_with fail
  refine (HP.out _).mono ?_
  rintro e w2 ⟨rfl, hb2⟩
  have HB2 := Lib.hid (rstep HB.out hb2)
  clear hb2 HB
  go_wp2_with fail
  refine (HZ.out _).mono ?_
  rintro e w' ⟨rfl, rfl⟩
  go_wp2_with fail
  go_ret
  exact ⟨rfl, HB2.out⟩
set_option maxHeartbeats 1000000 in
theorem impl_area_no (r c : Int) (h : someB r c = false) (w : World) :
    Calls Tryz.prog 10 #[rect r c] w fun e w' => e = .returned (.int .i64 (-1)) ∧ Below w.heap.size w w' := by
  have HS := Lib.hid h
  clear h
  go_enter Tryz.func10, Tryz.ntmps10
  go_wp2_with fail
  refine (rect_any _ _ _).mono ?_
  rintro e w1 ⟨rfl, hb1⟩
  rw [HS.out]
  obtain ⟨c0, c1, hz, HB⟩ := box2 hb1
  clear hb1
  go_wp2_with fail
  go_ret
  exact ⟨rfl, HB.out⟩
end Go.Proofs.YtemmagkkigdhjaaGreatDoor.AreaI

