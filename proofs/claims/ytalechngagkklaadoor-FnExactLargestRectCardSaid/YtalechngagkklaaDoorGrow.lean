/-
  The reference's l2Grow and GrowRect; the board's grow, isBit, GrowRect.
-/
import Derived.Test.YtalechngagkklaaDoorCols
import Derived.Test.YtalechngagkklaaDoorWith
namespace Go.Proofs.YtalechngagkklaaDoor.Grow
open Go.RowKit Go.Proofs.YtalechngagkklaaDoor.Plain Go.Proofs.YtalechngagkklaaDoor.Base Go.Proofs.YtalechngagkklaaDoor.Valid Go.Proofs.YtalechngagkklaaDoor.Law Go.Proofs.YtalechngagkklaaDoor.GridPlain Go.Proofs.YtalechngagkklaaDoor.Grid Go.Proofs.YtalechngagkklaaDoor.Entry Go.Proofs.YtalechngagkklaaDoor.Pat Go.Proofs.YtalechngagkklaaDoor.Rect Go.Proofs.YtalechngagkklaaDoor.Patch Go.Proofs.YtalechngagkklaaDoor.FreeL Go.Proofs.YtalechngagkklaaDoor.Board Go.Proofs.YtalechngagkklaaDoor.BoardM Go.Proofs.YtalechngagkklaaDoor.RValid Go.Proofs.YtalechngagkklaaDoor.Colour Go.Proofs.YtalechngagkklaaDoor.Where Go.Proofs.YtalechngagkklaaDoor.With Go.Proofs.YtalechngagkklaaDoor.Cols
open Go.Proofs.YtalechngagkklaaDoor.Free (fill wp_value wp_enter wp_load_row freeB)
set_option linter.unusedVariables false

/-- a box, the rectangle's box, the result's block -/
structure GInv (w wr : World) (X : Obj) (r c a b : Int) : Prop where
  m : wr.heap[w.heap.size]? = some X
  t : THolds wr (w.heap.size + 1) 26 r c
  o : THolds wr (w.heap.size + 1 + 1) 26 a b
  below : Below w.heap.size w wr
theorem GInv.later {w wr w2 : World} {X : Obj} {r c a b : Int} (h : GInv w wr X r c a b) (hb : Below wr.heap.size wr w2) : GInv w w2 X r c a b :=
  ⟨(hb.block _ (Array.getElem?_eq_some_iff.1 h.m).1).trans h.m, th_on h.t hb, th_on h.o hb, rstep h.below hb⟩
theorem GInv.start (w : World) (X : Obj) (r c a b : Int) : GInv w (((w.alloc X).alloc (.cells #[.int .i64 r, .int .i64 c] 26)).alloc (.cells #[.int .i64 a, .int .i64 b] 26)) X r c a b := by
  obtain ⟨e0, e1, e2, hb0, _⟩ := three_box (w := w) (a := X) (b := .cells #[.int .i64 r, .int .i64 c] 26) (c := .cells #[.int .i64 a, .int .i64 b] 26)
  exact ⟨e0, e1, e2, hb0⟩
theorem GInv.fr {w wr : World} {X : Obj} {r c a b : Int} (h : GInv w wr X r c a b) : wr.frozen? ⟨w.heap.size + 1 + 1, 0, none⟩ = false ∧ wr.frozen? ⟨w.heap.size + 1 + 1, 1, none⟩ = false :=
  ⟨frozen_of_row _ _ 0 _ _ h.o, frozen_of_row _ _ 1 _ _ h.o⟩
theorem GInv.sz {w wr : World} {X : Obj} {r c a b : Int} (h : GInv w wr X r c a b) : w.heap.size + 3 ≤ wr.heap.size := by
  have := (Array.getElem?_eq_some_iff.1 h.o).1
  omega

/-- sets of the same members -/
theorem setB_same {P Q : Nat → Bool} : ∀ n, (∀ i, i < n → P i = Q i) → setB P n = setB Q n := by
  intro n h
  refine Nat.eq_of_testBit_eq fun i => ?_
  rw [setB_bit, setB_bit]
  by_cases hi : i < n
  · rw [h i hi]
  · rw [decide_eq_false hi]; rfl

theorem rows_eq (E P : Nat → Nat → Bool) (b : Bool) (hP : ∀ x y, P x y = (E x y == b)) (R C c : Nat) (hR : R ≤ 8) (hC : C ≤ 8) (h8 : c < 256) (hc : ∀ y, c.testBit y = true → y < C) :
    setB (fun x => decide (pat (rectB (2 ^ x) c) 8 &&& (18446744073709551615 - pat (onB P R C) 8) = 0)) R = setB (fun x => allTo (fun y x => E x y) c b x C) R := by
  refine setB_same R fun x hx => ?_
  have hX8 : 2 ^ x < 256 := Nat.lt_of_lt_of_le (Nat.pow_lt_pow_right (by decide) (show x < 8 by omega)) (by decide)
  have e := plain_pat P R C (2 ^ x) c hR hC hX8 h8
  have e2 := allTo_iff (fun y x => E x y) c b x C
  have e3 : allP P R C (2 ^ x) c ↔ ∀ y, y < C → c.testBit y = true → E x y = b := by
    unfold allP
    constructor
    · intro h y hy hb
      have := (h x y (by rw [pow_bit]; simp) hb).2
      rw [hP, beq_iff_eq] at this
      exact this
    · intro h x' y hx' hb
      rw [pow_bit, decide_eq_true_iff] at hx'
      subst hx'
      refine ⟨⟨hx, hc y hb⟩, ?_⟩
      rw [hP, beq_iff_eq]
      exact h y (hc y hb) hb
  show decide _ = allTo _ _ _ _ _
  rw [Bool.eq_iff_iff, decide_eq_true_iff]
  exact e.trans (e3.trans e2.symm)

theorem cols_eq (E P : Nat → Nat → Bool) (b : Bool) (hP : ∀ x y, P x y = (E x y == b)) (R C c : Nat) (hR : R ≤ 8) (hC : C ≤ 8) (h8 : c < 256) (hc : ∀ x, c.testBit x = true → x < R) :
    setB (fun y => decide (pat (rectB c (2 ^ y)) 8 &&& (18446744073709551615 - pat (onB P R C) 8) = 0)) C = setB (fun y => allTo E c b y R) C := by
  refine setB_same C fun y hy => ?_
  have hX8 : 2 ^ y < 256 := Nat.lt_of_lt_of_le (Nat.pow_lt_pow_right (by decide) (show y < 8 by omega)) (by decide)
  have e := plain_pat P R C c (2 ^ y) hR hC h8 hX8
  have e2 := allTo_iff E c b y R
  have e3 : allP P R C c (2 ^ y) ↔ ∀ x, x < R → c.testBit x = true → E x y = b := by
    unfold allP
    constructor
    · intro h x hx hb
      have := (h x y hb (by rw [pow_bit]; simp)).2
      rw [hP, beq_iff_eq] at this
      exact this
    · intro h x y' hb hy'
      rw [pow_bit, decide_eq_true_iff] at hy'
      subst hy'
      refine ⟨⟨hc x hb, hy⟩, ?_⟩
      rw [hP, beq_iff_eq]
      exact h x (hc x hb) hb
  show decide _ = allTo _ _ _ _ _
  rw [Bool.eq_iff_iff, decide_eq_true_iff]
  exact e.trans (e3.trans e2.symm)

set_option maxHeartbeats 1000000 in
theorem isBit_any (v : Int) (hv : v = -2 ∨ v = -1 ∨ v = 0 ∨ v = 1) (w : World) :
    Calls Tryd.prog 94 #[.int .i64 v] w fun e w' => e = .returned (.bool (decide (0 ≤ v))) ∧ w = w' := by
  rcases hv with rfl | rfl | rfl | rfl
  all_goals
    go_enter Tryd.func94, Tryd.ntmps94
    go_wp2_with fail
    go_ret
    exact ⟨rfl, rfl⟩

set_option maxHeartbeats 1000000 in
theorem impl_grow (rr cc : Int) (z o : Nat) (r c A B b : Int) (hr : ∀ W : World, Calls Tryd.prog 169 #[brd rr cc z o, .int .i64 c, .int .i64 b] W fun e w' => e = .returned (.int .i64 A) ∧ Below W.heap.size W w')
    (hc : ∀ W : World, Calls Tryd.prog 168 #[brd rr cc z o, .int .i64 A, .int .i64 b] W fun e w' => e = .returned (.int .i64 B) ∧ Below W.heap.size W w') (w : World) :
    Calls Tryd.prog 144 #[brd rr cc z o, rect r c, .int .i64 b] w fun e w' => e = .returned (rect A B) ∧ Below w.heap.size w w' := by
  have HR := Lib.hid hr
  have HC := Lib.hid hc
  clear hr hc
  go_enter Tryd.func144, Tryd.ntmps144
  go_wp2_with fail
  refine (HR.out _).mono ?_
  rintro e w1 ⟨rfl, hb1⟩
  have hinv := (GInv.start w (.cells #[.int .i64 rr, .int .i64 cc, .int .u64 (z : Int), .int .u64 (o : Int)] 77) r c 0 0).later hb1
  obtain ⟨q0, q1, q2, q3⟩ := bh_c (show BHolds _ _ rr cc z o from hinv.m)
  obtain ⟨p0, p1⟩ := th_c hinv.t
  have hsz := hinv.sz
  have HI := Lib.hid hinv
  clear hb1 hinv HR
  go_wp2_with fail
  refine (HC.out _).mono ?_
  rintro e w2 ⟨rfl, hb2⟩
  have hinv := HI.out.later hb2
  obtain ⟨o0, o1⟩ := th_c hinv.o
  obtain ⟨f0, f1⟩ := hinv.fr
  have hsz2 := hinv.sz
  have HI2 := Lib.hid hinv.below
  clear hb2 HI q0 q1 q2 q3 p0 p1 hinv HC hsz
  go_wp2_with fail
  refine bodyPost_ret (v := rect _ _) (by simp [results, Tryd.results144, go_sem, o0, o1]) rfl ⟨rfl, ?_⟩
  exact (HI2.out.setCell (by simp; omega) _).setCell (by simp; omega) _

end Go.Proofs.YtalechngagkklaaDoor.Grow
