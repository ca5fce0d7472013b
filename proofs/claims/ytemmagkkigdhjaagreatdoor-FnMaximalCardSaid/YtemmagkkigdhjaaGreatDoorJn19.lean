/-
  Texts of one seat, joined: BoardM, DrawMx, RValid.
-/
import Derived.Test.YtemmagkkigdhjaaGreatDoorJn18
import Derived.Test.YtemmagkkigdhjaaGreatDoorJn6
import Derived.Test.YtemmagkkigdhjaaGreatDoorJn7
import Derived.Test.YtemmagkkigdhjaaGreatDoorJn8
import Derived.Test.YtemmagkkigdhjaaGreatDoorJn10
/-
  Contracts of the board's methods.
-/
namespace Go.Proofs.YtemmagkkigdhjaaGreatDoor.BoardM
open Go.RowKit Go.Proofs.YtemmagkkigdhjaaGreatDoor.Plain Go.Proofs.YtemmagkkigdhjaaGreatDoor.Base Go.Proofs.YtemmagkkigdhjaaGreatDoor.Law Go.Proofs.YtemmagkkigdhjaaGreatDoor.Pat Go.Proofs.YtemmagkkigdhjaaGreatDoor.Rect Go.Proofs.YtemmagkkigdhjaaGreatDoor.Patch Go.Proofs.YtemmagkkigdhjaaGreatDoor.FreeL Go.Proofs.YtemmagkkigdhjaaGreatDoor.Board
open Go.Proofs.YtemmagkkigdhjaaGreatDoor.Free (fill wp_value wp_enter wp_load_row freeB)
set_option linter.unusedVariables false

theorem rinfo : (Tryz.prog.info? 31).map (·.size) = some 2 := by kernel_rfl
/-- block b holds a rectangle -/
def RHolds (w : World) (b : Nat) (r c : Int) : Prop := w.heap[b]? = some (.cells #[.int .i64 r, .int .i64 c] 31 (0, 0))
theorem RHolds.on {w w1 : World} {b : Nat} {r c : Int} (h : RHolds w b r c) (hb : Below w.heap.size w w1) : RHolds w1 b r c := (hb.block b (Array.getElem?_eq_some_iff.1 h).1).trans h
theorem bh_on {w w1 : World} {b : Nat} {r c : Int} {z o : Nat} (h : BHolds w b r c z o) (hb : Below w.heap.size w w1) : BHolds w1 b r c z o := (hb.block b (Array.getElem?_eq_some_iff.1 h).1).trans h
theorem bh_c {w : World} {b : Nat} {r c : Int} {z o : Nat} (h : BHolds w b r c z o) : w.cell? ⟨b, 0, none⟩ = some (.int .i64 r) ∧ w.cell? ⟨b, 1, none⟩ = some (.int .i64 c) ∧ w.cell? ⟨b, 2, none⟩ = some (.int .u64 (z : Int)) ∧ w.cell? ⟨b, 3, none⟩ = some (.int .u64 (o : Int)) :=
  ⟨cell_of_row _ _ 0 _ _ _ h, cell_of_row _ _ 1 _ _ _ h, cell_of_row _ _ 2 _ _ _ h, cell_of_row _ _ 3 _ _ _ h⟩

/-- when a rectangle is one of so many rows and columns -/
def rvB (R C : Nat) (r c : Int) : Bool := decide (1 ≤ r ∧ r ≤ 2 ^ R - 1) && decide (1 ≤ c ∧ c ≤ 2 ^ C - 1)
/-- two boxes -/
theorem two_box {w : World} {a b : Obj} : ((w.alloc a).alloc b).heap[w.heap.size]? = some a ∧ ((w.alloc a).alloc b).heap[w.heap.size + 1]? = some b ∧ Below w.heap.size w ((w.alloc a).alloc b) :=
  ⟨(Below.heap_alloc _ _ _ (by simp)).trans (heap_alloc_new w _), (by have := heap_alloc_new (w.alloc a) b; rwa [World.size_alloc] at this), ((Below.refl w.heap.size w).alloc (Nat.le_refl _) _).alloc (by simp) _⟩

set_option maxHeartbeats 1000000 in
theorem hasRect_any (R C : Nat) (hR : R ≤ 8) (hC : C ≤ 8) (z o : Nat) (r c : Int) (w : World) :
    Calls Tryz.prog 32 #[brd R C z o, rect r c] w fun e w' => e = .returned (.bool (rvB R C r c)) ∧ Below w.heap.size w w' := by
  unfold rvB
  have HV := Lib.hid (fun W => valid_any r R hR W)
  have HW := Lib.hid (fun W => valid_any c C hC W)
  generalize decide (1 ≤ r ∧ r ≤ 2 ^ R - 1) = b1 at *
  generalize decide (1 ≤ c ∧ c ≤ 2 ^ C - 1) = b2 at *
  cases b1
  · go_enter Tryz.func32, Tryz.ntmps32
    go_wp2_with fail
    refine (HV.out _).mono ?_
    rintro e w' ⟨rfl, rfl⟩
    go_wp2_with fail
    go_ret
    exact ⟨rfl, by go_grown⟩
  · go_enter Tryz.func32, Tryz.ntmps32
    go_wp2_with fail
    refine (HV.out _).mono ?_
    rintro e w' ⟨rfl, rfl⟩
    go_wp2_with fail
    refine (HW.out _).mono ?_
    rintro e w' ⟨rfl, rfl⟩
    go_wp2_with fail
    go_ret
    exact ⟨rfl, by go_grown⟩

set_option maxHeartbeats 1000000 in
theorem part_any (p q : Nat) (hp : p < 18446744073709551616) (hq : q < 18446744073709551616) (w : World) :
    Calls Tryz.prog 66 #[.int .u64 (p : Int), .int .u64 (q : Int)] w fun e w' => e = .returned (.bool (decide (p &&& (18446744073709551615 - q) = 0))) ∧ w = w' := by
  have HO := u64_andNot_nat p q hp hq
  generalize p &&& (18446744073709551615 - q) = n at *
  obtain ⟨b, hb⟩ : ∃ b, ((n : Int) == 0) = b := ⟨_, rfl⟩
  have HB : Hid (b = decide (n = 0)) := by
    unfold Hid
    rw [← hb, Bool.eq_iff_iff, beq_iff_eq, decide_eq_true_iff]
    omega
  go_enter Tryz.func66, Tryz.ntmps66
  go_wp2_with fail
  go_ret
  exact ⟨by rw [← HB.out]; rfl, rfl⟩

/-- all entries of a rectangle are in a set of entries, each told by its bytes -/
theorem sub_byte (a b : Nat) (ha : a < 256) (hb : b < 256) : a &&& (255 - b) = 0 ↔ ∀ y, a.testBit y = true → b.testBit y = true := by
  have h255 : ∀ y, (255 - b).testBit y = (decide (y < 8) && !b.testBit y) := fun y => by
    have := Nat.testBit_two_pow_sub_succ (x := b) (n := 8) hb y
    rwa [show 2 ^ 8 - (b + 1) = 255 - b by omega] at this
  constructor
  · intro h y hy
    have h2 : (a &&& (255 - b)).testBit y = false := by rw [h]; simp
    rw [Nat.testBit_and, hy, Bool.true_and, h255] at h2
    have h8 : y < 8 := by
      rcases Nat.lt_or_ge y 8 with h8 | h8
      · exact h8
      · rw [bit_high a y ha h8] at hy; cases hy
    simpa [h8] using h2
  · intro h
    apply Nat.eq_of_testBit_eq
    intro y
    rw [Nat.testBit_and, h255, Nat.zero_testBit]
    cases hy : a.testBit y with
    | false => rfl
    | true => simp [h y hy]
theorem part_pat (f g : Nat → Nat) (hf : ∀ x, f x < 256) (hg : ∀ x, g x < 256) : pat f 8 &&& (18446744073709551615 - pat g 8) = 0 ↔ ∀ x, x < 8 → ∀ y, (f x).testBit y = true → (g x).testBit y = true := by
  have hn := pat_not 8 g hg
  rw [show 18446744073709551615 - pat g 8 = 256 ^ 8 - 1 - pat g 8 from rfl, hn, pat_and 8 f _ hf (fun x => by have := hg x; omega), pat_zero]
  constructor
  · intro h x hx
    exact (sub_byte _ _ (hf x) (hg x)).1 (h x hx)
  · intro h x hx
    exact (sub_byte _ _ (hf x) (hg x)).2 (h x hx)
/-- all entries of the rectangle are among those for which P holds -/
def allP (P : Nat → Nat → Bool) (R C RS CS : Nat) : Prop := ∀ x y, RS.testBit x = true → CS.testBit y = true → (x < R ∧ y < C) ∧ P x y = true
theorem plain_pat (P : Nat → Nat → Bool) (R C RS CS : Nat) (hR : R ≤ 8) (hC : C ≤ 8) (hRS : RS < 256) (hCS : CS < 256) :
    pat (rectB RS CS) 8 &&& (18446744073709551615 - pat (onB P R C) 8) = 0 ↔ allP P R C RS CS := by
  rw [part_pat _ _ (rectB_lt RS CS hCS) (onB_lt P R C hC)]
  unfold allP rectB onB
  constructor
  · intro h x y hx hy
    have hx8 : x < 8 := by
      rcases Nat.lt_or_ge x 8 with h8 | h8
      · exact h8
      · rw [bit_high RS x hRS h8] at hx; cases hx
    have := h x hx8 y (by rw [if_pos hx]; exact hy)
    split at this
    · rename_i hxr
      rw [setB_bit, Bool.and_eq_true, decide_eq_true_eq] at this
      exact ⟨⟨hxr, this.1⟩, this.2⟩
    · simp at this
  · intro h x hx y hy
    by_cases hr : RS.testBit x = true
    · rw [if_pos hr] at hy
      have := h x y hr hy
      rw [if_pos this.1.1, setB_bit, this.2, Bool.and_true, decide_eq_true_eq]
      exact this.1.2
    · rw [if_neg hr] at hy
      simp at hy

/-- a contract that leaves the world says that it leaves what lay -/
theorem below_same {P : Program} {f : FuncId} {args : Array Value} {v : Value} (h : ∀ w, Calls P f args w fun e w' => e = .returned v ∧ w = w') (w : World) : Calls P f args w fun e w' => e = .returned v ∧ Below w.heap.size w w' :=
  (h w).mono fun e w' ⟨he, hw⟩ => ⟨he, by subst hw; exact Below.refl _ _⟩

set_option maxHeartbeats 1000000 in
set_option maxRecDepth 100000 in
theorem plain0 (R C : Int) (z o : Nat) (hz : z < 18446744073709551616) (ho : o < 18446744073709551616) (r c : Nat) (hr : r < 256) (hc : c < 256) (w : World) :
    Calls Tryz.prog 33 #[brd R C z o, rect r c, .int .i64 0] w fun e w' => e = .returned (.bool (decide (pat (rectB r c) 8 &&& (18446744073709551615 - z) = 0))) ∧ Below w.heap.size w w' := by
  have HP := Lib.hid (patch_any r c hr hc)
  have HQ := Lib.hid (part_any (pat (rectB r c) 8) z (pat64 _ (rectB_lt r c hc)) hz)
  generalize decide (pat (rectB r c) 8 &&& (18446744073709551615 - z) = 0) = t at *
  generalize pat (rectB r c) 8 = p at *
  go_enter Tryz.func33, Tryz.ntmps33
  go_wp2_with fail
  obtain ⟨e0, e1, hb0⟩ := two_box (w := w) (a := .cells #[.int .i64 R, .int .i64 C, .int .u64 (z : Int), .int .u64 (o : Int)] 50) (b := .cells #[.int .i64 (r : Int), .int .i64 (c : Int)] 31)
  generalize (w.alloc (.cells #[.int .i64 R, .int .i64 C, .int .u64 (z : Int), .int .u64 (o : Int)] 50)).alloc (.cells #[.int .i64 (r : Int), .int .i64 (c : Int)] 31) = W0 at *
  have BH : Hid (BHolds W0 w.heap.size R C z o) := e0
  have RH : Hid (RHolds W0 (w.heap.size + 1) r c) := e1
  have HB0 := Lib.hid hb0
  clear e0 e1 hb0
  refine wp_region_below (fun | 0 => rect (r : Int) (c : Int) | 1 => .int .u64 (p : Int) | 2 => .int .i64 0 | 3 => .pointer (some ⟨w.heap.size, 2, none⟩) | 4 => .pointer (some ⟨w.heap.size, 2, none⟩) | 5 => .int .u64 (z : Int) | 6 => .bool t | 7 => .bool t | _ => undef) (by kernel_rfl) (by kernel_rfl) rfl ?con ?en
  case con =>
    intro i o ho a w2 hb2 hf
    match i, ho with
    | 0, ho =>
      obtain rfl := Option.some.inj ho
      have b4 : a.tmps[4]?.getD undef = .pointer (some ⟨w.heap.size + 1, 0, none⟩) := hf.2 4 (by kernel_rfl)
      exact wp_load_row 31 (.tmp 4) rfl (w.heap.size + 1) (eval_get b4 trivial) 31 _ (0, 0) _ (RH.out.on hb2) Tryz.underlying31 rfl rinfo ⟨rfl, Below.refl _ _⟩
    | 1, ho =>
      obtain rfl := Option.some.inj ho
      have e7 : a.tmps[7]?.getD undef = rect (r : Int) (c : Int) := hf.1 ⟨0, .data⟩ (by simp) rfl _ 7 rfl rfl
      exact wp_enter 35 #[rect (r : Int) (c : Int)] (.int .u64 (p : Int)) _ (by unfold execOp; go_simp) (HP.out w2) (fun w' h => ⟨rfl, h⟩)
    | 2, ho =>
      obtain rfl := Option.some.inj ho
      have b2 : a.tmps[2]?.getD undef = .int .i64 0 := hf.2 2 (by kernel_rfl)
      exact wp_value (.int .i64 0) (by unfold execOp; go_simp) ⟨rfl, Below.refl _ _⟩
    | 3, ho =>
      obtain rfl := Option.some.inj ho
      have b3 : a.tmps[3]?.getD undef = .pointer (some ⟨w.heap.size, 0, none⟩) := hf.2 3 (by kernel_rfl)
      exact wp_value (.pointer (some ⟨w.heap.size, 2, none⟩)) (by unfold execOp; go_simp) ⟨rfl, Below.refl _ _⟩
    | 4, ho =>
      obtain rfl := Option.some.inj ho
      have e10 : a.tmps[10]?.getD undef = .pointer (some ⟨w.heap.size, 2, none⟩) := hf.1 ⟨3, .data⟩ (by simp) rfl _ 10 rfl rfl
      have e9 : a.tmps[9]?.getD undef = .int .i64 0 := hf.1 ⟨2, .data⟩ (by simp) rfl _ 9 rfl rfl
      exact wp_value (.pointer (some ⟨w.heap.size, 2, none⟩)) (by unfold execOp; go_simp) ⟨rfl, Below.refl _ _⟩
    | 5, ho =>
      obtain rfl := Option.some.inj ho
      have e11 : a.tmps[11]?.getD undef = .pointer (some ⟨w.heap.size, 2, none⟩) := hf.1 ⟨4, .data⟩ (by simp) rfl _ 11 rfl rfl
      obtain ⟨q0, q1, q2, q3⟩ := bh_c (bh_on BH.out hb2)
      exact wp_value (.int .u64 (z : Int)) (by unfold execOp; go_simp) ⟨rfl, Below.refl _ _⟩
    | 6, ho =>
      obtain rfl := Option.some.inj ho
      have e8 : a.tmps[8]?.getD undef = .int .u64 (p : Int) := hf.1 ⟨1, .data⟩ (by simp) rfl _ 8 rfl rfl
      have e12 : a.tmps[12]?.getD undef = .int .u64 (z : Int) := hf.1 ⟨5, .data⟩ (by simp) rfl _ 12 rfl rfl
      exact wp_enter 66 #[.int .u64 (p : Int), .int .u64 (z : Int)] (.bool t) _ (by unfold execOp; go_simp) (below_same HQ.out w2) (fun w' h => ⟨rfl, h⟩)
    | 7, ho =>
      obtain rfl := Option.some.inj ho
      have e13 : a.tmps[13]?.getD undef = .bool t := hf.1 ⟨6, .data⟩ (by simp) rfl _ 13 rfl rfl
      exact wp_value (.bool t) (by unfold execOp; go_simp) ⟨rfl, Below.refl _ _⟩
    | q + 8, ho => simp at ho
  case en =>
    intro w2 hb2
    have HB2 := Lib.hid (rstep HB0.out hb2)
    clear hb2
    simp only [fill, Act.put]
    go_simp
    go_wp2_with fail
    go_ret
    exact ⟨rfl, HB2.out⟩

set_option maxHeartbeats 1000000 in
set_option maxRecDepth 100000 in
theorem plain1 (R C : Int) (z o : Nat) (hz : z < 18446744073709551616) (ho : o < 18446744073709551616) (r c : Nat) (hr : r < 256) (hc : c < 256) (w : World) :
    Calls Tryz.prog 33 #[brd R C z o, rect r c, .int .i64 1] w fun e w' => e = .returned (.bool (decide (pat (rectB r c) 8 &&& (18446744073709551615 - o) = 0))) ∧ Below w.heap.size w w' := by
  have HP := Lib.hid (patch_any r c hr hc)
  have HQ := Lib.hid (part_any (pat (rectB r c) 8) o (pat64 _ (rectB_lt r c hc)) ho)
  generalize decide (pat (rectB r c) 8 &&& (18446744073709551615 - o) = 0) = t at *
  generalize pat (rectB r c) 8 = p at *
  go_enter Tryz.func33, Tryz.ntmps33
  go_wp2_with fail
  obtain ⟨e0, e1, hb0⟩ := two_box (w := w) (a := .cells #[.int .i64 R, .int .i64 C, .int .u64 (z : Int), .int .u64 (o : Int)] 50) (b := .cells #[.int .i64 (r : Int), .int .i64 (c : Int)] 31)
  generalize (w.alloc (.cells #[.int .i64 R, .int .i64 C, .int .u64 (z : Int), .int .u64 (o : Int)] 50)).alloc (.cells #[.int .i64 (r : Int), .int .i64 (c : Int)] 31) = W0 at *
  have BH : Hid (BHolds W0 w.heap.size R C z o) := e0
  have RH : Hid (RHolds W0 (w.heap.size + 1) r c) := e1
  have HB0 := Lib.hid hb0
  clear e0 e1 hb0
  refine wp_region_below (fun | 0 => rect (r : Int) (c : Int) | 1 => .int .u64 (p : Int) | 2 => .int .i64 1 | 3 => .pointer (some ⟨w.heap.size, 2, none⟩) | 4 => .pointer (some ⟨w.heap.size, 3, none⟩) | 5 => .int .u64 (o : Int) | 6 => .bool t | 7 => .bool t | _ => undef) (by kernel_rfl) (by kernel_rfl) rfl ?con ?en
  case con =>
    intro i o ho a w2 hb2 hf
    match i, ho with
    | 0, ho =>
      obtain rfl := Option.some.inj ho
      have b4 : a.tmps[4]?.getD undef = .pointer (some ⟨w.heap.size + 1, 0, none⟩) := hf.2 4 (by kernel_rfl)
      exact wp_load_row 31 (.tmp 4) rfl (w.heap.size + 1) (eval_get b4 trivial) 31 _ (0, 0) _ (RH.out.on hb2) Tryz.underlying31 rfl rinfo ⟨rfl, Below.refl _ _⟩
    | 1, ho =>
      obtain rfl := Option.some.inj ho
      have e7 : a.tmps[7]?.getD undef = rect (r : Int) (c : Int) := hf.1 ⟨0, .data⟩ (by simp) rfl _ 7 rfl rfl
      exact wp_enter 35 #[rect (r : Int) (c : Int)] (.int .u64 (p : Int)) _ (by unfold execOp; go_simp) (HP.out w2) (fun w' h => ⟨rfl, h⟩)
    | 2, ho =>
      obtain rfl := Option.some.inj ho
      have b2 : a.tmps[2]?.getD undef = .int .i64 1 := hf.2 2 (by kernel_rfl)
      exact wp_value (.int .i64 1) (by unfold execOp; go_simp) ⟨rfl, Below.refl _ _⟩
    | 3, ho =>
      obtain rfl := Option.some.inj ho
      have b3 : a.tmps[3]?.getD undef = .pointer (some ⟨w.heap.size, 0, none⟩) := hf.2 3 (by kernel_rfl)
      exact wp_value (.pointer (some ⟨w.heap.size, 2, none⟩)) (by unfold execOp; go_simp) ⟨rfl, Below.refl _ _⟩
    | 4, ho =>
      obtain rfl := Option.some.inj ho
      have e10 : a.tmps[10]?.getD undef = .pointer (some ⟨w.heap.size, 2, none⟩) := hf.1 ⟨3, .data⟩ (by simp) rfl _ 10 rfl rfl
      have e9 : a.tmps[9]?.getD undef = .int .i64 1 := hf.1 ⟨2, .data⟩ (by simp) rfl _ 9 rfl rfl
      exact wp_value (.pointer (some ⟨w.heap.size, 3, none⟩)) (by unfold execOp; go_simp) ⟨rfl, Below.refl _ _⟩
    | 5, ho =>
      obtain rfl := Option.some.inj ho
      have e11 : a.tmps[11]?.getD undef = .pointer (some ⟨w.heap.size, 3, none⟩) := hf.1 ⟨4, .data⟩ (by simp) rfl _ 11 rfl rfl
      obtain ⟨q0, q1, q2, q3⟩ := bh_c (bh_on BH.out hb2)
      exact wp_value (.int .u64 (o : Int)) (by unfold execOp; go_simp) ⟨rfl, Below.refl _ _⟩
    | 6, ho =>
      obtain rfl := Option.some.inj ho
      have e8 : a.tmps[8]?.getD undef = .int .u64 (p : Int) := hf.1 ⟨1, .data⟩ (by simp) rfl _ 8 rfl rfl
      have e12 : a.tmps[12]?.getD undef = .int .u64 (o : Int) := hf.1 ⟨5, .data⟩ (by simp) rfl _ 12 rfl rfl
      exact wp_enter 66 #[.int .u64 (p : Int), .int .u64 (o : Int)] (.bool t) _ (by unfold execOp; go_simp) (below_same HQ.out w2) (fun w' h => ⟨rfl, h⟩)
    | 7, ho =>
      obtain rfl := Option.some.inj ho
      have e13 : a.tmps[13]?.getD undef = .bool t := hf.1 ⟨6, .data⟩ (by simp) rfl _ 13 rfl rfl
      exact wp_value (.bool t) (by unfold execOp; go_simp) ⟨rfl, Below.refl _ _⟩
    | q + 8, ho => simp at ho
  case en =>
    intro w2 hb2
    have HB2 := Lib.hid (rstep HB0.out hb2)
    clear hb2
    simp only [fill, Act.put]
    go_simp
    go_wp2_with fail
    go_ret
    exact ⟨rfl, HB2.out⟩
end Go.Proofs.YtemmagkkigdhjaaGreatDoor.BoardM

/-
  The drawing function DrawMaximalRects.
-/
namespace Go.Proofs.YtemmagkkigdhjaaGreatDoor.DrawMx
open Go Go.RowKit Go.Proofs.YtemmagkkigdhjaaGreatDoor.Plain Go.Proofs.YtemmagkkigdhjaaGreatDoor.Base Go.Proofs.YtemmagkkigdhjaaGreatDoor.Rd Go.Proofs.YtemmagkkigdhjaaGreatDoor.Rd2 Go.Proofs.YtemmagkkigdhjaaGreatDoor.Rd3 Go.Proofs.YtemmagkkigdhjaaGreatDoor.Rd4 Go.Proofs.YtemmagkkigdhjaaGreatDoor.Rd5 Go.Proofs.YtemmagkkigdhjaaGreatDoor.Rd6 Go.Proofs.YtemmagkkigdhjaaGreatDoor.Rd7 Go.Proofs.YtemmagkkigdhjaaGreatDoor.Rd9 Go.Proofs.YtemmagkkigdhjaaGreatDoor.KeptR Go.Proofs.YtemmagkkigdhjaaGreatDoor.FreeQ
open Go.Proofs.YtemmagkkigdhjaaGreatDoor.FreeP (wp_enterP)
open Go.Proofs.YtemmagkkigdhjaaGreatDoor.FreeD (FactsV)
open Go.Proofs.YtemmagkkigdhjaaGreatDoor.Free (fill wp_value wp_enter wp_load_row freeB)
open Go.Proofs.YtemmagkkigdhjaaGreatDoor.Vals (value_any)
set_option linter.unusedVariables false

abbrev M (a b : Int) (t : ByteArray) : Obj := .cells #[.int .i64 a, .int .i64 b, .string t] 24 (0, 0)
/-- what is known in the midst of the return: b2: the value is drawn, b3: the matrix is stored -/
structure TM (g q : Nat) (w : World) (B : Nat) (a b : Int) (t : ByteArray) (b2 b3 : Bool) (wx : World) : Prop where
  loc : wx.heap[B]? = some (M a b t)
  one : wx.heap[w.heap.size]? = some (if b3 then M a b t else M 0 0 ⟨#[]⟩)
  below : Below w.heap.size w wx
  lo : w.heap.size + 1 ≤ g
  hB : g < B
  rd : b2 = false → Rdr w.heap.size wx g q
theorem TM.move {g q q' : Nat} {w : World} {B : Nat} {a b : Int} {t : ByteArray} {b2 b3 c2 : Bool} {wx w2 : World} (h : TM g q w B a b t b2 b3 wx) (ha : Apt g wx w2) (hr : c2 = false → Rdr w.heap.size w2 g q') : TM g q' w B a b t c2 b3 w2 := by
  have h4 := h.lo
  have h5 := h.hB
  exact ⟨(ha.block _ (Array.getElem?_eq_some_iff.1 h.loc).1 (by omega)).trans h.loc, (ha.block _ (Array.getElem?_eq_some_iff.1 h.one).1 (by omega)).trans h.one, ha.below h.below (by omega), h.lo, h.hB, hr⟩
def Done (w : World) (e : Ending) (w' : World) : Prop := ∃ (a b : Int) (t : ByteArray) (x : Int), e = .returned (.tuple #[mtx a b t, .int .i64 x]) ∧ t.size ≤ 100 ∧ (-1 ≤ x ∧ x ≤ 2) ∧ Below w.heap.size w w'

set_option maxHeartbeats 8000000 in
set_option maxRecDepth 100000 in
theorem draw_any (v : Value) (n : Nat) (w : World) (h : ByteArg w v n) : Calls Tryz.prog 4 #[v] w (Done w) := by
  have hst : Below w.heap.size w (w.alloc (.cells #[.int .i64 0, .int .i64 0, .string ⟨#[]⟩] 24)) := (Below.refl w.heap.size w).alloc (Nat.le_refl _) _
  have h1 := h.later hst
  have HO := Lib.hid (open_lo v n _ h1 (lo_of h))
  have HST := Lib.hid hst
  clear h h1 hst
  go_enter Tryz.func4, Tryz.ntmps4
  go_wp2_with fail
  refine HO.out.mono ?_
  rintro e w1 ⟨g, rfl, hr, hb, hg⟩
  have hs2 : w.heap.size + 1 ≤ g := by simp at hg; omega
  have r1 : w1.heap[w.heap.size]? = some (M 0 0 ⟨#[]⟩) := (hb.block _ (by simp)).trans (heap_alloc_new w _)
  have HK1 : Hid (Kr g w w1 [(w.heap.size, M 0 0 ⟨#[]⟩)]) := by
    refine ⟨fun p hp => ?_, HST.out.trans (hb.mono (by simp)), by omega⟩
    simp only [List.mem_cons, List.not_mem_nil, or_false] at hp
    subst hp
    exact ⟨by simp only; omega, r1⟩
  have HT := Lib.hid (open_mat g 0 (by omega) w1 hr)
  clear hr hb hg r1 HO HST
  go_wp2_with fail
  refine HT.out.mono ?_
  rintro e w2 ⟨a, b, t, p, rfl, wa, wb, ht, hp1, hp2, hr, ha⟩
  obtain ⟨B, hB⟩ : ∃ x, w2.heap.size = x := ⟨_, rfl⟩
  have hgB : g < B := by have := hr.lt; omega
  have HK2 : Hid (Kr g w (w2.alloc (.cells #[.int .i64 a, .int .i64 b, .string t] 24)) [(B, M a b t), (w.heap.size, M 0 0 ⟨#[]⟩)]) := (HK1.out.later ha).put _ hB (by omega)
  have HR2 := Lib.hid (hr.later ((Below.refl w2.heap.size w2).alloc (Nat.le_refl _) (.cells #[.int .i64 a, .int .i64 b, .string t] 24)))
  clear hr ha HT HK1
  go_wp2_with fail
  clear hB
  generalize w2.alloc (.cells #[.int .i64 a, .int .i64 b, .string t] 24) = w5 at *
  have hp5 : p ≤ 1000 := by omega
  have HTT : Hid (∃ q, q ≤ p + 1 ∧ TM g q w B a b t false false w5.drew) :=
    ⟨p, by omega, HK2.out.drew.at 0 rfl, HK2.out.drew.at 1 rfl, HK2.out.drew.below, hs2, hgB, fun _ => HR2.out.later (drawn_at w5 1)⟩
  clear HK2 HR2 hp1 hp2 wa wb
  refine wp_region_family (fun | 0 => fun v => v = mtx a b t | 1 => fun v => v = .pointer (some ⟨g, 0, none⟩) | 2 => fun v => ∃ x : Int, v = .int .i64 x ∧ -1 ≤ x ∧ x ≤ 2 | 3 => fun _ => True | 4 => fun v => ∃ x : Int, v = .int .i64 x ∧ -1 ≤ x ∧ x ≤ 2 | _ => fun _ => True)
    (fun l wx => ∃ q, q ≤ p + 1 ∧ TM g q w B a b t (l 2) (l 3) wx) (by kernel_rfl) (by kernel_rfl) rfl HTT.out ?con ?en
  case con =>
    intro i o ho a' wx l hT hl hcl hf
    obtain ⟨q, hq, hT⟩ := hT
    match i, ho with
    | 0, ho =>
      obtain rfl := Option.some.inj ho
      have b5 : a'.tmps[5]?.getD undef = .pointer (some ⟨B, 0, none⟩) := hf.2 5 (by kernel_rfl)
      exact wp_load_row 24 (.tmp 5) rfl B (eget b5) 24 _ (0, 0) _ hT.loc Tryz.underlying24 rfl minfo3 ⟨_, rfl, rfl, ⟨q, hq, hT⟩⟩
    | 1, ho =>
      obtain rfl := Option.some.inj ho
      have b4 : a'.tmps[4]?.getD undef = .pointer (some ⟨g, 0, none⟩) := hf.2 4 (by kernel_rfl)
      exact wp_value (.pointer (some ⟨g, 0, none⟩)) (by unfold execOp; go_simp) ⟨_, rfl, rfl, ⟨q, hq, hT⟩⟩
    | 2, ho =>
      obtain rfl := Option.some.inj ho
      rw [hl] at hT
      have hr := hT.rd rfl
      have e1 : a'.tmps[11]?.getD undef = .pointer (some ⟨g, 0, none⟩) := hf.1 ⟨1, .data⟩ (by simp) rfl _ 11 rfl rfl
      refine wp_enterP 18 #[.pointer (some ⟨g, 0, none⟩)] (fun v w' => (∃ x : Int, v = .int .i64 x ∧ -1 ≤ x ∧ x ≤ 2) ∧ Apt g wx w') (by unfold execOp; go_simp)
        ((value_any g q (by omega) wx hr).mono fun e w' h => by obtain ⟨x, he, h1, h2, hr, ha⟩ := h; exact ⟨_, he, ⟨x, rfl, h1, h2⟩, ha⟩) (fun v w' h => ⟨v, rfl, h.1, ?_⟩)
      show ∃ q, q ≤ p + 1 ∧ TM g q w B a b t true (l 3) w'
      exact ⟨q, hq, hT.move h.2 (fun h => by cases h)⟩
    | 3, ho =>
      obtain rfl := Option.some.inj ho
      have b2 : a'.tmps[2]?.getD undef = .pointer (some ⟨w.heap.size, 0, none⟩) := hf.2 2 (by kernel_rfl)
      have e0 : a'.tmps[10]?.getD undef = mtx a b t := hf.1 ⟨0, .data⟩ (by simp) rfl _ 10 rfl rfl
      have hrow : wx.heap[w.heap.size]? = some (M 0 0 ⟨#[]⟩) := by have := hT.one; rw [hl] at this; exact this
      refine wp_store_row 24 (.tmp 2) (.tmp 10) rfl w.heap.size #[.int .i64 a, .int .i64 b, .string t] (eget b2) (eget e0) 24 _ hrow minfo3 rfl (by simp [Value.oneCell']) ⟨undef, rfl, trivial, ?_⟩
      show ∃ q, q ≤ p + 1 ∧ TM g q w B a b t (l 2) true _
      have h4 := hT.lo
      have h5 := hT.hB
      exact ⟨q, hq, (Go.Proofs.YtemmagkkigdhjaaGreatDoor.Free.setRow_other (by omega) _).trans hT.loc, Go.Proofs.YtemmagkkigdhjaaGreatDoor.Free.setRow_kept hrow _, Go.Proofs.YtemmagkkigdhjaaGreatDoor.Free.setRow_below hT.below (Nat.le_refl _) _, hT.lo, hT.hB, fun h => rdr_putRow (hT.rd h) _ _ (by omega) (.inr (Nat.le_refl _))⟩
    | 4, ho =>
      obtain rfl := Option.some.inj ho
      obtain ⟨x, e2, hx⟩ : ∃ x : Int, a'.tmps[12]?.getD undef = .int .i64 x ∧ -1 ≤ x ∧ x ≤ 2 := hf.1 ⟨2, .data⟩ (by simp) rfl _ 12 rfl rfl
      exact wp_value (.int .i64 x) (by unfold execOp; go_simp) ⟨_, rfl, ⟨x, rfl, hx⟩, ⟨q, hq, hT⟩⟩
    | q + 5, ho => simp at ho
  case en =>
    intro vs wx hT hall
    obtain ⟨x, hx, hx2⟩ : ∃ x : Int, vs 4 = .int .i64 x ∧ -1 ≤ x ∧ x ≤ 2 := hall 4 _ rfl
    obtain ⟨q, hq, hT⟩ := hT
    have hT2 : TM g q w B a b t true true wx := hT
    obtain ⟨o0, o1, o2, -, -, -⟩ := cells3 hT2.one
    have HB := Lib.hid hT2.below
    clear hT hT2 hall HTT
    simp only [fill, Act.put, hx]
    go_simp
    go_wp2_with fail
    exact bodyPost_ret (v := .tuple #[mtx a b t, .int .i64 x]) (by simp [results, Tryz.results4, go_sem, o0, o1, o2]) rfl ⟨a, b, t, x, rfl, ht, hx2, HB.out⟩
end Go.Proofs.YtemmagkkigdhjaaGreatDoor.DrawMx

/-
  Contracts of RectValid, of the reference and of the program.
-/
namespace Go.Proofs.YtemmagkkigdhjaaGreatDoor.RValid
open Go.RowKit Go.Proofs.YtemmagkkigdhjaaGreatDoor.Plain Go.Proofs.YtemmagkkigdhjaaGreatDoor.Base Go.Proofs.YtemmagkkigdhjaaGreatDoor.Valid Go.Proofs.YtemmagkkigdhjaaGreatDoor.Law Go.Proofs.YtemmagkkigdhjaaGreatDoor.GridPlain Go.Proofs.YtemmagkkigdhjaaGreatDoor.Grid Go.Proofs.YtemmagkkigdhjaaGreatDoor.Entry Go.Proofs.YtemmagkkigdhjaaGreatDoor.Pat Go.Proofs.YtemmagkkigdhjaaGreatDoor.Rect Go.Proofs.YtemmagkkigdhjaaGreatDoor.Patch Go.Proofs.YtemmagkkigdhjaaGreatDoor.FreeL Go.Proofs.YtemmagkkigdhjaaGreatDoor.Board Go.Proofs.YtemmagkkigdhjaaGreatDoor.BoardM
open Go.Proofs.YtemmagkkigdhjaaGreatDoor.Free (fill wp_value wp_enter wp_load_row freeB)
set_option linter.unusedVariables false

theorem minfo : (Tryz.prog.info? 24).map (·.size) = some 3 := by kernel_rfl
/-- block b holds a matrix -/
def MHolds (w : World) (b : Nat) (t : TypeId) (r c : Int) (s : ByteArray) : Prop := w.heap[b]? = some (.cells #[.int .i64 r, .int .i64 c, .string s] t (0, 0))
theorem mh_on {w w1 : World} {b : Nat} {t : TypeId} {r c : Int} {s : ByteArray} (h : MHolds w b t r c s) (hb : Below w.heap.size w w1) : MHolds w1 b t r c s := (hb.block b (Array.getElem?_eq_some_iff.1 h).1).trans h
/-- block b holds two numbers -/
def THolds (w : World) (b : Nat) (t : TypeId) (r c : Int) : Prop := w.heap[b]? = some (.cells #[.int .i64 r, .int .i64 c] t (0, 0))
theorem th_on {w w1 : World} {b : Nat} {t : TypeId} {r c : Int} (h : THolds w b t r c) (hb : Below w.heap.size w w1) : THolds w1 b t r c := (hb.block b (Array.getElem?_eq_some_iff.1 h).1).trans h
theorem th_c {w : World} {b : Nat} {t : TypeId} {r c : Int} (h : THolds w b t r c) : w.cell? ⟨b, 0, none⟩ = some (.int .i64 r) ∧ w.cell? ⟨b, 1, none⟩ = some (.int .i64 c) := ⟨cell_of_row _ _ 0 _ _ _ h, cell_of_row _ _ 1 _ _ _ h⟩
theorem mh_c {w : World} {b : Nat} {t : TypeId} {r c : Int} {s : ByteArray} (h : MHolds w b t r c s) : w.cell? ⟨b, 0, none⟩ = some (.int .i64 r) ∧ w.cell? ⟨b, 1, none⟩ = some (.int .i64 c) ∧ w.cell? ⟨b, 2, none⟩ = some (.string s) := ⟨cell_of_row _ _ 0 _ _ _ h, cell_of_row _ _ 1 _ _ _ h, cell_of_row _ _ 2 _ _ _ h⟩

theorem pow8 (R : Nat) (hR : R ≤ 8) : IntKind.i64.wrap (2 ^ R) = ((2 ^ R : Nat) : Int) ∧ 1 ≤ 2 ^ R ∧ 2 ^ R ≤ 256 := by
  have h1 : 2 ^ R ≤ 2 ^ 8 := Nat.pow_le_pow_right (by decide) hR
  have h2 : 0 < 2 ^ R := Nat.two_pow_pos R
  refine ⟨?_, by omega, by omega⟩
  rw [show ((2 : Int) ^ R) = ((2 ^ R : Nat) : Int) by simp]
  obtain ⟨X, hX⟩ : ∃ X, 2 ^ R = X := ⟨_, rfl⟩
  rw [hX] at h1 ⊢
  rw [IntKind.wrap_i64]
  omega

/-- the two boxes of a matrix and a rectangle, behind a call -/
theorem boxes {w w1 : World} {r c x y : Int} {s : ByteArray} {T U : TypeId} (hb : Below ((w.alloc (.cells #[.int .i64 r, .int .i64 c, .string s] T)).alloc (.cells #[.int .i64 x, .int .i64 y] U)).heap.size ((w.alloc (.cells #[.int .i64 r, .int .i64 c, .string s] T)).alloc (.cells #[.int .i64 x, .int .i64 y] U)) w1) :
    MHolds w1 w.heap.size T r c s ∧ THolds w1 (w.heap.size + 1) U x y ∧ Below w.heap.size w w1 := by
  obtain ⟨e0, e1, hb0⟩ := two_box (w := w) (a := .cells #[.int .i64 r, .int .i64 c, .string s] T) (b := .cells #[.int .i64 x, .int .i64 y] U)
  exact ⟨mh_on e0 hb, th_on e1 hb, hb0.trans (hb.mono hb0.size)⟩

/-- a board for each matrix: that of a valid one, and the zero board -/
theorem board_yes (R C : Nat) (E : Nat → Nat → Bool) (h1 : 1 ≤ R) (h2 : R ≤ 8) (h3 : 1 ≤ C) (h4 : C ≤ 8) (hs : (str (rowsB E R C)).size ≤ maxLen) (hv : validB R C (str (rowsB E R C)) = true) (W : World) :
    Calls Tryz.prog 20 #[mat R C (str (rowsB E R C))] W fun e w' => e = .returned (brd R C (pat (onB (fun x y => !E x y) R C) 8) (pat (onB E R C) 8)) ∧ Below W.heap.size W w' := by
  have hsz : (str (rowsB E R C)).size ≤ 64 := by rw [str_size, rowsB_length]; exact prod_le h2 h4
  exact board_of R C h2 h4 (gpart E C (R * C)) E (fun x y hx hy => gpart_all E R C x y hx hy h4) _ _ _ (fun W => grid_yes E R C h1 h2 h3 h4 _ rfl hs hsz hv W) W
theorem board_no (rr cc : Int) (s : ByteArray) (hs : s.size ≤ maxLen) (hv : validB rr cc s = false) (W : World) :
    Calls Tryz.prog 20 #[mat rr cc s] W fun e w' => e = .returned (brd ((0 : Nat) : Int) ((0 : Nat) : Int) (pat (onB (fun _ _ => true) 0 0) 8) (pat (onB (fun _ _ => false) 0 0) 8)) ∧ Below W.heap.size W w' :=
  board_of 0 0 (by omega) (by omega) (fun _ => 0) (fun _ _ => false) (fun x y hx _ => absurd hx (by omega)) rr cc s (fun W => grid_no rr cc s hs hv W) W
theorem rvB_zero (r c : Int) : rvB 0 0 r c = false := by
  unfold rvB
  rw [decide_eq_false (by omega)]
  rfl

end Go.Proofs.YtemmagkkigdhjaaGreatDoor.RValid

