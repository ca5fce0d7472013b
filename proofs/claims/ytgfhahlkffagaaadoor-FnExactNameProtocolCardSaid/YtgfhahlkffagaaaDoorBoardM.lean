/-
  Contracts of the board's methods.
-/
import Derived.Test.YtgfhahlkffagaaaDoorBoard
namespace Go.Proofs.YtgfhahlkffagaaaDoor.BoardM
open Go.RowKit Go.Proofs.YtgfhahlkffagaaaDoor.Plain Go.Proofs.YtgfhahlkffagaaaDoor.Base Go.Proofs.YtgfhahlkffagaaaDoor.Law Go.Proofs.YtgfhahlkffagaaaDoor.Pat Go.Proofs.YtgfhahlkffagaaaDoor.Rect Go.Proofs.YtgfhahlkffagaaaDoor.Patch Go.Proofs.YtgfhahlkffagaaaDoor.FreeL Go.Proofs.YtgfhahlkffagaaaDoor.Board
open Go.Proofs.YtgfhahlkffagaaaDoor.Free (fill wp_value wp_enter wp_load_row freeB)
set_option linter.unusedVariables false

theorem rinfo : (Tryd.prog.info? 60).map (·.size) = some 2 := by kernel_rfl
/-- block b holds a rectangle -/
def RHolds (w : World) (b : Nat) (r c : Int) : Prop := w.heap[b]? = some (.cells #[.int .i64 r, .int .i64 c] 60 (0, 0))
theorem RHolds.on {w w1 : World} {b : Nat} {r c : Int} (h : RHolds w b r c) (hb : Below w.heap.size w w1) : RHolds w1 b r c := (hb.block b (Array.getElem?_eq_some_iff.1 h).1).trans h
theorem bh_on {w w1 : World} {b : Nat} {r c : Int} {z o : Nat} (h : BHolds w b r c z o) (hb : Below w.heap.size w w1) : BHolds w1 b r c z o := (hb.block b (Array.getElem?_eq_some_iff.1 h).1).trans h
theorem bh_c {w : World} {b : Nat} {r c : Int} {z o : Nat} (h : BHolds w b r c z o) : w.cell? ⟨b, 0, none⟩ = some (.int .i64 r) ∧ w.cell? ⟨b, 1, none⟩ = some (.int .i64 c) ∧ w.cell? ⟨b, 2, none⟩ = some (.int .u64 (z : Int)) ∧ w.cell? ⟨b, 3, none⟩ = some (.int .u64 (o : Int)) :=
  ⟨cell_of_row _ _ 0 _ _ _ h, cell_of_row _ _ 1 _ _ _ h, cell_of_row _ _ 2 _ _ _ h, cell_of_row _ _ 3 _ _ _ h⟩

/-- when a rectangle is one of so many rows and columns -/
def rvB (R C : Nat) (r c : Int) : Bool := decide (1 ≤ r ∧ r ≤ 2 ^ R - 1) && decide (1 ≤ c ∧ c ≤ 2 ^ C - 1)
/-- two boxes -/
theorem two_box {w : World} {a b : Obj} : ((w.alloc a).alloc b).heap[w.heap.size]? = some a ∧ ((w.alloc a).alloc b).heap[w.heap.size + 1]? = some b ∧ Below w.heap.size w ((w.alloc a).alloc b) :=
  ⟨(Below.heap_alloc _ _ _ (by simp)).trans (heap_alloc_new w _), (by have := heap_alloc_new (w.alloc a) b; rwa [World.size_alloc] at this), ((Below.refl w.heap.size w).alloc (Nat.le_refl _) _).alloc (by simp) _⟩

set_option maxHeartbeats 1000000 in
theorem part_any (p q : Nat) (hp : p < 18446744073709551616) (hq : q < 18446744073709551616) (w : World) :
    Calls Tryd.prog 73 #[.int .u64 (p : Int), .int .u64 (q : Int)] w fun e w' => e = .returned (.bool (decide (p &&& (18446744073709551615 - q) = 0))) ∧ w = w' := by
  have HO := u64_andNot_nat p q hp hq
  generalize p &&& (18446744073709551615 - q) = n at *
  obtain ⟨b, hb⟩ : ∃ b, ((n : Int) == 0) = b := ⟨_, rfl⟩
  have HB : Hid (b = decide (n = 0)) := by
    unfold Hid
    rw [← hb, Bool.eq_iff_iff, beq_iff_eq, decide_eq_true_iff]
    omega
  go_enter Tryd.func73, Tryd.ntmps73
  go_wp2_with fail
  go_ret
  exact ⟨by rw [← HB.out]; rfl, rfl⟩

/-- all entries of a rectangle are in a set of entries, each told by its bytes -/
theorem sub_byte (a b : Nat) (ha : a < 256) (hb : b < 256) : a &&& (255 - b) = 0 ↔ ∀ y, a.testBit y = true → b.testBit y = true := by
  have h255 : ∀ y, (255 - b).testBit y = (decide (y < 8) && !b.testBit y) := fun y => by
    have := Nat.testBit_two_pow_sub_succ (x := b) (n := 8) hb y
    rwa [show 2 ^ 8 - (b + 1) = 255 - b by omega] at this
  constructor
  · intro h y hy
    have h2 : (a &&& (255 - b)).testBit y = false := by rw [h]; simp
    rw [Nat.testBit_and, hy, Bool.true_and, h255] at h2
    have h8 : y < 8 := by
      rcases Nat.lt_or_ge y 8 with h8 | h8
      · exact h8
      · rw [bit_high a y ha h8] at hy; cases hy
    simpa [h8] using h2
  · intro h
    apply Nat.eq_of_testBit_eq
    intro y
    rw [Nat.testBit_and, h255, Nat.zero_testBit]
    cases hy : a.testBit y with
    | false => rfl
    | true => simp [h y hy]
theorem part_pat (f g : Nat → Nat) (hf : ∀ x, f x < 256) (hg : ∀ x, g x < 256) : pat f 8 &&& (18446744073709551615 - pat g 8) = 0 ↔ ∀ x, x < 8 → ∀ y, (f x).testBit y = true → (g x).testBit y = true := by
  have hn := pat_not 8 g hg
  rw [show 18446744073709551615 - pat g 8 = 256 ^ 8 - 1 - pat g 8 from rfl, hn, pat_and 8 f _ hf (fun x => by have := hg x; omega), pat_zero]
  constructor
  · intro h x hx
    exact (sub_byte _ _ (hf x) (hg x)).1 (h x hx)
  · intro h x hx
    exact (sub_byte _ _ (hf x) (hg x)).2 (h x hx)
/-- all entries of the rectangle are among those for which P holds -/
def allP (P : Nat → Nat → Bool) (R C RS CS : Nat) : Prop := ∀ x y, RS.testBit x = true → CS.testBit y = true → (x < R ∧ y < C) ∧ P x y = true
theorem plain_pat (P : Nat → Nat → Bool) (R C RS CS : Nat) (hR : R ≤ 8) (hC : C ≤ 8) (hRS : RS < 256) (hCS : CS < 256) :
    pat (rectB RS CS) 8 &&& (18446744073709551615 - pat (onB P R C) 8) = 0 ↔ allP P R C RS CS := by
  rw [part_pat _ _ (rectB_lt RS CS hCS) (onB_lt P R C hC)]
  unfold allP rectB onB
  constructor
  · intro h x y hx hy
    have hx8 : x < 8 := by
      rcases Nat.lt_or_ge x 8 with h8 | h8
      · exact h8
      · rw [bit_high RS x hRS h8] at hx; cases hx
    have := h x hx8 y (by rw [if_pos hx]; exact hy)
    split at this
    · rename_i hxr
      rw [setB_bit, Bool.and_eq_true, decide_eq_true_eq] at this
      exact ⟨⟨hxr, this.1⟩, this.2⟩
    · simp at this
  · intro h x hx y hy
    by_cases hr : RS.testBit x = true
    · rw [if_pos hr] at hy
      have := h x y hr hy
      rw [if_pos this.1.1, setB_bit, this.2, Bool.and_true, decide_eq_true_eq]
      exact this.1.2
    · rw [if_neg hr] at hy
      simp at hy

/-- a contract that leaves the world says that it leaves what lay -/
theorem below_same {P : Program} {f : FuncId} {args : Array Value} {v : Value} (h : ∀ w, Calls P f args w fun e w' => e = .returned v ∧ w = w') (w : World) : Calls P f args w fun e w' => e = .returned v ∧ Below w.heap.size w w' :=
  (h w).mono fun e w' ⟨he, hw⟩ => ⟨he, by subst hw; exact Below.refl _ _⟩

set_option maxHeartbeats 1000000 in
set_option maxRecDepth 100000 in
theorem plain0 (R C : Int) (z o : Nat) (hz : z < 18446744073709551616) (ho : o < 18446744073709551616) (r c : Nat) (hr : r < 256) (hc : c < 256) (w : World) :
    Calls Tryd.prog 109 #[brd R C z o, rect r c, .int .i64 0] w fun e w' => e = .returned (.bool (decide (pat (rectB r c) 8 &&& (18446744073709551615 - z) = 0))) ∧ Below w.heap.size w w' := by
  have HP := Lib.hid (patch_any r c hr hc)
  have HQ := Lib.hid (part_any (pat (rectB r c) 8) z (pat64 _ (rectB_lt r c hc)) hz)
  generalize decide (pat (rectB r c) 8 &&& (18446744073709551615 - z) = 0) = t at *
  generalize pat (rectB r c) 8 = p at *
  go_enter Tryd.func109, Tryd.ntmps109
  go_wp2_with fail
  obtain ⟨e0, e1, hb0⟩ := two_box (w := w) (a := .cells #[.int .i64 R, .int .i64 C, .int .u64 (z : Int), .int .u64 (o : Int)] 111) (b := .cells #[.int .i64 (r : Int), .int .i64 (c : Int)] 60)
  generalize (w.alloc (.cells #[.int .i64 R, .int .i64 C, .int .u64 (z : Int), .int .u64 (o : Int)] 111)).alloc (.cells #[.int .i64 (r : Int), .int .i64 (c : Int)] 60) = W0 at *
  have BH : Hid (BHolds W0 w.heap.size R C z o) := e0
  have RH : Hid (RHolds W0 (w.heap.size + 1) r c) := e1
  have HB0 := Lib.hid hb0
  clear e0 e1 hb0
  refine wp_region_below (fun | 0 => rect (r : Int) (c : Int) | 1 => .int .u64 (p : Int) | 2 => .int .i64 0 | 3 => .pointer (some ⟨w.heap.size, 2, none⟩) | 4 => .pointer (some ⟨w.heap.size, 2, none⟩) | 5 => .int .u64 (z : Int) | 6 => .bool t | 7 => .bool t | _ => undef) (by kernel_rfl) (by kernel_rfl) rfl ?con ?en
  case con =>
    intro i o ho a w2 hb2 hf
    match i, ho with
    | 0, ho =>
      obtain rfl := Option.some.inj ho
      have b4 : a.tmps[4]?.getD undef = .pointer (some ⟨w.heap.size + 1, 0, none⟩) := hf.2 4 (by kernel_rfl)
      exact wp_load_row 60 (.tmp 4) rfl (w.heap.size + 1) (eval_get b4 trivial) 60 _ (0, 0) _ (RH.out.on hb2) Tryd.underlying60 rfl rinfo ⟨rfl, Below.refl _ _⟩
    | 1, ho =>
      obtain rfl := Option.some.inj ho
      have e7 : a.tmps[7]?.getD undef = rect (r : Int) (c : Int) := hf.1 ⟨0, .data⟩ (by simp) rfl _ 7 rfl rfl
      exact wp_enter 69 #[rect (r : Int) (c : Int)] (.int .u64 (p : Int)) _ (by unfold execOp; go_simp) (HP.out w2) (fun w' h => ⟨rfl, h⟩)
    | 2, ho =>
      obtain rfl := Option.some.inj ho
      have b2 : a.tmps[2]?.getD undef = .int .i64 0 := hf.2 2 (by kernel_rfl)
      exact wp_value (.int .i64 0) (by unfold execOp; go_simp) ⟨rfl, Below.refl _ _⟩
    | 3, ho =>
      obtain rfl := Option.some.inj ho
      have b3 : a.tmps[3]?.getD undef = .pointer (some ⟨w.heap.size, 0, none⟩) := hf.2 3 (by kernel_rfl)
      exact wp_value (.pointer (some ⟨w.heap.size, 2, none⟩)) (by unfold execOp; go_simp) ⟨rfl, Below.refl _ _⟩
    | 4, ho =>
      obtain rfl := Option.some.inj ho
      have e10 : a.tmps[10]?.getD undef = .pointer (some ⟨w.heap.size, 2, none⟩) := hf.1 ⟨3, .data⟩ (by simp) rfl _ 10 rfl rfl
      have e9 : a.tmps[9]?.getD undef = .int .i64 0 := hf.1 ⟨2, .data⟩ (by simp) rfl _ 9 rfl rfl
      exact wp_value (.pointer (some ⟨w.heap.size, 2, none⟩)) (by unfold execOp; go_simp) ⟨rfl, Below.refl _ _⟩
    | 5, ho =>
      obtain rfl := Option.some.inj ho
      have e11 : a.tmps[11]?.getD undef = .pointer (some ⟨w.heap.size, 2, none⟩) := hf.1 ⟨4, .data⟩ (by simp) rfl _ 11 rfl rfl
      obtain ⟨q0, q1, q2, q3⟩ := bh_c (bh_on BH.out hb2)
      exact wp_value (.int .u64 (z : Int)) (by unfold execOp; go_simp) ⟨rfl, Below.refl _ _⟩
    | 6, ho =>
      obtain rfl := Option.some.inj ho
      have e8 : a.tmps[8]?.getD undef = .int .u64 (p : Int) := hf.1 ⟨1, .data⟩ (by simp) rfl _ 8 rfl rfl
      have e12 : a.tmps[12]?.getD undef = .int .u64 (z : Int) := hf.1 ⟨5, .data⟩ (by simp) rfl _ 12 rfl rfl
      exact wp_enter 73 #[.int .u64 (p : Int), .int .u64 (z : Int)] (.bool t) _ (by unfold execOp; go_simp) (below_same HQ.out w2) (fun w' h => ⟨rfl, h⟩)
    | 7, ho =>
      obtain rfl := Option.some.inj ho
      have e13 : a.tmps[13]?.getD undef = .bool t := hf.1 ⟨6, .data⟩ (by simp) rfl _ 13 rfl rfl
      exact wp_value (.bool t) (by unfold execOp; go_simp) ⟨rfl, Below.refl _ _⟩
    | q + 8, ho => simp at ho
  case en =>
    intro w2 hb2
    have HB2 := Lib.hid (rstep HB0.out hb2)
    clear hb2
    simp only [fill, Act.put]
    go_simp
    go_wp2_with fail
    go_ret
    exact ⟨rfl, HB2.out⟩

set_option maxHeartbeats 1000000 in
set_option maxRecDepth 100000 in
theorem plain1 (R C : Int) (z o : Nat) (hz : z < 18446744073709551616) (ho : o < 18446744073709551616) (r c : Nat) (hr : r < 256) (hc : c < 256) (w : World) :
    Calls Tryd.prog 109 #[brd R C z o, rect r c, .int .i64 1] w fun e w' => e = .returned (.bool (decide (pat (rectB r c) 8 &&& (18446744073709551615 - o) = 0))) ∧ Below w.heap.size w w' := by
  have HP := Lib.hid (patch_any r c hr hc)
  have HQ := Lib.hid (part_any (pat (rectB r c) 8) o (pat64 _ (rectB_lt r c hc)) ho)
  generalize decide (pat (rectB r c) 8 &&& (18446744073709551615 - o) = 0) = t at *
  generalize pat (rectB r c) 8 = p at *
  go_enter Tryd.func109, Tryd.ntmps109
  go_wp2_with fail
  obtain ⟨e0, e1, hb0⟩ := two_box (w := w) (a := .cells #[.int .i64 R, .int .i64 C, .int .u64 (z : Int), .int .u64 (o : Int)] 111) (b := .cells #[.int .i64 (r : Int), .int .i64 (c : Int)] 60)
  generalize (w.alloc (.cells #[.int .i64 R, .int .i64 C, .int .u64 (z : Int), .int .u64 (o : Int)] 111)).alloc (.cells #[.int .i64 (r : Int), .int .i64 (c : Int)] 60) = W0 at *
  have BH : Hid (BHolds W0 w.heap.size R C z o) := e0
  have RH : Hid (RHolds W0 (w.heap.size + 1) r c) := e1
  have HB0 := Lib.hid hb0
  clear e0 e1 hb0
  refine wp_region_below (fun | 0 => rect (r : Int) (c : Int) | 1 => .int .u64 (p : Int) | 2 => .int .i64 1 | 3 => .pointer (some ⟨w.heap.size, 2, none⟩) | 4 => .pointer (some ⟨w.heap.size, 3, none⟩) | 5 => .int .u64 (o : Int) | 6 => .bool t | 7 => .bool t | _ => undef) (by kernel_rfl) (by kernel_rfl) rfl ?con ?en
  case con =>
    intro i o ho a w2 hb2 hf
    match i, ho with
    | 0, ho =>
      obtain rfl := Option.some.inj ho
      have b4 : a.tmps[4]?.getD undef = .pointer (some ⟨w.heap.size + 1, 0, none⟩) := hf.2 4 (by kernel_rfl)
      exact wp_load_row 60 (.tmp 4) rfl (w.heap.size + 1) (eval_get b4 trivial) 60 _ (0, 0) _ (RH.out.on hb2) Tryd.underlying60 rfl rinfo ⟨rfl, Below.refl _ _⟩
    | 1, ho =>
      obtain rfl := Option.some.inj ho
      have e7 : a.tmps[7]?.getD undef = rect (r : Int) (c : Int) := hf.1 ⟨0, .data⟩ (by simp) rfl _ 7 rfl rfl
      exact wp_enter 69 #[rect (r : Int) (c : Int)] (.int .u64 (p : Int)) _ (by unfold execOp; go_simp) (HP.out w2) (fun w' h => ⟨rfl, h⟩)
    | 2, ho =>
      obtain rfl := Option.some.inj ho
      have b2 : a.tmps[2]?.getD undef = .int .i64 1 := hf.2 2 (by kernel_rfl)
      exact wp_value (.int .i64 1) (by unfold execOp; go_simp) ⟨rfl, Below.refl _ _⟩
    | 3, ho =>
      obtain rfl := Option.some.inj ho
      have b3 : a.tmps[3]?.getD undef = .pointer (some ⟨w.heap.size, 0, none⟩) := hf.2 3 (by kernel_rfl)
      exact wp_value (.pointer (some ⟨w.heap.size, 2, none⟩)) (by unfold execOp; go_simp) ⟨rfl, Below.refl _ _⟩
    | 4, ho =>
      obtain rfl := Option.some.inj ho
      have e10 : a.tmps[10]?.getD undef = .pointer (some ⟨w.heap.size, 2, none⟩) := hf.1 ⟨3, .data⟩ (by simp) rfl _ 10 rfl rfl
      have e9 : a.tmps[9]?.getD undef = .int .i64 1 := hf.1 ⟨2, .data⟩ (by simp) rfl _ 9 rfl rfl
      exact wp_value (.pointer (some ⟨w.heap.size, 3, none⟩)) (by unfold execOp; go_simp) ⟨rfl, Below.refl _ _⟩
    | 5, ho =>
      obtain rfl := Option.some.inj ho
      have e11 : a.tmps[11]?.getD undef = .pointer (some ⟨w.heap.size, 3, none⟩) := hf.1 ⟨4, .data⟩ (by simp) rfl _ 11 rfl rfl
      obtain ⟨q0, q1, q2, q3⟩ := bh_c (bh_on BH.out hb2)
      exact wp_value (.int .u64 (o : Int)) (by unfold execOp; go_simp) ⟨rfl, Below.refl _ _⟩
    | 6, ho =>
      obtain rfl := Option.some.inj ho
      have e8 : a.tmps[8]?.getD undef = .int .u64 (p : Int) := hf.1 ⟨1, .data⟩ (by simp) rfl _ 8 rfl rfl
      have e12 : a.tmps[12]?.getD undef = .int .u64 (o : Int) := hf.1 ⟨5, .data⟩ (by simp) rfl _ 12 rfl rfl
      exact wp_enter 73 #[.int .u64 (p : Int), .int .u64 (o : Int)] (.bool t) _ (by unfold execOp; go_simp) (below_same HQ.out w2) (fun w' h => ⟨rfl, h⟩)
    | 7, ho =>
      obtain rfl := Option.some.inj ho
      have e13 : a.tmps[13]?.getD undef = .bool t := hf.1 ⟨6, .data⟩ (by simp) rfl _ 13 rfl rfl
      exact wp_value (.bool t) (by unfold execOp; go_simp) ⟨rfl, Below.refl _ _⟩
    | q + 8, ho => simp at ho
  case en =>
    intro w2 hb2
    have HB2 := Lib.hid (rstep HB0.out hb2)
    clear hb2
    simp only [fill, Act.put]
    go_simp
    go_wp2_with fail
    go_ret
    exact ⟨rfl, HB2.out⟩
end Go.Proofs.YtgfhahlkffagaaaDoor.BoardM
