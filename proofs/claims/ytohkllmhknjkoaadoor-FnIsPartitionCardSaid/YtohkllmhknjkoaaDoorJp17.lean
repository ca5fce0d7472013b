/-
  Texts of one seat, joined: BoardM, RValid, Area.
-/
import Derived.Test.YtohkllmhknjkoaaDoorJp1
import Derived.Test.YtohkllmhknjkoaaDoorJp16
import Derived.WalkSmall
/-
  Contracts of the board's methods.
-/
namespace Go.Proofs.YtohkllmhknjkoaaDoor.BoardM
open Go.RowKit Go.Proofs.YtohkllmhknjkoaaDoor.Plain Go.Proofs.YtohkllmhknjkoaaDoor.Base Go.Proofs.YtohkllmhknjkoaaDoor.Law Go.Proofs.YtohkllmhknjkoaaDoor.Pat Go.Proofs.YtohkllmhknjkoaaDoor.Rect Go.Proofs.YtohkllmhknjkoaaDoor.Patch Go.Proofs.YtohkllmhknjkoaaDoor.FreeL Go.Proofs.YtohkllmhknjkoaaDoor.Board
open Go.Proofs.YtohkllmhknjkoaaDoor.Free (fill wp_value wp_enter wp_load_row freeB)
set_option linter.unusedVariables false

theorem rinfo : (Tryd.prog.info? 39).map (·.size) = some 2 := by kernel_rfl
/-- block b holds a rectangle -/
def RHolds (w : World) (b : Nat) (r c : Int) : Prop := w.heap[b]? = some (.cells #[.int .i64 r, .int .i64 c] 39 (0, 0))
theorem RHolds.on {w w1 : World} {b : Nat} {r c : Int} (h : RHolds w b r c) (hb : Below w.heap.size w w1) : RHolds w1 b r c := (hb.block b (Array.getElem?_eq_some_iff.1 h).1).trans h
theorem bh_on {w w1 : World} {b : Nat} {r c : Int} {z o : Nat} (h : BHolds w b r c z o) (hb : Below w.heap.size w w1) : BHolds w1 b r c z o := (hb.block b (Array.getElem?_eq_some_iff.1 h).1).trans h
theorem bh_c {w : World} {b : Nat} {r c : Int} {z o : Nat} (h : BHolds w b r c z o) : w.cell? ⟨b, 0, none⟩ = some (.int .i64 r) ∧ w.cell? ⟨b, 1, none⟩ = some (.int .i64 c) ∧ w.cell? ⟨b, 2, none⟩ = some (.int .u64 (z : Int)) ∧ w.cell? ⟨b, 3, none⟩ = some (.int .u64 (o : Int)) :=
  ⟨cell_of_row _ _ 0 _ _ _ h, cell_of_row _ _ 1 _ _ _ h, cell_of_row _ _ 2 _ _ _ h, cell_of_row _ _ 3 _ _ _ h⟩

/-- when a rectangle is one of so many rows and columns -/
def rvB (R C : Nat) (r c : Int) : Bool := decide (1 ≤ r ∧ r ≤ 2 ^ R - 1) && decide (1 ≤ c ∧ c ≤ 2 ^ C - 1)
/-- two boxes -/
theorem two_box {w : World} {a b : Obj} : ((w.alloc a).alloc b).heap[w.heap.size]? = some a ∧ ((w.alloc a).alloc b).heap[w.heap.size + 1]? = some b ∧ Below w.heap.size w ((w.alloc a).alloc b) :=
  ⟨(Below.heap_alloc _ _ _ (by simp)).trans (heap_alloc_new w _), (by have := heap_alloc_new (w.alloc a) b; rwa [World.size_alloc] at this), ((Below.refl w.heap.size w).alloc (Nat.le_refl _) _).alloc (by simp) _⟩

set_option maxHeartbeats 1000000 in
theorem hasRect_any (R C : Nat) (hR : R ≤ 8) (hC : C ≤ 8) (z o : Nat) (r c : Int) (w : World) :
    Calls Tryd.prog 81 #[brd R C z o, rect r c] w fun e w' => e = .returned (.bool (rvB R C r c)) ∧ Below w.heap.size w w' := by
  unfold rvB
  have HV := Lib.hid (fun W => valid_any r R hR W)
  have HW := Lib.hid (fun W => valid_any c C hC W)
  generalize decide (1 ≤ r ∧ r ≤ 2 ^ R - 1) = b1 at *
  generalize decide (1 ≤ c ∧ c ≤ 2 ^ C - 1) = b2 at *
  cases b1
  · go_enter Tryd.func81, Tryd.ntmps81
    go_wp2_with fail
    refine (HV.out _).mono ?_
    rintro e w' ⟨rfl, rfl⟩
    go_wp2_with fail
    go_ret
    exact ⟨rfl, by go_grown⟩
  · go_enter Tryd.func81, Tryd.ntmps81
    go_wp2_with fail
    refine (HV.out _).mono ?_
    rintro e w' ⟨rfl, rfl⟩
    go_wp2_with fail
    refine (HW.out _).mono ?_
    rintro e w' ⟨rfl, rfl⟩
    go_wp2_with fail
    go_ret
    exact ⟨rfl, by go_grown⟩

set_option maxHeartbeats 1000000 in
theorem part_any (p q : Nat) (hp : p < 18446744073709551616) (hq : q < 18446744073709551616) (w : World) :
    Calls Tryd.prog 128 #[.int .u64 (p : Int), .int .u64 (q : Int)] w fun e w' => e = .returned (.bool (decide (p &&& (18446744073709551615 - q) = 0))) ∧ w = w' := by
  have HO := u64_andNot_nat p q hp hq
  generalize p &&& (18446744073709551615 - q) = n at *
  obtain ⟨b, hb⟩ : ∃ b, ((n : Int) == 0) = b := ⟨_, rfl⟩
  have HB : Hid (b = decide (n = 0)) := by
    unfold Hid
    rw [← hb, Bool.eq_iff_iff, beq_iff_eq, decide_eq_true_iff]
    omega
  go_enter Tryd.func128, Tryd.ntmps128
  go_wp2_with fail
  go_ret
  exact ⟨by rw [← HB.out]; rfl, rfl⟩

/-- all entries of a rectangle are in a set of entries, each told by its bytes -/
theorem sub_byte (a b : Nat) (ha : a < 256) (hb : b < 256) : a &&& (255 - b) = 0 ↔ ∀ y, a.testBit y = true → b.testBit y = true := by
  have h255 : ∀ y, (255 - b).testBit y = (decide (y < 8) && !b.testBit y) := fun y => by
    have := Nat.testBit_two_pow_sub_succ (x := b) (n := 8) hb y
    rwa [show 2 ^ 8 - (b + 1) = 255 - b by omega] at this
  constructor
  · intro h y hy
    have h2 : (a &&& (255 - b)).testBit y = false := by rw [h]; simp
    rw [Nat.testBit_and, hy, Bool.true_and, h255] at h2
    have h8 : y < 8 := by
      rcases Nat.lt_or_ge y 8 with h8 | h8
      · exact h8
      · rw [bit_high a y ha h8] at hy; cases hy
    simpa [h8] using h2
  · intro h
    apply Nat.eq_of_testBit_eq
    intro y
    rw [Nat.testBit_and, h255, Nat.zero_testBit]
    cases hy : a.testBit y with
    | false => rfl
    | true => simp [h y hy]
theorem part_pat (f g : Nat → Nat) (hf : ∀ x, f x < 256) (hg : ∀ x, g x < 256) : pat f 8 &&& (18446744073709551615 - pat g 8) = 0 ↔ ∀ x, x < 8 → ∀ y, (f x).testBit y = true → (g x).testBit y = true := by
  have hn := pat_not 8 g hg
  rw [show 18446744073709551615 - pat g 8 = 256 ^ 8 - 1 - pat g 8 from rfl, hn, pat_and 8 f _ hf (fun x => by have := hg x; omega), pat_zero]
  constructor
  · intro h x hx
    exact (sub_byte _ _ (hf x) (hg x)).1 (h x hx)
  · intro h x hx
    exact (sub_byte _ _ (hf x) (hg x)).2 (h x hx)
/-- all entries of the rectangle are among those for which P holds -/
def allP (P : Nat → Nat → Bool) (R C RS CS : Nat) : Prop := ∀ x y, RS.testBit x = true → CS.testBit y = true → (x < R ∧ y < C) ∧ P x y = true
theorem plain_pat (P : Nat → Nat → Bool) (R C RS CS : Nat) (hR : R ≤ 8) (hC : C ≤ 8) (hRS : RS < 256) (hCS : CS < 256) :
    pat (rectB RS CS) 8 &&& (18446744073709551615 - pat (onB P R C) 8) = 0 ↔ allP P R C RS CS := by
  rw [part_pat _ _ (rectB_lt RS CS hCS) (onB_lt P R C hC)]
  unfold allP rectB onB
  constructor
  · intro h x y hx hy
    have hx8 : x < 8 := by
      rcases Nat.lt_or_ge x 8 with h8 | h8
      · exact h8
      · rw [bit_high RS x hRS h8] at hx; cases hx
    have := h x hx8 y (by rw [if_pos hx]; exact hy)
    split at this
    · rename_i hxr
      rw [setB_bit, Bool.and_eq_true, decide_eq_true_eq] at this
      exact ⟨⟨hxr, this.1⟩, this.2⟩
    · simp at this
  · intro h x hx y hy
    by_cases hr : RS.testBit x = true
    · rw [if_pos hr] at hy
      have := h x y hr hy
      rw [if_pos this.1.1, setB_bit, this.2, Bool.and_true, decide_eq_true_eq]
      exact this.1.2
    · rw [if_neg hr] at hy
      simp at hy

/-- a contract that leaves the world says that it leaves what lay -/
theorem below_same {P : Program} {f : FuncId} {args : Array Value} {v : Value} (h : ∀ w, Calls P f args w fun e w' => e = .returned v ∧ w = w') (w : World) : Calls P f args w fun e w' => e = .returned v ∧ Below w.heap.size w w' :=
  (h w).mono fun e w' ⟨he, hw⟩ => ⟨he, by subst hw; exact Below.refl _ _⟩

set_option maxHeartbeats 1000000 in
set_option maxRecDepth 100000 in
theorem plain0 (R C : Int) (z o : Nat) (hz : z < 18446744073709551616) (ho : o < 18446744073709551616) (r c : Nat) (hr : r < 256) (hc : c < 256) (w : World) :
    Calls Tryd.prog 87 #[brd R C z o, rect r c, .int .i64 0] w fun e w' => e = .returned (.bool (decide (pat (rectB r c) 8 &&& (18446744073709551615 - z) = 0))) ∧ Below w.heap.size w w' := by
  have HP := Lib.hid (patch_any r c hr hc)
  have HQ := Lib.hid (part_any (pat (rectB r c) 8) z (pat64 _ (rectB_lt r c hc)) hz)
  generalize decide (pat (rectB r c) 8 &&& (18446744073709551615 - z) = 0) = t at *
  generalize pat (rectB r c) 8 = p at *
  go_enter Tryd.func87, Tryd.ntmps87
  go_wp2_with fail
  obtain ⟨e0, e1, hb0⟩ := two_box (w := w) (a := .cells #[.int .i64 R, .int .i64 C, .int .u64 (z : Int), .int .u64 (o : Int)] 81) (b := .cells #[.int .i64 (r : Int), .int .i64 (c : Int)] 39)
  generalize (w.alloc (.cells #[.int .i64 R, .int .i64 C, .int .u64 (z : Int), .int .u64 (o : Int)] 81)).alloc (.cells #[.int .i64 (r : Int), .int .i64 (c : Int)] 39) = W0 at *
  have BH : Hid (BHolds W0 w.heap.size R C z o) := e0
  have RH : Hid (RHolds W0 (w.heap.size + 1) r c) := e1
  have HB0 := Lib.hid hb0
  clear e0 e1 hb0
  refine wp_region_below (fun | 0 => rect (r : Int) (c : Int) | 1 => .int .u64 (p : Int) | 2 => .int .i64 0 | 3 => .pointer (some ⟨w.heap.size, 2, none⟩) | 4 => .pointer (some ⟨w.heap.size, 2, none⟩) | 5 => .int .u64 (z : Int) | 6 => .bool t | 7 => .bool t | _ => undef) (by kernel_rfl) (by kernel_rfl) rfl ?con ?en
  case con =>
    intro i o ho a w2 hb2 hf
    match i, ho with
    | 0, ho =>
      obtain rfl := Option.some.inj ho
      have b4 : a.tmps[4]?.getD undef = .pointer (some ⟨w.heap.size + 1, 0, none⟩) := hf.2 4 (by kernel_rfl)
      exact wp_load_row 39 (.tmp 4) rfl (w.heap.size + 1) (eval_get b4 trivial) 39 _ (0, 0) _ (RH.out.on hb2) Tryd.underlying39 rfl rinfo ⟨rfl, Below.refl _ _⟩
    | 1, ho =>
      obtain rfl := Option.some.inj ho
      have e7 : a.tmps[7]?.getD undef = rect (r : Int) (c : Int) := hf.1 ⟨0, .data⟩ (by simp) rfl _ 7 rfl rfl
      exact wp_enter 67 #[rect (r : Int) (c : Int)] (.int .u64 (p : Int)) _ (by unfold execOp; go_simp) (HP.out w2) (fun w' h => ⟨rfl, h⟩)
    | 2, ho =>
      obtain rfl := Option.some.inj ho
      have b2 : a.tmps[2]?.getD undef = .int .i64 0 := hf.2 2 (by kernel_rfl)
      exact wp_value (.int .i64 0) (by unfold execOp; go_simp) ⟨rfl, Below.refl _ _⟩
    | 3, ho =>
      obtain rfl := Option.some.inj ho
      have b3 : a.tmps[3]?.getD undef = .pointer (some ⟨w.heap.size, 0, none⟩) := hf.2 3 (by kernel_rfl)
      exact wp_value (.pointer (some ⟨w.heap.size, 2, none⟩)) (by unfold execOp; go_simp) ⟨rfl, Below.refl _ _⟩
    | 4, ho =>
      obtain rfl := Option.some.inj ho
      have e10 : a.tmps[10]?.getD undef = .pointer (some ⟨w.heap.size, 2, none⟩) := hf.1 ⟨3, .data⟩ (by simp) rfl _ 10 rfl rfl
      have e9 : a.tmps[9]?.getD undef = .int .i64 0 := hf.1 ⟨2, .data⟩ (by simp) rfl _ 9 rfl rfl
      exact wp_value (.pointer (some ⟨w.heap.size, 2, none⟩)) (by unfold execOp; go_simp) ⟨rfl, Below.refl _ _⟩
    | 5, ho =>
      obtain rfl := Option.some.inj ho
      have e11 : a.tmps[11]?.getD undef = .pointer (some ⟨w.heap.size, 2, none⟩) := hf.1 ⟨4, .data⟩ (by simp) rfl _ 11 rfl rfl
      obtain ⟨q0, q1, q2, q3⟩ := bh_c (bh_on BH.out hb2)
      exact wp_value (.int .u64 (z : Int)) (by unfold execOp; go_simp) ⟨rfl, Below.refl _ _⟩
    | 6, ho =>
      obtain rfl := Option.some.inj ho
      have e8 : a.tmps[8]?.getD undef = .int .u64 (p : Int) := hf.1 ⟨1, .data⟩ (by simp) rfl _ 8 rfl rfl
      have e12 : a.tmps[12]?.getD undef = .int .u64 (z : Int) := hf.1 ⟨5, .data⟩ (by simp) rfl _ 12 rfl rfl
      exact wp_enter 128 #[.int .u64 (p : Int), .int .u64 (z : Int)] (.bool t) _ (by unfold execOp; go_simp) (below_same HQ.out w2) (fun w' h => ⟨rfl, h⟩)
    | 7, ho =>
      obtain rfl := Option.some.inj ho
      have e13 : a.tmps[13]?.getD undef = .bool t := hf.1 ⟨6, .data⟩ (by simp) rfl _ 13 rfl rfl
      exact wp_value (.bool t) (by unfold execOp; go_simp) ⟨rfl, Below.refl _ _⟩
    | q + 8, ho => simp at ho
  case en =>
    intro w2 hb2
    have HB2 := Lib.hid (rstep HB0.out hb2)
    clear hb2
    simp only [fill, Act.put]
    go_simp
    go_wp2_with fail
    go_ret
    exact ⟨rfl, HB2.out⟩

set_option maxHeartbeats 1000000 in
set_option maxRecDepth 100000 in
theorem plain1 (R C : Int) (z o : Nat) (hz : z < 18446744073709551616) (ho : o < 18446744073709551616) (r c : Nat) (hr : r < 256) (hc : c < 256) (w : World) :
    Calls Tryd.prog 87 #[brd R C z o, rect r c, .int .i64 1] w fun e w' => e = .returned (.bool (decide (pat (rectB r c) 8 &&& (18446744073709551615 - o) = 0))) ∧ Below w.heap.size w w' := by
  have HP := Lib.hid (patch_any r c hr hc)
  have HQ := Lib.hid (part_any (pat (rectB r c) 8) o (pat64 _ (rectB_lt r c hc)) ho)
  generalize decide (pat (rectB r c) 8 &&& (18446744073709551615 - o) = 0) = t at *
  generalize pat (rectB r c) 8 = p at *
  go_enter Tryd.func87, Tryd.ntmps87
  go_wp2_with fail
  obtain ⟨e0, e1, hb0⟩ := two_box (w := w) (a := .cells #[.int .i64 R, .int .i64 C, .int .u64 (z : Int), .int .u64 (o : Int)] 81) (b := .cells #[.int .i64 (r : Int), .int .i64 (c : Int)] 39)
  generalize (w.alloc (.cells #[.int .i64 R, .int .i64 C, .int .u64 (z : Int), .int .u64 (o : Int)] 81)).alloc (.cells #[.int .i64 (r : Int), .int .i64 (c : Int)] 39) = W0 at *
  have BH : Hid (BHolds W0 w.heap.size R C z o) := e0
  have RH : Hid (RHolds W0 (w.heap.size + 1) r c) := e1
  have HB0 := Lib.hid hb0
  clear e0 e1 hb0
  refine wp_region_below (fun | 0 => rect (r : Int) (c : Int) | 1 => .int .u64 (p : Int) | 2 => .int .i64 1 | 3 => .pointer (some ⟨w.heap.size, 2, none⟩) | 4 => .pointer (some ⟨w.heap.size, 3, none⟩) | 5 => .int .u64 (o : Int) | 6 => .bool t | 7 => .bool t | _ => undef) (by kernel_rfl) (by kernel_rfl) rfl ?con ?en
  case con =>
    intro i o ho a w2 hb2 hf
    match i, ho with
    | 0, ho =>
      obtain rfl := Option.some.inj ho
      have b4 : a.tmps[4]?.getD undef = .pointer (some ⟨w.heap.size + 1, 0, none⟩) := hf.2 4 (by kernel_rfl)
      exact wp_load_row 39 (.tmp 4) rfl (w.heap.size + 1) (eval_get b4 trivial) 39 _ (0, 0) _ (RH.out.on hb2) Tryd.underlying39 rfl rinfo ⟨rfl, Below.refl _ _⟩
    | 1, ho =>
      obtain rfl := Option.some.inj ho
      have e7 : a.tmps[7]?.getD undef = rect (r : Int) (c : Int) := hf.1 ⟨0, .data⟩ (by simp) rfl _ 7 rfl rfl
      exact wp_enter 67 #[rect (r : Int) (c : Int)] (.int .u64 (p : Int)) _ (by unfold execOp; go_simp) (HP.out w2) (fun w' h => ⟨rfl, h⟩)
    | 2, ho =>
      obtain rfl := Option.some.inj ho
      have b2 : a.tmps[2]?.getD undef = .int .i64 1 := hf.2 2 (by kernel_rfl)
      exact wp_value (.int .i64 1) (by unfold execOp; go_simp) ⟨rfl, Below.refl _ _⟩
    | 3, ho =>
      obtain rfl := Option.some.inj ho
      have b3 : a.tmps[3]?.getD undef = .pointer (some ⟨w.heap.size, 0, none⟩) := hf.2 3 (by kernel_rfl)
      exact wp_value (.pointer (some ⟨w.heap.size, 2, none⟩)) (by unfold execOp; go_simp) ⟨rfl, Below.refl _ _⟩
    | 4, ho =>
      obtain rfl := Option.some.inj ho
      have e10 : a.tmps[10]?.getD undef = .pointer (some ⟨w.heap.size, 2, none⟩) := hf.1 ⟨3, .data⟩ (by simp) rfl _ 10 rfl rfl
      have e9 : a.tmps[9]?.getD undef = .int .i64 1 := hf.1 ⟨2, .data⟩ (by simp) rfl _ 9 rfl rfl
      exact wp_value (.pointer (some ⟨w.heap.size, 3, none⟩)) (by unfold execOp; go_simp) ⟨rfl, Below.refl _ _⟩
    | 5, ho =>
      obtain rfl := Option.some.inj ho
      have e11 : a.tmps[11]?.getD undef = .pointer (some ⟨w.heap.size, 3, none⟩) := hf.1 ⟨4, .data⟩ (by simp) rfl _ 11 rfl rfl
      obtain ⟨q0, q1, q2, q3⟩ := bh_c (bh_on BH.out hb2)
      exact wp_value (.int .u64 (o : Int)) (by unfold execOp; go_simp) ⟨rfl, Below.refl _ _⟩
    | 6, ho =>
      obtain rfl := Option.some.inj ho
      have e8 : a.tmps[8]?.getD undef = .int .u64 (p : Int) := hf.1 ⟨1, .data⟩ (by simp) rfl _ 8 rfl rfl
      have e12 : a.tmps[12]?.getD undef = .int .u64 (o : Int) := hf.1 ⟨5, .data⟩ (by simp) rfl _ 12 rfl rfl
      exact wp_enter 128 #[.int .u64 (p : Int), .int .u64 (o : Int)] (.bool t) _ (by unfold execOp; go_simp) (below_same HQ.out w2) (fun w' h => ⟨rfl, h⟩)
    | 7, ho =>
      obtain rfl := Option.some.inj ho
      have e13 : a.tmps[13]?.getD undef = .bool t := hf.1 ⟨6, .data⟩ (by simp) rfl _ 13 rfl rfl
      exact wp_value (.bool t) (by unfold execOp; go_simp) ⟨rfl, Below.refl _ _⟩
    | q + 8, ho => simp at ho
  case en =>
    intro w2 hb2
    have HB2 := Lib.hid (rstep HB0.out hb2)
    clear hb2
    simp only [fill, Act.put]
    go_simp
    go_wp2_with fail
    go_ret
    exact ⟨rfl, HB2.out⟩
end Go.Proofs.YtohkllmhknjkoaaDoor.BoardM

/-
  Contracts of RectValid, of the reference and of the program.
-/
namespace Go.Proofs.YtohkllmhknjkoaaDoor.RValid
open Go.RowKit Go.Proofs.YtohkllmhknjkoaaDoor.Plain Go.Proofs.YtohkllmhknjkoaaDoor.Base Go.Proofs.YtohkllmhknjkoaaDoor.Valid Go.Proofs.YtohkllmhknjkoaaDoor.Law Go.Proofs.YtohkllmhknjkoaaDoor.GridPlain Go.Proofs.YtohkllmhknjkoaaDoor.Grid Go.Proofs.YtohkllmhknjkoaaDoor.Entry Go.Proofs.YtohkllmhknjkoaaDoor.Pat Go.Proofs.YtohkllmhknjkoaaDoor.Rect Go.Proofs.YtohkllmhknjkoaaDoor.Patch Go.Proofs.YtohkllmhknjkoaaDoor.FreeL Go.Proofs.YtohkllmhknjkoaaDoor.Board Go.Proofs.YtohkllmhknjkoaaDoor.BoardM
open Go.Proofs.YtohkllmhknjkoaaDoor.Free (fill wp_value wp_enter wp_load_row freeB)
set_option linter.unusedVariables false

theorem minfo : (Tryd.prog.info? 26).map (·.size) = some 3 := by kernel_rfl
theorem linfo : (Tryd.prog.info? 23).map (·.size) = some 3 := by kernel_rfl
/-- block b holds a matrix -/
def MHolds (w : World) (b : Nat) (t : TypeId) (r c : Int) (s : ByteArray) : Prop := w.heap[b]? = some (.cells #[.int .i64 r, .int .i64 c, .string s] t (0, 0))
theorem mh_on {w w1 : World} {b : Nat} {t : TypeId} {r c : Int} {s : ByteArray} (h : MHolds w b t r c s) (hb : Below w.heap.size w w1) : MHolds w1 b t r c s := (hb.block b (Array.getElem?_eq_some_iff.1 h).1).trans h
/-- block b holds two numbers -/
def THolds (w : World) (b : Nat) (t : TypeId) (r c : Int) : Prop := w.heap[b]? = some (.cells #[.int .i64 r, .int .i64 c] t (0, 0))
theorem th_on {w w1 : World} {b : Nat} {t : TypeId} {r c : Int} (h : THolds w b t r c) (hb : Below w.heap.size w w1) : THolds w1 b t r c := (hb.block b (Array.getElem?_eq_some_iff.1 h).1).trans h
theorem th_c {w : World} {b : Nat} {t : TypeId} {r c : Int} (h : THolds w b t r c) : w.cell? ⟨b, 0, none⟩ = some (.int .i64 r) ∧ w.cell? ⟨b, 1, none⟩ = some (.int .i64 c) := ⟨cell_of_row _ _ 0 _ _ _ h, cell_of_row _ _ 1 _ _ _ h⟩
theorem mh_c {w : World} {b : Nat} {t : TypeId} {r c : Int} {s : ByteArray} (h : MHolds w b t r c s) : w.cell? ⟨b, 0, none⟩ = some (.int .i64 r) ∧ w.cell? ⟨b, 1, none⟩ = some (.int .i64 c) ∧ w.cell? ⟨b, 2, none⟩ = some (.string s) := ⟨cell_of_row _ _ 0 _ _ _ h, cell_of_row _ _ 1 _ _ _ h, cell_of_row _ _ 2 _ _ _ h⟩

theorem pow8 (R : Nat) (hR : R ≤ 8) : IntKind.i64.wrap (2 ^ R) = ((2 ^ R : Nat) : Int) ∧ 1 ≤ 2 ^ R ∧ 2 ^ R ≤ 256 := by
  have h1 : 2 ^ R ≤ 2 ^ 8 := Nat.pow_le_pow_right (by decide) hR
  have h2 : 0 < 2 ^ R := Nat.two_pow_pos R
  refine ⟨?_, by omega, by omega⟩
  rw [show ((2 : Int) ^ R) = ((2 ^ R : Nat) : Int) by simp]
  obtain ⟨X, hX⟩ : ∃ X, 2 ^ R = X := ⟨_, rfl⟩
  rw [hX] at h1 ⊢
  rw [IntKind.wrap_i64]
  omega

set_option maxHeartbeats 1000000 in
theorem l2Valid_any (R C : Nat) (hR1 : 1 ≤ R) (hR : R ≤ 8) (hC1 : 1 ≤ C) (hC : C ≤ 8) (s : ByteArray) (r c : Int) (w : World) :
    Calls Tryd.prog 151 #[mat R C s, rect r c] w fun e w' => e = .returned (.bool (rvB R C r c)) ∧ Below w.heap.size w w' := by
  obtain ⟨hx, hx1, hx2⟩ := pow8 R hR
  obtain ⟨hy, hy1, hy2⟩ := pow8 C hC
  have ex : ((2 : Int) ^ R) - 1 = ((2 ^ R : Nat) : Int) - 1 := by simp
  have ey : ((2 : Int) ^ C) - 1 = ((2 ^ C : Nat) : Int) - 1 := by simp
  unfold rvB
  rw [ex, ey]
  clear ex ey
  generalize 2 ^ R = X at *
  generalize 2 ^ C = Y at *
  have HV := Lib.hid (fun W => in_any r 1 ((X : Int) - 1) W)
  have HW := Lib.hid (fun W => in_any c 1 ((Y : Int) - 1) W)
  generalize decide (1 ≤ r ∧ r ≤ (X : Int) - 1) = b1 at *
  generalize decide (1 ≤ c ∧ c ≤ (Y : Int) - 1) = b2 at *
  cases b1
  · go_enter Tryd.func151, Tryd.ntmps151
    go_wp2_with fail
    refine (HV.out _).mono ?_
    rintro e w' ⟨rfl, rfl⟩
    go_wp2_with fail
    go_ret
    exact ⟨rfl, by go_grown⟩
  · go_enter Tryd.func151, Tryd.ntmps151
    go_wp2_with fail
    refine (HV.out _).mono ?_
    rintro e w' ⟨rfl, rfl⟩
    go_wp2_with fail
    refine (HW.out _).mono ?_
    rintro e w' ⟨rfl, rfl⟩
    go_wp2_with fail
    go_ret
    exact ⟨rfl, by go_grown⟩

/-- the two boxes of a matrix and a rectangle, behind a call -/
theorem boxes {w w1 : World} {r c x y : Int} {s : ByteArray} {T U : TypeId} (hb : Below ((w.alloc (.cells #[.int .i64 r, .int .i64 c, .string s] T)).alloc (.cells #[.int .i64 x, .int .i64 y] U)).heap.size ((w.alloc (.cells #[.int .i64 r, .int .i64 c, .string s] T)).alloc (.cells #[.int .i64 x, .int .i64 y] U)) w1) :
    MHolds w1 w.heap.size T r c s ∧ THolds w1 (w.heap.size + 1) U x y ∧ Below w.heap.size w w1 := by
  obtain ⟨e0, e1, hb0⟩ := two_box (w := w) (a := .cells #[.int .i64 r, .int .i64 c, .string s] T) (b := .cells #[.int .i64 x, .int .i64 y] U)
  exact ⟨mh_on e0 hb, th_on e1 hb, hb0.trans (hb.mono hb0.size)⟩

set_option maxHeartbeats 1000000 in
theorem spec_rv (R C : Nat) (hR1 : 1 ≤ R) (hR : R ≤ 8) (hC1 : 1 ≤ C) (hC : C ≤ 8) (s : ByteArray) (hs : s.size ≤ maxLen) (hv : validB R C s = true) (r c : Int) (w : World) :
    Calls Tryd.prog 115 #[mat R C s, rect r c] w fun e w' => e = .returned (.bool (rvB R C r c)) ∧ Below w.heap.size w w' := by
  have HV := Lib.hid hv
  have HL := Lib.hid (fun W => l2Valid_any R C hR1 hR hC1 hC s r c W)
  clear hv
  generalize rvB R C r c = b at *
  go_enter Tryd.func115, Tryd.ntmps115
  go_wp2_with fail
  refine (spec_valid _ _ s hs _).mono ?_
  rintro e w1 ⟨rfl, hb1⟩
  rw [HV.out]
  obtain ⟨m0, t0, hbel⟩ := boxes hb1
  obtain ⟨q0, q1, q2⟩ := mh_c m0
  obtain ⟨p0, p1⟩ := th_c t0
  have HB := Lib.hid hbel
  clear hb1 hbel m0 t0
  go_wp2_with fail
  refine (HL.out _).mono ?_
  rintro e w2 ⟨rfl, hb2⟩
  have HB2 := Lib.hid (rstep HB.out hb2)
  clear hb2
  go_wp2_with fail
  go_ret
  exact ⟨rfl, HB2.out⟩
set_option maxHeartbeats 1000000 in
theorem spec_rv_no (rr cc : Int) (s : ByteArray) (hs : s.size ≤ maxLen) (hv : validB rr cc s = false) (r c : Int) (w : World) :
    Calls Tryd.prog 115 #[mat rr cc s, rect r c] w fun e w' => e = .returned (.bool false) ∧ Below w.heap.size w w' := by
  have HV := Lib.hid hv
  clear hv
  go_enter Tryd.func115, Tryd.ntmps115
  go_wp2_with fail
  refine (spec_valid _ _ s hs _).mono ?_
  rintro e w1 ⟨rfl, hb1⟩
  rw [HV.out]
  obtain ⟨m0, t0, hbel⟩ := boxes hb1
  obtain ⟨q0, q1, q2⟩ := mh_c m0
  obtain ⟨p0, p1⟩ := th_c t0
  have HB := Lib.hid hbel
  clear hb1 hbel m0 t0
  go_wp2_with fail
  go_ret
  exact ⟨rfl, HB.out⟩

/-- a board for each matrix: that of a valid one, and the zero board -/
theorem board_yes (R C : Nat) (E : Nat → Nat → Bool) (h1 : 1 ≤ R) (h2 : R ≤ 8) (h3 : 1 ≤ C) (h4 : C ≤ 8) (hs : (str (rowsB E R C)).size ≤ maxLen) (hv : validB R C (str (rowsB E R C)) = true) (W : World) :
    Calls Tryd.prog 64 #[mat R C (str (rowsB E R C))] W fun e w' => e = .returned (brd R C (pat (onB (fun x y => !E x y) R C) 8) (pat (onB E R C) 8)) ∧ Below W.heap.size W w' := by
  have hsz : (str (rowsB E R C)).size ≤ 64 := by rw [str_size, rowsB_length]; exact prod_le h2 h4
  exact board_of R C h2 h4 (gpart E C (R * C)) E (fun x y hx hy => gpart_all E R C x y hx hy h4) _ _ _ (fun W => grid_yes E R C h1 h2 h3 h4 _ rfl hs hsz hv W) W
theorem board_no (rr cc : Int) (s : ByteArray) (hs : s.size ≤ maxLen) (hv : validB rr cc s = false) (W : World) :
    Calls Tryd.prog 64 #[mat rr cc s] W fun e w' => e = .returned (brd ((0 : Nat) : Int) ((0 : Nat) : Int) (pat (onB (fun _ _ => true) 0 0) 8) (pat (onB (fun _ _ => false) 0 0) 8)) ∧ Below W.heap.size W w' :=
  board_of 0 0 (by omega) (by omega) (fun _ => 0) (fun _ _ => false) (fun x y hx _ => absurd hx (by omega)) rr cc s (fun W => grid_no rr cc s hs hv W) W
theorem rvB_zero (r c : Int) : rvB 0 0 r c = false := by
  unfold rvB
  rw [decide_eq_false (by omega)]
  rfl

set_option maxHeartbeats 1000000 in
set_option maxRecDepth 100000 in
theorem impl_rv (R C : Nat) (hR : R ≤ 8) (hC : C ≤ 8) (z o : Nat) (rr cc : Int) (s : ByteArray) (r c : Int)
    (hg : ∀ W : World, Calls Tryd.prog 64 #[mat rr cc s] W fun e w' => e = .returned (brd R C z o) ∧ Below W.heap.size W w') (w : World) :
    Calls Tryd.prog 29 #[mat rr cc s, rect r c] w fun e w' => e = .returned (.bool (rvB R C r c)) ∧ Below w.heap.size w w' := by
  have HG := Lib.hid hg
  have HH := Lib.hid (fun W => hasRect_any R C hR hC z o r c W)
  clear hg
  generalize rvB R C r c = t at *
  go_enter Tryd.func29, Tryd.ntmps29
  go_wp2_with fail
  obtain ⟨e0, e1, hb0⟩ := two_box (w := w) (a := .cells #[.int .i64 rr, .int .i64 cc, .string s] 26) (b := .cells #[.int .i64 r, .int .i64 c] 39)
  generalize (w.alloc (.cells #[.int .i64 rr, .int .i64 cc, .string s] 26)).alloc (.cells #[.int .i64 r, .int .i64 c] 39) = W0 at *
  have MH : Hid (MHolds W0 w.heap.size 26 rr cc s) := e0
  have TH : Hid (THolds W0 (w.heap.size + 1) 39 r c) := e1
  have HB0 := Lib.hid hb0
  clear e0 e1 hb0
  refine wp_region_below (fun | 0 => mat rr cc s | 1 => brd R C z o | 2 => rect r c | 3 => .bool t | 4 => .bool t | _ => undef) (by kernel_rfl) (by kernel_rfl) rfl ?con ?en
  case con =>
    intro i o ho a w2 hb2 hf
    match i, ho with
    | 0, ho =>
      obtain rfl := Option.some.inj ho
      have b2 : a.tmps[2]?.getD undef = .pointer (some ⟨w.heap.size, 0, none⟩) := hf.2 2 (by kernel_rfl)
      exact wp_load_row 26 (.tmp 2) rfl w.heap.size (eval_get b2 trivial) 26 _ (0, 0) _ (mh_on MH.out hb2) Tryd.underlying26 rfl minfo ⟨rfl, Below.refl _ _⟩
    | 1, ho =>
      obtain rfl := Option.some.inj ho
      have e5 : a.tmps[5]?.getD undef = mat rr cc s := hf.1 ⟨0, .data⟩ (by simp) rfl _ 5 rfl rfl
      exact wp_enter 64 #[mat rr cc s] (brd R C z o) _ (by unfold execOp; go_simp) (HG.out w2) (fun w' h => ⟨rfl, h⟩)
    | 2, ho =>
      obtain rfl := Option.some.inj ho
      have b3 : a.tmps[3]?.getD undef = .pointer (some ⟨w.heap.size + 1, 0, none⟩) := hf.2 3 (by kernel_rfl)
      exact wp_load_row 39 (.tmp 3) rfl (w.heap.size + 1) (eval_get b3 trivial) 39 _ (0, 0) _ (th_on TH.out hb2) Tryd.underlying39 rfl rinfo ⟨rfl, Below.refl _ _⟩
    | 3, ho =>
      obtain rfl := Option.some.inj ho
      have e6 : a.tmps[6]?.getD undef = brd R C z o := hf.1 ⟨1, .data⟩ (by simp) rfl _ 6 rfl rfl
      have e7 : a.tmps[7]?.getD undef = rect r c := hf.1 ⟨2, .data⟩ (by simp) rfl _ 7 rfl rfl
      exact wp_enter 81 #[brd R C z o, rect r c] (.bool t) _ (by unfold execOp; go_simp) (HH.out w2) (fun w' h => ⟨rfl, h⟩)
    | 4, ho =>
      obtain rfl := Option.some.inj ho
      have e8 : a.tmps[8]?.getD undef = .bool t := hf.1 ⟨3, .data⟩ (by simp) rfl _ 8 rfl rfl
      exact wp_value (.bool t) (by unfold execOp; go_simp) ⟨rfl, Below.refl _ _⟩
    | q + 5, ho => simp at ho
  case en =>
    intro w2 hb2
    have HB2 := Lib.hid (rstep HB0.out hb2)
    clear hb2
    simp only [fill, Act.put]
    go_simp
    go_wp2_with fail
    go_ret
    exact ⟨rfl, HB2.out⟩
end Go.Proofs.YtohkllmhknjkoaaDoor.RValid

/-
  The reference's AreaOf and l1Ones.
-/
namespace Go.Proofs.YtohkllmhknjkoaaDoor.Area
open Go.RowKit Go.Proofs.YtohkllmhknjkoaaDoor.Plain Go.Proofs.YtohkllmhknjkoaaDoor.Pat Go.Proofs.YtohkllmhknjkoaaDoor.Rect Go.Proofs.YtohkllmhknjkoaaDoor.Patch
set_option linter.unusedVariables false

theorem and_one8 : ∀ m : Nat, m < 256 → Go.bits .and .i64 (m : Int) 1 = ((m % 2 : Nat) : Int) := by
  have h : ∀ k : Fin 256, Go.bits .and .i64 ((k.val : Nat) : Int) 1 = ((k.val % 2 : Nat) : Int) := by decide +kernel
  intro k hk
  exact h ⟨k, hk⟩
theorem pop8_half (a : Nat) (h : a < 256) : pop8 a = a % 2 + pop8 (a / 2) := by
  unfold pop8
  omega

set_option maxHeartbeats 400000 in
theorem ones8 (n : Nat) (hn : n < 256) (w : World) :
    Calls Tryd.prog 127 #[.int .i64 (n : Int)] w fun e w' => e = .returned (.int .i64 (pop8 n : Int)) ∧ w' = w := by
  go_enter Tryd.func127, Tryd.ntmps127
  go_wp2_with fail
  go_loop [0, 3] (fun m k => ∃ (a t : Nat), a < 256 ∧ t ≤ 8 ∧ m = .int .i64 (a : Int) ∧ k = .int .i64 (t : Int) ∧ Hid (pop8 a + t = pop8 n)) (fun m _ => (intOf m).toNat)
  case atStart => exact ⟨n, 0, hn, by omega, rfl, rfl, rfl⟩
  case round =>
    obtain ⟨a, t, ha, ht, rfl, rfl, hs⟩ := hrel
    by_cases h0 : 0 < a
    · have hbit := and_one8 a ha
      have HN : Hid (t + a % 2 ≤ 8 ∧ pop8 (a / 2) + (t + a % 2) = pop8 n) := by
        have ho := hs.out
        have hp := pop8_half a ha
        have hq := pop8_le n
        unfold Hid
        omega
      clear hs
      go_wp2_with fail
      go_round
      case rel => exact ⟨a / 2, t + a % 2, by omega, HN.out.1, by go_num, by go_num, HN.out.2⟩
      case measure => simp [intOf]; omega
    · obtain rfl : a = 0 := by omega
      have HO := Lib.hid (show t = pop8 n by have ho := hs.out; rw [show pop8 0 = 0 from rfl, Nat.zero_add] at ho; exact ho)
      clear hs
      go_wp2_with fail
      go_ret
      exact ⟨by rw [← HO.out]; rfl, rfl⟩

set_option maxHeartbeats 1000000 in
theorem spec_area (R C : Nat) (hR1 : 1 ≤ R) (hR : R < 256) (hC1 : 1 ≤ C) (hC : C < 256) (w : World) :
    Calls Tryd.prog 86 #[rect R C] w fun e w' => e = .returned (.int .i64 ((pop8 R * pop8 C : Nat) : Int)) ∧ Below w.heap.size w w' := by
  have HS := Lib.hid (show someB R C = true by rw [someB_iff]; omega)
  have HM : Hid (wrap64 ((pop8 R : Int) * (pop8 C : Int)) = ((pop8 R * pop8 C : Nat) : Int)) := by
    have h1 := pop8_le R
    have h2 := pop8_le C
    have h3 : pop8 R * pop8 C ≤ 8 * 8 := Nat.mul_le_mul h1 h2
    unfold Hid
    rw [← Int.natCast_mul]
    unfold wrap64
    omega
  go_enter Tryd.func86, Tryd.ntmps86
  go_wp2_with fail
  refine (some_any _ _ _).mono ?_
  rintro e w1 ⟨rfl, hb1⟩
  rw [HS.out]
  obtain ⟨c0, c1, hz, HB⟩ := box2 hb1
  clear hb1
  go_wp2_with fail
  go_quiet ((go_at_call 127; exact Calls.quiet_of_same (ones8 _ (by assumption) _)))
  go_wp2_with fail
  go_ret
  exact ⟨congrArg (fun v => Ending.returned (Value.int .i64 v)) HM.out, below_drewN HB.out _⟩
set_option maxHeartbeats 1000000 in
theorem spec_area_no (r c : Int) (h : someB r c = false) (w : World) :
    Calls Tryd.prog 86 #[rect r c] w fun e w' => e = .returned (.int .i64 (-1)) ∧ Below w.heap.size w w' := by
  have HS := Lib.hid h
  clear h
  go_enter Tryd.func86, Tryd.ntmps86
  go_wp2_with fail
  refine (some_any _ _ _).mono ?_
  rintro e w1 ⟨rfl, hb1⟩
  rw [HS.out]
  obtain ⟨c0, c1, hz, HB⟩ := box2 hb1
  clear hb1
  go_wp2_with fail
  go_ret
  exact ⟨rfl, HB.out⟩
end Go.Proofs.YtohkllmhknjkoaaDoor.Area

