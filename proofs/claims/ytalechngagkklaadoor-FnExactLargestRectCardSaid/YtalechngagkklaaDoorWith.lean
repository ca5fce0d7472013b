/-
  The board's rowsWith and colsWith.
-/
import Derived.Test.YtalechngagkklaaDoorBoardM
import Derived.Test.YtalechngagkklaaDoorWhere
namespace Go.Proofs.YtalechngagkklaaDoor.With
open Go.RowKit Go.Proofs.YtalechngagkklaaDoor.Plain Go.Proofs.YtalechngagkklaaDoor.Base Go.Proofs.YtalechngagkklaaDoor.Law Go.Proofs.YtalechngagkklaaDoor.Pat Go.Proofs.YtalechngagkklaaDoor.Rect Go.Proofs.YtalechngagkklaaDoor.Patch Go.Proofs.YtalechngagkklaaDoor.FreeL Go.Proofs.YtalechngagkklaaDoor.Board Go.Proofs.YtalechngagkklaaDoor.BoardM Go.Proofs.YtalechngagkklaaDoor.Where
open Go.Proofs.YtalechngagkklaaDoor.Free (fill wp_value wp_enter wp_load_row freeB)
set_option linter.unusedVariables false

theorem three_box {w : World} {a b c : Obj} : (((w.alloc a).alloc b).alloc c).heap[w.heap.size]? = some a ∧ (((w.alloc a).alloc b).alloc c).heap[w.heap.size + 1]? = some b ∧ (((w.alloc a).alloc b).alloc c).heap[w.heap.size + 1 + 1]? = some c ∧ Below w.heap.size w (((w.alloc a).alloc b).alloc c) ∧ (((w.alloc a).alloc b).alloc c).heap.size = w.heap.size + 3 := by
  obtain ⟨e0, e1, hb⟩ := two_box (w := w) (a := a) (b := b)
  refine ⟨(Below.heap_alloc _ _ _ (by simp; omega)).trans e0, (Below.heap_alloc _ _ _ (by simp)).trans e1, ?_, hb.alloc hb.size _, by simp⟩
  have := heap_alloc_new ((w.alloc a).alloc b) c
  rwa [World.size_alloc, World.size_alloc] at this

set_option maxHeartbeats 1000000 in
set_option maxRecDepth 100000 in
theorem rows_clos0 (R C : Int) (z o : Nat) (hz : z < 18446744073709551616) (ho : o < 18446744073709551616) (C0 x : Nat) (hC0 : C0 < 256) (hx : x < 8) (b c d : Nat) (w : World) (hb : BHolds w b R C z o)
    (hc : w.cell? ⟨c, 0, none⟩ = some (.int .i64 (C0 : Int))) (hd : w.cell? ⟨d, 0, none⟩ = some (.int .i64 0)) (hcl : c < w.heap.size) (hdl : d < w.heap.size) :
    Calls Tryd.prog 188 #[.int .i64 (x : Int), .pointer (some ⟨b, 0, none⟩), .pointer (some ⟨c, 0, none⟩), .pointer (some ⟨d, 0, none⟩)] w
      fun e w' => e = .returned (.bool (decide (pat (rectB (2 ^ x) C0) 8 &&& (18446744073709551615 - z) = 0))) ∧ Below w.heap.size w w' := by
  have hX8 : 2 ^ x < 256 := Nat.lt_of_lt_of_le (Nat.pow_lt_pow_right (by decide) hx) (by decide)
  have HX : Hid (IntKind.i64.wrap (2 ^ x) = ((2 ^ x : Nat) : Int)) := by unfold Hid; rw [show ((2 : Int) ^ x) = ((2 ^ x : Nat) : Int) by simp]; exact wrap8 _ (by omega)
  have HP := Lib.hid (fun W => plain0 R C z o hz ho (2 ^ x) C0 hX8 hC0 W)
  have BH := Lib.hid hb
  have HC := Lib.hid hc
  have HD := Lib.hid hd
  clear hb hc hd
  generalize decide (pat (rectB (2 ^ x) C0) 8 &&& (18446744073709551615 - z) = 0) = t at *
  generalize 2 ^ x = X at *
  go_enter Tryd.func188, Tryd.ntmps188
  go_wp2_with fail
  refine wp_region_below (fun | 0 => brd R C z o | 1 => .int .i64 (x : Int) | 2 => .int .i64 (X : Int) | 3 => .int .i64 (C0 : Int) | 4 => rect (X : Int) (C0 : Int) | 5 => .int .i64 0 | 6 => .bool t | 7 => .bool t | _ => undef) (by kernel_rfl) (by kernel_rfl) rfl ?con ?en
  case con =>
    intro i o ho a w2 hb2 hf
    match i, ho with
    | 0, ho =>
      obtain rfl := Option.some.inj ho
      have b1 : a.tmps[1]?.getD undef = .pointer (some ⟨b, 0, none⟩) := hf.2 1 (by kernel_rfl)
      exact wp_load_row 77 (.tmp 1) rfl b (eval_get b1 trivial) 77 _ (0, 0) _ (bh_on BH.out hb2) Tryd.underlying77 rfl binfo ⟨rfl, Below.refl _ _⟩
    | 1, ho =>
      obtain rfl := Option.some.inj ho
      have b0 : a.tmps[0]?.getD undef = .int .i64 (x : Int) := hf.2 0 (by kernel_rfl)
      exact wp_value (.int .i64 (x : Int)) (by unfold execOp; go_simp) ⟨rfl, Below.refl _ _⟩
    | 2, ho =>
      obtain rfl := Option.some.inj ho
      have e7 : a.tmps[7]?.getD undef = .int .i64 (x : Int) := hf.1 ⟨1, .data⟩ (by simp) rfl _ 7 rfl rfl
      have hsh := HX.out
      exact wp_value (.int .i64 (X : Int)) (by unfold execOp; go_simp) ⟨rfl, Below.refl _ _⟩
    | 3, ho =>
      obtain rfl := Option.some.inj ho
      have b2 : a.tmps[2]?.getD undef = .pointer (some ⟨c, 0, none⟩) := hf.2 2 (by kernel_rfl)
      have hc1 := (hb2.cell (p := ⟨c, 0, none⟩) hcl).trans HC.out
      exact wp_value (.int .i64 (C0 : Int)) (by unfold execOp; go_simp) ⟨rfl, Below.refl _ _⟩
    | 4, ho =>
      obtain rfl := Option.some.inj ho
      have e8 : a.tmps[8]?.getD undef = .int .i64 (X : Int) := hf.1 ⟨2, .data⟩ (by simp) rfl _ 8 rfl rfl
      have e9 : a.tmps[9]?.getD undef = .int .i64 (C0 : Int) := hf.1 ⟨3, .data⟩ (by simp) rfl _ 9 rfl rfl
      exact wp_value (rect (X : Int) (C0 : Int)) (by unfold execOp; go_simp) ⟨rfl, Below.refl _ _⟩
    | 5, ho =>
      obtain rfl := Option.some.inj ho
      have b3 : a.tmps[3]?.getD undef = .pointer (some ⟨d, 0, none⟩) := hf.2 3 (by kernel_rfl)
      have hc1 := (hb2.cell (p := ⟨d, 0, none⟩) hdl).trans HD.out
      exact wp_value (.int .i64 0) (by unfold execOp; go_simp) ⟨rfl, Below.refl _ _⟩
    | 6, ho =>
      obtain rfl := Option.some.inj ho
      have e6 : a.tmps[6]?.getD undef = brd R C z o := hf.1 ⟨0, .data⟩ (by simp) rfl _ 6 rfl rfl
      have e10 : a.tmps[10]?.getD undef = rect (X : Int) (C0 : Int) := hf.1 ⟨4, .data⟩ (by simp) rfl _ 10 rfl rfl
      have e11 : a.tmps[11]?.getD undef = .int .i64 0 := hf.1 ⟨5, .data⟩ (by simp) rfl _ 11 rfl rfl
      exact wp_enter 61 #[brd R C z o, rect (X : Int) (C0 : Int), .int .i64 0] (.bool t) _ (by unfold execOp; go_simp) (HP.out w2) (fun w' h => ⟨rfl, h⟩)
    | 7, ho =>
      obtain rfl := Option.some.inj ho
      have e12 : a.tmps[12]?.getD undef = .bool t := hf.1 ⟨6, .data⟩ (by simp) rfl _ 12 rfl rfl
      exact wp_value (.bool t) (by unfold execOp; go_simp) ⟨rfl, Below.refl _ _⟩
    | q + 8, ho => simp at ho
  case en =>
    intro w2 hb2
    have HB2 := Lib.hid hb2
    clear hb2
    simp only [fill, Act.put]
    go_simp
    go_wp2_with fail
    go_ret
    exact ⟨rfl, HB2.out⟩
theorem rows_enters0 (args : Array Value) (W : World) : (callFunc 188 args).run Tryd.prog W = .ok (.enter 188 args) W := by kernel_rfl

set_option maxHeartbeats 1000000 in
set_option maxRecDepth 100000 in
theorem rows_with0 (R C : Nat) (hR : R ≤ 8) (hC : C ≤ 8) (z o : Nat) (hz : z < 18446744073709551616) (ho : o < 18446744073709551616) (C0 : Nat) (hC0 : C0 < 256) (w : World) :
    Calls Tryd.prog 169 #[brd R C z o, .int .i64 (C0 : Int), .int .i64 0] w fun e w' => e = .returned (.int .i64 ((setB (fun x => decide (pat (rectB (2 ^ x) C0) 8 &&& (18446744073709551615 - z) = 0)) R : Nat) : Int)) ∧ Below w.heap.size w w' := by
  have eg := rows_enters0
  go_enter Tryd.func169, Tryd.ntmps169
  go_wp2_with fail
  obtain ⟨e0, e1, e2, hb0, hz0⟩ := three_box (w := w) (a := .cells #[.int .i64 (R : Int), .int .i64 (C : Int), .int .u64 (z : Int), .int .u64 (o : Int)] 77) (b := .cells #[.int .i64 (C0 : Int)] 3) (c := .cells #[.int .i64 0] 3)
  generalize ((w.alloc (.cells #[.int .i64 (R : Int), .int .i64 (C : Int), .int .u64 (z : Int), .int .u64 (o : Int)] 77)).alloc (.cells #[.int .i64 (C0 : Int)] 3)).alloc (.cells #[.int .i64 0] 3) = W0 at *
  have BH : BHolds W0 w.heap.size R C z o := e0
  obtain ⟨q0, q1, q2, q3⟩ := bh_c BH
  have k1 : W0.cell? ⟨w.heap.size + 1, 0, none⟩ = some (.int .i64 (C0 : Int)) := cell_of_row _ _ 0 _ _ _ e1
  have k2 : W0.cell? ⟨w.heap.size + 1 + 1, 0, none⟩ = some (.int .i64 0) := cell_of_row _ _ 0 _ _ _ e2
  have HT : Hid (Says 188 #[.pointer (some ⟨w.heap.size, 0, none⟩), .pointer (some ⟨w.heap.size + 1, 0, none⟩), .pointer (some ⟨w.heap.size + 1 + 1, 0, none⟩)] R (fun x => decide (pat (rectB (2 ^ x) C0) 8 &&& (18446744073709551615 - z) = 0)) W0) :=
    fun W x hx hb => rows_clos0 R C z o hz ho C0 x hC0 (by omega) w.heap.size (w.heap.size + 1) (w.heap.size + 1 + 1) W (bh_on BH hb) ((hb.cell (p := ⟨w.heap.size + 1, 0, none⟩) (by show w.heap.size + 1 < _; omega)).trans k1) ((hb.cell (p := ⟨w.heap.size + 1 + 1, 0, none⟩) (by show w.heap.size + 1 + 1 < _; omega)).trans k2) (by have := hb.size; omega) (by have := hb.size; omega)
  have HW := Lib.hid (where_any 188 #[.pointer (some ⟨w.heap.size, 0, none⟩), .pointer (some ⟨w.heap.size + 1, 0, none⟩), .pointer (some ⟨w.heap.size + 1 + 1, 0, none⟩)] R hR _ W0 eg HT)
  have HB0 := Lib.hid hb0
  clear e0 e1 e2 BH hb0 k1 k2 HT
  obtain ⟨r, hr⟩ : ∃ r, setB (fun x => decide (pat (rectB (2 ^ x) C0) 8 &&& (18446744073709551615 - z) = 0)) R = r := ⟨_, rfl⟩
  rw [hr] at HW
  have HR := Lib.hid hr
  clear hr
  go_wp2_with fail
  refine HW.out.mono ?_
  rintro e w2 ⟨rfl, hb2⟩
  have HB2 := Lib.hid (rstep HB0.out hb2)
  clear hb2
  go_wp2_with fail
  go_ret
  exact ⟨by rw [HR.out]; rfl, HB2.out⟩

set_option maxHeartbeats 1000000 in
set_option maxRecDepth 100000 in
theorem rows_clos1 (R C : Int) (z o : Nat) (hz : z < 18446744073709551616) (ho : o < 18446744073709551616) (C0 x : Nat) (hC0 : C0 < 256) (hx : x < 8) (b c d : Nat) (w : World) (hb : BHolds w b R C z o)
    (hc : w.cell? ⟨c, 0, none⟩ = some (.int .i64 (C0 : Int))) (hd : w.cell? ⟨d, 0, none⟩ = some (.int .i64 1)) (hcl : c < w.heap.size) (hdl : d < w.heap.size) :
    Calls Tryd.prog 188 #[.int .i64 (x : Int), .pointer (some ⟨b, 0, none⟩), .pointer (some ⟨c, 0, none⟩), .pointer (some ⟨d, 0, none⟩)] w
      fun e w' => e = .returned (.bool (decide (pat (rectB (2 ^ x) C0) 8 &&& (18446744073709551615 - o) = 0))) ∧ Below w.heap.size w w' := by
  have hX8 : 2 ^ x < 256 := Nat.lt_of_lt_of_le (Nat.pow_lt_pow_right (by decide) hx) (by decide)
  have HX : Hid (IntKind.i64.wrap (2 ^ x) = ((2 ^ x : Nat) : Int)) := by unfold Hid; rw [show ((2 : Int) ^ x) = ((2 ^ x : Nat) : Int) by simp]; exact wrap8 _ (by omega)
  have HP := Lib.hid (fun W => plain1 R C z o hz ho (2 ^ x) C0 hX8 hC0 W)
  have BH := Lib.hid hb
  have HC := Lib.hid hc
  have HD := Lib.hid hd
  clear hb hc hd
  generalize decide (pat (rectB (2 ^ x) C0) 8 &&& (18446744073709551615 - o) = 0) = t at *
  generalize 2 ^ x = X at *
  go_enter Tryd.func188, Tryd.ntmps188
  go_wp2_with fail
  refine wp_region_below (fun | 0 => brd R C z o | 1 => .int .i64 (x : Int) | 2 => .int .i64 (X : Int) | 3 => .int .i64 (C0 : Int) | 4 => rect (X : Int) (C0 : Int) | 5 => .int .i64 1 | 6 => .bool t | 7 => .bool t | _ => undef) (by kernel_rfl) (by kernel_rfl) rfl ?con ?en
  case con =>
    intro i o ho a w2 hb2 hf
    match i, ho with
    | 0, ho =>
      obtain rfl := Option.some.inj ho
      have b1 : a.tmps[1]?.getD undef = .pointer (some ⟨b, 0, none⟩) := hf.2 1 (by kernel_rfl)
      exact wp_load_row 77 (.tmp 1) rfl b (eval_get b1 trivial) 77 _ (0, 0) _ (bh_on BH.out hb2) Tryd.underlying77 rfl binfo ⟨rfl, Below.refl _ _⟩
    | 1, ho =>
      obtain rfl := Option.some.inj ho
      have b0 : a.tmps[0]?.getD undef = .int .i64 (x : Int) := hf.2 0 (by kernel_rfl)
      exact wp_value (.int .i64 (x : Int)) (by unfold execOp; go_simp) ⟨rfl, Below.refl _ _⟩
    | 2, ho =>
      obtain rfl := Option.some.inj ho
      have e7 : a.tmps[7]?.getD undef = .int .i64 (x : Int) := hf.1 ⟨1, .data⟩ (by simp) rfl _ 7 rfl rfl
      have hsh := HX.out
      exact wp_value (.int .i64 (X : Int)) (by unfold execOp; go_simp) ⟨rfl, Below.refl _ _⟩
    | 3, ho =>
      obtain rfl := Option.some.inj ho
      have b2 : a.tmps[2]?.getD undef = .pointer (some ⟨c, 0, none⟩) := hf.2 2 (by kernel_rfl)
      have hc1 := (hb2.cell (p := ⟨c, 0, none⟩) hcl).trans HC.out
      exact wp_value (.int .i64 (C0 : Int)) (by unfold execOp; go_simp) ⟨rfl, Below.refl _ _⟩
    | 4, ho =>
      obtain rfl := Option.some.inj ho
      have e8 : a.tmps[8]?.getD undef = .int .i64 (X : Int) := hf.1 ⟨2, .data⟩ (by simp) rfl _ 8 rfl rfl
      have e9 : a.tmps[9]?.getD undef = .int .i64 (C0 : Int) := hf.1 ⟨3, .data⟩ (by simp) rfl _ 9 rfl rfl
      exact wp_value (rect (X : Int) (C0 : Int)) (by unfold execOp; go_simp) ⟨rfl, Below.refl _ _⟩
    | 5, ho =>
      obtain rfl := Option.some.inj ho
      have b3 : a.tmps[3]?.getD undef = .pointer (some ⟨d, 0, none⟩) := hf.2 3 (by kernel_rfl)
      have hc1 := (hb2.cell (p := ⟨d, 0, none⟩) hdl).trans HD.out
      exact wp_value (.int .i64 1) (by unfold execOp; go_simp) ⟨rfl, Below.refl _ _⟩
    | 6, ho =>
      obtain rfl := Option.some.inj ho
      have e6 : a.tmps[6]?.getD undef = brd R C z o := hf.1 ⟨0, .data⟩ (by simp) rfl _ 6 rfl rfl
      have e10 : a.tmps[10]?.getD undef = rect (X : Int) (C0 : Int) := hf.1 ⟨4, .data⟩ (by simp) rfl _ 10 rfl rfl
      have e11 : a.tmps[11]?.getD undef = .int .i64 1 := hf.1 ⟨5, .data⟩ (by simp) rfl _ 11 rfl rfl
      exact wp_enter 61 #[brd R C z o, rect (X : Int) (C0 : Int), .int .i64 1] (.bool t) _ (by unfold execOp; go_simp) (HP.out w2) (fun w' h => ⟨rfl, h⟩)
    | 7, ho =>
      obtain rfl := Option.some.inj ho
      have e12 : a.tmps[12]?.getD undef = .bool t := hf.1 ⟨6, .data⟩ (by simp) rfl _ 12 rfl rfl
      exact wp_value (.bool t) (by unfold execOp; go_simp) ⟨rfl, Below.refl _ _⟩
    | q + 8, ho => simp at ho
  case en =>
    intro w2 hb2
    have HB2 := Lib.hid hb2
    clear hb2
    simp only [fill, Act.put]
    go_simp
    go_wp2_with fail
    go_ret
    exact ⟨rfl, HB2.out⟩
theorem rows_enters1 (args : Array Value) (W : World) : (callFunc 188 args).run Tryd.prog W = .ok (.enter 188 args) W := by kernel_rfl

set_option maxHeartbeats 1000000 in
set_option maxRecDepth 100000 in
theorem rows_with1 (R C : Nat) (hR : R ≤ 8) (hC : C ≤ 8) (z o : Nat) (hz : z < 18446744073709551616) (ho : o < 18446744073709551616) (C0 : Nat) (hC0 : C0 < 256) (w : World) :
    Calls Tryd.prog 169 #[brd R C z o, .int .i64 (C0 : Int), .int .i64 1] w fun e w' => e = .returned (.int .i64 ((setB (fun x => decide (pat (rectB (2 ^ x) C0) 8 &&& (18446744073709551615 - o) = 0)) R : Nat) : Int)) ∧ Below w.heap.size w w' := by
  have eg := rows_enters1
  go_enter Tryd.func169, Tryd.ntmps169
  go_wp2_with fail
  obtain ⟨e0, e1, e2, hb0, hz0⟩ := three_box (w := w) (a := .cells #[.int .i64 (R : Int), .int .i64 (C : Int), .int .u64 (z : Int), .int .u64 (o : Int)] 77) (b := .cells #[.int .i64 (C0 : Int)] 3) (c := .cells #[.int .i64 1] 3)
  generalize ((w.alloc (.cells #[.int .i64 (R : Int), .int .i64 (C : Int), .int .u64 (z : Int), .int .u64 (o : Int)] 77)).alloc (.cells #[.int .i64 (C0 : Int)] 3)).alloc (.cells #[.int .i64 1] 3) = W0 at *
  have BH : BHolds W0 w.heap.size R C z o := e0
  obtain ⟨q0, q1, q2, q3⟩ := bh_c BH
  have k1 : W0.cell? ⟨w.heap.size + 1, 0, none⟩ = some (.int .i64 (C0 : Int)) := cell_of_row _ _ 0 _ _ _ e1
  have k2 : W0.cell? ⟨w.heap.size + 1 + 1, 0, none⟩ = some (.int .i64 1) := cell_of_row _ _ 0 _ _ _ e2
  have HT : Hid (Says 188 #[.pointer (some ⟨w.heap.size, 0, none⟩), .pointer (some ⟨w.heap.size + 1, 0, none⟩), .pointer (some ⟨w.heap.size + 1 + 1, 0, none⟩)] R (fun x => decide (pat (rectB (2 ^ x) C0) 8 &&& (18446744073709551615 - o) = 0)) W0) :=
    fun W x hx hb => rows_clos1 R C z o hz ho C0 x hC0 (by omega) w.heap.size (w.heap.size + 1) (w.heap.size + 1 + 1) W (bh_on BH hb) ((hb.cell (p := ⟨w.heap.size + 1, 0, none⟩) (by show w.heap.size + 1 < _; omega)).trans k1) ((hb.cell (p := ⟨w.heap.size + 1 + 1, 0, none⟩) (by show w.heap.size + 1 + 1 < _; omega)).trans k2) (by have := hb.size; omega) (by have := hb.size; omega)
  have HW := Lib.hid (where_any 188 #[.pointer (some ⟨w.heap.size, 0, none⟩), .pointer (some ⟨w.heap.size + 1, 0, none⟩), .pointer (some ⟨w.heap.size + 1 + 1, 0, none⟩)] R hR _ W0 eg HT)
  have HB0 := Lib.hid hb0
  clear e0 e1 e2 BH hb0 k1 k2 HT
  obtain ⟨r, hr⟩ : ∃ r, setB (fun x => decide (pat (rectB (2 ^ x) C0) 8 &&& (18446744073709551615 - o) = 0)) R = r := ⟨_, rfl⟩
  rw [hr] at HW
  have HR := Lib.hid hr
  clear hr
  go_wp2_with fail
  refine HW.out.mono ?_
  rintro e w2 ⟨rfl, hb2⟩
  have HB2 := Lib.hid (rstep HB0.out hb2)
  clear hb2
  go_wp2_with fail
  go_ret
  exact ⟨by rw [HR.out]; rfl, HB2.out⟩

set_option maxHeartbeats 1000000 in
set_option maxRecDepth 100000 in
theorem cols_clos0 (R C : Int) (z o : Nat) (hz : z < 18446744073709551616) (ho : o < 18446744073709551616) (C0 x : Nat) (hC0 : C0 < 256) (hx : x < 8) (b c d : Nat) (w : World) (hb : BHolds w b R C z o)
    (hc : w.cell? ⟨c, 0, none⟩ = some (.int .i64 (C0 : Int))) (hd : w.cell? ⟨d, 0, none⟩ = some (.int .i64 0)) (hcl : c < w.heap.size) (hdl : d < w.heap.size) :
    Calls Tryd.prog 187 #[.int .i64 (x : Int), .pointer (some ⟨b, 0, none⟩), .pointer (some ⟨c, 0, none⟩), .pointer (some ⟨d, 0, none⟩)] w
      fun e w' => e = .returned (.bool (decide (pat (rectB C0 (2 ^ x)) 8 &&& (18446744073709551615 - z) = 0))) ∧ Below w.heap.size w w' := by
  have hX8 : 2 ^ x < 256 := Nat.lt_of_lt_of_le (Nat.pow_lt_pow_right (by decide) hx) (by decide)
  have HX : Hid (IntKind.i64.wrap (2 ^ x) = ((2 ^ x : Nat) : Int)) := by unfold Hid; rw [show ((2 : Int) ^ x) = ((2 ^ x : Nat) : Int) by simp]; exact wrap8 _ (by omega)
  have HP := Lib.hid (fun W => plain0 R C z o hz ho C0 (2 ^ x) hC0 hX8 W)
  have BH := Lib.hid hb
  have HC := Lib.hid hc
  have HD := Lib.hid hd
  clear hb hc hd
  generalize decide (pat (rectB C0 (2 ^ x)) 8 &&& (18446744073709551615 - z) = 0) = t at *
  generalize 2 ^ x = X at *
  go_enter Tryd.func187, Tryd.ntmps187
  go_wp2_with fail
  refine wp_region_below (fun | 0 => brd R C z o | 1 => .int .i64 (C0 : Int) | 2 => .int .i64 (x : Int) | 3 => .int .i64 (X : Int) | 4 => rect (C0 : Int) (X : Int) | 5 => .int .i64 0 | 6 => .bool t | 7 => .bool t | _ => undef) (by kernel_rfl) (by kernel_rfl) rfl ?con ?en
  case con =>
    intro i o ho a w2 hb2 hf
    match i, ho with
    | 0, ho =>
      obtain rfl := Option.some.inj ho
      have b1 : a.tmps[1]?.getD undef = .pointer (some ⟨b, 0, none⟩) := hf.2 1 (by kernel_rfl)
      exact wp_load_row 77 (.tmp 1) rfl b (eval_get b1 trivial) 77 _ (0, 0) _ (bh_on BH.out hb2) Tryd.underlying77 rfl binfo ⟨rfl, Below.refl _ _⟩
    | 1, ho =>
      obtain rfl := Option.some.inj ho
      have b2 : a.tmps[2]?.getD undef = .pointer (some ⟨c, 0, none⟩) := hf.2 2 (by kernel_rfl)
      have hc1 := (hb2.cell (p := ⟨c, 0, none⟩) hcl).trans HC.out
      exact wp_value (.int .i64 (C0 : Int)) (by unfold execOp; go_simp) ⟨rfl, Below.refl _ _⟩
    | 2, ho =>
      obtain rfl := Option.some.inj ho
      have b0 : a.tmps[0]?.getD undef = .int .i64 (x : Int) := hf.2 0 (by kernel_rfl)
      exact wp_value (.int .i64 (x : Int)) (by unfold execOp; go_simp) ⟨rfl, Below.refl _ _⟩
    | 3, ho =>
      obtain rfl := Option.some.inj ho
      have e8 : a.tmps[8]?.getD undef = .int .i64 (x : Int) := hf.1 ⟨2, .data⟩ (by simp) rfl _ 8 rfl rfl
      have hsh := HX.out
      exact wp_value (.int .i64 (X : Int)) (by unfold execOp; go_simp) ⟨rfl, Below.refl _ _⟩
    | 4, ho =>
      obtain rfl := Option.some.inj ho
      have e7 : a.tmps[7]?.getD undef = .int .i64 (C0 : Int) := hf.1 ⟨1, .data⟩ (by simp) rfl _ 7 rfl rfl
      have e9 : a.tmps[9]?.getD undef = .int .i64 (X : Int) := hf.1 ⟨3, .data⟩ (by simp) rfl _ 9 rfl rfl
      exact wp_value (rect (C0 : Int) (X : Int)) (by unfold execOp; go_simp) ⟨rfl, Below.refl _ _⟩
    | 5, ho =>
      obtain rfl := Option.some.inj ho
      have b3 : a.tmps[3]?.getD undef = .pointer (some ⟨d, 0, none⟩) := hf.2 3 (by kernel_rfl)
      have hc1 := (hb2.cell (p := ⟨d, 0, none⟩) hdl).trans HD.out
      exact wp_value (.int .i64 0) (by unfold execOp; go_simp) ⟨rfl, Below.refl _ _⟩
    | 6, ho =>
      obtain rfl := Option.some.inj ho
      have e6 : a.tmps[6]?.getD undef = brd R C z o := hf.1 ⟨0, .data⟩ (by simp) rfl _ 6 rfl rfl
      have e10 : a.tmps[10]?.getD undef = rect (C0 : Int) (X : Int) := hf.1 ⟨4, .data⟩ (by simp) rfl _ 10 rfl rfl
      have e11 : a.tmps[11]?.getD undef = .int .i64 0 := hf.1 ⟨5, .data⟩ (by simp) rfl _ 11 rfl rfl
      exact wp_enter 61 #[brd R C z o, rect (C0 : Int) (X : Int), .int .i64 0] (.bool t) _ (by unfold execOp; go_simp) (HP.out w2) (fun w' h => ⟨rfl, h⟩)
    | 7, ho =>
      obtain rfl := Option.some.inj ho
      have e12 : a.tmps[12]?.getD undef = .bool t := hf.1 ⟨6, .data⟩ (by simp) rfl _ 12 rfl rfl
      exact wp_value (.bool t) (by unfold execOp; go_simp) ⟨rfl, Below.refl _ _⟩
    | q + 8, ho => simp at ho
  case en =>
    intro w2 hb2
    have HB2 := Lib.hid hb2
    clear hb2
    simp only [fill, Act.put]
    go_simp
    go_wp2_with fail
    go_ret
    exact ⟨rfl, HB2.out⟩
theorem cols_enters0 (args : Array Value) (W : World) : (callFunc 187 args).run Tryd.prog W = .ok (.enter 187 args) W := by kernel_rfl

set_option maxHeartbeats 1000000 in
set_option maxRecDepth 100000 in
theorem cols_with0 (R C : Nat) (hR : R ≤ 8) (hC : C ≤ 8) (z o : Nat) (hz : z < 18446744073709551616) (ho : o < 18446744073709551616) (C0 : Nat) (hC0 : C0 < 256) (w : World) :
    Calls Tryd.prog 168 #[brd R C z o, .int .i64 (C0 : Int), .int .i64 0] w fun e w' => e = .returned (.int .i64 ((setB (fun x => decide (pat (rectB C0 (2 ^ x)) 8 &&& (18446744073709551615 - z) = 0)) C : Nat) : Int)) ∧ Below w.heap.size w w' := by
  have eg := cols_enters0
  go_enter Tryd.func168, Tryd.ntmps168
  go_wp2_with fail
  obtain ⟨e0, e1, e2, hb0, hz0⟩ := three_box (w := w) (a := .cells #[.int .i64 (R : Int), .int .i64 (C : Int), .int .u64 (z : Int), .int .u64 (o : Int)] 77) (b := .cells #[.int .i64 (C0 : Int)] 3) (c := .cells #[.int .i64 0] 3)
  generalize ((w.alloc (.cells #[.int .i64 (R : Int), .int .i64 (C : Int), .int .u64 (z : Int), .int .u64 (o : Int)] 77)).alloc (.cells #[.int .i64 (C0 : Int)] 3)).alloc (.cells #[.int .i64 0] 3) = W0 at *
  have BH : BHolds W0 w.heap.size R C z o := e0
  obtain ⟨q0, q1, q2, q3⟩ := bh_c BH
  have k1 : W0.cell? ⟨w.heap.size + 1, 0, none⟩ = some (.int .i64 (C0 : Int)) := cell_of_row _ _ 0 _ _ _ e1
  have k2 : W0.cell? ⟨w.heap.size + 1 + 1, 0, none⟩ = some (.int .i64 0) := cell_of_row _ _ 0 _ _ _ e2
  have HT : Hid (Says 187 #[.pointer (some ⟨w.heap.size, 0, none⟩), .pointer (some ⟨w.heap.size + 1, 0, none⟩), .pointer (some ⟨w.heap.size + 1 + 1, 0, none⟩)] C (fun x => decide (pat (rectB C0 (2 ^ x)) 8 &&& (18446744073709551615 - z) = 0)) W0) :=
    fun W x hx hb => cols_clos0 R C z o hz ho C0 x hC0 (by omega) w.heap.size (w.heap.size + 1) (w.heap.size + 1 + 1) W (bh_on BH hb) ((hb.cell (p := ⟨w.heap.size + 1, 0, none⟩) (by show w.heap.size + 1 < _; omega)).trans k1) ((hb.cell (p := ⟨w.heap.size + 1 + 1, 0, none⟩) (by show w.heap.size + 1 + 1 < _; omega)).trans k2) (by have := hb.size; omega) (by have := hb.size; omega)
  have HW := Lib.hid (where_any 187 #[.pointer (some ⟨w.heap.size, 0, none⟩), .pointer (some ⟨w.heap.size + 1, 0, none⟩), .pointer (some ⟨w.heap.size + 1 + 1, 0, none⟩)] C hC _ W0 eg HT)
  have HB0 := Lib.hid hb0
  clear e0 e1 e2 BH hb0 k1 k2 HT
  obtain ⟨r, hr⟩ : ∃ r, setB (fun x => decide (pat (rectB C0 (2 ^ x)) 8 &&& (18446744073709551615 - z) = 0)) C = r := ⟨_, rfl⟩
  rw [hr] at HW
  have HR := Lib.hid hr
  clear hr
  go_wp2_with fail
  refine HW.out.mono ?_
  rintro e w2 ⟨rfl, hb2⟩
  have HB2 := Lib.hid (rstep HB0.out hb2)
  clear hb2
  go_wp2_with fail
  go_ret
  exact ⟨by rw [HR.out]; rfl, HB2.out⟩

set_option maxHeartbeats 1000000 in
set_option maxRecDepth 100000 in
theorem cols_clos1 (R C : Int) (z o : Nat) (hz : z < 18446744073709551616) (ho : o < 18446744073709551616) (C0 x : Nat) (hC0 : C0 < 256) (hx : x < 8) (b c d : Nat) (w : World) (hb : BHolds w b R C z o)
    (hc : w.cell? ⟨c, 0, none⟩ = some (.int .i64 (C0 : Int))) (hd : w.cell? ⟨d, 0, none⟩ = some (.int .i64 1)) (hcl : c < w.heap.size) (hdl : d < w.heap.size) :
    Calls Tryd.prog 187 #[.int .i64 (x : Int), .pointer (some ⟨b, 0, none⟩), .pointer (some ⟨c, 0, none⟩), .pointer (some ⟨d, 0, none⟩)] w
      fun e w' => e = .returned (.bool (decide (pat (rectB C0 (2 ^ x)) 8 &&& (18446744073709551615 - o) = 0))) ∧ Below w.heap.size w w' := by
  have hX8 : 2 ^ x < 256 := Nat.lt_of_lt_of_le (Nat.pow_lt_pow_right (by decide) hx) (by decide)
  have HX : Hid (IntKind.i64.wrap (2 ^ x) = ((2 ^ x : Nat) : Int)) := by unfold Hid; rw [show ((2 : Int) ^ x) = ((2 ^ x : Nat) : Int) by simp]; exact wrap8 _ (by omega)
  have HP := Lib.hid (fun W => plain1 R C z o hz ho C0 (2 ^ x) hC0 hX8 W)
  have BH := Lib.hid hb
  have HC := Lib.hid hc
  have HD := Lib.hid hd
  clear hb hc hd
  generalize decide (pat (rectB C0 (2 ^ x)) 8 &&& (18446744073709551615 - o) = 0) = t at *
  generalize 2 ^ x = X at *
  go_enter Tryd.func187, Tryd.ntmps187
  go_wp2_with fail
  refine wp_region_below (fun | 0 => brd R C z o | 1 => .int .i64 (C0 : Int) | 2 => .int .i64 (x : Int) | 3 => .int .i64 (X : Int) | 4 => rect (C0 : Int) (X : Int) | 5 => .int .i64 1 | 6 => .bool t | 7 => .bool t | _ => undef) (by kernel_rfl) (by kernel_rfl) rfl ?con ?en
  case con =>
    intro i o ho a w2 hb2 hf
    match i, ho with
    | 0, ho =>
      obtain rfl := Option.some.inj ho
      have b1 : a.tmps[1]?.getD undef = .pointer (some ⟨b, 0, none⟩) := hf.2 1 (by kernel_rfl)
      exact wp_load_row 77 (.tmp 1) rfl b (eval_get b1 trivial) 77 _ (0, 0) _ (bh_on BH.out hb2) Tryd.underlying77 rfl binfo ⟨rfl, Below.refl _ _⟩
    | 1, ho =>
      obtain rfl := Option.some.inj ho
      have b2 : a.tmps[2]?.getD undef = .pointer (some ⟨c, 0, none⟩) := hf.2 2 (by kernel_rfl)
      have hc1 := (hb2.cell (p := ⟨c, 0, none⟩) hcl).trans HC.out
      exact wp_value (.int .i64 (C0 : Int)) (by unfold execOp; go_simp) ⟨rfl, Below.refl _ _⟩
    | 2, ho =>
      obtain rfl := Option.some.inj ho
      have b0 : a.tmps[0]?.getD undef = .int .i64 (x : Int) := hf.2 0 (by kernel_rfl)
      exact wp_value (.int .i64 (x : Int)) (by unfold execOp; go_simp) ⟨rfl, Below.refl _ _⟩
    | 3, ho =>
      obtain rfl := Option.some.inj ho
      have e8 : a.tmps[8]?.getD undef = .int .i64 (x : Int) := hf.1 ⟨2, .data⟩ (by simp) rfl _ 8 rfl rfl
      have hsh := HX.out
      exact wp_value (.int .i64 (X : Int)) (by unfold execOp; go_simp) ⟨rfl, Below.refl _ _⟩
    | 4, ho =>
      obtain rfl := Option.some.inj ho
      have e7 : a.tmps[7]?.getD undef = .int .i64 (C0 : Int) := hf.1 ⟨1, .data⟩ (by simp) rfl _ 7 rfl rfl
      have e9 : a.tmps[9]?.getD undef = .int .i64 (X : Int) := hf.1 ⟨3, .data⟩ (by simp) rfl _ 9 rfl rfl
      exact wp_value (rect (C0 : Int) (X : Int)) (by unfold execOp; go_simp) ⟨rfl, Below.refl _ _⟩
    | 5, ho =>
      obtain rfl := Option.some.inj ho
      have b3 : a.tmps[3]?.getD undef = .pointer (some ⟨d, 0, none⟩) := hf.2 3 (by kernel_rfl)
      have hc1 := (hb2.cell (p := ⟨d, 0, none⟩) hdl).trans HD.out
      exact wp_value (.int .i64 1) (by unfold execOp; go_simp) ⟨rfl, Below.refl _ _⟩
    | 6, ho =>
      obtain rfl := Option.some.inj ho
      have e6 : a.tmps[6]?.getD undef = brd R C z o := hf.1 ⟨0, .data⟩ (by simp) rfl _ 6 rfl rfl
      have e10 : a.tmps[10]?.getD undef = rect (C0 : Int) (X : Int) := hf.1 ⟨4, .data⟩ (by simp) rfl _ 10 rfl rfl
      have e11 : a.tmps[11]?.getD undef = .int .i64 1 := hf.1 ⟨5, .data⟩ (by simp) rfl _ 11 rfl rfl
      exact wp_enter 61 #[brd R C z o, rect (C0 : Int) (X : Int), .int .i64 1] (.bool t) _ (by unfold execOp; go_simp) (HP.out w2) (fun w' h => ⟨rfl, h⟩)
    | 7, ho =>
      obtain rfl := Option.some.inj ho
      have e12 : a.tmps[12]?.getD undef = .bool t := hf.1 ⟨6, .data⟩ (by simp) rfl _ 12 rfl rfl
      exact wp_value (.bool t) (by unfold execOp; go_simp) ⟨rfl, Below.refl _ _⟩
    | q + 8, ho => simp at ho
  case en =>
    intro w2 hb2
    have HB2 := Lib.hid hb2
    clear hb2
    simp only [fill, Act.put]
    go_simp
    go_wp2_with fail
    go_ret
    exact ⟨rfl, HB2.out⟩
theorem cols_enters1 (args : Array Value) (W : World) : (callFunc 187 args).run Tryd.prog W = .ok (.enter 187 args) W := by kernel_rfl

set_option maxHeartbeats 1000000 in
set_option maxRecDepth 100000 in
theorem cols_with1 (R C : Nat) (hR : R ≤ 8) (hC : C ≤ 8) (z o : Nat) (hz : z < 18446744073709551616) (ho : o < 18446744073709551616) (C0 : Nat) (hC0 : C0 < 256) (w : World) :
    Calls Tryd.prog 168 #[brd R C z o, .int .i64 (C0 : Int), .int .i64 1] w fun e w' => e = .returned (.int .i64 ((setB (fun x => decide (pat (rectB C0 (2 ^ x)) 8 &&& (18446744073709551615 - o) = 0)) C : Nat) : Int)) ∧ Below w.heap.size w w' := by
  have eg := cols_enters1
  go_enter Tryd.func168, Tryd.ntmps168
  go_wp2_with fail
  obtain ⟨e0, e1, e2, hb0, hz0⟩ := three_box (w := w) (a := .cells #[.int .i64 (R : Int), .int .i64 (C : Int), .int .u64 (z : Int), .int .u64 (o : Int)] 77) (b := .cells #[.int .i64 (C0 : Int)] 3) (c := .cells #[.int .i64 1] 3)
  generalize ((w.alloc (.cells #[.int .i64 (R : Int), .int .i64 (C : Int), .int .u64 (z : Int), .int .u64 (o : Int)] 77)).alloc (.cells #[.int .i64 (C0 : Int)] 3)).alloc (.cells #[.int .i64 1] 3) = W0 at *
  have BH : BHolds W0 w.heap.size R C z o := e0
  obtain ⟨q0, q1, q2, q3⟩ := bh_c BH
  have k1 : W0.cell? ⟨w.heap.size + 1, 0, none⟩ = some (.int .i64 (C0 : Int)) := cell_of_row _ _ 0 _ _ _ e1
  have k2 : W0.cell? ⟨w.heap.size + 1 + 1, 0, none⟩ = some (.int .i64 1) := cell_of_row _ _ 0 _ _ _ e2
  have HT : Hid (Says 187 #[.pointer (some ⟨w.heap.size, 0, none⟩), .pointer (some ⟨w.heap.size + 1, 0, none⟩), .pointer (some ⟨w.heap.size + 1 + 1, 0, none⟩)] C (fun x => decide (pat (rectB C0 (2 ^ x)) 8 &&& (18446744073709551615 - o) = 0)) W0) :=
    fun W x hx hb => cols_clos1 R C z o hz ho C0 x hC0 (by omega) w.heap.size (w.heap.size + 1) (w.heap.size + 1 + 1) W (bh_on BH hb) ((hb.cell (p := ⟨w.heap.size + 1, 0, none⟩) (by show w.heap.size + 1 < _; omega)).trans k1) ((hb.cell (p := ⟨w.heap.size + 1 + 1, 0, none⟩) (by show w.heap.size + 1 + 1 < _; omega)).trans k2) (by have := hb.size; omega) (by have := hb.size; omega)
  have HW := Lib.hid (where_any 187 #[.pointer (some ⟨w.heap.size, 0, none⟩), .pointer (some ⟨w.heap.size + 1, 0, none⟩), .pointer (some ⟨w.heap.size + 1 + 1, 0, none⟩)] C hC _ W0 eg HT)
  have HB0 := Lib.hid hb0
  clear e0 e1 e2 BH hb0 k1 k2 HT
  obtain ⟨r, hr⟩ : ∃ r, setB (fun x => decide (pat (rectB C0 (2 ^ x)) 8 &&& (18446744073709551615 - o) = 0)) C = r := ⟨_, rfl⟩
  rw [hr] at HW
  have HR := Lib.hid hr
  clear hr
  go_wp2_with fail
  refine HW.out.mono ?_
  rintro e w2 ⟨rfl, hb2⟩
  have HB2 := Lib.hid (rstep HB0.out hb2)
  clear hb2
  go_wp2_with fail
  go_ret
  exact ⟨by rw [HR.out]; rfl, HB2.out⟩
end Go.Proofs.YtalechngagkklaaDoor.With
