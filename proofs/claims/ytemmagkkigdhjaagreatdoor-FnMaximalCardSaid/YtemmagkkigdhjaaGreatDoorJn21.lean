/-
  Texts of one seat, joined: With, Grow, MaxM.
-/
import Derived.Test.YtemmagkkigdhjaaGreatDoorJn19
import Derived.Test.YtemmagkkigdhjaaGreatDoorJn11
import Derived.Test.YtemmagkkigdhjaaGreatDoorJn20
/-
  The board's rowsWith and colsWith.
-/
namespace Go.Proofs.YtemmagkkigdhjaaGreatDoor.With
open Go.RowKit Go.Proofs.YtemmagkkigdhjaaGreatDoor.Plain Go.Proofs.YtemmagkkigdhjaaGreatDoor.Base Go.Proofs.YtemmagkkigdhjaaGreatDoor.Law Go.Proofs.YtemmagkkigdhjaaGreatDoor.Pat Go.Proofs.YtemmagkkigdhjaaGreatDoor.Rect Go.Proofs.YtemmagkkigdhjaaGreatDoor.Patch Go.Proofs.YtemmagkkigdhjaaGreatDoor.FreeL Go.Proofs.YtemmagkkigdhjaaGreatDoor.Board Go.Proofs.YtemmagkkigdhjaaGreatDoor.BoardM Go.Proofs.YtemmagkkigdhjaaGreatDoor.Where
open Go.Proofs.YtemmagkkigdhjaaGreatDoor.Free (fill wp_value wp_enter wp_load_row freeB)
set_option linter.unusedVariables false

theorem three_box {w : World} {a b c : Obj} : (((w.alloc a).alloc b).alloc c).heap[w.heap.size]? = some a ∧ (((w.alloc a).alloc b).alloc c).heap[w.heap.size + 1]? = some b ∧ (((w.alloc a).alloc b).alloc c).heap[w.heap.size + 1 + 1]? = some c ∧ Below w.heap.size w (((w.alloc a).alloc b).alloc c) ∧ (((w.alloc a).alloc b).alloc c).heap.size = w.heap.size + 3 := by
  obtain ⟨e0, e1, hb⟩ := two_box (w := w) (a := a) (b := b)
  refine ⟨(Below.heap_alloc _ _ _ (by simp; omega)).trans e0, (Below.heap_alloc _ _ _ (by simp)).trans e1, ?_, hb.alloc hb.size _, by simp⟩
  have := heap_alloc_new ((w.alloc a).alloc b) c
  rwa [World.size_alloc, World.size_alloc] at this

set_option maxHeartbeats 1000000 in
set_option maxRecDepth 100000 in
theorem rows_clos0 (R C : Int) (z o : Nat) (hz : z < 18446744073709551616) (ho : o < 18446744073709551616) (C0 x : Nat) (hC0 : C0 < 256) (hx : x < 8) (b c d : Nat) (w : World) (hb : BHolds w b R C z o)
    (hc : w.cell? ⟨c, 0, none⟩ = some (.int .i64 (C0 : Int))) (hd : w.cell? ⟨d, 0, none⟩ = some (.int .i64 0)) (hcl : c < w.heap.size) (hdl : d < w.heap.size) :
    Calls Tryz.prog 77 #[.int .i64 (x : Int), .pointer (some ⟨b, 0, none⟩), .pointer (some ⟨c, 0, none⟩), .pointer (some ⟨d, 0, none⟩)] w
      fun e w' => e = .returned (.bool (decide (pat (rectB (2 ^ x) C0) 8 &&& (18446744073709551615 - z) = 0))) ∧ Below w.heap.size w w' := by
  have hX8 : 2 ^ x < 256 := Nat.lt_of_lt_of_le (Nat.pow_lt_pow_right (by decide) hx) (by decide)
  have HX : Hid (IntKind.i64.wrap (2 ^ x) = ((2 ^ x : Nat) : Int)) := by unfold Hid; rw [show ((2 : Int) ^ x) = ((2 ^ x : Nat) : Int) by simp]; exact wrap8 _ (by omega)
  have HP := Lib.hid (fun W => plain0 R C z o hz ho (2 ^ x) C0 hX8 hC0 W)
  have BH := Lib.hid hb
  have HC := Lib.hid hc
  have HD := Lib.hid hd
  clear hb hc hd
  generalize decide (pat (rectB (2 ^ x) C0) 8 &&& (18446744073709551615 - z) = 0) = t at *
  generalize 2 ^ x = X at *
  go_enter Tryz.func77, Tryz.ntmps77
  go_wp2_with fail
  refine wp_region_below (fun | 0 => brd R C z o | 1 => .int .i64 (x : Int) | 2 => .int .i64 (X : Int) | 3 => .int .i64 (C0 : Int) | 4 => rect (X : Int) (C0 : Int) | 5 => .int .i64 0 | 6 => .bool t | 7 => .bool t | _ => undef) (by kernel_rfl) (by kernel_rfl) rfl ?con ?en
  case con =>
    intro i o ho a w2 hb2 hf
    match i, ho with
    | 0, ho =>
      obtain rfl := Option.some.inj ho
      have b1 : a.tmps[1]?.getD undef = .pointer (some ⟨b, 0, none⟩) := hf.2 1 (by kernel_rfl)
      exact wp_load_row 50 (.tmp 1) rfl b (eval_get b1 trivial) 50 _ (0, 0) _ (bh_on BH.out hb2) Tryz.underlying50 rfl binfo ⟨rfl, Below.refl _ _⟩
    | 1, ho =>
      obtain rfl := Option.some.inj ho
      have b0 : a.tmps[0]?.getD undef = .int .i64 (x : Int) := hf.2 0 (by kernel_rfl)
      exact wp_value (.int .i64 (x : Int)) (by unfold execOp; go_simp) ⟨rfl, Below.refl _ _⟩
    | 2, ho =>
      obtain rfl := Option.some.inj ho
      have e7 : a.tmps[7]?.getD undef = .int .i64 (x : Int) := hf.1 ⟨1, .data⟩ (by simp) rfl _ 7 rfl rfl
      have hsh := HX.out
      exact wp_value (.int .i64 (X : Int)) (by unfold execOp; go_simp) ⟨rfl, Below.refl _ _⟩
    | 3, ho =>
      obtain rfl := Option.some.inj ho
      have b2 : a.tmps[2]?.getD undef = .pointer (some ⟨c, 0, none⟩) := hf.2 2 (by kernel_rfl)
      have hc1 := (hb2.cell (p := ⟨c, 0, none⟩) hcl).trans HC.out
      exact wp_value (.int .i64 (C0 : Int)) (by unfold execOp; go_simp) ⟨rfl, Below.refl _ _⟩
    | 4, ho =>
      obtain rfl := Option.some.inj ho
      have e8 : a.tmps[8]?.getD undef = .int .i64 (X : Int) := hf.1 ⟨2, .data⟩ (by simp) rfl _ 8 rfl rfl
      have e9 : a.tmps[9]?.getD undef = .int .i64 (C0 : Int) := hf.1 ⟨3, .data⟩ (by simp) rfl _ 9 rfl rfl
      exact wp_value (rect (X : Int) (C0 : Int)) (by unfold execOp; go_simp) ⟨rfl, Below.refl _ _⟩
    | 5, ho =>
      obtain rfl := Option.some.inj ho
      have b3 : a.tmps[3]?.getD undef = .pointer (some ⟨d, 0, none⟩) := hf.2 3 (by kernel_rfl)
      have hc1 := (hb2.cell (p := ⟨d, 0, none⟩) hdl).trans HD.out
      exact wp_value (.int .i64 0) (by unfold execOp; go_simp) ⟨rfl, Below.refl _ _⟩
    | 6, ho =>
      obtain rfl := Option.some.inj ho
      have e6 : a.tmps[6]?.getD undef = brd R C z o := hf.1 ⟨0, .data⟩ (by simp) rfl _ 6 rfl rfl
      have e10 : a.tmps[10]?.getD undef = rect (X : Int) (C0 : Int) := hf.1 ⟨4, .data⟩ (by simp) rfl _ 10 rfl rfl
      have e11 : a.tmps[11]?.getD undef = .int .i64 0 := hf.1 ⟨5, .data⟩ (by simp) rfl _ 11 rfl rfl
      exact wp_enter 33 #[brd R C z o, rect (X : Int) (C0 : Int), .int .i64 0] (.bool t) _ (by unfold execOp; go_simp) (HP.out w2) (fun w' h => ⟨rfl, h⟩)
    | 7, ho =>
      obtain rfl := Option.some.inj ho
      have e12 : a.tmps[12]?.getD undef = .bool t := hf.1 ⟨6, .data⟩ (by simp) rfl _ 12 rfl rfl
      exact wp_value (.bool t) (by unfold execOp; go_simp) ⟨rfl, Below.refl _ _⟩
    | q + 8, ho => simp at ho
  case en =>
    intro w2 hb2
    have HB2 := Lib.hid hb2
    clear hb2
    simp only [fill, Act.put]
    go_simp
    go_wp2_with fail
    go_ret
    exact ⟨rfl, HB2.out⟩
theorem rows_enters0 (args : Array Value) (W : World) : (callFunc 77 args).run Tryz.prog W = .ok (.enter 77 args) W := by kernel_rfl

set_option maxHeartbeats 1000000 in
set_option maxRecDepth 100000 in
theorem rows_with0 (R C : Nat) (hR : R ≤ 8) (hC : C ≤ 8) (z o : Nat) (hz : z < 18446744073709551616) (ho : o < 18446744073709551616) (C0 : Nat) (hC0 : C0 < 256) (w : World) :
    Calls Tryz.prog 50 #[brd R C z o, .int .i64 (C0 : Int), .int .i64 0] w fun e w' => e = .returned (.int .i64 ((setB (fun x => decide (pat (rectB (2 ^ x) C0) 8 &&& (18446744073709551615 - z) = 0)) R : Nat) : Int)) ∧ Below w.heap.size w w' := by
  have eg := rows_enters0
  go_enter Tryz.func50, Tryz.ntmps50
  go_wp2_with fail
  obtain ⟨e0, e1, e2, hb0, hz0⟩ := three_box (w := w) (a := .cells #[.int .i64 (R : Int), .int .i64 (C : Int), .int .u64 (z : Int), .int .u64 (o : Int)] 50) (b := .cells #[.int .i64 (C0 : Int)] 3) (c := .cells #[.int .i64 0] 3)
  generalize ((w.alloc (.cells #[.int .i64 (R : Int), .int .i64 (C : Int), .int .u64 (z : Int), .int .u64 (o : Int)] 50)).alloc (.cells #[.int .i64 (C0 : Int)] 3)).alloc (.cells #[.int .i64 0] 3) = W0 at *
  have BH : BHolds W0 w.heap.size R C z o := e0
  obtain ⟨q0, q1, q2, q3⟩ := bh_c BH
  have k1 : W0.cell? ⟨w.heap.size + 1, 0, none⟩ = some (.int .i64 (C0 : Int)) := cell_of_row _ _ 0 _ _ _ e1
  have k2 : W0.cell? ⟨w.heap.size + 1 + 1, 0, none⟩ = some (.int .i64 0) := cell_of_row _ _ 0 _ _ _ e2
  have HT : Hid (Says 77 #[.pointer (some ⟨w.heap.size, 0, none⟩), .pointer (some ⟨w.heap.size + 1, 0, none⟩), .pointer (some ⟨w.heap.size + 1 + 1, 0, none⟩)] R (fun x => decide (pat (rectB (2 ^ x) C0) 8 &&& (18446744073709551615 - z) = 0)) W0) :=
    fun W x hx hb => rows_clos0 R C z o hz ho C0 x hC0 (by omega) w.heap.size (w.heap.size + 1) (w.heap.size + 1 + 1) W (bh_on BH hb) ((hb.cell (p := ⟨w.heap.size + 1, 0, none⟩) (by show w.heap.size + 1 < _; omega)).trans k1) ((hb.cell (p := ⟨w.heap.size + 1 + 1, 0, none⟩) (by show w.heap.size + 1 + 1 < _; omega)).trans k2) (by have := hb.size; omega) (by have := hb.size; omega)
  have HW := Lib.hid (where_any 77 #[.pointer (some ⟨w.heap.size, 0, none⟩), .pointer (some ⟨w.heap.size + 1, 0, none⟩), .pointer (some ⟨w.heap.size + 1 + 1, 0, none⟩)] R hR _ W0 eg HT)
  have HB0 := Lib.hid hb0
  clear e0 e1 e2 BH hb0 k1 k2 HT
  obtain ⟨r, hr⟩ : ∃ r, setB (fun x => decide (pat (rectB (2 ^ x) C0) 8 &&& (18446744073709551615 - z) = 0)) R = r := ⟨_, rfl⟩
  rw [hr] at HW
  have HR := Lib.hid hr
  clear hr
  go_wp2_with fail
  refine HW.out.mono ?_
  rintro e w2 ⟨rfl, hb2⟩
  have HB2 := Lib.hid (rstep HB0.out hb2)
  clear hb2
  go_wp2_with fail
  go_ret
  exact ⟨by rw [HR.out]; rfl, HB2.out⟩

set_option maxHeartbeats 1000000 in
set_option maxRecDepth 100000 in
theorem rows_clos1 (R C : Int) (z o : Nat) (hz : z < 18446744073709551616) (ho : o < 18446744073709551616) (C0 x : Nat) (hC0 : C0 < 256) (hx : x < 8) (b c d : Nat) (w : World) (hb : BHolds w b R C z o)
    (hc : w.cell? ⟨c, 0, none⟩ = some (.int .i64 (C0 : Int))) (hd : w.cell? ⟨d, 0, none⟩ = some (.int .i64 1)) (hcl : c < w.heap.size) (hdl : d < w.heap.size) :
    Calls Tryz.prog 77 #[.int .i64 (x : Int), .pointer (some ⟨b, 0, none⟩), .pointer (some ⟨c, 0, none⟩), .pointer (some ⟨d, 0, none⟩)] w
      fun e w' => e = .returned (.bool (decide (pat (rectB (2 ^ x) C0) 8 &&& (18446744073709551615 - o) = 0))) ∧ Below w.heap.size w w' := by
  have hX8 : 2 ^ x < 256 := Nat.lt_of_lt_of_le (Nat.pow_lt_pow_right (by decide) hx) (by decide)
  have HX : Hid (IntKind.i64.wrap (2 ^ x) = ((2 ^ x : Nat) : Int)) := by unfold Hid; rw [show ((2 : Int) ^ x) = ((2 ^ x : Nat) : Int) by simp]; exact wrap8 _ (by omega)
  have HP := Lib.hid (fun W => plain1 R C z o hz ho (2 ^ x) C0 hX8 hC0 W)
  have BH := Lib.hid hb
  have HC := Lib.hid hc
  have HD := Lib.hid hd
  clear hb hc hd
  generalize decide (pat (rectB (2 ^ x) C0) 8 &&& (18446744073709551615 - o) = 0) = t at *
  generalize 2 ^ x = X at *
  go_enter Tryz.func77, Tryz.ntmps77
  go_wp2_with fail
  refine wp_region_below (fun | 0 => brd R C z o | 1 => .int .i64 (x : Int) | 2 => .int .i64 (X : Int) | 3 => .int .i64 (C0 : Int) | 4 => rect (X : Int) (C0 : Int) | 5 => .int .i64 1 | 6 => .bool t | 7 => .bool t | _ => undef) (by kernel_rfl) (by kernel_rfl) rfl ?con ?en
  case con =>
    intro i o ho a w2 hb2 hf
    match i, ho with
    | 0, ho =>
      obtain rfl := Option.some.inj ho
      have b1 : a.tmps[1]?.getD undef = .pointer (some ⟨b, 0, none⟩) := hf.2 1 (by kernel_rfl)
      exact wp_load_row 50 (.tmp 1) rfl b (eval_get b1 trivial) 50 _ (0, 0) _ (bh_on BH.out hb2) Tryz.underlying50 rfl binfo ⟨rfl, Below.refl _ _⟩
    | 1, ho =>
      obtain rfl := Option.some.inj ho
      have b0 : a.tmps[0]?.getD undef = .int .i64 (x : Int) := hf.2 0 (by kernel_rfl)
      exact wp_value (.int .i64 (x : Int)) (by unfold execOp; go_simp) ⟨rfl, Below.refl _ _⟩
    | 2, ho =>
      obtain rfl := Option.some.inj ho
      have e7 : a.tmps[7]?.getD undef = .int .i64 (x : Int) := hf.1 ⟨1, .data⟩ (by simp) rfl _ 7 rfl rfl
      have hsh := HX.out
      exact wp_value (.int .i64 (X : Int)) (by unfold execOp; go_simp) ⟨rfl, Below.refl _ _⟩
    | 3, ho =>
      obtain rfl := Option.some.inj ho
      have b2 : a.tmps[2]?.getD undef = .pointer (some ⟨c, 0, none⟩) := hf.2 2 (by kernel_rfl)
      have hc1 := (hb2.cell (p := ⟨c, 0, none⟩) hcl).trans HC.out
      exact wp_value (.int .i64 (C0 : Int)) (by unfold execOp; go_simp) ⟨rfl, Below.refl _ _⟩
    | 4, ho =>
      obtain rfl := Option.some.inj ho
      have e8 : a.tmps[8]?.getD undef = .int .i64 (X : Int) := hf.1 ⟨2, .data⟩ (by simp) rfl _ 8 rfl rfl
      have e9 : a.tmps[9]?.getD undef = .int .i64 (C0 : Int) := hf.1 ⟨3, .data⟩ (by simp) rfl _ 9 rfl rfl
      exact wp_value (rect (X : Int) (C0 : Int)) (by unfold execOp; go_simp) ⟨rfl, Below.refl _ _⟩
    | 5, ho =>
      obtain rfl := Option.some.inj ho
      have b3 : a.tmps[3]?.getD undef = .pointer (some ⟨d, 0, none⟩) := hf.2 3 (by kernel_rfl)
      have hc1 := (hb2.cell (p := ⟨d, 0, none⟩) hdl).trans HD.out
      exact wp_value (.int .i64 1) (by unfold execOp; go_simp) ⟨rfl, Below.refl _ _⟩
    | 6, ho =>
      obtain rfl := Option.some.inj ho
      have e6 : a.tmps[6]?.getD undef = brd R C z o := hf.1 ⟨0, .data⟩ (by simp) rfl _ 6 rfl rfl
      have e10 : a.tmps[10]?.getD undef = rect (X : Int) (C0 : Int) := hf.1 ⟨4, .data⟩ (by simp) rfl _ 10 rfl rfl
      have e11 : a.tmps[11]?.getD undef = .int .i64 1 := hf.1 ⟨5, .data⟩ (by simp) rfl _ 11 rfl rfl
      exact wp_enter 33 #[brd R C z o, rect (X : Int) (C0 : Int), .int .i64 1] (.bool t) _ (by unfold execOp; go_simp) (HP.out w2) (fun w' h => ⟨rfl, h⟩)
    | 7, ho =>
      obtain rfl := Option.some.inj ho
      have e12 : a.tmps[12]?.getD undef = .bool t := hf.1 ⟨6, .data⟩ (by simp) rfl _ 12 rfl rfl
      exact wp_value (.bool t) (by unfold execOp; go_simp) ⟨rfl, Below.refl _ _⟩
    | q + 8, ho => simp at ho
  case en =>
    intro w2 hb2
    have HB2 := Lib.hid hb2
    clear hb2
    simp only [fill, Act.put]
    go_simp
    go_wp2_with fail
    go_ret
    exact ⟨rfl, HB2.out⟩
theorem rows_enters1 (args : Array Value) (W : World) : (callFunc 77 args).run Tryz.prog W = .ok (.enter 77 args) W := by kernel_rfl

set_option maxHeartbeats 1000000 in
set_option maxRecDepth 100000 in
theorem rows_with1 (R C : Nat) (hR : R ≤ 8) (hC : C ≤ 8) (z o : Nat) (hz : z < 18446744073709551616) (ho : o < 18446744073709551616) (C0 : Nat) (hC0 : C0 < 256) (w : World) :
    Calls Tryz.prog 50 #[brd R C z o, .int .i64 (C0 : Int), .int .i64 1] w fun e w' => e = .returned (.int .i64 ((setB (fun x => decide (pat (rectB (2 ^ x) C0) 8 &&& (18446744073709551615 - o) = 0)) R : Nat) : Int)) ∧ Below w.heap.size w w' := by
  have eg := rows_enters1
  go_enter Tryz.func50, Tryz.ntmps50
  go_wp2_with fail
  obtain ⟨e0, e1, e2, hb0, hz0⟩ := three_box (w := w) (a := .cells #[.int .i64 (R : Int), .int .i64 (C : Int), .int .u64 (z : Int), .int .u64 (o : Int)] 50) (b := .cells #[.int .i64 (C0 : Int)] 3) (c := .cells #[.int .i64 1] 3)
  generalize ((w.alloc (.cells #[.int .i64 (R : Int), .int .i64 (C : Int), .int .u64 (z : Int), .int .u64 (o : Int)] 50)).alloc (.cells #[.int .i64 (C0 : Int)] 3)).alloc (.cells #[.int .i64 1] 3) = W0 at *
  have BH : BHolds W0 w.heap.size R C z o := e0
  obtain ⟨q0, q1, q2, q3⟩ := bh_c BH
  have k1 : W0.cell? ⟨w.heap.size + 1, 0, none⟩ = some (.int .i64 (C0 : Int)) := cell_of_row _ _ 0 _ _ _ e1
  have k2 : W0.cell? ⟨w.heap.size + 1 + 1, 0, none⟩ = some (.int .i64 1) := cell_of_row _ _ 0 _ _ _ e2
  have HT : Hid (Says 77 #[.pointer (some ⟨w.heap.size, 0, none⟩), .pointer (some ⟨w.heap.size + 1, 0, none⟩), .pointer (some ⟨w.heap.size + 1 + 1, 0, none⟩)] R (fun x => decide (pat (rectB (2 ^ x) C0) 8 &&& (18446744073709551615 - o) = 0)) W0) :=
    fun W x hx hb => rows_clos1 R C z o hz ho C0 x hC0 (by omega) w.heap.size (w.heap.size + 1) (w.heap.size + 1 + 1) W (bh_on BH hb) ((hb.cell (p := ⟨w.heap.size + 1, 0, none⟩) (by show w.heap.size + 1 < _; omega)).trans k1) ((hb.cell (p := ⟨w.heap.size + 1 + 1, 0, none⟩) (by show w.heap.size + 1 + 1 < _; omega)).trans k2) (by have := hb.size; omega) (by have := hb.size; omega)
  have HW := Lib.hid (where_any 77 #[.pointer (some ⟨w.heap.size, 0, none⟩), .pointer (some ⟨w.heap.size + 1, 0, none⟩), .pointer (some ⟨w.heap.size + 1 + 1, 0, none⟩)] R hR _ W0 eg HT)
  have HB0 := Lib.hid hb0
  clear e0 e1 e2 BH hb0 k1 k2 HT
  obtain ⟨r, hr⟩ : ∃ r, setB (fun x => decide (pat (rectB (2 ^ x) C0) 8 &&& (18446744073709551615 - o) = 0)) R = r := ⟨_, rfl⟩
  rw [hr] at HW
  have HR := Lib.hid hr
  clear hr
  go_wp2_with fail
  refine HW.out.mono ?_
  rintro e w2 ⟨rfl, hb2⟩
  have HB2 := Lib.hid (rstep HB0.out hb2)
  clear hb2
  go_wp2_with fail
  go_ret
  exact ⟨by rw [HR.out]; rfl, HB2.out⟩

set_option maxHeartbeats 1000000 in
set_option maxRecDepth 100000 in
theorem cols_clos0 (R C : Int) (z o : Nat) (hz : z < 18446744073709551616) (ho : o < 18446744073709551616) (C0 x : Nat) (hC0 : C0 < 256) (hx : x < 8) (b c d : Nat) (w : World) (hb : BHolds w b R C z o)
    (hc : w.cell? ⟨c, 0, none⟩ = some (.int .i64 (C0 : Int))) (hd : w.cell? ⟨d, 0, none⟩ = some (.int .i64 0)) (hcl : c < w.heap.size) (hdl : d < w.heap.size) :
    Calls Tryz.prog 76 #[.int .i64 (x : Int), .pointer (some ⟨b, 0, none⟩), .pointer (some ⟨c, 0, none⟩), .pointer (some ⟨d, 0, none⟩)] w
      fun e w' => e = .returned (.bool (decide (pat (rectB C0 (2 ^ x)) 8 &&& (18446744073709551615 - z) = 0))) ∧ Below w.heap.size w w' := by
  have hX8 : 2 ^ x < 256 := Nat.lt_of_lt_of_le (Nat.pow_lt_pow_right (by decide) hx) (by decide)
  have HX : Hid (IntKind.i64.wrap (2 ^ x) = ((2 ^ x : Nat) : Int)) := by unfold Hid; rw [show ((2 : Int) ^ x) = ((2 ^ x : Nat) : Int) by simp]; exact wrap8 _ (by omega)
  have HP := Lib.hid (fun W => plain0 R C z o hz ho C0 (2 ^ x) hC0 hX8 W)
  have BH := Lib.hid hb
  have HC := Lib.hid hc
  have HD := Lib.hid hd
  clear hb hc hd
  generalize decide (pat (rectB C0 (2 ^ x)) 8 &&& (18446744073709551615 - z) = 0) = t at *
  generalize 2 ^ x = X at *
  go_enter Tryz.func76, Tryz.ntmps76
  go_wp2_with fail
  refine wp_region_below (fun | 0 => brd R C z o | 1 => .int .i64 (C0 : Int) | 2 => .int .i64 (x : Int) | 3 => .int .i64 (X : Int) | 4 => rect (C0 : Int) (X : Int) | 5 => .int .i64 0 | 6 => .bool t | 7 => .bool t | _ => undef) (by kernel_rfl) (by kernel_rfl) rfl ?con ?en
  case con =>
    intro i o ho a w2 hb2 hf
    match i, ho with
    | 0, ho =>
      obtain rfl := Option.some.inj ho
      have b1 : a.tmps[1]?.getD undef = .pointer (some ⟨b, 0, none⟩) := hf.2 1 (by kernel_rfl)
      exact wp_load_row 50 (.tmp 1) rfl b (eval_get b1 trivial) 50 _ (0, 0) _ (bh_on BH.out hb2) Tryz.underlying50 rfl binfo ⟨rfl, Below.refl _ _⟩
    | 1, ho =>
      obtain rfl := Option.some.inj ho
      have b2 : a.tmps[2]?.getD undef = .pointer (some ⟨c, 0, none⟩) := hf.2 2 (by kernel_rfl)
      have hc1 := (hb2.cell (p := ⟨c, 0, none⟩) hcl).trans HC.out
      exact wp_value (.int .i64 (C0 : Int)) (by unfold execOp; go_simp) ⟨rfl, Below.refl _ _⟩
    | 2, ho =>
      obtain rfl := Option.some.inj ho
      have b0 : a.tmps[0]?.getD undef = .int .i64 (x : Int) := hf.2 0 (by kernel_rfl)
      exact wp_value (.int .i64 (x : Int)) (by unfold execOp; go_simp) ⟨rfl, Below.refl _ _⟩
    | 3, ho =>
      obtain rfl := Option.some.inj ho
      have e8 : a.tmps[8]?.getD undef = .int .i64 (x : Int) := hf.1 ⟨2, .data⟩ (by simp) rfl _ 8 rfl rfl
      have hsh := HX.out
      exact wp_value (.int .i64 (X : Int)) (by unfold execOp; go_simp) ⟨rfl, Below.refl _ _⟩
    | 4, ho =>
      obtain rfl := Option.some.inj ho
      have e7 : a.tmps[7]?.getD undef = .int .i64 (C0 : Int) := hf.1 ⟨1, .data⟩ (by simp) rfl _ 7 rfl rfl
      have e9 : a.tmps[9]?.getD undef = .int .i64 (X : Int) := hf.1 ⟨3, .data⟩ (by simp) rfl _ 9 rfl rfl
      exact wp_value (rect (C0 : Int) (X : Int)) (by unfold execOp; go_simp) ⟨rfl, Below.refl _ _⟩
    | 5, ho =>
      obtain rfl := Option.some.inj ho
      have b3 : a.tmps[3]?.getD undef = .pointer (some ⟨d, 0, none⟩) := hf.2 3 (by kernel_rfl)
      have hc1 := (hb2.cell (p := ⟨d, 0, none⟩) hdl).trans HD.out
      exact wp_value (.int .i64 0) (by unfold execOp; go_simp) ⟨rfl, Below.refl _ _⟩
    | 6, ho =>
      obtain rfl := Option.some.inj ho
      have e6 : a.tmps[6]?.getD undef = brd R C z o := hf.1 ⟨0, .data⟩ (by simp) rfl _ 6 rfl rfl
      have e10 : a.tmps[10]?.getD undef = rect (C0 : Int) (X : Int) := hf.1 ⟨4, .data⟩ (by simp) rfl _ 10 rfl rfl
      have e11 : a.tmps[11]?.getD undef = .int .i64 0 := hf.1 ⟨5, .data⟩ (by simp) rfl _ 11 rfl rfl
      exact wp_enter 33 #[brd R C z o, rect (C0 : Int) (X : Int), .int .i64 0] (.bool t) _ (by unfold execOp; go_simp) (HP.out w2) (fun w' h => ⟨rfl, h⟩)
    | 7, ho =>
      obtain rfl := Option.some.inj ho
      have e12 : a.tmps[12]?.getD undef = .bool t := hf.1 ⟨6, .data⟩ (by simp) rfl _ 12 rfl rfl
      exact wp_value (.bool t) (by unfold execOp; go_simp) ⟨rfl, Below.refl _ _⟩
    | q + 8, ho => simp at ho
  case en =>
    intro w2 hb2
    have HB2 := Lib.hid hb2
    clear hb2
    simp only [fill, Act.put]
    go_simp
    go_wp2_with fail
    go_ret
    exact ⟨rfl, HB2.out⟩
theorem cols_enters0 (args : Array Value) (W : World) : (callFunc 76 args).run Tryz.prog W = .ok (.enter 76 args) W := by kernel_rfl

set_option maxHeartbeats 1000000 in
set_option maxRecDepth 100000 in
theorem cols_with0 (R C : Nat) (hR : R ≤ 8) (hC : C ≤ 8) (z o : Nat) (hz : z < 18446744073709551616) (ho : o < 18446744073709551616) (C0 : Nat) (hC0 : C0 < 256) (w : World) :
    Calls Tryz.prog 49 #[brd R C z o, .int .i64 (C0 : Int), .int .i64 0] w fun e w' => e = .returned (.int .i64 ((setB (fun x => decide (pat (rectB C0 (2 ^ x)) 8 &&& (18446744073709551615 - z) = 0)) C : Nat) : Int)) ∧ Below w.heap.size w w' := by
  have eg := cols_enters0
  go_enter Tryz.func49, Tryz.ntmps49
  go_wp2_with fail
  obtain ⟨e0, e1, e2, hb0, hz0⟩ := three_box (w := w) (a := .cells #[.int .i64 (R : Int), .int .i64 (C : Int), .int .u64 (z : Int), .int .u64 (o : Int)] 50) (b := .cells #[.int .i64 (C0 : Int)] 3) (c := .cells #[.int .i64 0] 3)
  generalize ((w.alloc (.cells #[.int .i64 (R : Int), .int .i64 (C : Int), .int .u64 (z : Int), .int .u64 (o : Int)] 50)).alloc (.cells #[.int .i64 (C0 : Int)] 3)).alloc (.cells #[.int .i64 0] 3) = W0 at *
  have BH : BHolds W0 w.heap.size R C z o := e0
  obtain ⟨q0, q1, q2, q3⟩ := bh_c BH
  have k1 : W0.cell? ⟨w.heap.size + 1, 0, none⟩ = some (.int .i64 (C0 : Int)) := cell_of_row _ _ 0 _ _ _ e1
  have k2 : W0.cell? ⟨w.heap.size + 1 + 1, 0, none⟩ = some (.int .i64 0) := cell_of_row _ _ 0 _ _ _ e2
  have HT : Hid (Says 76 #[.pointer (some ⟨w.heap.size, 0, none⟩), .pointer (some ⟨w.heap.size + 1, 0, none⟩), .pointer (some ⟨w.heap.size + 1 + 1, 0, none⟩)] C (fun x => decide (pat (rectB C0 (2 ^ x)) 8 &&& (18446744073709551615 - z) = 0)) W0) :=
    fun W x hx hb => cols_clos0 R C z o hz ho C0 x hC0 (by omega) w.heap.size (w.heap.size + 1) (w.heap.size + 1 + 1) W (bh_on BH hb) ((hb.cell (p := ⟨w.heap.size + 1, 0, none⟩) (by show w.heap.size + 1 < _; omega)).trans k1) ((hb.cell (p := ⟨w.heap.size + 1 + 1, 0, none⟩) (by show w.heap.size + 1 + 1 < _; omega)).trans k2) (by have := hb.size; omega) (by have := hb.size; omega)
  have HW := Lib.hid (where_any 76 #[.pointer (some ⟨w.heap.size, 0, none⟩), .pointer (some ⟨w.heap.size + 1, 0, none⟩), .pointer (some ⟨w.heap.size + 1 + 1, 0, none⟩)] C hC _ W0 eg HT)
  have HB0 := Lib.hid hb0
  clear e0 e1 e2 BH hb0 k1 k2 HT
  obtain ⟨r, hr⟩ : ∃ r, setB (fun x => decide (pat (rectB C0 (2 ^ x)) 8 &&& (18446744073709551615 - z) = 0)) C = r := ⟨_, rfl⟩
  rw [hr] at HW
  have HR := Lib.hid hr
  clear hr
  go_wp2_with fail
  refine HW.out.mono ?_
  rintro e w2 ⟨rfl, hb2⟩
  have HB2 := Lib.hid (rstep HB0.out hb2)
  clear hb2
  go_wp2_with fail
  go_ret
  exact ⟨by rw [HR.out]; rfl, HB2.out⟩

set_option maxHeartbeats 1000000 in
set_option maxRecDepth 100000 in
theorem cols_clos1 (R C : Int) (z o : Nat) (hz : z < 18446744073709551616) (ho : o < 18446744073709551616) (C0 x : Nat) (hC0 : C0 < 256) (hx : x < 8) (b c d : Nat) (w : World) (hb : BHolds w b R C z o)
    (hc : w.cell? ⟨c, 0, none⟩ = some (.int .i64 (C0 : Int))) (hd : w.cell? ⟨d, 0, none⟩ = some (.int .i64 1)) (hcl : c < w.heap.size) (hdl : d < w.heap.size) :
    Calls Tryz.prog 76 #[.int .i64 (x : Int), .pointer (some ⟨b, 0, none⟩), .pointer (some ⟨c, 0, none⟩), .pointer (some ⟨d, 0, none⟩)] w
      fun e w' => e = .returned (.bool (decide (pat (rectB C0 (2 ^ x)) 8 &&& (18446744073709551615 - o) = 0))) ∧ Below w.heap.size w w' := by
  have hX8 : 2 ^ x < 256 := Nat.lt_of_lt_of_le (Nat.pow_lt_pow_right (by decide) hx) (by decide)
  have HX : Hid (IntKind.i64.wrap (2 ^ x) = ((2 ^ x : Nat) : Int)) := by unfold Hid; rw [show ((2 : Int) ^ x) = ((2 ^ x : Nat) : Int) by simp]; exact wrap8 _ (by omega)
  have HP := Lib.hid (fun W => plain1 R C z o hz ho C0 (2 ^ x) hC0 hX8 W)
  have BH := Lib.hid hb
  have HC := Lib.hid hc
  have HD := Lib.hid hd
  clear hb hc hd
  generalize decide (pat (rectB C0 (2 ^ x)) 8 &&& (18446744073709551615 - o) = 0) = t at *
  generalize 2 ^ x = X at *
  go_enter Tryz.func76, Tryz.ntmps76
  go_wp2_with fail
  refine wp_region_below (fun | 0 => brd R C z o | 1 => .int .i64 (C0 : Int) | 2 => .int .i64 (x : Int) | 3 => .int .i64 (X : Int) | 4 => rect (C0 : Int) (X : Int) | 5 => .int .i64 1 | 6 => .bool t | 7 => .bool t | _ => undef) (by kernel_rfl) (by kernel_rfl) rfl ?con ?en
  case con =>
    intro i o ho a w2 hb2 hf
    match i, ho with
    | 0, ho =>
      obtain rfl := Option.some.inj ho
      have b1 : a.tmps[1]?.getD undef = .pointer (some ⟨b, 0, none⟩) := hf.2 1 (by kernel_rfl)
      exact wp_load_row 50 (.tmp 1) rfl b (eval_get b1 trivial) 50 _ (0, 0) _ (bh_on BH.out hb2) Tryz.underlying50 rfl binfo ⟨rfl, Below.refl _ _⟩
    | 1, ho =>
      obtain rfl := Option.some.inj ho
      have b2 : a.tmps[2]?.getD undef = .pointer (some ⟨c, 0, none⟩) := hf.2 2 (by kernel_rfl)
      have hc1 := (hb2.cell (p := ⟨c, 0, none⟩) hcl).trans HC.out
      exact wp_value (.int .i64 (C0 : Int)) (by unfold execOp; go_simp) ⟨rfl, Below.refl _ _⟩
    | 2, ho =>
      obtain rfl := Option.some.inj ho
      have b0 : a.tmps[0]?.getD undef = .int .i64 (x : Int) := hf.2 0 (by kernel_rfl)
      exact wp_value (.int .i64 (x : Int)) (by unfold execOp; go_simp) ⟨rfl, Below.refl _ _⟩
    | 3, ho =>
      obtain rfl := Option.some.inj ho
      have e8 : a.tmps[8]?.getD undef = .int .i64 (x : Int) := hf.1 ⟨2, .data⟩ (by simp) rfl _ 8 rfl rfl
      have hsh := HX.out
      exact wp_value (.int .i64 (X : Int)) (by unfold execOp; go_simp) ⟨rfl, Below.refl _ _⟩
    | 4, ho =>
      obtain rfl := Option.some.inj ho
      have e7 : a.tmps[7]?.getD undef = .int .i64 (C0 : Int) := hf.1 ⟨1, .data⟩ (by simp) rfl _ 7 rfl rfl
      have e9 : a.tmps[9]?.getD undef = .int .i64 (X : Int) := hf.1 ⟨3, .data⟩ (by simp) rfl _ 9 rfl rfl
      exact wp_value (rect (C0 : Int) (X : Int)) (by unfold execOp; go_simp) ⟨rfl, Below.refl _ _⟩
    | 5, ho =>
      obtain rfl := Option.some.inj ho
      have b3 : a.tmps[3]?.getD undef = .pointer (some ⟨d, 0, none⟩) := hf.2 3 (by kernel_rfl)
      have hc1 := (hb2.cell (p := ⟨d, 0, none⟩) hdl).trans HD.out
      exact wp_value (.int .i64 1) (by unfold execOp; go_simp) ⟨rfl, Below.refl _ _⟩
    | 6, ho =>
      obtain rfl := Option.some.inj ho
      have e6 : a.tmps[6]?.getD undef = brd R C z o := hf.1 ⟨0, .data⟩ (by simp) rfl _ 6 rfl rfl
      have e10 : a.tmps[10]?.getD undef = rect (C0 : Int) (X : Int) := hf.1 ⟨4, .data⟩ (by simp) rfl _ 10 rfl rfl
      have e11 : a.tmps[11]?.getD undef = .int .i64 1 := hf.1 ⟨5, .data⟩ (by simp) rfl _ 11 rfl rfl
      exact wp_enter 33 #[brd R C z o, rect (C0 : Int) (X : Int), .int .i64 1] (.bool t) _ (by unfold execOp; go_simp) (HP.out w2) (fun w' h => ⟨rfl, h⟩)
    | 7, ho =>
      obtain rfl := Option.some.inj ho
      have e12 : a.tmps[12]?.getD undef = .bool t := hf.1 ⟨6, .data⟩ (by simp) rfl _ 12 rfl rfl
      exact wp_value (.bool t) (by unfold execOp; go_simp) ⟨rfl, Below.refl _ _⟩
    | q + 8, ho => simp at ho
  case en =>
    intro w2 hb2
    have HB2 := Lib.hid hb2
    clear hb2
    simp only [fill, Act.put]
    go_simp
    go_wp2_with fail
    go_ret
    exact ⟨rfl, HB2.out⟩
theorem cols_enters1 (args : Array Value) (W : World) : (callFunc 76 args).run Tryz.prog W = .ok (.enter 76 args) W := by kernel_rfl

set_option maxHeartbeats 1000000 in
set_option maxRecDepth 100000 in
theorem cols_with1 (R C : Nat) (hR : R ≤ 8) (hC : C ≤ 8) (z o : Nat) (hz : z < 18446744073709551616) (ho : o < 18446744073709551616) (C0 : Nat) (hC0 : C0 < 256) (w : World) :
    Calls Tryz.prog 49 #[brd R C z o, .int .i64 (C0 : Int), .int .i64 1] w fun e w' => e = .returned (.int .i64 ((setB (fun x => decide (pat (rectB C0 (2 ^ x)) 8 &&& (18446744073709551615 - o) = 0)) C : Nat) : Int)) ∧ Below w.heap.size w w' := by
  have eg := cols_enters1
  go_enter Tryz.func49, Tryz.ntmps49
  go_wp2_with fail
  obtain ⟨e0, e1, e2, hb0, hz0⟩ := three_box (w := w) (a := .cells #[.int .i64 (R : Int), .int .i64 (C : Int), .int .u64 (z : Int), .int .u64 (o : Int)] 50) (b := .cells #[.int .i64 (C0 : Int)] 3) (c := .cells #[.int .i64 1] 3)
  generalize ((w.alloc (.cells #[.int .i64 (R : Int), .int .i64 (C : Int), .int .u64 (z : Int), .int .u64 (o : Int)] 50)).alloc (.cells #[.int .i64 (C0 : Int)] 3)).alloc (.cells #[.int .i64 1] 3) = W0 at *
  have BH : BHolds W0 w.heap.size R C z o := e0
  obtain ⟨q0, q1, q2, q3⟩ := bh_c BH
  have k1 : W0.cell? ⟨w.heap.size + 1, 0, none⟩ = some (.int .i64 (C0 : Int)) := cell_of_row _ _ 0 _ _ _ e1
  have k2 : W0.cell? ⟨w.heap.size + 1 + 1, 0, none⟩ = some (.int .i64 1) := cell_of_row _ _ 0 _ _ _ e2
  have HT : Hid (Says 76 #[.pointer (some ⟨w.heap.size, 0, none⟩), .pointer (some ⟨w.heap.size + 1, 0, none⟩), .pointer (some ⟨w.heap.size + 1 + 1, 0, none⟩)] C (fun x => decide (pat (rectB C0 (2 ^ x)) 8 &&& (18446744073709551615 - o) = 0)) W0) :=
    fun W x hx hb => cols_clos1 R C z o hz ho C0 x hC0 (by omega) w.heap.size (w.heap.size + 1) (w.heap.size + 1 + 1) W (bh_on BH hb) ((hb.cell (p := ⟨w.heap.size + 1, 0, none⟩) (by show w.heap.size + 1 < _; omega)).trans k1) ((hb.cell (p := ⟨w.heap.size + 1 + 1, 0, none⟩) (by show w.heap.size + 1 + 1 < _; omega)).trans k2) (by have := hb.size; omega) (by have := hb.size; omega)
  have HW := Lib.hid (where_any 76 #[.pointer (some ⟨w.heap.size, 0, none⟩), .pointer (some ⟨w.heap.size + 1, 0, none⟩), .pointer (some ⟨w.heap.size + 1 + 1, 0, none⟩)] C hC _ W0 eg HT)
  have HB0 := Lib.hid hb0
  clear e0 e1 e2 BH hb0 k1 k2 HT
  obtain ⟨r, hr⟩ : ∃ r, setB (fun x => decide (pat (rectB C0 (2 ^ x)) 8 &&& (18446744073709551615 - o) = 0)) C = r := ⟨_, rfl⟩
  rw [hr] at HW
  have HR := Lib.hid hr
  clear hr
  go_wp2_with fail
  refine HW.out.mono ?_
  rintro e w2 ⟨rfl, hb2⟩
  have HB2 := Lib.hid (rstep HB0.out hb2)
  clear hb2
  go_wp2_with fail
  go_ret
  exact ⟨by rw [HR.out]; rfl, HB2.out⟩
end Go.Proofs.YtemmagkkigdhjaaGreatDoor.With

/-
  The reference's l2Grow and GrowRect; the board's grow, isBit, GrowRect.
-/
namespace Go.Proofs.YtemmagkkigdhjaaGreatDoor.Grow
open Go.RowKit Go.Proofs.YtemmagkkigdhjaaGreatDoor.Plain Go.Proofs.YtemmagkkigdhjaaGreatDoor.Base Go.Proofs.YtemmagkkigdhjaaGreatDoor.Valid Go.Proofs.YtemmagkkigdhjaaGreatDoor.Law Go.Proofs.YtemmagkkigdhjaaGreatDoor.GridPlain Go.Proofs.YtemmagkkigdhjaaGreatDoor.Grid Go.Proofs.YtemmagkkigdhjaaGreatDoor.Entry Go.Proofs.YtemmagkkigdhjaaGreatDoor.Pat Go.Proofs.YtemmagkkigdhjaaGreatDoor.Rect Go.Proofs.YtemmagkkigdhjaaGreatDoor.Patch Go.Proofs.YtemmagkkigdhjaaGreatDoor.FreeL Go.Proofs.YtemmagkkigdhjaaGreatDoor.Board Go.Proofs.YtemmagkkigdhjaaGreatDoor.BoardM Go.Proofs.YtemmagkkigdhjaaGreatDoor.RValid Go.Proofs.YtemmagkkigdhjaaGreatDoor.Colour Go.Proofs.YtemmagkkigdhjaaGreatDoor.Where Go.Proofs.YtemmagkkigdhjaaGreatDoor.With Go.Proofs.YtemmagkkigdhjaaGreatDoor.Cols
open Go.Proofs.YtemmagkkigdhjaaGreatDoor.Free (fill wp_value wp_enter wp_load_row freeB)
set_option linter.unusedVariables false

/-- a box, the rectangle's box, the result's block -/
structure GInv (w wr : World) (X : Obj) (r c a b : Int) : Prop where
  m : wr.heap[w.heap.size]? = some X
  t : THolds wr (w.heap.size + 1) 31 r c
  o : THolds wr (w.heap.size + 1 + 1) 31 a b
  below : Below w.heap.size w wr
theorem GInv.later {w wr w2 : World} {X : Obj} {r c a b : Int} (h : GInv w wr X r c a b) (hb : Below wr.heap.size wr w2) : GInv w w2 X r c a b :=
  ⟨(hb.block _ (Array.getElem?_eq_some_iff.1 h.m).1).trans h.m, th_on h.t hb, th_on h.o hb, rstep h.below hb⟩
theorem GInv.start (w : World) (X : Obj) (r c a b : Int) : GInv w (((w.alloc X).alloc (.cells #[.int .i64 r, .int .i64 c] 31)).alloc (.cells #[.int .i64 a, .int .i64 b] 31)) X r c a b := by
  obtain ⟨e0, e1, e2, hb0, _⟩ := three_box (w := w) (a := X) (b := .cells #[.int .i64 r, .int .i64 c] 31) (c := .cells #[.int .i64 a, .int .i64 b] 31)
  exact ⟨e0, e1, e2, hb0⟩
theorem GInv.fr {w wr : World} {X : Obj} {r c a b : Int} (h : GInv w wr X r c a b) : wr.frozen? ⟨w.heap.size + 1 + 1, 0, none⟩ = false ∧ wr.frozen? ⟨w.heap.size + 1 + 1, 1, none⟩ = false :=
  ⟨frozen_of_row _ _ 0 _ _ h.o, frozen_of_row _ _ 1 _ _ h.o⟩
theorem GInv.sz {w wr : World} {X : Obj} {r c a b : Int} (h : GInv w wr X r c a b) : w.heap.size + 3 ≤ wr.heap.size := by
  have := (Array.getElem?_eq_some_iff.1 h.o).1
  omega

/-- sets of the same members -/
theorem setB_same {P Q : Nat → Bool} : ∀ n, (∀ i, i < n → P i = Q i) → setB P n = setB Q n := by
  intro n h
  refine Nat.eq_of_testBit_eq fun i => ?_
  rw [setB_bit, setB_bit]
  by_cases hi : i < n
  · rw [h i hi]
  · rw [decide_eq_false hi]; rfl

theorem rows_eq (E P : Nat → Nat → Bool) (b : Bool) (hP : ∀ x y, P x y = (E x y == b)) (R C c : Nat) (hR : R ≤ 8) (hC : C ≤ 8) (h8 : c < 256) (hc : ∀ y, c.testBit y = true → y < C) :
    setB (fun x => decide (pat (rectB (2 ^ x) c) 8 &&& (18446744073709551615 - pat (onB P R C) 8) = 0)) R = setB (fun x => allTo (fun y x => E x y) c b x C) R := by
  refine setB_same R fun x hx => ?_
  have hX8 : 2 ^ x < 256 := Nat.lt_of_lt_of_le (Nat.pow_lt_pow_right (by decide) (show x < 8 by omega)) (by decide)
  have e := plain_pat P R C (2 ^ x) c hR hC hX8 h8
  have e2 := allTo_iff (fun y x => E x y) c b x C
  have e3 : allP P R C (2 ^ x) c ↔ ∀ y, y < C → c.testBit y = true → E x y = b := by
    unfold allP
    constructor
    · intro h y hy hb
      have := (h x y (by rw [pow_bit]; simp) hb).2
      rw [hP, beq_iff_eq] at this
      exact this
    · intro h x' y hx' hb
      rw [pow_bit, decide_eq_true_iff] at hx'
      subst hx'
      refine ⟨⟨hx, hc y hb⟩, ?_⟩
      rw [hP, beq_iff_eq]
      exact h y (hc y hb) hb
  show decide _ = allTo _ _ _ _ _
  rw [Bool.eq_iff_iff, decide_eq_true_iff]
  exact e.trans (e3.trans e2.symm)

theorem cols_eq (E P : Nat → Nat → Bool) (b : Bool) (hP : ∀ x y, P x y = (E x y == b)) (R C c : Nat) (hR : R ≤ 8) (hC : C ≤ 8) (h8 : c < 256) (hc : ∀ x, c.testBit x = true → x < R) :
    setB (fun y => decide (pat (rectB c (2 ^ y)) 8 &&& (18446744073709551615 - pat (onB P R C) 8) = 0)) C = setB (fun y => allTo E c b y R) C := by
  refine setB_same C fun y hy => ?_
  have hX8 : 2 ^ y < 256 := Nat.lt_of_lt_of_le (Nat.pow_lt_pow_right (by decide) (show y < 8 by omega)) (by decide)
  have e := plain_pat P R C c (2 ^ y) hR hC h8 hX8
  have e2 := allTo_iff E c b y R
  have e3 : allP P R C c (2 ^ y) ↔ ∀ x, x < R → c.testBit x = true → E x y = b := by
    unfold allP
    constructor
    · intro h x hx hb
      have := (h x y hb (by rw [pow_bit]; simp)).2
      rw [hP, beq_iff_eq] at this
      exact this
    · intro h x y' hb hy'
      rw [pow_bit, decide_eq_true_iff] at hy'
      subst hy'
      refine ⟨⟨hc x hb, hy⟩, ?_⟩
      rw [hP, beq_iff_eq]
      exact h x (hc x hb) hb
  show decide _ = allTo _ _ _ _ _
  rw [Bool.eq_iff_iff, decide_eq_true_iff]
  exact e.trans (e3.trans e2.symm)

set_option maxHeartbeats 1000000 in
theorem isBit_any (v : Int) (hv : v = -2 ∨ v = -1 ∨ v = 0 ∨ v = 1) (w : World) :
    Calls Tryz.prog 19 #[.int .i64 v] w fun e w' => e = .returned (.bool (decide (0 ≤ v))) ∧ w = w' := by
  rcases hv with rfl | rfl | rfl | rfl
  all_goals
    go_enter Tryz.func19, Tryz.ntmps19
    go_wp2_with fail
    go_ret
    exact ⟨rfl, rfl⟩

set_option maxHeartbeats 1000000 in
theorem impl_grow (rr cc : Int) (z o : Nat) (r c A B b : Int) (hr : ∀ W : World, Calls Tryz.prog 50 #[brd rr cc z o, .int .i64 c, .int .i64 b] W fun e w' => e = .returned (.int .i64 A) ∧ Below W.heap.size W w')
    (hc : ∀ W : World, Calls Tryz.prog 49 #[brd rr cc z o, .int .i64 A, .int .i64 b] W fun e w' => e = .returned (.int .i64 B) ∧ Below W.heap.size W w') (w : World) :
    Calls Tryz.prog 22 #[brd rr cc z o, rect r c, .int .i64 b] w fun e w' => e = .returned (rect A B) ∧ Below w.heap.size w w' := by
  have HR := Lib.hid hr
  have HC := Lib.hid hc
  clear hr hc
  go_enter Tryz.func22, Tryz.ntmps22
  go_wp2_with fail
  refine (HR.out _).mono ?_
  rintro e w1 ⟨rfl, hb1⟩
  have hinv := (GInv.start w (.cells #[.int .i64 rr, .int .i64 cc, .int .u64 (z : Int), .int .u64 (o : Int)] 50) r c 0 0).later hb1
  obtain ⟨q0, q1, q2, q3⟩ := bh_c (show BHolds _ _ rr cc z o from hinv.m)
  obtain ⟨p0, p1⟩ := th_c hinv.t
  have hsz := hinv.sz
  have HI := Lib.hid hinv
  clear hb1 hinv HR
  go_wp2_with fail
  refine (HC.out _).mono ?_
  rintro e w2 ⟨rfl, hb2⟩
  have hinv := HI.out.later hb2
  obtain ⟨o0, o1⟩ := th_c hinv.o
  obtain ⟨f0, f1⟩ := hinv.fr
  have hsz2 := hinv.sz
  have HI2 := Lib.hid hinv.below
  clear hb2 HI q0 q1 q2 q3 p0 p1 hinv HC hsz
  go_wp2_with fail
  refine bodyPost_ret (v := rect _ _) (by simp [results, Tryz.results22, go_sem, o0, o1]) rfl ⟨rfl, ?_⟩
  exact (HI2.out.setCell (by simp; omega) _).setCell (by simp; omega) _

set_option maxHeartbeats 1000000 in
theorem impl_growOf_no (rr cc : Int) (s : ByteArray) (r c v : Int) (hv : v < 0) (hv3 : v = -2 ∨ v = -1 ∨ v = 0 ∨ v = 1) (hcol : ∀ W : World, Calls Tryz.prog 9 #[mat rr cc s, rect r c] W fun e w' => e = .returned (.int .i64 v) ∧ Below W.heap.size W w') (w : World) :
    Calls Tryz.prog 8 #[mat rr cc s, rect r c] w fun e w' => e = .returned (.tuple #[rect 0 0, .bool false]) ∧ Below w.heap.size w w' := by
  have HCOL := Lib.hid hcol
  clear hcol
  have HBIT := Lib.hid (fun W => isBit_any v hv3 W)
  rw [decide_eq_false (by omega)] at HBIT
  go_enter Tryz.func8, Tryz.ntmps8
  go_wp2_with fail
  refine (HCOL.out _).mono ?_
  rintro e w1 ⟨rfl, hb1⟩
  have hinv := (GInv.start w (.cells #[.int .i64 rr, .int .i64 cc, .string s] 24) r c 0 0).later hb1
  obtain ⟨q0, q1, q2⟩ := mh_c (show MHolds _ _ 24 rr cc s from hinv.m)
  obtain ⟨p0, p1⟩ := th_c hinv.t
  obtain ⟨o0, o1⟩ := th_c hinv.o
  obtain ⟨f0, f1⟩ := hinv.fr
  have hsz := hinv.sz
  have HI := Lib.hid hinv.below
  clear hb1 hinv HCOL
  go_wp2_with fail
  refine (HBIT.out _).mono ?_
  rintro e w' ⟨rfl, rfl⟩
  go_wp2_with fail
  refine bodyPost_ret (v := .tuple #[rect 0 0, .bool false]) (by simp [results, Tryz.results8, go_sem, o0, o1]) rfl ⟨rfl, ?_⟩
  exact (HI.out.setCell (by simp; omega) _).setCell (by simp; omega) _
end Go.Proofs.YtemmagkkigdhjaaGreatDoor.Grow

/-
  The mathematics of maximal rectangles: closed pairs of sets of rows and columns, their list by rising rows.
-/
namespace Go.Proofs.YtemmagkkigdhjaaGreatDoor.MaxM
open Go.RowKit Go.Proofs.YtemmagkkigdhjaaGreatDoor.Pat Go.Proofs.YtemmagkkigdhjaaGreatDoor.Cols
set_option linter.unusedVariables false

/-- the columns that have a value in all rows of a set; the rows that have it in all columns of a set -/
def cS (E : Nat → Nat → Bool) (b : Bool) (R C S : Nat) : Nat := setB (fun y => allTo E S b y R) C
def rS (E : Nat → Nat → Bool) (b : Bool) (R C T : Nat) : Nat := setB (fun x => allTo (fun y x => E x y) T b x C) R
theorem cS_bit (E : Nat → Nat → Bool) (b : Bool) (R C S y : Nat) : (cS E b R C S).testBit y = true ↔ y < C ∧ ∀ x, x < R → S.testBit x = true → E x y = b := by
  unfold cS
  rw [setB_bit, Bool.and_eq_true, decide_eq_true_iff, allTo_iff]
theorem rS_bit (E : Nat → Nat → Bool) (b : Bool) (R C T x : Nat) : (rS E b R C T).testBit x = true ↔ x < R ∧ ∀ y, y < C → T.testBit y = true → E x y = b := by
  unfold rS
  rw [setB_bit, Bool.and_eq_true, decide_eq_true_iff, allTo_iff]
theorem cS_lt (E : Nat → Nat → Bool) (b : Bool) (R C S : Nat) : cS E b R C S < 2 ^ C := setB_lt _ C
theorem rS_lt (E : Nat → Nat → Bool) (b : Bool) (R C S : Nat) : rS E b R C S < 2 ^ R := setB_lt _ R
/-- the rows that fit have the first ones -/
theorem rows_grow (E : Nat → Nat → Bool) (b : Bool) (R C S x : Nat) (hx : x < R) (h : S.testBit x = true) : (rS E b R C (cS E b R C S)).testBit x = true :=
  (rS_bit ..).2 ⟨hx, fun y hy hb => ((cS_bit ..).1 hb).2 x hx h⟩
/-- the columns that fit do not change -/
theorem cols_closed (E : Nat → Nat → Bool) (b : Bool) (R C S : Nat) : cS E b R C (rS E b R C (cS E b R C S)) = cS E b R C S := by
  refine Nat.eq_of_testBit_eq fun y => ?_
  rw [Bool.eq_iff_iff]
  constructor
  · intro h
    obtain ⟨h1, h2⟩ := (cS_bit ..).1 h
    exact (cS_bit ..).2 ⟨h1, fun x hx hb => h2 x hx (rows_grow E b R C S x hx hb)⟩
  · intro h
    obtain ⟨h1, h2⟩ := (cS_bit ..).1 h
    exact (cS_bit ..).2 ⟨h1, fun x hx hb => ((rS_bit ..).1 hb).2 y h1 h⟩
/-- a set that is not empty keeps a row -/
theorem rows_pos (E : Nat → Nat → Bool) (b : Bool) (R C S : Nat) (h1 : 1 ≤ S) (h2 : S < 2 ^ R) : 1 ≤ rS E b R C (cS E b R C S) := by
  obtain ⟨x, hx⟩ : ∃ x, S.testBit x = true := Nat.exists_testBit_of_ne_zero (by omega)
  have hxR : x < R := by
    rcases Nat.lt_or_ge x R with h | h
    · exact h
    · rw [bit_beyond S x R h2 h] at hx
      cases hx
  have h := rows_grow E b R C S x hxR hx
  rcases Nat.eq_zero_or_pos (rS E b R C (cS E b R C S)) with h0 | h0
  · rw [h0] at h
    simp at h
  · exact h0

/-- the maximal rectangles whose rows are at most k -/
def mx (E : Nat → Nat → Bool) (b : Bool) (R C : Nat) : Nat → List (Int × Int)
  | 0 => []
  | k + 1 => mx E b R C k ++ (if 0 < cS E b R C (k + 1) ∧ rS E b R C (cS E b R C (k + 1)) = k + 1 then [(((k + 1 : Nat) : Int), ((cS E b R C (k + 1) : Nat) : Int))] else [])
theorem mx_len (E : Nat → Nat → Bool) (b : Bool) (R C : Nat) : ∀ k, (mx E b R C k).length ≤ k
  | 0 => Nat.le_refl _
  | k + 1 => by
    have := mx_len E b R C k
    rw [mx, List.length_append]
    split <;> simp <;> omega
theorem mx_mem (E : Nat → Nat → Bool) (b : Bool) (R C : Nat) (p : Int × Int) : ∀ k, p ∈ mx E b R C k ↔ ∃ S, 1 ≤ S ∧ S ≤ k ∧ 0 < cS E b R C S ∧ rS E b R C (cS E b R C S) = S ∧ p = ((S : Int), ((cS E b R C S : Nat) : Int))
  | 0 => by
    constructor
    · intro h; cases h
    · rintro ⟨S, h1, h2, _⟩; omega
  | k + 1 => by
    rw [mx, List.mem_append, mx_mem E b R C p k]
    constructor
    · rintro (⟨S, h1, h2, h3⟩ | h)
      · exact ⟨S, h1, by omega, h3⟩
      · split at h
        · rename_i hc
          simp only [List.mem_singleton] at h
          exact ⟨k + 1, by omega, Nat.le_refl _, hc.1, hc.2, h⟩
        · cases h
    · rintro ⟨S, h1, h2, h3, h4, h5⟩
      by_cases e : S = k + 1
      · subst e
        right
        rw [if_pos ⟨h3, h4⟩, h5]
        exact List.mem_singleton.2 rfl
      · exact .inl ⟨S, h1, by omega, h3, h4, h5⟩
theorem mx_rises (E : Nat → Nat → Bool) (b : Bool) (R C : Nat) : ∀ k, (mx E b R C k).Pairwise (fun p q => p.1 < q.1)
  | 0 => List.Pairwise.nil
  | k + 1 => by
    rw [mx, List.pairwise_append]
    refine ⟨mx_rises E b R C k, by split <;> simp, fun p hp q hq => ?_⟩
    obtain ⟨S, h1, h2, _, _, rfl⟩ := (mx_mem E b R C p k).1 hp
    split at hq
    · simp only [List.mem_singleton] at hq
      subst hq
      show (S : Int) < ((k + 1 : Nat) : Int)
      omega
    · cases hq
theorem mx_wf (E : Nat → Nat → Bool) (b : Bool) (R C k : Nat) (hC : C ≤ 8) (p : Int × Int) (h : p ∈ mx E b R C k) : (1 ≤ p.1 ∧ p.1 ≤ k) ∧ 1 ≤ p.2 ∧ p.2 < 256 := by
  obtain ⟨S, h1, h2, h3, _, rfl⟩ := (mx_mem E b R C p k).1 h
  have h4 := cS_lt E b R C S
  have h5 : 2 ^ C ≤ 256 := Nat.pow_le_pow_right (n := 2) (by decide) hC
  refine ⟨⟨?_, ?_⟩, ?_, ?_⟩ <;> simp only <;> omega

/-- what a set of rows grows to -/
def growP (E : Nat → Nat → Bool) (b : Bool) (R C S : Nat) : Int × Int := (((rS E b R C (cS E b R C S) : Nat) : Int), ((cS E b R C (rS E b R C (cS E b R C S)) : Nat) : Int))
/-- grown sets are the maximal ones -/
theorem found_iff (E : Nat → Nat → Bool) (b : Bool) (R C : Nat) (p : Int × Int) :
    (∃ S, 1 ≤ S ∧ S ≤ 2 ^ R - 1 ∧ cS E b R C S ≠ 0 ∧ p = growP E b R C S) ↔ p ∈ mx E b R C (2 ^ R - 1) := by
  have hp := Nat.one_le_two_pow (n := R)
  rw [mx_mem]
  constructor
  · rintro ⟨S, h1, h2, h3, rfl⟩
    have h4 := rS_lt E b R C (cS E b R C S)
    have h5 := cols_closed E b R C S
    refine ⟨rS E b R C (cS E b R C S), rows_pos E b R C S h1 (by omega), by omega, ?_, ?_, rfl⟩
    · rw [h5]; omega
    · rw [h5]
  · rintro ⟨S, h1, h2, h3, h4, rfl⟩
    refine ⟨S, h1, h2, by omega, ?_⟩
    unfold growP
    rw [h4]
/-- a list of the same rectangles by rising rows is the one list -/
theorem same_list (E : Nat → Nat → Bool) (b : Bool) (R C k : Nat) {l : List (Int × Int)} (hn : l.Nodup) (hs : l.Pairwise (fun p q => p.1 ≤ q.1)) (hm : ∀ p, p ∈ l ↔ p ∈ mx E b R C k) : l = mx E b R C k := by
  have hr := mx_rises E b R C k
  have hn2 : (mx E b R C k).Nodup := hr.imp (fun {p q} h e => by rw [e] at h; omega)
  refine List.Perm.eq_of_pairwise (le := fun p q : Int × Int => p.1 ≤ q.1) (fun p q hp hq h1 h2 => ?_) hs (hr.imp (fun {p q} h => by omega)) ((List.perm_ext_iff_of_nodup hn hn2).2 hm)
  obtain ⟨S, _, _, _, _, rfl⟩ := (mx_mem E b R C p k).1 ((hm p).1 hp)
  obtain ⟨T, _, _, _, _, rfl⟩ := (mx_mem E b R C q k).1 hq
  simp only at h1 h2
  obtain rfl : S = T := by omega
  rfl
end Go.Proofs.YtemmagkkigdhjaaGreatDoor.MaxM

