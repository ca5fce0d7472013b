/-
  The function value of the program's MatrixOf tells whether an entry is among the found ones.
-/
import Derived.Test.YtgfhahlkffagaaaDoorJ11
import Derived.Test.YtgfhahlkffagaaaDoorJ7
namespace Go.Proofs.YtgfhahlkffagaaaDoor.MatC
open Go.RowKit Go.Proofs.YtgfhahlkffagaaaDoor.Plain Go.Proofs.YtgfhahlkffagaaaDoor.Base Go.Proofs.YtgfhahlkffagaaaDoor.Pat Go.Proofs.YtgfhahlkffagaaaDoor.Patch Go.Proofs.YtgfhahlkffagaaaDoor.Rect Go.Proofs.YtgfhahlkffagaaaDoor.From Go.Proofs.YtgfhahlkffagaaaDoor.MatP
open Go.Proofs.YtgfhahlkffagaaaDoor.FreeL
open Go.Proofs.YtgfhahlkffagaaaDoor.Free (fill wp_value wp_enter wp_load_row freeB)
set_option linter.unusedVariables false
set_option linter.unusedSimpArgs false

set_option maxHeartbeats 2000000 in
set_option maxRecDepth 100000 in
theorem tell_any (F : Nat → Nat) (hF : ∀ j, F j < 256) (x y : Nat) (hx : x < 8) (hy : y < 8) (z : Int) (B : Nat) (w : World) (hB : w.heap[B]? = some (.cells #[.int .u64 z, .int .u64 (pat F 8 : Nat)] 95 (0, 0))) :
    Calls Tryd.prog 71 #[.int .i64 (x : Int), .int .i64 (y : Int), .pointer (some ⟨B, 0, none⟩)] w fun e w' => e = .returned (.int .i64 (bitI ((F x).testBit y))) ∧ Below w.heap.size w w' := by
  have HX := Lib.hid (shl_small hx)
  have HY := Lib.hid (shl_small hy)
  have HP := Lib.hid (patch_any (2 ^ x) (2 ^ y) (pow_lt8 hx) (pow_lt8 hy))
  have HQ := Lib.hid (part_any (pat (rectB (2 ^ x) (2 ^ y)) 8) (pat F 8) (pat64 _ (rectB_lt _ _ (pow_lt8 hy))) (pat64 _ hF))
  have HM : Hid (∀ wx : World, Below w.heap.size w wx → wx.cell? ⟨B, 1, none⟩ = some (.int .u64 (pat F 8 : Nat))) := fun wx h => cell_of_row _ _ _ _ _ _ ((h.block _ (Array.getElem?_eq_some_iff.1 hB).1).trans hB)
  rw [part_bit F hF x y hx hy] at HQ
  generalize (F x).testBit y = t at *
  generalize pat (rectB (2 ^ x) (2 ^ y)) 8 = p at *
  generalize pat F 8 = q at *
  generalize 2 ^ x = X at *
  generalize 2 ^ y = Y at *
  clear hB hF
  go_enter Tryd.func71, Tryd.ntmps71
  go_wp2_with fail
  refine wp_region_below (fun | 0 => .int .i64 (x : Int) | 1 => .int .i64 (X : Int) | 2 => .int .i64 (y : Int) | 3 => .int .i64 (Y : Int) | 4 => rect (X : Int) (Y : Int) | 5 => .int .u64 (p : Int) | 6 => .pointer (some ⟨B, 1, none⟩) | 7 => .int .u64 (q : Int) | 8 => .bool t | 9 => .int .i64 (bitI t) | 10 => .int .i64 (bitI t) | _ => undef) (by kernel_rfl) (by kernel_rfl) rfl ?con ?en
  case con =>
    intro i o ho a w2 hb2 hf
    match i, ho with
    | 0, ho =>
      obtain rfl := Option.some.inj ho
      have b0 : a.tmps[0]?.getD undef = .int .i64 (x : Int) := hf.2 0 (by kernel_rfl)
      exact wp_value (.int .i64 (x : Int)) (by unfold execOp; go_simp) ⟨rfl, Below.refl _ _⟩
    | 1, ho =>
      obtain rfl := Option.some.inj ho
      have e6 : a.tmps[6]?.getD undef = .int .i64 (x : Int) := hf.1 ⟨0, .data⟩ (by simp) rfl _ 6 rfl rfl
      have p1 := HX.out
      exact wp_value (.int .i64 (X : Int)) (by unfold execOp; go_simp; first | exact p1 | (simp only [IntKind.wrap_i64, wrap64] at p1 ⊢; exact p1)) ⟨rfl, Below.refl _ _⟩
    | 2, ho =>
      obtain rfl := Option.some.inj ho
      have b1 : a.tmps[1]?.getD undef = .int .i64 (y : Int) := hf.2 1 (by kernel_rfl)
      exact wp_value (.int .i64 (y : Int)) (by unfold execOp; go_simp) ⟨rfl, Below.refl _ _⟩
    | 3, ho =>
      obtain rfl := Option.some.inj ho
      have e8 : a.tmps[8]?.getD undef = .int .i64 (y : Int) := hf.1 ⟨2, .data⟩ (by simp) rfl _ 8 rfl rfl
      have p1 := HY.out
      exact wp_value (.int .i64 (Y : Int)) (by unfold execOp; go_simp; first | exact p1 | (simp only [IntKind.wrap_i64, wrap64] at p1 ⊢; exact p1)) ⟨rfl, Below.refl _ _⟩
    | 4, ho =>
      obtain rfl := Option.some.inj ho
      have e7 : a.tmps[7]?.getD undef = .int .i64 (X : Int) := hf.1 ⟨1, .data⟩ (by simp) rfl _ 7 rfl rfl
      have e9 : a.tmps[9]?.getD undef = .int .i64 (Y : Int) := hf.1 ⟨3, .data⟩ (by simp) rfl _ 9 rfl rfl
      exact wp_value (rect (X : Int) (Y : Int)) (by unfold execOp; go_simp) ⟨rfl, Below.refl _ _⟩
    | 5, ho =>
      obtain rfl := Option.some.inj ho
      have e10 : a.tmps[10]?.getD undef = rect (X : Int) (Y : Int) := hf.1 ⟨4, .data⟩ (by simp) rfl _ 10 rfl rfl
      exact wp_enter 69 #[rect (X : Int) (Y : Int)] (.int .u64 (p : Int)) _ (by unfold execOp; go_simp) (HP.out w2) (fun w' h => ⟨rfl, h⟩)
    | 6, ho =>
      obtain rfl := Option.some.inj ho
      have b2 : a.tmps[2]?.getD undef = .pointer (some ⟨B, 0, none⟩) := hf.2 2 (by kernel_rfl)
      exact wp_value (.pointer (some ⟨B, 1, none⟩)) (by unfold execOp; go_simp) ⟨rfl, Below.refl _ _⟩
    | 7, ho =>
      obtain rfl := Option.some.inj ho
      have e12 : a.tmps[12]?.getD undef = .pointer (some ⟨B, 1, none⟩) := hf.1 ⟨6, .data⟩ (by simp) rfl _ 12 rfl rfl
      have g1 : w2.cell? ⟨B, 1, none⟩ = some (.int .u64 (q : Int)) := HM.out w2 hb2
      exact wp_value (.int .u64 (q : Int)) (by unfold execOp; go_simp) ⟨rfl, Below.refl _ _⟩
    | 8, ho =>
      obtain rfl := Option.some.inj ho
      have e11 : a.tmps[11]?.getD undef = .int .u64 (p : Int) := hf.1 ⟨5, .data⟩ (by simp) rfl _ 11 rfl rfl
      have e13 : a.tmps[13]?.getD undef = .int .u64 (q : Int) := hf.1 ⟨7, .data⟩ (by simp) rfl _ 13 rfl rfl
      exact wp_enter 73 #[.int .u64 (p : Int), .int .u64 (q : Int)] (.bool t) _ (by unfold execOp; go_simp) (below_same HQ.out w2) (fun w' h => ⟨rfl, h⟩)
    | 9, ho =>
      obtain rfl := Option.some.inj ho
      have e14 : a.tmps[14]?.getD undef = .bool t := hf.1 ⟨8, .data⟩ (by simp) rfl _ 14 rfl rfl
      exact wp_enter 72 #[.bool t] (.int .i64 (bitI t)) _ (by unfold execOp; go_simp) (below_same (bitOf_any t) w2) (fun w' h => ⟨rfl, h⟩)
    | 10, ho =>
      obtain rfl := Option.some.inj ho
      have e15 : a.tmps[15]?.getD undef = .int .i64 (bitI t) := hf.1 ⟨9, .data⟩ (by simp) rfl _ 15 rfl rfl
      exact wp_value (.int .i64 (bitI t)) (by unfold execOp; go_simp) ⟨rfl, Below.refl _ _⟩
    | q + 11, ho => simp at ho
  case en =>
    intro w2 hb2
    have HB2 := Lib.hid hb2
    clear hb2
    simp only [fill, Act.put]
    go_simp
    go_wp2_with fail
    go_ret
    exact ⟨rfl, HB2.out⟩
end Go.Proofs.YtgfhahlkffagaaaDoor.MatC
