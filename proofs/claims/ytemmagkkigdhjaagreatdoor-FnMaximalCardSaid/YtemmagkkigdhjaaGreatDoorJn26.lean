/-
  Texts of one seat, joined: GrowOf, GrowWalk, ColF.
-/
import Derived.Test.YtemmagkkigdhjaaGreatDoorJn21
import Derived.Test.YtemmagkkigdhjaaGreatDoorJn13
import Derived.Test.YtemmagkkigdhjaaGreatDoorJn20
import Derived.Test.YtemmagkkigdhjaaGreatDoorJn15
/-
  GrowRect of the reference and of the program.
-/
namespace Go.Proofs.YtemmagkkigdhjaaGreatDoor.GrowOf
open Go.RowKit Go.Proofs.YtemmagkkigdhjaaGreatDoor.Plain Go.Proofs.YtemmagkkigdhjaaGreatDoor.Base Go.Proofs.YtemmagkkigdhjaaGreatDoor.Valid Go.Proofs.YtemmagkkigdhjaaGreatDoor.Law Go.Proofs.YtemmagkkigdhjaaGreatDoor.GridPlain Go.Proofs.YtemmagkkigdhjaaGreatDoor.Grid Go.Proofs.YtemmagkkigdhjaaGreatDoor.Entry Go.Proofs.YtemmagkkigdhjaaGreatDoor.Pat Go.Proofs.YtemmagkkigdhjaaGreatDoor.Rect Go.Proofs.YtemmagkkigdhjaaGreatDoor.Patch Go.Proofs.YtemmagkkigdhjaaGreatDoor.FreeL Go.Proofs.YtemmagkkigdhjaaGreatDoor.Board Go.Proofs.YtemmagkkigdhjaaGreatDoor.BoardM Go.Proofs.YtemmagkkigdhjaaGreatDoor.RValid Go.Proofs.YtemmagkkigdhjaaGreatDoor.Colour Go.Proofs.YtemmagkkigdhjaaGreatDoor.Where Go.Proofs.YtemmagkkigdhjaaGreatDoor.With Go.Proofs.YtemmagkkigdhjaaGreatDoor.Cols Go.Proofs.YtemmagkkigdhjaaGreatDoor.Grow
open Go.Proofs.YtemmagkkigdhjaaGreatDoor.FreeT (wp_region_last2)
open Go.Proofs.YtemmagkkigdhjaaGreatDoor.Free (fill wp_value wp_enter wp_load_row freeB setRow_kept setRow_below)
set_option linter.unusedVariables false


set_option maxHeartbeats 1000000 in
set_option maxRecDepth 100000 in
theorem impl_growOf_yes (rr cc : Int) (s : ByteArray) (br bc : Int) (z o : Nat) (r c v A B : Int) (hv : 0 ≤ v) (hv3 : v = -2 ∨ v = -1 ∨ v = 0 ∨ v = 1) (hcol : ∀ W : World, Calls Tryz.prog 9 #[mat rr cc s, rect r c] W fun e w' => e = .returned (.int .i64 v) ∧ Below W.heap.size W w')
    (hbo : ∀ W : World, Calls Tryz.prog 20 #[mat rr cc s] W fun e w' => e = .returned (brd br bc z o) ∧ Below W.heap.size W w')
    (hg : ∀ W : World, Calls Tryz.prog 22 #[brd br bc z o, rect r c, .int .i64 v] W fun e w' => e = .returned (rect A B) ∧ Below W.heap.size W w') (w : World) :
    Calls Tryz.prog 8 #[mat rr cc s, rect r c] w fun e w' => e = .returned (.tuple #[rect A B, .bool true]) ∧ Below w.heap.size w w' := by
  have HCOL := Lib.hid hcol
  have HG := Lib.hid hg
  have HBO := Lib.hid hbo
  have HBIT := Lib.hid (fun W => isBit_any v hv3 W)
  rw [decide_eq_true hv] at HBIT
  clear hcol hg hbo
  go_enter Tryz.func8, Tryz.ntmps8
  go_wp2_with fail
  refine (HCOL.out _).mono ?_
  rintro e w1 ⟨rfl, hb1⟩
  have hinv := (GInv.start w (.cells #[.int .i64 rr, .int .i64 cc, .string s] 24) r c 0 0).later hb1
  obtain ⟨q0, q1, q2⟩ := mh_c (show MHolds _ _ 24 rr cc s from hinv.m)
  obtain ⟨p0, p1⟩ := th_c hinv.t
  obtain ⟨o0, o1⟩ := th_c hinv.o
  obtain ⟨f0, f1⟩ := hinv.fr
  have hsz := hinv.sz
  have HI := Lib.hid hinv
  clear hb1 hinv HCOL
  go_wp2_with fail
  refine (HBIT.out _).mono ?_
  rintro e w' ⟨rfl, rfl⟩
  clear q0 q1 q2 p0 p1 o0 o1 f0 f1
  go_wp2_with fail
  refine wp_region_last2 (fun | 0 => mat rr cc s | 1 => brd br bc z o | 2 => rect r c | 3 => .int .i64 v | 4 => rect A B | 6 => .bool true | _ => undef) 5 (fun w' => w'.setRow (w.heap.size + 1 + 1) #[.int .i64 A, .int .i64 B]) _ _ (by kernel_rfl) (by kernel_rfl) rfl rfl rfl rfl rfl (by kernel_rfl) ?con ?st ?zz ?en
  case con =>
    intro i o ho hi a w2 hb2 hf
    match i, ho with
    | 0, ho =>
      obtain rfl := Option.some.inj ho
      have b2 : a.tmps[2]?.getD undef = .pointer (some ⟨w.heap.size, 0, none⟩) := hf.2 2 (by kernel_rfl)
      exact wp_load_row 24 (.tmp 2) rfl w.heap.size (eval_get b2 trivial) 24 _ (0, 0) _ (show w2.heap[w.heap.size]? = _ from (HI.out.later hb2).m) Tryz.underlying24 rfl minfo ⟨rfl, Below.refl _ _⟩
    | 1, ho =>
      obtain rfl := Option.some.inj ho
      have e14 : a.tmps[14]?.getD undef = mat rr cc s := hf.1 ⟨0, .data⟩ (by simp) rfl _ 14 rfl rfl
      exact wp_enter 20 #[mat rr cc s] (brd br bc z o) _ (by unfold execOp; go_simp) (HBO.out w2) (fun w' h => ⟨rfl, h⟩)
    | 2, ho =>
      obtain rfl := Option.some.inj ho
      have b3 : a.tmps[3]?.getD undef = .pointer (some ⟨w.heap.size + 1, 0, none⟩) := hf.2 3 (by kernel_rfl)
      exact wp_load_row 31 (.tmp 3) rfl (w.heap.size + 1) (eval_get b3 trivial) 31 _ (0, 0) _ ((HI.out.later hb2).t) Tryz.underlying31 rfl rinfo ⟨rfl, Below.refl _ _⟩
    | 3, ho =>
      obtain rfl := Option.some.inj ho
      have b6 : a.tmps[6]?.getD undef = .int .i64 v := hf.2 6 (by kernel_rfl)
      exact wp_value (.int .i64 v) (by unfold execOp; go_simp) ⟨rfl, Below.refl _ _⟩
    | 4, ho =>
      obtain rfl := Option.some.inj ho
      have e15 : a.tmps[15]?.getD undef = brd br bc z o := hf.1 ⟨1, .data⟩ (by simp) rfl _ 15 rfl rfl
      have e16 : a.tmps[16]?.getD undef = rect r c := hf.1 ⟨2, .data⟩ (by simp) rfl _ 16 rfl rfl
      have e17 : a.tmps[17]?.getD undef = .int .i64 v := hf.1 ⟨3, .data⟩ (by simp) rfl _ 17 rfl rfl
      exact wp_enter 22 #[brd br bc z o, rect r c, .int .i64 v] (rect A B) _ (by unfold execOp; go_simp) (HG.out w2) (fun w' h => ⟨rfl, h⟩)
    | q + 5, ho => exact absurd hi (by omega)
  case st =>
    intro a w2 hb2 hf
    have b4 : a.tmps[4]?.getD undef = .pointer (some ⟨w.heap.size + 1 + 1, 0, none⟩) := hf.2 4 (by kernel_rfl)
    have e18 : a.tmps[18]?.getD undef = rect A B := hf.1 ⟨4, .data⟩ (by simp) rfl _ 18 rfl rfl
    exact wp_store_row 31 (.tmp 4) (.tmp 18) rfl (w.heap.size + 1 + 1) #[.int .i64 A, .int .i64 B] (eval_get b4 trivial) (eval_get e18 trivial) 31 _ (HI.out.later hb2).o rinfo rfl (by simp [Value.oneCell']) ⟨rfl, rfl⟩
  case zz =>
    intro a w2
    exact wp_value (.bool true) (by unfold execOp; go_simp) ⟨rfl, rfl⟩
  case en =>
    intro w2 hb2
    have hinv := HI.out.later hb2
    have hrow := setRow_kept hinv.o #[.int .i64 A, .int .i64 B]
    have HB := Lib.hid (setRow_below (g := w.heap.size + 1 + 1) hinv.below (by omega) #[.int .i64 A, .int .i64 B])
    clear hb2 hinv HI HG HBO
    generalize w2.setRow (w.heap.size + 1 + 1) #[.int .i64 A, .int .i64 B] = w3 at *
    have o0 : w3.cell? ⟨w.heap.size + 1 + 1, 0, none⟩ = some (.int .i64 A) := cell_of_row _ _ 0 _ _ _ hrow
    have o1 : w3.cell? ⟨w.heap.size + 1 + 1, 1, none⟩ = some (.int .i64 B) := cell_of_row _ _ 1 _ _ _ hrow
    clear hrow
    simp only [fill, Act.put]
    go_simp
    go_wp2_with fail
    exact bodyPost_ret (v := .tuple #[rect A B, .bool true]) (by simp [results, Tryz.results8, go_sem, o0, o1]) rfl ⟨rfl, HB.out⟩
end Go.Proofs.YtemmagkkigdhjaaGreatDoor.GrowOf

/-
  The walk of the law on GrowRect.
-/
namespace Go.Proofs.YtemmagkkigdhjaaGreatDoor.fnExactGrowRect
open Go.RowKit Go.Proofs.YtemmagkkigdhjaaGreatDoor.Plain Go.Proofs.YtemmagkkigdhjaaGreatDoor.Base Go.Proofs.YtemmagkkigdhjaaGreatDoor.Valid Go.Proofs.YtemmagkkigdhjaaGreatDoor.Law Go.Proofs.YtemmagkkigdhjaaGreatDoor.GridPlain Go.Proofs.YtemmagkkigdhjaaGreatDoor.Entry Go.Proofs.YtemmagkkigdhjaaGreatDoor.Pat Go.Proofs.YtemmagkkigdhjaaGreatDoor.Rect Go.Proofs.YtemmagkkigdhjaaGreatDoor.Patch Go.Proofs.YtemmagkkigdhjaaGreatDoor.FreeL Go.Proofs.YtemmagkkigdhjaaGreatDoor.Board Go.Proofs.YtemmagkkigdhjaaGreatDoor.BoardM Go.Proofs.YtemmagkkigdhjaaGreatDoor.RValid Go.Proofs.YtemmagkkigdhjaaGreatDoor.Area Go.Proofs.YtemmagkkigdhjaaGreatDoor.Bal Go.Proofs.YtemmagkkigdhjaaGreatDoor.Colour Go.Proofs.YtemmagkkigdhjaaGreatDoor.With Go.Proofs.YtemmagkkigdhjaaGreatDoor.Cols Go.Proofs.YtemmagkkigdhjaaGreatDoor.Grow Go.Proofs.YtemmagkkigdhjaaGreatDoor.GrowOf
open Go.Proofs.YtemmagkkigdhjaaGreatDoor.Free (fill wp_value wp_enter wp_load_row freeB wp_region_one get_of)
set_option linter.unusedVariables false

def RBox (w : World) (b : Nat) (t : TypeId) (r c : Int) : Prop := THolds w b t r c
theorem RBox.on {w w1 : World} {b : Nat} {t : TypeId} {r c : Int} (h : RBox w b t r c) (hb : Below w.heap.size w w1) : RBox w1 b t r c := th_on h hb

end Go.Proofs.YtemmagkkigdhjaaGreatDoor.fnExactGrowRect

/-
  What the functions of a valid matrix and a rectangle of it answer, told by the entries.
-/
namespace Go.Proofs.YtemmagkkigdhjaaGreatDoor.ColF
open Go.RowKit Go.Proofs.YtemmagkkigdhjaaGreatDoor.Plain Go.Proofs.YtemmagkkigdhjaaGreatDoor.Base Go.Proofs.YtemmagkkigdhjaaGreatDoor.Valid Go.Proofs.YtemmagkkigdhjaaGreatDoor.Law Go.Proofs.YtemmagkkigdhjaaGreatDoor.GridPlain Go.Proofs.YtemmagkkigdhjaaGreatDoor.Grid Go.Proofs.YtemmagkkigdhjaaGreatDoor.Entry Go.Proofs.YtemmagkkigdhjaaGreatDoor.Pat Go.Proofs.YtemmagkkigdhjaaGreatDoor.Rect Go.Proofs.YtemmagkkigdhjaaGreatDoor.Patch Go.Proofs.YtemmagkkigdhjaaGreatDoor.FreeL Go.Proofs.YtemmagkkigdhjaaGreatDoor.Board Go.Proofs.YtemmagkkigdhjaaGreatDoor.BoardM Go.Proofs.YtemmagkkigdhjaaGreatDoor.RValid Go.Proofs.YtemmagkkigdhjaaGreatDoor.Area Go.Proofs.YtemmagkkigdhjaaGreatDoor.Bal Go.Proofs.YtemmagkkigdhjaaGreatDoor.Colour Go.Proofs.YtemmagkkigdhjaaGreatDoor.Clos Go.Proofs.YtemmagkkigdhjaaGreatDoor.SpecTO
set_option linter.unusedVariables false
set_option linter.unusedSectionVars false

theorem valid_rows (E : Nat → Nat → Bool) (R C : Nat) (h1 : 1 ≤ R) (h2 : R ≤ 8) (h3 : 1 ≤ C) (h4 : C ≤ 8) : validB R C (str (rowsB E R C)) = true := by
  rw [validB_in (by omega) (by omega) (by omega) (by omega)]
  have : okB (str (rowsB E R C)) = true := okB_true fun j hj => by
    have hj' : j < R * C := by rw [str_size, rowsB_length] at hj; exact hj
    rw [str_get _ j _ (rowsB_get E R C j hj') hj]
    cases E (j / C) (j % C) <;> rfl
  rw [this, Bool.true_and, str_size, rowsB_length]
  simp
theorem rows_small (E : Nat → Nat → Bool) (R C : Nat) (h2 : R ≤ 8) (h4 : C ≤ 8) : (str (rowsB E R C)).size ≤ 64 := by rw [str_size, rowsB_length]; exact prod_le h2 h4
theorem rows_max (E : Nat → Nat → Bool) (R C : Nat) (h2 : R ≤ 8) (h4 : C ≤ 8) : (str (rowsB E R C)).size ≤ maxLen := by
  have := rows_small E R C h2 h4
  unfold maxLen
  omega
theorem other_yes (E : Nat → Nat → Bool) (R C : Nat) (h1 : 1 ≤ R) (h2 : R ≤ 8) (h3 : 1 ≤ C) (h4 : C ≤ 8) (w : World) :
    Calls Tryz.prog 14 #[mat R C (str (rowsB E R C))] w fun e w' => e = .returned (.tuple #[mat R C (str (rowsB (fun x y => !(E x y)) R C)), .bool true]) ∧ Below w.heap.size w w' :=
  other_impl E R C h1 h2 h3 h4 _ w fun W => grid_yes E R C h1 h2 h3 h4 _ rfl (rows_max E R C h2 h4) (rows_small E R C h2 h4) (valid_rows E R C h1 h2 h3 h4) W

theorem rv_yes (R C : Nat) (h2 : R ≤ 8) (h4 : C ≤ 8) (RS CS : Nat) (k1 : 1 ≤ RS) (k2 : RS < 2 ^ R) (k3 : 1 ≤ CS) (k4 : CS < 2 ^ C) : rvB R C RS CS = true := by
  unfold rvB
  rw [Bool.and_eq_true, decide_eq_true_iff, decide_eq_true_iff]
  have e1 : ((2 ^ R : Nat) : Int) = 2 ^ R := by simp
  have e2 : ((2 ^ C : Nat) : Int) = 2 ^ C := by simp
  omega
section
variable (E : Nat → Nat → Bool) (R C : Nat) (h1 : 1 ≤ R) (h2 : R ≤ 8) (h3 : 1 ≤ C) (h4 : C ≤ 8) (RS CS : Nat) (k1 : 1 ≤ RS) (k2 : RS < 2 ^ R) (k3 : 1 ≤ CS) (k4 : CS < 2 ^ C) (k5 : RS < 256) (k6 : CS < 256)
include h1 h2 h3 h4 k1 k2 k3 k4 k5 k6
end

end Go.Proofs.YtemmagkkigdhjaaGreatDoor.ColF

