/-
  GrowRect of the reference and of the program.
-/
import Derived.Test.YtgmhddceeomjbaaGreatDoorJ19
import Derived.Test.YtgmhddceeomjbaaGreatDoorFreeT
namespace Go.Proofs.YtgmhddceeomjbaaGreatDoor.GrowOf
open Go.RowKit Go.Proofs.YtgmhddceeomjbaaGreatDoor.Plain Go.Proofs.YtgmhddceeomjbaaGreatDoor.Base Go.Proofs.YtgmhddceeomjbaaGreatDoor.Valid Go.Proofs.YtgmhddceeomjbaaGreatDoor.Law Go.Proofs.YtgmhddceeomjbaaGreatDoor.GridPlain Go.Proofs.YtgmhddceeomjbaaGreatDoor.Grid Go.Proofs.YtgmhddceeomjbaaGreatDoor.Entry Go.Proofs.YtgmhddceeomjbaaGreatDoor.Pat Go.Proofs.YtgmhddceeomjbaaGreatDoor.Rect Go.Proofs.YtgmhddceeomjbaaGreatDoor.Patch Go.Proofs.YtgmhddceeomjbaaGreatDoor.FreeL Go.Proofs.YtgmhddceeomjbaaGreatDoor.Board Go.Proofs.YtgmhddceeomjbaaGreatDoor.BoardM Go.Proofs.YtgmhddceeomjbaaGreatDoor.RValid Go.Proofs.YtgmhddceeomjbaaGreatDoor.Colour Go.Proofs.YtgmhddceeomjbaaGreatDoor.Where Go.Proofs.YtgmhddceeomjbaaGreatDoor.With Go.Proofs.YtgmhddceeomjbaaGreatDoor.Cols Go.Proofs.YtgmhddceeomjbaaGreatDoor.Grow
open Go.Proofs.YtgmhddceeomjbaaGreatDoor.FreeT (wp_region_last2)
open Go.Proofs.YtgmhddceeomjbaaGreatDoor.Free (fill wp_value wp_enter wp_load_row freeB setRow_kept setRow_below)
set_option linter.unusedVariables false


set_option maxHeartbeats 1000000 in
theorem spec_growOf_yes (rr cc : Int) (s : ByteArray) (r c v A B : Int) (hv : 0 ≤ v) (hcol : ∀ W : World, Calls Tryz.prog 50 #[mat rr cc s, rect r c] W fun e w' => e = .returned (.int .i64 v) ∧ Below W.heap.size W w')
    (hg : ∀ W : World, Calls Tryz.prog 51 #[mat rr cc s, rect r c, .int .i64 v] W fun e w' => e = .returned (rect A B) ∧ Below W.heap.size W w') (w : World) :
    Calls Tryz.prog 16 #[mat rr cc s, rect r c] w fun e w' => e = .returned (.tuple #[rect A B, .bool true]) ∧ Below w.heap.size w w' := by
  have HCOL := Lib.hid hcol
  have HG := Lib.hid hg
  clear hcol hg
  go_enter Tryz.func16, Tryz.ntmps16
  go_wp2_with fail
  refine (HCOL.out _).mono ?_
  rintro e w1 ⟨rfl, hb1⟩
  have hinv := (GInv.start w (.cells #[.int .i64 rr, .int .i64 cc, .string s] 27) r c 0 0).later hb1
  obtain ⟨q0, q1, q2⟩ := mh_c (show MHolds _ _ 27 rr cc s from hinv.m)
  obtain ⟨p0, p1⟩ := th_c hinv.t
  obtain ⟨o0, o1⟩ := th_c hinv.o
  obtain ⟨f0, f1⟩ := hinv.fr
  have hsz := hinv.sz
  have HI := Lib.hid hinv
  clear hb1 hinv HCOL
  go_wp2_with fail
  refine (HG.out _).mono ?_
  rintro e w2 ⟨rfl, hb2⟩
  have hinv := HI.out.later hb2
  obtain ⟨o0, o1⟩ := th_c hinv.o
  obtain ⟨f0, f1⟩ := hinv.fr
  have hsz2 := hinv.sz
  have HI2 := Lib.hid hinv.below
  clear hb2 HI q0 q1 q2 p0 p1 hinv HG hsz
  go_wp2_with fail
  refine bodyPost_ret (v := .tuple #[rect _ _, .bool true]) (by simp [results, Tryz.results16, go_sem, o0, o1]) rfl ⟨rfl, ?_⟩
  exact (HI2.out.setCell (by simp; omega) _).setCell (by simp; omega) _

set_option maxHeartbeats 1000000 in
set_option maxRecDepth 100000 in
theorem impl_growOf_yes (rr cc : Int) (s : ByteArray) (br bc : Int) (z o : Nat) (r c v A B : Int) (hv : 0 ≤ v) (hv3 : v = -2 ∨ v = -1 ∨ v = 0 ∨ v = 1) (hcol : ∀ W : World, Calls Tryz.prog 17 #[mat rr cc s, rect r c] W fun e w' => e = .returned (.int .i64 v) ∧ Below W.heap.size W w')
    (hbo : ∀ W : World, Calls Tryz.prog 35 #[mat rr cc s] W fun e w' => e = .returned (brd br bc z o) ∧ Below W.heap.size W w')
    (hg : ∀ W : World, Calls Tryz.prog 49 #[brd br bc z o, rect r c, .int .i64 v] W fun e w' => e = .returned (rect A B) ∧ Below W.heap.size W w') (w : World) :
    Calls Tryz.prog 15 #[mat rr cc s, rect r c] w fun e w' => e = .returned (.tuple #[rect A B, .bool true]) ∧ Below w.heap.size w w' := by
  have HCOL := Lib.hid hcol
  have HG := Lib.hid hg
  have HBO := Lib.hid hbo
  have HBIT := Lib.hid (fun W => isBit_any v hv3 W)
  rw [decide_eq_true hv] at HBIT
  clear hcol hg hbo
  go_enter Tryz.func15, Tryz.ntmps15
  go_wp2_with fail
  refine (HCOL.out _).mono ?_
  rintro e w1 ⟨rfl, hb1⟩
  have hinv := (GInv.start w (.cells #[.int .i64 rr, .int .i64 cc, .string s] 27) r c 0 0).later hb1
  obtain ⟨q0, q1, q2⟩ := mh_c (show MHolds _ _ 27 rr cc s from hinv.m)
  obtain ⟨p0, p1⟩ := th_c hinv.t
  obtain ⟨o0, o1⟩ := th_c hinv.o
  obtain ⟨f0, f1⟩ := hinv.fr
  have hsz := hinv.sz
  have HI := Lib.hid hinv
  clear hb1 hinv HCOL
  go_wp2_with fail
  refine (HBIT.out _).mono ?_
  rintro e w' ⟨rfl, rfl⟩
  clear q0 q1 q2 p0 p1 o0 o1 f0 f1
  go_wp2_with fail
  refine wp_region_last2 (fun | 0 => mat rr cc s | 1 => brd br bc z o | 2 => rect r c | 3 => .int .i64 v | 4 => rect A B | 6 => .bool true | _ => undef) 5 (fun w' => w'.setRow (w.heap.size + 1 + 1) #[.int .i64 A, .int .i64 B]) _ _ (by kernel_rfl) (by kernel_rfl) rfl rfl rfl rfl rfl (by kernel_rfl) ?con ?st ?zz ?en
  case con =>
    intro i o ho hi a w2 hb2 hf
    match i, ho with
    | 0, ho =>
      obtain rfl := Option.some.inj ho
      have b2 : a.tmps[2]?.getD undef = .pointer (some ⟨w.heap.size, 0, none⟩) := hf.2 2 (by kernel_rfl)
      exact wp_load_row 27 (.tmp 2) rfl w.heap.size (eval_get b2 trivial) 27 _ (0, 0) _ (show w2.heap[w.heap.size]? = _ from (HI.out.later hb2).m) Tryz.underlying27 rfl minfo ⟨rfl, Below.refl _ _⟩
    | 1, ho =>
      obtain rfl := Option.some.inj ho
      have e14 : a.tmps[14]?.getD undef = mat rr cc s := hf.1 ⟨0, .data⟩ (by simp) rfl _ 14 rfl rfl
      exact wp_enter 35 #[mat rr cc s] (brd br bc z o) _ (by unfold execOp; go_simp) (HBO.out w2) (fun w' h => ⟨rfl, h⟩)
    | 2, ho =>
      obtain rfl := Option.some.inj ho
      have b3 : a.tmps[3]?.getD undef = .pointer (some ⟨w.heap.size + 1, 0, none⟩) := hf.2 3 (by kernel_rfl)
      exact wp_load_row 34 (.tmp 3) rfl (w.heap.size + 1) (eval_get b3 trivial) 34 _ (0, 0) _ ((HI.out.later hb2).t) Tryz.underlying34 rfl rinfo ⟨rfl, Below.refl _ _⟩
    | 3, ho =>
      obtain rfl := Option.some.inj ho
      have b6 : a.tmps[6]?.getD undef = .int .i64 v := hf.2 6 (by kernel_rfl)
      exact wp_value (.int .i64 v) (by unfold execOp; go_simp) ⟨rfl, Below.refl _ _⟩
    | 4, ho =>
      obtain rfl := Option.some.inj ho
      have e15 : a.tmps[15]?.getD undef = brd br bc z o := hf.1 ⟨1, .data⟩ (by simp) rfl _ 15 rfl rfl
      have e16 : a.tmps[16]?.getD undef = rect r c := hf.1 ⟨2, .data⟩ (by simp) rfl _ 16 rfl rfl
      have e17 : a.tmps[17]?.getD undef = .int .i64 v := hf.1 ⟨3, .data⟩ (by simp) rfl _ 17 rfl rfl
      exact wp_enter 49 #[brd br bc z o, rect r c, .int .i64 v] (rect A B) _ (by unfold execOp; go_simp) (HG.out w2) (fun w' h => ⟨rfl, h⟩)
    | q + 5, ho => exact absurd hi (by omega)
  case st =>
    intro a w2 hb2 hf
    have b4 : a.tmps[4]?.getD undef = .pointer (some ⟨w.heap.size + 1 + 1, 0, none⟩) := hf.2 4 (by kernel_rfl)
    have e18 : a.tmps[18]?.getD undef = rect A B := hf.1 ⟨4, .data⟩ (by simp) rfl _ 18 rfl rfl
    exact wp_store_row 34 (.tmp 4) (.tmp 18) rfl (w.heap.size + 1 + 1) #[.int .i64 A, .int .i64 B] (eval_get b4 trivial) (eval_get e18 trivial) 34 _ (HI.out.later hb2).o rinfo rfl (by simp [Value.oneCell']) ⟨rfl, rfl⟩
  case zz =>
    intro a w2
    exact wp_value (.bool true) (by unfold execOp; go_simp) ⟨rfl, rfl⟩
  case en =>
    intro w2 hb2
    have hinv := HI.out.later hb2
    have hrow := setRow_kept hinv.o #[.int .i64 A, .int .i64 B]
    have HB := Lib.hid (setRow_below (g := w.heap.size + 1 + 1) hinv.below (by omega) #[.int .i64 A, .int .i64 B])
    clear hb2 hinv HI HG HBO
    generalize w2.setRow (w.heap.size + 1 + 1) #[.int .i64 A, .int .i64 B] = w3 at *
    have o0 : w3.cell? ⟨w.heap.size + 1 + 1, 0, none⟩ = some (.int .i64 A) := cell_of_row _ _ 0 _ _ _ hrow
    have o1 : w3.cell? ⟨w.heap.size + 1 + 1, 1, none⟩ = some (.int .i64 B) := cell_of_row _ _ 1 _ _ _ hrow
    clear hrow
    simp only [fill, Act.put]
    go_simp
    go_wp2_with fail
    exact bodyPost_ret (v := .tuple #[rect A B, .bool true]) (by simp [results, Tryz.results15, go_sem, o0, o1]) rfl ⟨rfl, HB.out⟩
end Go.Proofs.YtgmhddceeomjbaaGreatDoor.GrowOf
