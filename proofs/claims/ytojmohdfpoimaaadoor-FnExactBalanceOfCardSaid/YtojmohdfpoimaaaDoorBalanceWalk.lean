/-
  The walk of the law on BalanceOf.
-/
import Derived.Test.YtojmohdfpoimaaaDoorColour
namespace Go.Proofs.YtojmohdfpoimaaaDoor.fnExactBalanceOf
open Go.RowKit Go.Proofs.YtojmohdfpoimaaaDoor.Plain Go.Proofs.YtojmohdfpoimaaaDoor.Base Go.Proofs.YtojmohdfpoimaaaDoor.Valid Go.Proofs.YtojmohdfpoimaaaDoor.Law Go.Proofs.YtojmohdfpoimaaaDoor.GridPlain Go.Proofs.YtojmohdfpoimaaaDoor.Entry Go.Proofs.YtojmohdfpoimaaaDoor.Pat Go.Proofs.YtojmohdfpoimaaaDoor.Rect Go.Proofs.YtojmohdfpoimaaaDoor.Patch Go.Proofs.YtojmohdfpoimaaaDoor.FreeL Go.Proofs.YtojmohdfpoimaaaDoor.Board Go.Proofs.YtojmohdfpoimaaaDoor.BoardM Go.Proofs.YtojmohdfpoimaaaDoor.RValid Go.Proofs.YtojmohdfpoimaaaDoor.Area Go.Proofs.YtojmohdfpoimaaaDoor.Bal Go.Proofs.YtojmohdfpoimaaaDoor.Colour
open Go.Proofs.YtojmohdfpoimaaaDoor.Free (fill wp_value wp_enter wp_load_row freeB)
set_option linter.unusedVariables false

/-- both find one number and one truth value -/
theorem both (r c : Int) (s : ByteArray) (hs : s.size ≤ maxLen) (x y : Int) : ∃ (v : Int) (t : Bool),
    (∀ w, Calls Tryd.prog 19 #[mat r c s, rect x y] w fun e w' => e = .returned (.tuple #[.int .i64 v, .bool t]) ∧ Below w.heap.size w w') ∧
    (∀ w, Calls Tryd.prog 20 #[mat r c s, rect x y] w fun e w' => e = .returned (.tuple #[.int .i64 v, .bool t]) ∧ Below w.heap.size w w') := by
  by_cases hv : validB r c s = true
  · obtain ⟨R, C, E, rfl, rfl, h1, h2, h3, h4, rfl⟩ := valid_form hv
    have hbd := fun W => board_yes R C E h1 h2 h3 h4 hs hv W
    have hrv := fun W => spec_rv R C h1 h2 h3 h4 _ hs hv x y W
    by_cases ht : rvB R C x y = true
    · obtain ⟨RS, CS, rfl, rfl, k1, k2, k3, k4, k5, k6⟩ := rv_nat h2 h4 ht
      have hsp := spec_balOf R C _ RS CS true _ (fun W => by have := hrv W; rwa [ht] at this) (fun _ W => spec_bal E R C h1 h2 h3 h4 RS CS k5 k6 W)
      rw [if_pos rfl] at hsp
      refine ⟨_, _, hsp, fun w => impl_balOf_yes R C h2 h4 _ _ _ _ _ RS CS _ hbd ht (fun W => ?_) w⟩
      have hb := balance_any (R : Int) (C : Int) (onB (fun x y => !E x y) R C) (onB E R C) (onB_lt _ R C h4) (onB_lt _ R C h4) RS CS k5 k6 W
      rw [show (((sumN (fun x => pop8 (rectB RS CS x &&& onB E R C x)) 8 : Nat) : Int) - ((sumN (fun x => pop8 (rectB RS CS x &&& onB (fun x y => !E x y) R C x)) 8 : Nat) : Int)) = bal E RS CS R C from bal_count E RS CS R C h2 h4 k6] at hb
      exact hb
    · rw [Bool.not_eq_true] at ht
      have hsp := spec_balOf R C _ x y false 0 (fun W => by have := hrv W; rwa [ht] at this) (fun h => by cases h)
      rw [if_neg (by decide)] at hsp
      exact ⟨0, false, hsp, fun w => impl_balOf_no R C h2 h4 _ _ _ _ _ x y hbd ht w⟩
  · have hv' : validB r c s = false := by simpa using hv
    have hsp := spec_balOf r c s x y false 0 (fun W => spec_rv_no r c s hs hv' x y W) (fun h => by cases h)
    rw [if_neg (by decide)] at hsp
    exact ⟨0, false, hsp, fun w => impl_balOf_no 0 0 (by omega) (by omega) _ _ r c s x y (fun W => board_no r c s hs hv' W) (rvB_zero x y) w⟩

set_option maxHeartbeats 1000000 in
set_option maxRecDepth 100000 in
theorem walk (r c : Int) (s : ByteArray) (wr : (Lit.int .i64 r).wf = true) (wc : (Lit.int .i64 c).wf = true) (hs : s.size ≤ maxLen) (x y : Int) (wx : (Lit.int .i64 x).wf = true) (wy : (Lit.int .i64 y).wf = true) (w : World) :
    Calls Tryd.prog 6 #[mat r c s, rect x y] w fun e w' => e = .returned (.bool true) ∧ Below w.heap.size w w' := by
  obtain ⟨v, t, hspec, himpl⟩ := both r c s hs x y
  have HS := Lib.hid hspec
  have HI := Lib.hid himpl
  clear hspec himpl
  have hs2 := hs
  unfold maxLen at hs2
  by_cases hbig : 1048576 < s.size
  · go_enter Tryd.func6, Tryd.ntmps6
    go_wp2_with fail
    refine (sz_over r c s _ (by omega) (by omega) hs _).mono ?_
    rintro e w1 ⟨rfl, hb1⟩
    obtain ⟨m0, t0, hbel⟩ := boxes hb1
    have HB := Lib.hid hbel
    clear hb1 m0 t0 hbel
    go_wp2_with fail
    go_ret
    exact ⟨rfl, HB.out⟩
  · go_enter Tryd.func6, Tryd.ntmps6
    go_wp2_with fail
    refine (sz_fits r c s _ (by omega) (by omega) _).mono ?_
    rintro e W1 ⟨rfl, hb1⟩
    obtain ⟨m0, t0, hbel⟩ := boxes hb1
    have MH := Lib.hid m0
    have TH := Lib.hid t0
    have HB := Lib.hid hbel
    clear hb1 m0 t0 hbel
    go_wp2_with fail
    refine wp_region_below (fun | 0 => mat r c s | 1 => mat r c s | 2 => rect x y | 3 => rect x y | 4 => .tuple #[.int .i64 v, .bool t] | 5 => .tuple #[.int .i64 v, .bool t] | 6 => .int .i64 v | 7 => .bool t | 8 => .int .i64 v | 9 => .bool t | _ => undef) (by kernel_rfl) (by kernel_rfl) rfl ?con ?en
    case con =>
      intro i o ho a w2 hb2 hf
      match i, ho with
      | 0, ho =>
        obtain rfl := Option.some.inj ho
        have b2 : a.tmps[2]?.getD undef = .pointer (some ⟨w.heap.size, 0, none⟩) := hf.2 2 (by kernel_rfl)
        exact wp_load_row 23 (.tmp 2) rfl w.heap.size (eval_get b2 trivial) 23 _ (0, 0) _ (mh_on MH.out hb2) Tryd.underlying23 rfl linfo ⟨rfl, Below.refl _ _⟩
      | 1, ho =>
        obtain rfl := Option.some.inj ho
        have e16 : a.tmps[16]?.getD undef = mat r c s := hf.1 ⟨0, .data⟩ (by simp) rfl _ 16 rfl rfl
        exact wp_enter 11 #[mat r c s] (mat r c s) _ (by unfold execOp; go_simp) (to_any r c s w2) (fun w' h => ⟨rfl, h⟩)
      | 2, ho =>
        obtain rfl := Option.some.inj ho
        have b3 : a.tmps[3]?.getD undef = .pointer (some ⟨w.heap.size + 1, 0, none⟩) := hf.2 3 (by kernel_rfl)
        exact wp_load_row 25 (.tmp 3) rfl (w.heap.size + 1) (eval_get b3 trivial) 25 _ (0, 0) _ (th_on TH.out hb2) Tryd.underlying25 rfl lrinfo ⟨rfl, Below.refl _ _⟩
      | 3, ho =>
        obtain rfl := Option.some.inj ho
        have e18 : a.tmps[18]?.getD undef = rect x y := hf.1 ⟨2, .data⟩ (by simp) rfl _ 18 rfl rfl
        exact wp_enter 12 #[rect x y] (rect x y) _ (by unfold execOp; go_simp) (to_rect x y w2) (fun w' h => ⟨rfl, h⟩)
      | 4, ho =>
        obtain rfl := Option.some.inj ho
        have e17 : a.tmps[17]?.getD undef = mat r c s := hf.1 ⟨1, .data⟩ (by simp) rfl _ 17 rfl rfl
        have e19 : a.tmps[19]?.getD undef = rect x y := hf.1 ⟨3, .data⟩ (by simp) rfl _ 19 rfl rfl
        exact wp_enter 19 #[mat r c s, rect x y] (.tuple #[.int .i64 v, .bool t]) _ (by unfold execOp; go_simp) (HS.out w2) (fun w' h => ⟨rfl, h⟩)
      | 5, ho =>
        obtain rfl := Option.some.inj ho
        have e20 : a.tmps[20]?.getD undef = .tuple #[.int .i64 v, .bool t] := hf.1 ⟨4, .data⟩ (by simp) rfl _ 20 rfl rfl
        exact wp_value (.tuple #[.int .i64 v, .bool t]) (by unfold execOp; go_simp) ⟨rfl, Below.refl _ _⟩
      | 6, ho =>
        obtain rfl := Option.some.inj ho
        have e15 : a.tmps[15]?.getD undef = .tuple #[.int .i64 v, .bool t] := hf.1 ⟨5, .data⟩ (by simp) rfl _ 15 rfl rfl
        exact wp_value (.int .i64 v) (by unfold execOp; go_simp) ⟨rfl, Below.refl _ _⟩
      | 7, ho =>
        obtain rfl := Option.some.inj ho
        have e15 : a.tmps[15]?.getD undef = .tuple #[.int .i64 v, .bool t] := hf.1 ⟨5, .data⟩ (by simp) rfl _ 15 rfl rfl
        exact wp_value (.bool t) (by unfold execOp; go_simp) ⟨rfl, Below.refl _ _⟩
      | 8, ho =>
        obtain rfl := Option.some.inj ho
        have e21 : a.tmps[21]?.getD undef = .int .i64 v := hf.1 ⟨6, .data⟩ (by simp) rfl _ 21 rfl rfl
        exact wp_value (.int .i64 v) (by unfold execOp; go_simp) ⟨rfl, Below.refl _ _⟩
      | 9, ho =>
        obtain rfl := Option.some.inj ho
        have e22 : a.tmps[22]?.getD undef = .bool t := hf.1 ⟨7, .data⟩ (by simp) rfl _ 22 rfl rfl
        exact wp_value (.bool t) (by unfold execOp; go_simp) ⟨rfl, Below.refl _ _⟩
      | q + 10, ho => simp at ho
    case en =>
      intro W2 hb
      have MH := Lib.hid (mh_on MH.out hb)
      have TH := Lib.hid (th_on TH.out hb)
      have HB2 := Lib.hid (rstep HB.out hb)
      clear hb HB
      simp only [fill, Act.put]
      go_simp
      go_wp2_with fail
      refine wp_region_below (fun | 0 => mat r c s | 1 => mat r c s | 2 => rect x y | 3 => rect x y | 4 => .tuple #[.int .i64 v, .bool t] | 5 => .tuple #[.int .i64 v, .bool t] | 6 => .int .i64 v | 7 => .bool t | 8 => .int .i64 v | 9 => .bool t | _ => undef) (by kernel_rfl) (by kernel_rfl) rfl ?con2 ?en2
      case con2 =>
        intro i o ho a w2 hb2 hf
        match i, ho with
        | 0, ho =>
          obtain rfl := Option.some.inj ho
          have b2 : a.tmps[2]?.getD undef = .pointer (some ⟨w.heap.size, 0, none⟩) := hf.2 2 (by kernel_rfl)
          exact wp_load_row 23 (.tmp 2) rfl w.heap.size (eval_get b2 trivial) 23 _ (0, 0) _ (mh_on MH.out hb2) Tryd.underlying23 rfl linfo ⟨rfl, Below.refl _ _⟩
        | 1, ho =>
          obtain rfl := Option.some.inj ho
          have e24 : a.tmps[24]?.getD undef = mat r c s := hf.1 ⟨0, .data⟩ (by simp) rfl _ 24 rfl rfl
          exact wp_enter 11 #[mat r c s] (mat r c s) _ (by unfold execOp; go_simp) (to_any r c s w2) (fun w' h => ⟨rfl, h⟩)
        | 2, ho =>
          obtain rfl := Option.some.inj ho
          have b3 : a.tmps[3]?.getD undef = .pointer (some ⟨w.heap.size + 1, 0, none⟩) := hf.2 3 (by kernel_rfl)
          exact wp_load_row 25 (.tmp 3) rfl (w.heap.size + 1) (eval_get b3 trivial) 25 _ (0, 0) _ (th_on TH.out hb2) Tryd.underlying25 rfl lrinfo ⟨rfl, Below.refl _ _⟩
        | 3, ho =>
          obtain rfl := Option.some.inj ho
          have e26 : a.tmps[26]?.getD undef = rect x y := hf.1 ⟨2, .data⟩ (by simp) rfl _ 26 rfl rfl
          exact wp_enter 12 #[rect x y] (rect x y) _ (by unfold execOp; go_simp) (to_rect x y w2) (fun w' h => ⟨rfl, h⟩)
        | 4, ho =>
          obtain rfl := Option.some.inj ho
          have e25 : a.tmps[25]?.getD undef = mat r c s := hf.1 ⟨1, .data⟩ (by simp) rfl _ 25 rfl rfl
          have e27 : a.tmps[27]?.getD undef = rect x y := hf.1 ⟨3, .data⟩ (by simp) rfl _ 27 rfl rfl
          exact wp_enter 20 #[mat r c s, rect x y] (.tuple #[.int .i64 v, .bool t]) _ (by unfold execOp; go_simp) (HI.out w2) (fun w' h => ⟨rfl, h⟩)
        | 5, ho =>
          obtain rfl := Option.some.inj ho
          have e28 : a.tmps[28]?.getD undef = .tuple #[.int .i64 v, .bool t] := hf.1 ⟨4, .data⟩ (by simp) rfl _ 28 rfl rfl
          exact wp_value (.tuple #[.int .i64 v, .bool t]) (by unfold execOp; go_simp) ⟨rfl, Below.refl _ _⟩
        | 6, ho =>
          obtain rfl := Option.some.inj ho
          have e23 : a.tmps[23]?.getD undef = .tuple #[.int .i64 v, .bool t] := hf.1 ⟨5, .data⟩ (by simp) rfl _ 23 rfl rfl
          exact wp_value (.int .i64 v) (by unfold execOp; go_simp) ⟨rfl, Below.refl _ _⟩
        | 7, ho =>
          obtain rfl := Option.some.inj ho
          have e23 : a.tmps[23]?.getD undef = .tuple #[.int .i64 v, .bool t] := hf.1 ⟨5, .data⟩ (by simp) rfl _ 23 rfl rfl
          exact wp_value (.bool t) (by unfold execOp; go_simp) ⟨rfl, Below.refl _ _⟩
        | 8, ho =>
          obtain rfl := Option.some.inj ho
          have e29 : a.tmps[29]?.getD undef = .int .i64 v := hf.1 ⟨6, .data⟩ (by simp) rfl _ 29 rfl rfl
          exact wp_value (.int .i64 v) (by unfold execOp; go_simp) ⟨rfl, Below.refl _ _⟩
        | 9, ho =>
          obtain rfl := Option.some.inj ho
          have e30 : a.tmps[30]?.getD undef = .bool t := hf.1 ⟨7, .data⟩ (by simp) rfl _ 30 rfl rfl
          exact wp_value (.bool t) (by unfold execOp; go_simp) ⟨rfl, Below.refl _ _⟩
        | q + 10, ho => simp at ho
      case en2 =>
        intro W3 hb
        have HB3 := Lib.hid (rstep HB2.out hb)
        clear hb HB2 MH TH
        simp only [fill, Act.put]
        go_simp
        cases t
        all_goals
          go_wp2_with fail
          go_ret
          exact ⟨rfl, HB3.out⟩
end Go.Proofs.YtojmohdfpoimaaaDoor.fnExactBalanceOf
