/-
  The walk of the law on ColourOf.
-/
import Derived.Test.YtojmohdfpoimaaaDoorColour
namespace Go.Proofs.YtojmohdfpoimaaaDoor.fnExactColourOf
open Go.RowKit Go.Proofs.YtojmohdfpoimaaaDoor.Plain Go.Proofs.YtojmohdfpoimaaaDoor.Base Go.Proofs.YtojmohdfpoimaaaDoor.Valid Go.Proofs.YtojmohdfpoimaaaDoor.Law Go.Proofs.YtojmohdfpoimaaaDoor.GridPlain Go.Proofs.YtojmohdfpoimaaaDoor.Entry Go.Proofs.YtojmohdfpoimaaaDoor.Pat Go.Proofs.YtojmohdfpoimaaaDoor.Rect Go.Proofs.YtojmohdfpoimaaaDoor.Patch Go.Proofs.YtojmohdfpoimaaaDoor.FreeL Go.Proofs.YtojmohdfpoimaaaDoor.Board Go.Proofs.YtojmohdfpoimaaaDoor.BoardM Go.Proofs.YtojmohdfpoimaaaDoor.RValid Go.Proofs.YtojmohdfpoimaaaDoor.Area Go.Proofs.YtojmohdfpoimaaaDoor.Bal Go.Proofs.YtojmohdfpoimaaaDoor.Colour
open Go.Proofs.YtojmohdfpoimaaaDoor.Free (fill wp_value wp_enter wp_load_row freeB)
set_option linter.unusedVariables false

/-- both find one number -/
theorem both (r c : Int) (s : ByteArray) (hs : s.size ≤ maxLen) (x y : Int) : ∃ v : Int,
    (∀ w, Calls Tryd.prog 14 #[mat r c s, rect x y] w fun e w' => e = .returned (.int .i64 v) ∧ Below w.heap.size w w') ∧
    (∀ w, Calls Tryd.prog 15 #[mat r c s, rect x y] w fun e w' => e = .returned (.int .i64 v) ∧ Below w.heap.size w w') := by
  by_cases hv : validB r c s = true
  · obtain ⟨R, C, E, rfl, rfl, h1, h2, h3, h4, rfl⟩ := valid_form hv
    have hbd := fun W => board_yes R C E h1 h2 h3 h4 hs hv W
    have hrv := fun W => spec_rv R C h1 h2 h3 h4 _ hs hv x y W
    by_cases ht : rvB R C x y = true
    · obtain ⟨RS, CS, rfl, rfl, k1, k2, k3, k4, k5, k6⟩ := rv_nat h2 h4 ht
      have hsp := spec_col R C _ RS CS true _ (fun W => by have := hrv W; rwa [ht] at this) (fun _ W => spec_l2col E R C h1 h2 h3 h4 RS CS k1 k5 k3 k6 W)
      rw [if_pos rfl] at hsp
      have him := impl_col_yes R C h2 h4 _ _ (pat64 _ (onB_lt _ R C h4)) (pat64 _ (onB_lt _ R C h4)) _ _ _ RS CS k5 k6 hbd ht _ _ rfl rfl
      have e0 := plain_pat (fun x y => !E x y) R C RS CS h2 h4 k5 k6
      have e1 := plain_pat E R C RS CS h2 h4 k5 k6
      have a1 := bal_area E RS CS R C h2 h4 k2 k4
      have a0 := bal_area (fun x y => !E x y) RS CS R C h2 h4 k2 k4
      rw [← bal_not] at a0
      have hin : ∀ x y, RS.testBit x = true → CS.testBit y = true → x < R ∧ y < C := fun x y hx hy => by
        constructor
        · rcases Nat.lt_or_ge x R with h | h
          · exact h
          · rw [bit_beyond RS x R k2 h] at hx; cases hx
        · rcases Nat.lt_or_ge y C with h | h
          · exact h
          · rw [bit_beyond CS y C k4 h] at hy; cases hy
      have g1 : (bal E RS CS R C = ((pop8 RS * pop8 CS : Nat) : Int)) ↔ (pat (rectB RS CS) 8 &&& (18446744073709551615 - pat (onB E R C) 8) = 0) := by
        rw [e1, a1]
        exact ⟨fun h x y hx hy => ⟨hin x y hx hy, h x y hx hy⟩, fun h x y hx hy => (h x y hx hy).2⟩
      have g0 : (- bal E RS CS R C = ((pop8 RS * pop8 CS : Nat) : Int)) ↔ (pat (rectB RS CS) 8 &&& (18446744073709551615 - pat (onB (fun x y => !E x y) R C) 8) = 0) := by
        rw [e0, a0]
        exact ⟨fun h x y hx hy => ⟨hin x y hx hy, h x y hx hy⟩, fun h x y hx hy => (h x y hx hy).2⟩
      have hpos : 1 ≤ pop8 RS * pop8 CS := Nat.mul_le_mul (pop8_pos RS k1 k5) (pop8_pos CS k3 k6)
      refine ⟨_, hsp, fun w => ?_⟩
      have e : colV (bal E RS CS R C) ((pop8 RS * pop8 CS : Nat) : Int) = (if decide (pat (rectB RS CS) 8 &&& (18446744073709551615 - pat (onB (fun x y => !E x y) R C) 8) = 0) = true then 0 else if decide (pat (rectB RS CS) 8 &&& (18446744073709551615 - pat (onB E R C) 8) = 0) = true then 1 else -1) := by
        unfold colV
        by_cases hA : bal E RS CS R C = ((pop8 RS * pop8 CS : Nat) : Int)
        · rw [if_pos hA, decide_eq_true (g1.1 hA), decide_eq_false (fun h => by have := g0.2 h; omega)]
          rfl
        · rw [if_neg hA, decide_eq_false (fun h => hA (g1.2 h))]
          by_cases hB : bal E RS CS R C = - ((pop8 RS * pop8 CS : Nat) : Int)
          · rw [if_pos hB, decide_eq_true (g0.1 (by omega))]
            rfl
          · rw [if_neg hB, decide_eq_false (fun h => hB (by have := g0.2 h; omega))]
            rfl
      rw [e]
      exact him w
    · rw [Bool.not_eq_true] at ht
      have hsp := spec_col R C _ x y false 0 (fun W => by have := hrv W; rwa [ht] at this) (fun h => by cases h)
      rw [if_neg (by decide)] at hsp
      exact ⟨-2, hsp, fun w => impl_col_no R C h2 h4 _ _ _ _ _ x y hbd ht w⟩
  · have hv' : validB r c s = false := by simpa using hv
    have hsp := spec_col r c s x y false 0 (fun W => spec_rv_no r c s hs hv' x y W) (fun h => by cases h)
    rw [if_neg (by decide)] at hsp
    exact ⟨-2, hsp, fun w => impl_col_no 0 0 (by omega) (by omega) _ _ r c s x y (fun W => board_no r c s hs hv' W) (rvB_zero x y) w⟩

set_option maxHeartbeats 1000000 in
set_option maxRecDepth 100000 in
theorem walk (r c : Int) (s : ByteArray) (wr : (Lit.int .i64 r).wf = true) (wc : (Lit.int .i64 c).wf = true) (hs : s.size ≤ maxLen) (x y : Int) (wx : (Lit.int .i64 x).wf = true) (wy : (Lit.int .i64 y).wf = true) (w : World) :
    Calls Tryd.prog 4 #[mat r c s, rect x y] w fun e w' => e = .returned (.bool true) ∧ Below w.heap.size w w' := by
  obtain ⟨v, hspec, himpl⟩ := both r c s hs x y
  have HS := Lib.hid hspec
  have HI := Lib.hid himpl
  clear hspec himpl
  have hs2 := hs
  unfold maxLen at hs2
  by_cases hbig : 1048576 < s.size
  · go_enter Tryd.func4, Tryd.ntmps4
    go_wp2_with fail
    refine (sz_over r c s _ (by omega) (by omega) hs _).mono ?_
    rintro e w1 ⟨rfl, hb1⟩
    obtain ⟨m0, t0, hbel⟩ := boxes hb1
    have HB := Lib.hid hbel
    clear hb1 m0 t0 hbel
    go_wp2_with fail
    go_ret
    exact ⟨rfl, HB.out⟩
  · go_enter Tryd.func4, Tryd.ntmps4
    go_wp2_with fail
    refine (sz_fits r c s _ (by omega) (by omega) _).mono ?_
    rintro e W1 ⟨rfl, hb1⟩
    obtain ⟨m0, t0, hbel⟩ := boxes hb1
    have MH := Lib.hid m0
    have TH := Lib.hid t0
    have HB := Lib.hid hbel
    clear hb1 m0 t0 hbel
    go_wp2_with fail
    refine wp_region_below (fun | 0 => mat r c s | 1 => mat r c s | 2 => rect x y | 3 => rect x y | 4 => .int .i64 v | 5 => .int .i64 v | _ => undef) (by kernel_rfl) (by kernel_rfl) rfl ?con ?en
    case con =>
      intro i o ho a w2 hb2 hf
      match i, ho with
      | 0, ho =>
        obtain rfl := Option.some.inj ho
        have b2 : a.tmps[2]?.getD undef = .pointer (some ⟨w.heap.size, 0, none⟩) := hf.2 2 (by kernel_rfl)
        exact wp_load_row 23 (.tmp 2) rfl w.heap.size (eval_get b2 trivial) 23 _ (0, 0) _ (mh_on MH.out hb2) Tryd.underlying23 rfl linfo ⟨rfl, Below.refl _ _⟩
      | 1, ho =>
        obtain rfl := Option.some.inj ho
        have e13 : a.tmps[13]?.getD undef = mat r c s := hf.1 ⟨0, .data⟩ (by simp) rfl _ 13 rfl rfl
        exact wp_enter 11 #[mat r c s] (mat r c s) _ (by unfold execOp; go_simp) (to_any r c s w2) (fun w' h => ⟨rfl, h⟩)
      | 2, ho =>
        obtain rfl := Option.some.inj ho
        have b3 : a.tmps[3]?.getD undef = .pointer (some ⟨w.heap.size + 1, 0, none⟩) := hf.2 3 (by kernel_rfl)
        exact wp_load_row 25 (.tmp 3) rfl (w.heap.size + 1) (eval_get b3 trivial) 25 _ (0, 0) _ (th_on TH.out hb2) Tryd.underlying25 rfl lrinfo ⟨rfl, Below.refl _ _⟩
      | 3, ho =>
        obtain rfl := Option.some.inj ho
        have e15 : a.tmps[15]?.getD undef = rect x y := hf.1 ⟨2, .data⟩ (by simp) rfl _ 15 rfl rfl
        exact wp_enter 12 #[rect x y] (rect x y) _ (by unfold execOp; go_simp) (to_rect x y w2) (fun w' h => ⟨rfl, h⟩)
      | 4, ho =>
        obtain rfl := Option.some.inj ho
        have e14 : a.tmps[14]?.getD undef = mat r c s := hf.1 ⟨1, .data⟩ (by simp) rfl _ 14 rfl rfl
        have e16 : a.tmps[16]?.getD undef = rect x y := hf.1 ⟨3, .data⟩ (by simp) rfl _ 16 rfl rfl
        exact wp_enter 14 #[mat r c s, rect x y] (.int .i64 v) _ (by unfold execOp; go_simp) (HS.out w2) (fun w' h => ⟨rfl, h⟩)
      | 5, ho =>
        obtain rfl := Option.some.inj ho
        have e17 : a.tmps[17]?.getD undef = .int .i64 v := hf.1 ⟨4, .data⟩ (by simp) rfl _ 17 rfl rfl
        exact wp_value (.int .i64 v) (by unfold execOp; go_simp) ⟨rfl, Below.refl _ _⟩
      | q + 6, ho => simp at ho
    case en =>
      intro W2 hb
      have MH := Lib.hid (mh_on MH.out hb)
      have TH := Lib.hid (th_on TH.out hb)
      have HB2 := Lib.hid (rstep HB.out hb)
      clear hb HB
      simp only [fill, Act.put]
      go_simp
      go_wp2_with fail
      refine wp_region_below (fun | 0 => mat r c s | 1 => mat r c s | 2 => rect x y | 3 => rect x y | 4 => .int .i64 v | 5 => .int .i64 v | _ => undef) (by kernel_rfl) (by kernel_rfl) rfl ?con2 ?en2
      case con2 =>
        intro i o ho a w2 hb2 hf
        match i, ho with
        | 0, ho =>
          obtain rfl := Option.some.inj ho
          have b2 : a.tmps[2]?.getD undef = .pointer (some ⟨w.heap.size, 0, none⟩) := hf.2 2 (by kernel_rfl)
          exact wp_load_row 23 (.tmp 2) rfl w.heap.size (eval_get b2 trivial) 23 _ (0, 0) _ (mh_on MH.out hb2) Tryd.underlying23 rfl linfo ⟨rfl, Below.refl _ _⟩
        | 1, ho =>
          obtain rfl := Option.some.inj ho
          have e18 : a.tmps[18]?.getD undef = mat r c s := hf.1 ⟨0, .data⟩ (by simp) rfl _ 18 rfl rfl
          exact wp_enter 11 #[mat r c s] (mat r c s) _ (by unfold execOp; go_simp) (to_any r c s w2) (fun w' h => ⟨rfl, h⟩)
        | 2, ho =>
          obtain rfl := Option.some.inj ho
          have b3 : a.tmps[3]?.getD undef = .pointer (some ⟨w.heap.size + 1, 0, none⟩) := hf.2 3 (by kernel_rfl)
          exact wp_load_row 25 (.tmp 3) rfl (w.heap.size + 1) (eval_get b3 trivial) 25 _ (0, 0) _ (th_on TH.out hb2) Tryd.underlying25 rfl lrinfo ⟨rfl, Below.refl _ _⟩
        | 3, ho =>
          obtain rfl := Option.some.inj ho
          have e20 : a.tmps[20]?.getD undef = rect x y := hf.1 ⟨2, .data⟩ (by simp) rfl _ 20 rfl rfl
          exact wp_enter 12 #[rect x y] (rect x y) _ (by unfold execOp; go_simp) (to_rect x y w2) (fun w' h => ⟨rfl, h⟩)
        | 4, ho =>
          obtain rfl := Option.some.inj ho
          have e19 : a.tmps[19]?.getD undef = mat r c s := hf.1 ⟨1, .data⟩ (by simp) rfl _ 19 rfl rfl
          have e21 : a.tmps[21]?.getD undef = rect x y := hf.1 ⟨3, .data⟩ (by simp) rfl _ 21 rfl rfl
          exact wp_enter 15 #[mat r c s, rect x y] (.int .i64 v) _ (by unfold execOp; go_simp) (HI.out w2) (fun w' h => ⟨rfl, h⟩)
        | 5, ho =>
          obtain rfl := Option.some.inj ho
          have e22 : a.tmps[22]?.getD undef = .int .i64 v := hf.1 ⟨4, .data⟩ (by simp) rfl _ 22 rfl rfl
          exact wp_value (.int .i64 v) (by unfold execOp; go_simp) ⟨rfl, Below.refl _ _⟩
        | q + 6, ho => simp at ho
      case en2 =>
        intro W3 hb
        have HB3 := Lib.hid (rstep HB2.out hb)
        clear hb HB2 MH TH
        simp only [fill, Act.put]
        go_simp
        go_wp2_with fail
        all_goals (go_ret; exact ⟨rfl, HB3.out⟩)
end Go.Proofs.YtojmohdfpoimaaaDoor.fnExactColourOf
