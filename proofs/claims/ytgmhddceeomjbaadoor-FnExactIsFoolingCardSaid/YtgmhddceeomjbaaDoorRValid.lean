/-
  Contracts of RectValid, of the reference and of the program.
-/
import Derived.Test.YtgmhddceeomjbaaDoorBoardM
namespace Go.Proofs.YtgmhddceeomjbaaDoor.RValid
open Go.RowKit Go.Proofs.YtgmhddceeomjbaaDoor.Plain Go.Proofs.YtgmhddceeomjbaaDoor.Base Go.Proofs.YtgmhddceeomjbaaDoor.Valid Go.Proofs.YtgmhddceeomjbaaDoor.Law Go.Proofs.YtgmhddceeomjbaaDoor.GridPlain Go.Proofs.YtgmhddceeomjbaaDoor.Grid Go.Proofs.YtgmhddceeomjbaaDoor.Entry Go.Proofs.YtgmhddceeomjbaaDoor.Pat Go.Proofs.YtgmhddceeomjbaaDoor.Rect Go.Proofs.YtgmhddceeomjbaaDoor.Patch Go.Proofs.YtgmhddceeomjbaaDoor.FreeL Go.Proofs.YtgmhddceeomjbaaDoor.Board Go.Proofs.YtgmhddceeomjbaaDoor.BoardM
open Go.Proofs.YtgmhddceeomjbaaDoor.Free (fill wp_value wp_enter wp_load_row freeB)
set_option linter.unusedVariables false

theorem minfo : (Tryd.prog.info? 27).map (·.size) = some 3 := by kernel_rfl
theorem linfo : (Tryd.prog.info? 23).map (·.size) = some 3 := by kernel_rfl
/-- block b holds a matrix -/
def MHolds (w : World) (b : Nat) (t : TypeId) (r c : Int) (s : ByteArray) : Prop := w.heap[b]? = some (.cells #[.int .i64 r, .int .i64 c, .string s] t (0, 0))
theorem mh_on {w w1 : World} {b : Nat} {t : TypeId} {r c : Int} {s : ByteArray} (h : MHolds w b t r c s) (hb : Below w.heap.size w w1) : MHolds w1 b t r c s := (hb.block b (Array.getElem?_eq_some_iff.1 h).1).trans h
/-- block b holds two numbers -/
def THolds (w : World) (b : Nat) (t : TypeId) (r c : Int) : Prop := w.heap[b]? = some (.cells #[.int .i64 r, .int .i64 c] t (0, 0))
theorem th_on {w w1 : World} {b : Nat} {t : TypeId} {r c : Int} (h : THolds w b t r c) (hb : Below w.heap.size w w1) : THolds w1 b t r c := (hb.block b (Array.getElem?_eq_some_iff.1 h).1).trans h
theorem th_c {w : World} {b : Nat} {t : TypeId} {r c : Int} (h : THolds w b t r c) : w.cell? ⟨b, 0, none⟩ = some (.int .i64 r) ∧ w.cell? ⟨b, 1, none⟩ = some (.int .i64 c) := ⟨cell_of_row _ _ 0 _ _ _ h, cell_of_row _ _ 1 _ _ _ h⟩
theorem mh_c {w : World} {b : Nat} {t : TypeId} {r c : Int} {s : ByteArray} (h : MHolds w b t r c s) : w.cell? ⟨b, 0, none⟩ = some (.int .i64 r) ∧ w.cell? ⟨b, 1, none⟩ = some (.int .i64 c) ∧ w.cell? ⟨b, 2, none⟩ = some (.string s) := ⟨cell_of_row _ _ 0 _ _ _ h, cell_of_row _ _ 1 _ _ _ h, cell_of_row _ _ 2 _ _ _ h⟩

theorem pow8 (R : Nat) (hR : R ≤ 8) : IntKind.i64.wrap (2 ^ R) = ((2 ^ R : Nat) : Int) ∧ 1 ≤ 2 ^ R ∧ 2 ^ R ≤ 256 := by
  have h1 : 2 ^ R ≤ 2 ^ 8 := Nat.pow_le_pow_right (by decide) hR
  have h2 : 0 < 2 ^ R := Nat.two_pow_pos R
  refine ⟨?_, by omega, by omega⟩
  rw [show ((2 : Int) ^ R) = ((2 ^ R : Nat) : Int) by simp]
  obtain ⟨X, hX⟩ : ∃ X, 2 ^ R = X := ⟨_, rfl⟩
  rw [hX] at h1 ⊢
  rw [IntKind.wrap_i64]
  omega

set_option maxHeartbeats 1000000 in
theorem l2Valid_any (R C : Nat) (hR1 : 1 ≤ R) (hR : R ≤ 8) (hC1 : 1 ≤ C) (hC : C ≤ 8) (s : ByteArray) (r c : Int) (w : World) :
    Calls Tryd.prog 156 #[mat R C s, rect r c] w fun e w' => e = .returned (.bool (rvB R C r c)) ∧ Below w.heap.size w w' := by
  obtain ⟨hx, hx1, hx2⟩ := pow8 R hR
  obtain ⟨hy, hy1, hy2⟩ := pow8 C hC
  have ex : ((2 : Int) ^ R) - 1 = ((2 ^ R : Nat) : Int) - 1 := by simp
  have ey : ((2 : Int) ^ C) - 1 = ((2 ^ C : Nat) : Int) - 1 := by simp
  unfold rvB
  rw [ex, ey]
  clear ex ey
  generalize 2 ^ R = X at *
  generalize 2 ^ C = Y at *
  have HV := Lib.hid (fun W => in_any r 1 ((X : Int) - 1) W)
  have HW := Lib.hid (fun W => in_any c 1 ((Y : Int) - 1) W)
  generalize decide (1 ≤ r ∧ r ≤ (X : Int) - 1) = b1 at *
  generalize decide (1 ≤ c ∧ c ≤ (Y : Int) - 1) = b2 at *
  cases b1
  · go_enter Tryd.func156, Tryd.ntmps156
    go_wp2_with fail
    refine (HV.out _).mono ?_
    rintro e w' ⟨rfl, rfl⟩
    go_wp2_with fail
    go_ret
    exact ⟨rfl, by go_grown⟩
  · go_enter Tryd.func156, Tryd.ntmps156
    go_wp2_with fail
    refine (HV.out _).mono ?_
    rintro e w' ⟨rfl, rfl⟩
    go_wp2_with fail
    refine (HW.out _).mono ?_
    rintro e w' ⟨rfl, rfl⟩
    go_wp2_with fail
    go_ret
    exact ⟨rfl, by go_grown⟩

/-- the two boxes of a matrix and a rectangle, behind a call -/
theorem boxes {w w1 : World} {r c x y : Int} {s : ByteArray} {T U : TypeId} (hb : Below ((w.alloc (.cells #[.int .i64 r, .int .i64 c, .string s] T)).alloc (.cells #[.int .i64 x, .int .i64 y] U)).heap.size ((w.alloc (.cells #[.int .i64 r, .int .i64 c, .string s] T)).alloc (.cells #[.int .i64 x, .int .i64 y] U)) w1) :
    MHolds w1 w.heap.size T r c s ∧ THolds w1 (w.heap.size + 1) U x y ∧ Below w.heap.size w w1 := by
  obtain ⟨e0, e1, hb0⟩ := two_box (w := w) (a := .cells #[.int .i64 r, .int .i64 c, .string s] T) (b := .cells #[.int .i64 x, .int .i64 y] U)
  exact ⟨mh_on e0 hb, th_on e1 hb, hb0.trans (hb.mono hb0.size)⟩

set_option maxHeartbeats 1000000 in
theorem spec_rv (R C : Nat) (hR1 : 1 ≤ R) (hR : R ≤ 8) (hC1 : 1 ≤ C) (hC : C ≤ 8) (s : ByteArray) (hs : s.size ≤ maxLen) (hv : validB R C s = true) (r c : Int) (w : World) :
    Calls Tryd.prog 130 #[mat R C s, rect r c] w fun e w' => e = .returned (.bool (rvB R C r c)) ∧ Below w.heap.size w w' := by
  have HV := Lib.hid hv
  have HL := Lib.hid (fun W => l2Valid_any R C hR1 hR hC1 hC s r c W)
  clear hv
  generalize rvB R C r c = b at *
  go_enter Tryd.func130, Tryd.ntmps130
  go_wp2_with fail
  refine (spec_valid _ _ s hs _).mono ?_
  rintro e w1 ⟨rfl, hb1⟩
  rw [HV.out]
  obtain ⟨m0, t0, hbel⟩ := boxes hb1
  obtain ⟨q0, q1, q2⟩ := mh_c m0
  obtain ⟨p0, p1⟩ := th_c t0
  have HB := Lib.hid hbel
  clear hb1 hbel m0 t0
  go_wp2_with fail
  refine (HL.out _).mono ?_
  rintro e w2 ⟨rfl, hb2⟩
  have HB2 := Lib.hid (rstep HB.out hb2)
  clear hb2
  go_wp2_with fail
  go_ret
  exact ⟨rfl, HB2.out⟩
set_option maxHeartbeats 1000000 in
theorem spec_rv_no (rr cc : Int) (s : ByteArray) (hs : s.size ≤ maxLen) (hv : validB rr cc s = false) (r c : Int) (w : World) :
    Calls Tryd.prog 130 #[mat rr cc s, rect r c] w fun e w' => e = .returned (.bool false) ∧ Below w.heap.size w w' := by
  have HV := Lib.hid hv
  clear hv
  go_enter Tryd.func130, Tryd.ntmps130
  go_wp2_with fail
  refine (spec_valid _ _ s hs _).mono ?_
  rintro e w1 ⟨rfl, hb1⟩
  rw [HV.out]
  obtain ⟨m0, t0, hbel⟩ := boxes hb1
  obtain ⟨q0, q1, q2⟩ := mh_c m0
  obtain ⟨p0, p1⟩ := th_c t0
  have HB := Lib.hid hbel
  clear hb1 hbel m0 t0
  go_wp2_with fail
  go_ret
  exact ⟨rfl, HB.out⟩

/-- a board for each matrix: that of a valid one, and the zero board -/
theorem board_yes (R C : Nat) (E : Nat → Nat → Bool) (h1 : 1 ≤ R) (h2 : R ≤ 8) (h3 : 1 ≤ C) (h4 : C ≤ 8) (hs : (str (rowsB E R C)).size ≤ maxLen) (hv : validB R C (str (rowsB E R C)) = true) (W : World) :
    Calls Tryd.prog 61 #[mat R C (str (rowsB E R C))] W fun e w' => e = .returned (brd R C (pat (onB (fun x y => !E x y) R C) 8) (pat (onB E R C) 8)) ∧ Below W.heap.size W w' := by
  have hsz : (str (rowsB E R C)).size ≤ 64 := by rw [str_size, rowsB_length]; exact prod_le h2 h4
  exact board_of R C h2 h4 (gpart E C (R * C)) E (fun x y hx hy => gpart_all E R C x y hx hy h4) _ _ _ (fun W => grid_yes E R C h1 h2 h3 h4 _ rfl hs hsz hv W) W
theorem board_no (rr cc : Int) (s : ByteArray) (hs : s.size ≤ maxLen) (hv : validB rr cc s = false) (W : World) :
    Calls Tryd.prog 61 #[mat rr cc s] W fun e w' => e = .returned (brd ((0 : Nat) : Int) ((0 : Nat) : Int) (pat (onB (fun _ _ => true) 0 0) 8) (pat (onB (fun _ _ => false) 0 0) 8)) ∧ Below W.heap.size W w' :=
  board_of 0 0 (by omega) (by omega) (fun _ => 0) (fun _ _ => false) (fun x y hx _ => absurd hx (by omega)) rr cc s (fun W => grid_no rr cc s hs hv W) W
theorem rvB_zero (r c : Int) : rvB 0 0 r c = false := by
  unfold rvB
  rw [decide_eq_false (by omega)]
  rfl

set_option maxHeartbeats 1000000 in
set_option maxRecDepth 100000 in
theorem impl_rv (R C : Nat) (hR : R ≤ 8) (hC : C ≤ 8) (z o : Nat) (rr cc : Int) (s : ByteArray) (r c : Int)
    (hg : ∀ W : World, Calls Tryd.prog 61 #[mat rr cc s] W fun e w' => e = .returned (brd R C z o) ∧ Below W.heap.size W w') (w : World) :
    Calls Tryd.prog 25 #[mat rr cc s, rect r c] w fun e w' => e = .returned (.bool (rvB R C r c)) ∧ Below w.heap.size w w' := by
  have HG := Lib.hid hg
  have HH := Lib.hid (fun W => hasRect_any R C hR hC z o r c W)
  clear hg
  generalize rvB R C r c = t at *
  go_enter Tryd.func25, Tryd.ntmps25
  go_wp2_with fail
  obtain ⟨e0, e1, hb0⟩ := two_box (w := w) (a := .cells #[.int .i64 rr, .int .i64 cc, .string s] 27) (b := .cells #[.int .i64 r, .int .i64 c] 42)
  generalize (w.alloc (.cells #[.int .i64 rr, .int .i64 cc, .string s] 27)).alloc (.cells #[.int .i64 r, .int .i64 c] 42) = W0 at *
  have MH : Hid (MHolds W0 w.heap.size 27 rr cc s) := e0
  have TH : Hid (THolds W0 (w.heap.size + 1) 42 r c) := e1
  have HB0 := Lib.hid hb0
  clear e0 e1 hb0
  refine wp_region_below (fun | 0 => mat rr cc s | 1 => brd R C z o | 2 => rect r c | 3 => .bool t | 4 => .bool t | _ => undef) (by kernel_rfl) (by kernel_rfl) rfl ?con ?en
  case con =>
    intro i o ho a w2 hb2 hf
    match i, ho with
    | 0, ho =>
      obtain rfl := Option.some.inj ho
      have b2 : a.tmps[2]?.getD undef = .pointer (some ⟨w.heap.size, 0, none⟩) := hf.2 2 (by kernel_rfl)
      exact wp_load_row 27 (.tmp 2) rfl w.heap.size (eval_get b2 trivial) 27 _ (0, 0) _ (mh_on MH.out hb2) Tryd.underlying27 rfl minfo ⟨rfl, Below.refl _ _⟩
    | 1, ho =>
      obtain rfl := Option.some.inj ho
      have e5 : a.tmps[5]?.getD undef = mat rr cc s := hf.1 ⟨0, .data⟩ (by simp) rfl _ 5 rfl rfl
      exact wp_enter 61 #[mat rr cc s] (brd R C z o) _ (by unfold execOp; go_simp) (HG.out w2) (fun w' h => ⟨rfl, h⟩)
    | 2, ho =>
      obtain rfl := Option.some.inj ho
      have b3 : a.tmps[3]?.getD undef = .pointer (some ⟨w.heap.size + 1, 0, none⟩) := hf.2 3 (by kernel_rfl)
      exact wp_load_row 42 (.tmp 3) rfl (w.heap.size + 1) (eval_get b3 trivial) 42 _ (0, 0) _ (th_on TH.out hb2) Tryd.underlying42 rfl rinfo ⟨rfl, Below.refl _ _⟩
    | 3, ho =>
      obtain rfl := Option.some.inj ho
      have e6 : a.tmps[6]?.getD undef = brd R C z o := hf.1 ⟨1, .data⟩ (by simp) rfl _ 6 rfl rfl
      have e7 : a.tmps[7]?.getD undef = rect r c := hf.1 ⟨2, .data⟩ (by simp) rfl _ 7 rfl rfl
      exact wp_enter 86 #[brd R C z o, rect r c] (.bool t) _ (by unfold execOp; go_simp) (HH.out w2) (fun w' h => ⟨rfl, h⟩)
    | 4, ho =>
      obtain rfl := Option.some.inj ho
      have e8 : a.tmps[8]?.getD undef = .bool t := hf.1 ⟨3, .data⟩ (by simp) rfl _ 8 rfl rfl
      exact wp_value (.bool t) (by unfold execOp; go_simp) ⟨rfl, Below.refl _ _⟩
    | q + 5, ho => simp at ho
  case en =>
    intro w2 hb2
    have HB2 := Lib.hid (rstep HB0.out hb2)
    clear hb2
    simp only [fill, Act.put]
    go_simp
    go_wp2_with fail
    go_ret
    exact ⟨rfl, HB2.out⟩
end Go.Proofs.YtgmhddceeomjbaaDoor.RValid
