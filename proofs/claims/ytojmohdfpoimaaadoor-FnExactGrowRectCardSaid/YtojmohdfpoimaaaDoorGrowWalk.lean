/-
  The walk of the law on GrowRect.
-/
import Derived.Test.YtojmohdfpoimaaaDoorGrowOf
namespace Go.Proofs.YtojmohdfpoimaaaDoor.fnExactGrowRect
open Go.RowKit Go.Proofs.YtojmohdfpoimaaaDoor.Plain Go.Proofs.YtojmohdfpoimaaaDoor.Base Go.Proofs.YtojmohdfpoimaaaDoor.Valid Go.Proofs.YtojmohdfpoimaaaDoor.Law Go.Proofs.YtojmohdfpoimaaaDoor.GridPlain Go.Proofs.YtojmohdfpoimaaaDoor.Entry Go.Proofs.YtojmohdfpoimaaaDoor.Pat Go.Proofs.YtojmohdfpoimaaaDoor.Rect Go.Proofs.YtojmohdfpoimaaaDoor.Patch Go.Proofs.YtojmohdfpoimaaaDoor.FreeL Go.Proofs.YtojmohdfpoimaaaDoor.Board Go.Proofs.YtojmohdfpoimaaaDoor.BoardM Go.Proofs.YtojmohdfpoimaaaDoor.RValid Go.Proofs.YtojmohdfpoimaaaDoor.Area Go.Proofs.YtojmohdfpoimaaaDoor.Bal Go.Proofs.YtojmohdfpoimaaaDoor.Colour Go.Proofs.YtojmohdfpoimaaaDoor.With Go.Proofs.YtojmohdfpoimaaaDoor.Cols Go.Proofs.YtojmohdfpoimaaaDoor.Grow Go.Proofs.YtojmohdfpoimaaaDoor.GrowOf
open Go.Proofs.YtojmohdfpoimaaaDoor.Free (fill wp_value wp_enter wp_load_row freeB wp_region_one get_of)
set_option linter.unusedVariables false

/-- both find one colour of a rectangle of a matrix -/
theorem col_yes (R C : Nat) (E : Nat → Nat → Bool) (h1 : 1 ≤ R) (h2 : R ≤ 8) (h3 : 1 ≤ C) (h4 : C ≤ 8) (hs : (str (rowsB E R C)).size ≤ maxLen) (hv : validB R C (str (rowsB E R C)) = true)
    (RS CS : Nat) (k1 : 1 ≤ RS) (k2 : RS < 2 ^ R) (k3 : 1 ≤ CS) (k4 : CS < 2 ^ C) (k5 : RS < 256) (k6 : CS < 256) (ht : rvB R C RS CS = true) : ∃ v : Int, (v = -1 ∨ v = 0 ∨ v = 1) ∧
    (∀ w, Calls Tryd.prog 14 #[mat R C (str (rowsB E R C)), rect RS CS] w fun e w' => e = .returned (.int .i64 v) ∧ Below w.heap.size w w') ∧
    (∀ w, Calls Tryd.prog 15 #[mat R C (str (rowsB E R C)), rect RS CS] w fun e w' => e = .returned (.int .i64 v) ∧ Below w.heap.size w w') := by
  have hbd := fun W => board_yes R C E h1 h2 h3 h4 hs hv W
  have hrv := fun W => spec_rv R C h1 h2 h3 h4 _ hs hv RS CS W
  have hsp := spec_col R C _ RS CS true _ (fun W => by have := hrv W; rwa [ht] at this) (fun _ W => spec_l2col E R C h1 h2 h3 h4 RS CS k1 k5 k3 k6 W)
  rw [if_pos rfl] at hsp
  have him := impl_col_yes R C h2 h4 _ _ (pat64 _ (onB_lt _ R C h4)) (pat64 _ (onB_lt _ R C h4)) _ _ _ RS CS k5 k6 hbd ht _ _ rfl rfl
  have e0 := plain_pat (fun x y => !E x y) R C RS CS h2 h4 k5 k6
  have e1 := plain_pat E R C RS CS h2 h4 k5 k6
  have a1 := bal_area E RS CS R C h2 h4 k2 k4
  have a0 := bal_area (fun x y => !E x y) RS CS R C h2 h4 k2 k4
  rw [← bal_not] at a0
  have hin : ∀ x y, RS.testBit x = true → CS.testBit y = true → x < R ∧ y < C := fun x y hx hy => by
    constructor
    · rcases Nat.lt_or_ge x R with h | h
      · exact h
      · rw [bit_beyond RS x R k2 h] at hx; cases hx
    · rcases Nat.lt_or_ge y C with h | h
      · exact h
      · rw [bit_beyond CS y C k4 h] at hy; cases hy
  have g1 : (bal E RS CS R C = ((pop8 RS * pop8 CS : Nat) : Int)) ↔ (pat (rectB RS CS) 8 &&& (18446744073709551615 - pat (onB E R C) 8) = 0) := by
    rw [e1, a1]
    exact ⟨fun h x y hx hy => ⟨hin x y hx hy, h x y hx hy⟩, fun h x y hx hy => (h x y hx hy).2⟩
  have g0 : (- bal E RS CS R C = ((pop8 RS * pop8 CS : Nat) : Int)) ↔ (pat (rectB RS CS) 8 &&& (18446744073709551615 - pat (onB (fun x y => !E x y) R C) 8) = 0) := by
    rw [e0, a0]
    exact ⟨fun h x y hx hy => ⟨hin x y hx hy, h x y hx hy⟩, fun h x y hx hy => (h x y hx hy).2⟩
  have hpos : 1 ≤ pop8 RS * pop8 CS := Nat.mul_le_mul (pop8_pos RS k1 k5) (pop8_pos CS k3 k6)
  refine ⟨_, ?_, hsp, fun w => ?_⟩
  · unfold colV
    split
    · exact .inr (.inr rfl)
    · split
      · exact .inr (.inl rfl)
      · exact .inl rfl
  have e : colV (bal E RS CS R C) ((pop8 RS * pop8 CS : Nat) : Int) = (if decide (pat (rectB RS CS) 8 &&& (18446744073709551615 - pat (onB (fun x y => !E x y) R C) 8) = 0) = true then 0 else if decide (pat (rectB RS CS) 8 &&& (18446744073709551615 - pat (onB E R C) 8) = 0) = true then 1 else -1) := by
    unfold colV
    by_cases hA : bal E RS CS R C = ((pop8 RS * pop8 CS : Nat) : Int)
    · rw [if_pos hA, decide_eq_true (g1.1 hA), decide_eq_false (fun h => by have := g0.2 h; omega)]
      rfl
    · rw [if_neg hA, decide_eq_false (fun h => hA (g1.2 h))]
      by_cases hB : bal E RS CS R C = - ((pop8 RS * pop8 CS : Nat) : Int)
      · rw [if_pos hB, decide_eq_true (g0.1 (by omega))]
        rfl
      · rw [if_neg hB, decide_eq_false (fun h => hB (by have := g0.2 h; omega))]
        rfl
  rw [e]
  exact him w

/-- both find one rectangle -/
theorem both (r c : Int) (s : ByteArray) (hs : s.size ≤ maxLen) (x y : Int) : ∃ (A B : Int) (t : Bool),
    (∀ w, Calls Tryd.prog 16 #[mat r c s, rect x y] w fun e w' => e = .returned (.tuple #[rect A B, .bool t]) ∧ Below w.heap.size w w') ∧
    (∀ w, Calls Tryd.prog 17 #[mat r c s, rect x y] w fun e w' => e = .returned (.tuple #[rect A B, .bool t]) ∧ Below w.heap.size w w') := by
  by_cases hv : validB r c s = true
  · obtain ⟨R, C, E, rfl, rfl, h1, h2, h3, h4, rfl⟩ := valid_form hv
    by_cases ht : rvB R C x y = true
    · obtain ⟨RS, CS, rfl, rfl, k1, k2, k3, k4, k5, k6⟩ := rv_nat h2 h4 ht
      have hbd := fun W => board_yes R C E h1 h2 h3 h4 hs hv W
      obtain ⟨v, hv3, hsp, him⟩ := col_yes R C E h1 h2 h3 h4 hs hv RS CS k1 k2 k3 k4 k5 k6 ht
      have z64 := pat64 (onB (fun x y => !E x y) R C) (onB_lt _ R C h4)
      have o64 := pat64 (onB E R C) (onB_lt _ R C h4)
      have hcs : ∀ y, CS.testBit y = true → y < C := fun y hy => by
        rcases Nat.lt_or_ge y C with h | h
        · exact h
        · rw [bit_beyond CS y C k4 h] at hy; cases hy
      rcases hv3 with rfl | rfl | rfl
      · exact ⟨0, 0, false, spec_growOf_no _ _ _ _ _ (-1) (by omega) hsp, impl_growOf_no _ _ _ _ _ (-1) (by omega) (by omega) him⟩
      · have hP : ∀ x y, (fun x y => !E x y) x y = (E x y == false) := fun x y => by show (!E x y) = _; cases E x y <;> rfl
        have er := rows_eq E (fun x y => !E x y) false hP R C CS h2 h4 k6 hcs
        have hrb : ∀ x, (setB (fun x => allTo (fun y x => E x y) CS false x C) R).testBit x = true → x < R := fun x hx => by
          rw [setB_bit, Bool.and_eq_true, decide_eq_true_iff] at hx
          exact hx.1
        have ec := cols_eq E (fun x y => !E x y) false hP R C _ h2 h4 (setB_lt8 _ R h2) hrb
        have sr := fun W => rows_any E R C h1 h2 h3 h4 CS k6 false W
        have sc := fun W => cols_any E R C h1 h2 h3 h4 _ (setB_lt8 (fun x => allTo (fun y x => E x y) CS false x C) R h2) false W
        have ir := fun W => rows_with0 R C h2 h4 _ _ z64 o64 CS k6 W
        have ic := fun W => cols_with0 R C h2 h4 _ _ z64 o64 _ (setB_lt8 (fun x => allTo (fun y x => E x y) CS false x C) R h2) W
        have er' := fun W => (by rw [← er]; exact ir W : Calls Tryd.prog 55 #[brd R C (pat (onB (fun x y => !E x y) R C) 8) (pat (onB E R C) 8), .int .i64 (CS : Int), .int .i64 0] W fun e w' => e = .returned (.int .i64 ((setB (fun x => allTo (fun y x => E x y) CS false x C) R : Nat) : Int)) ∧ Below W.heap.size W w')
        have ec' := fun W => (by rw [← ec]; exact ic W : Calls Tryd.prog 56 #[brd R C (pat (onB (fun x y => !E x y) R C) 8) (pat (onB E R C) 8), .int .i64 ((setB (fun x => allTo (fun y x => E x y) CS false x C) R : Nat) : Int), .int .i64 0] W fun e w' => e = .returned (.int .i64 ((setB (fun y => allTo E (setB (fun x => allTo (fun y x => E x y) CS false x C) R) false y R) C : Nat) : Int)) ∧ Below W.heap.size W w')
        have sg := fun W => spec_grow R C _ RS CS _ _ 0 sr sc W
        have ig := fun W => impl_grow R C _ _ RS CS _ _ 0 er' ec' W
        exact ⟨_, _, true, spec_growOf_yes _ _ _ _ _ 0 _ _ (by omega) hsp sg, impl_growOf_yes _ _ _ _ _ _ _ _ _ 0 _ _ (by omega) (by omega) him hbd ig⟩
      · have hP : ∀ x y, E x y = (E x y == true) := fun x y => by show E x y = _; cases E x y <;> rfl
        have er := rows_eq E E true hP R C CS h2 h4 k6 hcs
        have hrb : ∀ x, (setB (fun x => allTo (fun y x => E x y) CS true x C) R).testBit x = true → x < R := fun x hx => by
          rw [setB_bit, Bool.and_eq_true, decide_eq_true_iff] at hx
          exact hx.1
        have ec := cols_eq E E true hP R C _ h2 h4 (setB_lt8 _ R h2) hrb
        have sr := fun W => rows_any E R C h1 h2 h3 h4 CS k6 true W
        have sc := fun W => cols_any E R C h1 h2 h3 h4 _ (setB_lt8 (fun x => allTo (fun y x => E x y) CS true x C) R h2) true W
        have ir := fun W => rows_with1 R C h2 h4 _ _ z64 o64 CS k6 W
        have ic := fun W => cols_with1 R C h2 h4 _ _ z64 o64 _ (setB_lt8 (fun x => allTo (fun y x => E x y) CS true x C) R h2) W
        have er' := fun W => (by rw [← er]; exact ir W : Calls Tryd.prog 55 #[brd R C (pat (onB (fun x y => !E x y) R C) 8) (pat (onB E R C) 8), .int .i64 (CS : Int), .int .i64 1] W fun e w' => e = .returned (.int .i64 ((setB (fun x => allTo (fun y x => E x y) CS true x C) R : Nat) : Int)) ∧ Below W.heap.size W w')
        have ec' := fun W => (by rw [← ec]; exact ic W : Calls Tryd.prog 56 #[brd R C (pat (onB (fun x y => !E x y) R C) 8) (pat (onB E R C) 8), .int .i64 ((setB (fun x => allTo (fun y x => E x y) CS true x C) R : Nat) : Int), .int .i64 1] W fun e w' => e = .returned (.int .i64 ((setB (fun y => allTo E (setB (fun x => allTo (fun y x => E x y) CS true x C) R) true y R) C : Nat) : Int)) ∧ Below W.heap.size W w')
        have sg := fun W => spec_grow R C _ RS CS _ _ 1 sr sc W
        have ig := fun W => impl_grow R C _ _ RS CS _ _ 1 er' ec' W
        exact ⟨_, _, true, spec_growOf_yes _ _ _ _ _ 1 _ _ (by omega) hsp sg, impl_growOf_yes _ _ _ _ _ _ _ _ _ 1 _ _ (by omega) (by omega) him hbd ig⟩
    · rw [Bool.not_eq_true] at ht
      have hbd := fun W => board_yes R C E h1 h2 h3 h4 hs hv W
      have hrv := fun W => spec_rv R C h1 h2 h3 h4 _ hs hv x y W
      have hsp := spec_col R C _ x y false 0 (fun W => by have := hrv W; rwa [ht] at this) (fun h => by cases h)
      rw [if_neg (by decide)] at hsp
      exact ⟨0, 0, false, spec_growOf_no _ _ _ _ _ (-2) (by omega) hsp, impl_growOf_no _ _ _ _ _ (-2) (by omega) (by omega) (fun w => impl_col_no R C h2 h4 _ _ _ _ _ x y hbd ht w)⟩
  · have hv' : validB r c s = false := by simpa using hv
    have hsp := spec_col r c s x y false 0 (fun W => spec_rv_no r c s hs hv' x y W) (fun h => by cases h)
    rw [if_neg (by decide)] at hsp
    exact ⟨0, 0, false, spec_growOf_no _ _ _ _ _ (-2) (by omega) hsp, impl_growOf_no _ _ _ _ _ (-2) (by omega) (by omega) (fun w => impl_col_no 0 0 (by omega) (by omega) _ _ r c s x y (fun W => board_no r c s hs hv' W) (rvB_zero x y) w)⟩

/-- the law's own boxes -/
def MBox (w : World) (b : Nat) (r c : Int) (s : ByteArray) : Prop := MHolds w b 23 r c s
theorem MBox.on {w w1 : World} {b : Nat} {r c : Int} {s : ByteArray} (h : MBox w b r c s) (hb : Below w.heap.size w w1) : MBox w1 b r c s := mh_on h hb
def RBox (w : World) (b : Nat) (t : TypeId) (r c : Int) : Prop := THolds w b t r c
theorem RBox.on {w w1 : World} {b : Nat} {t : TypeId} {r c : Int} (h : RBox w b t r c) (hb : Below w.heap.size w w1) : RBox w1 b t r c := th_on h hb

set_option maxHeartbeats 1000000 in
set_option maxRecDepth 100000 in
theorem walk (r c : Int) (s : ByteArray) (wr : (Lit.int .i64 r).wf = true) (wc : (Lit.int .i64 c).wf = true) (hs : s.size ≤ maxLen) (x y : Int) (wx : (Lit.int .i64 x).wf = true) (wy : (Lit.int .i64 y).wf = true) (w : World) :
    Calls Tryd.prog 5 #[mat r c s, rect x y] w fun e w' => e = .returned (.bool true) ∧ Below w.heap.size w w' := by
  obtain ⟨A, B, t, hspec, himpl⟩ := both r c s hs x y
  have HS := Lib.hid hspec
  have HI := Lib.hid himpl
  clear hspec himpl
  have hs2 := hs
  unfold maxLen at hs2
  by_cases hbig : 1048576 < s.size
  · go_enter Tryd.func5, Tryd.ntmps5
    go_wp2_with fail
    refine (sz_over r c s _ (by omega) (by omega) hs _).mono ?_
    rintro e w1 ⟨rfl, hb1⟩
    obtain ⟨m0, t0, hbel⟩ := boxes hb1
    have HB := Lib.hid hbel
    clear hb1 m0 t0 hbel
    go_wp2_with fail
    go_ret
    exact ⟨rfl, HB.out⟩
  · go_enter Tryd.func5, Tryd.ntmps5
    go_wp2_with fail
    refine (sz_fits r c s _ (by omega) (by omega) _).mono ?_
    rintro e W0 ⟨rfl, hb1⟩
    obtain ⟨m0, t0, hbel⟩ := boxes hb1
    have T0 : MBox W0 w.heap.size r c s := m0
    have T1 : RBox W0 (w.heap.size + 1) 25 x y := t0
    have HB0 := Lib.hid hbel
    clear hb1 m0 t0 hbel
    go_wp2_with fail
    refine wp_region_one (fun | 0 => mat r c s | 1 => mat r c s | 2 => rect x y | 3 => rect x y | 4 => .tuple #[rect A B, .bool t] | 5 => .tuple #[rect A B, .bool t] | 6 => rect A B | 7 => .bool t | 10 => .bool t | _ => undef) 8 9 6 30 #[.int .i64 0, .int .i64 0] #[.int .i64 A, .int .i64 B] _ _
      (by kernel_rfl) (by kernel_rfl) rfl rfl rfl rfl rfl (by decide) ⟨_, List.mem_toArray.2 List.mem_cons_self, rfl, rfl⟩ rfl ?al ?st ?con ?en
    case al =>
      intro a w
      unfold execOp
      go_simp
    case st =>
      intro a w1 b old hf hp hg hsz
      refine wp_store_row 30 (.tmp 6) (.tmp 21) rfl b #[.int .i64 A, .int .i64 B] hp ?_ 30 old hg rinfo hsz (by simp [Value.oneCell']) ⟨rfl, rfl⟩
      exact hf.1 ⟨6, .data⟩ (by simp) rfl _ 21 rfl rfl (by decide) (by decide)
    case con =>
      intro i o ho n1 n2 a w1 hb hf
      match i, ho with
      | 0, ho =>
        obtain rfl := Option.some.inj ho
        exact wp_load_row 23 (.tmp 2) rfl w.heap.size (hf.2 2 (by kernel_rfl)) 23 _ (0, 0) _ (T0.on hb) Tryd.underlying23 rfl linfo ⟨rfl, Below.refl _ _⟩
      | 1, ho =>
        obtain rfl := Option.some.inj ho
        have e : a.tmps[16]?.getD undef = mat r c s := get_of (hf.1 ⟨0, .data⟩ (by simp) rfl _ 16 rfl rfl (by decide) (by decide))
        exact wp_enter 11 #[mat r c s] (mat r c s) _ (by unfold execOp; go_simp) (to_any r c s w1) (fun w' h => ⟨rfl, h⟩)
      | 2, ho =>
        obtain rfl := Option.some.inj ho
        exact wp_load_row 25 (.tmp 3) rfl (w.heap.size + 1) (hf.2 3 (by kernel_rfl)) 25 _ (0, 0) _ (T1.on hb) Tryd.underlying25 rfl lrinfo ⟨rfl, Below.refl _ _⟩
      | 3, ho =>
        obtain rfl := Option.some.inj ho
        have e : a.tmps[18]?.getD undef = rect x y := get_of (hf.1 ⟨2, .data⟩ (by simp) rfl _ 18 rfl rfl (by decide) (by decide))
        exact wp_enter 12 #[rect x y] (rect x y) _ (by unfold execOp; go_simp) (to_rect x y w1) (fun w' h => ⟨rfl, h⟩)
      | 4, ho =>
        obtain rfl := Option.some.inj ho
        have e0 : a.tmps[17]?.getD undef = mat r c s := get_of (hf.1 ⟨1, .data⟩ (by simp) rfl _ 17 rfl rfl (by decide) (by decide))
        have e1 : a.tmps[19]?.getD undef = rect x y := get_of (hf.1 ⟨3, .data⟩ (by simp) rfl _ 19 rfl rfl (by decide) (by decide))
        exact wp_enter 16 #[mat r c s, rect x y] (.tuple #[rect A B, .bool t]) _ (by unfold execOp; go_simp) (HS.out w1) (fun w' h => ⟨rfl, h⟩)
      | 5, ho =>
        obtain rfl := Option.some.inj ho
        have e : a.tmps[20]?.getD undef = .tuple #[rect A B, .bool t] := get_of (hf.1 ⟨4, .data⟩ (by simp) rfl _ 20 rfl rfl (by decide) (by decide))
        exact wp_value (.tuple #[rect A B, .bool t]) (by unfold execOp; go_simp) ⟨rfl, Below.refl _ _⟩
      | 6, ho =>
        obtain rfl := Option.some.inj ho
        have e : a.tmps[15]?.getD undef = .tuple #[rect A B, .bool t] := get_of (hf.1 ⟨5, .data⟩ (by simp) rfl _ 15 rfl rfl (by decide) (by decide))
        exact wp_value (rect A B) (by unfold execOp; go_simp) ⟨rfl, Below.refl _ _⟩
      | 7, ho =>
        obtain rfl := Option.some.inj ho
        have e : a.tmps[15]?.getD undef = .tuple #[rect A B, .bool t] := get_of (hf.1 ⟨5, .data⟩ (by simp) rfl _ 15 rfl rfl (by decide) (by decide))
        exact wp_value (.bool t) (by unfold execOp; go_simp) ⟨rfl, Below.refl _ _⟩
      | 8, ho => exact absurd rfl n1
      | 9, ho => exact absurd rfl n2
      | 10, ho =>
        obtain rfl := Option.some.inj ho
        have e : a.tmps[22]?.getD undef = .bool t := get_of (hf.1 ⟨7, .data⟩ (by simp) rfl _ 22 rfl rfl (by decide) (by decide))
        exact wp_value (.bool t) (by unfold execOp; go_simp) ⟨rfl, Below.refl _ _⟩
      | n + 11, ho => simp at ho
    case en =>
      intro b1 W1 hb hle hcell
      have T0 := T0.on hb
      have T1 := T1.on hb
      have HB1 := Lib.hid (rstep HB0.out hb)
      have C1 : RBox W1 b1 30 A B := hcell
      clear hb hcell HB0
      simp only [fill, Act.put]
      go_simp
      go_wp2_with fail
      refine wp_region_one (fun | 0 => mat r c s | 1 => mat r c s | 2 => rect x y | 3 => rect x y | 4 => .tuple #[rect A B, .bool t] | 5 => .tuple #[rect A B, .bool t] | 6 => rect A B | 7 => .bool t | 10 => .bool t | _ => undef) 8 9 8 30 #[.int .i64 0, .int .i64 0] #[.int .i64 A, .int .i64 B] _ _
        (by kernel_rfl) (by kernel_rfl) rfl rfl rfl rfl rfl (by decide) ⟨_, List.mem_toArray.2 List.mem_cons_self, rfl, rfl⟩ rfl ?al2 ?st2 ?con2 ?en2
      case al2 =>
        intro a w
        unfold execOp
        go_simp
      case st2 =>
        intro a w1 b old hf hp hg hsz
        refine wp_store_row 30 (.tmp 8) (.tmp 29) rfl b #[.int .i64 A, .int .i64 B] hp ?_ 30 old hg rinfo hsz (by simp [Value.oneCell']) ⟨rfl, rfl⟩
        exact hf.1 ⟨6, .data⟩ (by simp) rfl _ 29 rfl rfl (by decide) (by decide)
      case con2 =>
        intro i o ho n1 n2 a w1 hb hf
        match i, ho with
        | 0, ho =>
          obtain rfl := Option.some.inj ho
          exact wp_load_row 23 (.tmp 2) rfl w.heap.size (hf.2 2 (by kernel_rfl)) 23 _ (0, 0) _ (T0.on hb) Tryd.underlying23 rfl linfo ⟨rfl, Below.refl _ _⟩
        | 1, ho =>
          obtain rfl := Option.some.inj ho
          have e : a.tmps[24]?.getD undef = mat r c s := get_of (hf.1 ⟨0, .data⟩ (by simp) rfl _ 24 rfl rfl (by decide) (by decide))
          exact wp_enter 11 #[mat r c s] (mat r c s) _ (by unfold execOp; go_simp) (to_any r c s w1) (fun w' h => ⟨rfl, h⟩)
        | 2, ho =>
          obtain rfl := Option.some.inj ho
          exact wp_load_row 25 (.tmp 3) rfl (w.heap.size + 1) (hf.2 3 (by kernel_rfl)) 25 _ (0, 0) _ (T1.on hb) Tryd.underlying25 rfl lrinfo ⟨rfl, Below.refl _ _⟩
        | 3, ho =>
          obtain rfl := Option.some.inj ho
          have e : a.tmps[26]?.getD undef = rect x y := get_of (hf.1 ⟨2, .data⟩ (by simp) rfl _ 26 rfl rfl (by decide) (by decide))
          exact wp_enter 12 #[rect x y] (rect x y) _ (by unfold execOp; go_simp) (to_rect x y w1) (fun w' h => ⟨rfl, h⟩)
        | 4, ho =>
          obtain rfl := Option.some.inj ho
          have e0 : a.tmps[25]?.getD undef = mat r c s := get_of (hf.1 ⟨1, .data⟩ (by simp) rfl _ 25 rfl rfl (by decide) (by decide))
          have e1 : a.tmps[27]?.getD undef = rect x y := get_of (hf.1 ⟨3, .data⟩ (by simp) rfl _ 27 rfl rfl (by decide) (by decide))
          exact wp_enter 17 #[mat r c s, rect x y] (.tuple #[rect A B, .bool t]) _ (by unfold execOp; go_simp) (HI.out w1) (fun w' h => ⟨rfl, h⟩)
        | 5, ho =>
          obtain rfl := Option.some.inj ho
          have e : a.tmps[28]?.getD undef = .tuple #[rect A B, .bool t] := get_of (hf.1 ⟨4, .data⟩ (by simp) rfl _ 28 rfl rfl (by decide) (by decide))
          exact wp_value (.tuple #[rect A B, .bool t]) (by unfold execOp; go_simp) ⟨rfl, Below.refl _ _⟩
        | 6, ho =>
          obtain rfl := Option.some.inj ho
          have e : a.tmps[23]?.getD undef = .tuple #[rect A B, .bool t] := get_of (hf.1 ⟨5, .data⟩ (by simp) rfl _ 23 rfl rfl (by decide) (by decide))
          exact wp_value (rect A B) (by unfold execOp; go_simp) ⟨rfl, Below.refl _ _⟩
        | 7, ho =>
          obtain rfl := Option.some.inj ho
          have e : a.tmps[23]?.getD undef = .tuple #[rect A B, .bool t] := get_of (hf.1 ⟨5, .data⟩ (by simp) rfl _ 23 rfl rfl (by decide) (by decide))
          exact wp_value (.bool t) (by unfold execOp; go_simp) ⟨rfl, Below.refl _ _⟩
        | 8, ho => exact absurd rfl n1
        | 9, ho => exact absurd rfl n2
        | 10, ho =>
          obtain rfl := Option.some.inj ho
          have e : a.tmps[30]?.getD undef = .bool t := get_of (hf.1 ⟨7, .data⟩ (by simp) rfl _ 30 rfl rfl (by decide) (by decide))
          exact wp_value (.bool t) (by unfold execOp; go_simp) ⟨rfl, Below.refl _ _⟩
        | n + 11, ho => simp at ho
      case en2 =>
        intro b2 W2 hb hle2 hcell
        have HB2 := Lib.hid (rstep HB1.out hb)
        have k0 : W2.cell? ⟨b1, 0, none⟩ = some (.int .i64 A) := cell_of_row _ _ 0 _ _ _ (C1.on hb)
        have k1 : W2.cell? ⟨b1, 1, none⟩ = some (.int .i64 B) := cell_of_row _ _ 1 _ _ _ (C1.on hb)
        have j0 : W2.cell? ⟨b2, 0, none⟩ = some (.int .i64 A) := cell_of_row _ _ 0 _ _ _ hcell
        have j1 : W2.cell? ⟨b2, 1, none⟩ = some (.int .i64 B) := cell_of_row _ _ 1 _ _ _ hcell
        clear hb hcell HB1 T0 T1 C1
        simp only [fill, Act.put]
        go_simp
        go_wp2_with fail
        refine (eq_rect _ _ _).mono ?_
        rintro e w6 ⟨rfl, hb6⟩
        have HB6 := Lib.hid (rstep HB2.out hb6)
        clear hb6 HB2
        cases t
        all_goals
          go_wp2_with fail
          go_ret
          exact ⟨rfl, HB6.out⟩
end Go.Proofs.YtojmohdfpoimaaaDoor.fnExactGrowRect
