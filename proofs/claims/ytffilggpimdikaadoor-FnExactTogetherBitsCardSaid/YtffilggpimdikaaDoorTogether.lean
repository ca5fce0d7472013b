/-
  The walk of the law on TogetherBits.
-/
import Derived.Test.YtffilggpimdikaaDoorOneWay
import Derived.Test.YtffilggpimdikaaDoorClos
import Derived.Test.YtffilggpimdikaaDoorKept
import Derived.Test.YtffilggpimdikaaDoorTurn1
import Derived.Test.YtffilggpimdikaaDoorFreeS
namespace Go.Proofs.YtffilggpimdikaaDoor.fnExactTogetherBits
open Go.RowKit Go.Proofs.YtffilggpimdikaaDoor.Plain Go.Proofs.YtffilggpimdikaaDoor.Base Go.Proofs.YtffilggpimdikaaDoor.Valid Go.Proofs.YtffilggpimdikaaDoor.Law Go.Proofs.YtffilggpimdikaaDoor.GridPlain Go.Proofs.YtffilggpimdikaaDoor.Grid Go.Proofs.YtffilggpimdikaaDoor.Entry Go.Proofs.YtffilggpimdikaaDoor.First Go.Proofs.YtffilggpimdikaaDoor.ShrM Go.Proofs.YtffilggpimdikaaDoor.LgB
open Go.Proofs.YtffilggpimdikaaDoor.fnExactDifferentRows (SV.slice impl_diff impl_diff_no)
open Go.Proofs.YtffilggpimdikaaDoor.fnExactOneWayBits (impl_one impl_yes)
open Go.Proofs.YtffilggpimdikaaDoor.Kept Go.Proofs.YtffilggpimdikaaDoor.FreeS
open Go.Proofs.YtffilggpimdikaaDoor.Free (fill wp_value wp_enter wp_load_row freeB)
open Go.Proofs.YtffilggpimdikaaDoor.Clos (turn_impl turn_impl_no)
set_option linter.unusedVariables false

theorem eval_get {a : Act} {d : Tmp} {v : Value} (h : a.tmps[d]?.getD undef = v) : a.eval (.tmp d) = v := by
  rw [← h]
  show a.tmps.getD d undef = _
  simp [Array.getD_eq_getD_getElem?]
theorem valid_rows (E : Nat → Nat → Bool) (R C : Nat) (h1 : 1 ≤ R) (h2 : R ≤ 8) (h3 : 1 ≤ C) (h4 : C ≤ 8) : validB R C (str (rowsB E R C)) = true := by
  rw [validB_in (by omega) (by omega) (by omega) (by omega)]
  have : okB (str (rowsB E R C)) = true := okB_true fun j hj => by
    have hj' : j < R * C := by rw [str_size, rowsB_length] at hj; exact hj
    rw [str_get _ j _ (rowsB_get E R C j hj') hj]
    cases E (j / C) (j % C) <;> rfl
  rw [this, Bool.true_and, str_size, rowsB_length]
  simp
theorem minfo : (Tryd.prog.info? 26).map (·.size) = some 3 := by kernel_rfl
set_option maxHeartbeats 4000000 in
set_option maxRecDepth 100000 in
theorem spec_tog (E : Nat → Nat → Bool) (R C : Nat) (h1 : 1 ≤ R) (h2 : R ≤ 8) (h3 : 1 ≤ C) (h4 : C ≤ 8) (hs : (str (rowsB E R C)).size ≤ maxLen) (hv : validB R C (str (rowsB E R C)) = true) (k1 k2 : Nat) (g1 : lgB (firsts (keyR E C) R).length = k1) (g2 : lgB (firsts (keyR (fun x y => E y x) R) C).length = k2) (w : World) :
    Calls Tryd.prog 15 #[mat R C (str (rowsB E R C))] w fun e w' => e = .returned (.int .i64 ((k1 : Int) + (k2 : Int))) ∧ Below w.heap.size w w' := by
  have l1 := firsts_len (keyR E C) R
  have l2 := firsts_len (keyR (fun x y => E y x) R) C
  have HV := Lib.hid (fun W => spec_valid R C _ hs W)
  rw [hv] at HV
  have HF1 := Lib.hid (fun W => first_sv E R C h2 h4 0 W (Nat.zero_le _))
  have HF2 := Lib.hid (fun W => first_sv (fun x y => E y x) C R h4 h2 0 W (Nat.zero_le _))
  have HT := Lib.hid (fun W => Go.Proofs.YtffilggpimdikaaDoor.Turn1.turn_spec1 E R C h1 h2 h3 h4 W)
  have HK1 := Lib.hid (fun W => said_k (firsts (keyR E C) R).length (by omega) W)
  have HK2 := Lib.hid (fun W => said_k (firsts (keyR (fun x y => E y x) R) C).length (by omega) W)
  have b1 := (lgB_is (firsts (keyR E C) R).length (by omega)).2
  have b2 := (lgB_is (firsts (keyR (fun x y => E y x) R) C).length (by omega)).2
  rw [g1] at HK1 b1
  rw [g2] at HK2 b2
  have HWR : Hid (IntKind.i64.wrap ((k1 : Int) + (k2 : Int)) = (k1 : Int) + (k2 : Int)) := IntWalk.i64_in _ ⟨by omega, by omega⟩
  generalize firsts (keyR E C) R = la at *
  generalize firsts (keyR (fun x y => E y x) R) C = lb at *
  generalize str (rowsB (fun x y => E y x) C R) = sT at *
  generalize str (rowsB E R C) = s at *
  clear g1 g2 hv hs
  have HKp := Lib.hid ((Kp.nil w).put (.cells #[.int .i64 (R : Int), .int .i64 (C : Int), .string s] 26) rfl)
  obtain ⟨c0, c1, c2, -, -, -⟩ := Go.Proofs.YtffilggpimdikaaDoor.Rd5.cells3 (HKp.out.at 0 rfl)
  go_enter Tryd.func15, Tryd.ntmps15
  go_wp2_with fail
  clear c0 c1 c2
  refine (HV.out _).mono ?_
  rintro e w1 ⟨rfl, hb1⟩
  have HKa := Lib.hid (HKp.out.later hb1)
  clear hb1 HKp
  have HMB : Hid (∀ wx : World, Below w1.heap.size w1 wx → wx.heap[w.heap.size]? = some (.cells #[.int .i64 (R : Int), .int .i64 (C : Int), .string s] 26 (0, 0))) := fun wx hb => (HKa.out.later hb).at 0 rfl
  have HL1 : Hid (∀ W : World, Calls Tryd.prog 36 #[mat R C s] W fun e w' => ∃ v, e = .returned v ∧ (∃ p c, v = .slice p la.length c) ∧ Below W.heap.size W w') := fun W => (HF1.out W).mono fun e w' h => by
    obtain ⟨v, h1, h2, h3⟩ := h
    obtain ⟨p, c, h4⟩ := SV.slice h2
    exact ⟨v, h1, ⟨p, c, h4⟩, h3⟩
  have HL2 : Hid (∀ W : World, Calls Tryd.prog 36 #[mat C R sT] W fun e w' => ∃ v, e = .returned v ∧ (∃ p c, v = .slice p lb.length c) ∧ Below W.heap.size W w') := fun W => (HF2.out W).mono fun e w' h => by
    obtain ⟨v, h1, h2, h3⟩ := h
    obtain ⟨p, c, h4⟩ := SV.slice h2
    exact ⟨v, h1, ⟨p, c, h4⟩, h3⟩
  clear HF1 HF2
  generalize la.length = n1 at *
  generalize lb.length = n2 at *
  obtain ⟨B, hB⟩ : ∃ B, w.heap.size = B := ⟨_, rfl⟩
  rw [hB] at HMB
  go_wp2_with fail
  refine wp_region_rels (fun | 0 => fun v _ => v = mat R C s | 1 => fun v _ => ∃ p c, v = .slice p n1 c | 2 => fun v _ => v = .int .i64 (n1 : Int) | 3 => fun v _ => v = .int .i64 (k1 : Int) | 4 => fun v _ => v = mat R C s | 5 => fun v _ => v = mat C R sT | 6 => fun v _ => ∃ p c, v = .slice p n2 c | 7 => fun v _ => v = .int .i64 (n2 : Int) | 8 => fun v _ => v = .int .i64 (k2 : Int) | 9 => fun v _ => v = .int .i64 ((k1 : Int) + (k2 : Int)) | 10 => fun v _ => v = .int .i64 ((k1 : Int) + (k2 : Int)) | _ => fun _ _ => True) ?hR (by kernel_rfl) (by kernel_rfl) rfl ?con ?en
  case hR =>
    intro i v wa wb ho h
    match i, h with
    | 0, h => exact h
    | 1, h => exact h
    | 2, h => exact h
    | 3, h => exact h
    | 4, h => exact h
    | 5, h => exact h
    | 6, h => exact h
    | 7, h => exact h
    | 8, h => exact h
    | 9, h => exact h
    | 10, h => exact h
    | k + 11, h => trivial
  case con =>
    intro i oo ho a wx hb2 hf
    match i, ho with
    | 0, ho =>
      obtain rfl := Option.some.inj ho
      have b1 : a.tmps[1]?.getD undef = .pointer (some ⟨B, 0, none⟩) := hf.2 1 (by kernel_rfl)
      exact wp_load_row 26 (.tmp 1) rfl B (eval_get b1) 26 _ (0, 0) _ (HMB.out _ hb2) Tryd.underlying26 rfl minfo ⟨_, rfl, rfl, Below.refl _ _⟩
    | 1, ho =>
      obtain rfl := Option.some.inj ho
      have e6 : a.tmps[6]?.getD undef = mat R C s := hf.1 ⟨0, .data⟩ (by simp) rfl _ 6 rfl rfl
      exact wp_enterE 36 #[mat R C s] (fun v w' => (∃ p c, v = .slice p n1 c) ∧ Below wx.heap.size wx w') (by unfold execOp; go_simp) (HL1.out wx) (fun v w' h => ⟨_, rfl, h.1, h.2⟩)
    | 2, ho =>
      obtain rfl := Option.some.inj ho
      obtain ⟨p, c, e7⟩ : ∃ p c, a.tmps[7]?.getD undef = .slice p n1 c := hf.1 ⟨1, .data⟩ (by simp) rfl _ 7 rfl rfl
      exact wp_value (.int .i64 (n1 : Int)) (by unfold execOp; go_simp) ⟨_, rfl, rfl, Below.refl _ _⟩
    | 3, ho =>
      obtain rfl := Option.some.inj ho
      have e8 : a.tmps[8]?.getD undef = .int .i64 (n1 : Int) := hf.1 ⟨2, .data⟩ (by simp) rfl _ 8 rfl rfl
      exact wp_enter 35 #[.int .i64 (n1 : Int)] (.int .i64 (k1 : Int)) _ (by unfold execOp; go_simp) (HK1.out wx) (fun w' h => ⟨_, rfl, rfl, h⟩)
    | 4, ho =>
      obtain rfl := Option.some.inj ho
      have b1 : a.tmps[1]?.getD undef = .pointer (some ⟨B, 0, none⟩) := hf.2 1 (by kernel_rfl)
      exact wp_load_row 26 (.tmp 1) rfl B (eval_get b1) 26 _ (0, 0) _ (HMB.out _ hb2) Tryd.underlying26 rfl minfo ⟨_, rfl, rfl, Below.refl _ _⟩
    | 5, ho =>
      obtain rfl := Option.some.inj ho
      have e10 : a.tmps[10]?.getD undef = mat R C s := hf.1 ⟨4, .data⟩ (by simp) rfl _ 10 rfl rfl
      exact wp_enter 39 #[mat R C s] (mat C R sT) _ (by unfold execOp; go_simp) (HT.out wx) (fun w' h => ⟨_, rfl, rfl, h⟩)
    | 6, ho =>
      obtain rfl := Option.some.inj ho
      have e11 : a.tmps[11]?.getD undef = mat C R sT := hf.1 ⟨5, .data⟩ (by simp) rfl _ 11 rfl rfl
      exact wp_enterE 36 #[mat C R sT] (fun v w' => (∃ p c, v = .slice p n2 c) ∧ Below wx.heap.size wx w') (by unfold execOp; go_simp) (HL2.out wx) (fun v w' h => ⟨_, rfl, h.1, h.2⟩)
    | 7, ho =>
      obtain rfl := Option.some.inj ho
      obtain ⟨p, c, e12⟩ : ∃ p c, a.tmps[12]?.getD undef = .slice p n2 c := hf.1 ⟨6, .data⟩ (by simp) rfl _ 12 rfl rfl
      exact wp_value (.int .i64 (n2 : Int)) (by unfold execOp; go_simp) ⟨_, rfl, rfl, Below.refl _ _⟩
    | 8, ho =>
      obtain rfl := Option.some.inj ho
      have e13 : a.tmps[13]?.getD undef = .int .i64 (n2 : Int) := hf.1 ⟨7, .data⟩ (by simp) rfl _ 13 rfl rfl
      exact wp_enter 35 #[.int .i64 (n2 : Int)] (.int .i64 (k2 : Int)) _ (by unfold execOp; go_simp) (HK2.out wx) (fun w' h => ⟨_, rfl, rfl, h⟩)
    | 9, ho =>
      obtain rfl := Option.some.inj ho
      have e9 : a.tmps[9]?.getD undef = .int .i64 (k1 : Int) := hf.1 ⟨3, .data⟩ (by simp) rfl _ 9 rfl rfl
      have e14 : a.tmps[14]?.getD undef = .int .i64 (k2 : Int) := hf.1 ⟨8, .data⟩ (by simp) rfl _ 14 rfl rfl
      exact wp_value (.int .i64 ((k1 : Int) + (k2 : Int))) (by unfold execOp; go_simp; first | done | (rw [HWR.out]; first | done | rfl) | (have hw := HWR.out; simp only [IntKind.wrap_i64] at hw; rw [hw])) ⟨_, rfl, rfl, Below.refl _ _⟩
    | 10, ho =>
      obtain rfl := Option.some.inj ho
      have e15 : a.tmps[15]?.getD undef = .int .i64 ((k1 : Int) + (k2 : Int)) := hf.1 ⟨9, .data⟩ (by simp) rfl _ 15 rfl rfl
      exact wp_value (.int .i64 ((k1 : Int) + (k2 : Int))) (by unfold execOp; go_simp) ⟨_, rfl, rfl, Below.refl _ _⟩
    | q + 11, ho => simp at ho
  case en =>
    intro vs w2 hb2 hall
    have v10 : vs 10 = .int .i64 ((k1 : Int) + (k2 : Int)) := hall 10 _ rfl
    have HB2 := Lib.hid (HKa.out.later hb2).below
    rw [hB] at HB2
    clear hb2 hall
    simp only [fill, Act.put]
    rw [v10]
    clear v10
    go_simp
    go_wp2_with fail
    go_ret
    exact ⟨rfl, by first | exact HB2.out | (rw [hB]; exact HB2.out)⟩
set_option maxHeartbeats 1000000 in
theorem spec_no (r c : Int) (s : ByteArray) (hs : s.size ≤ maxLen) (hv : validB r c s = false) (w : World) :
    Calls Tryd.prog 15 #[mat r c s] w fun e w' => e = .returned (.int .i64 (-1)) ∧ Below w.heap.size w w' := by
  have HV := Lib.hid (fun W => spec_valid r c _ hs W)
  rw [hv] at HV
  clear hv
  have HKp := Lib.hid ((Kp.nil w).put (.cells #[.int .i64 r, .int .i64 c, .string s] 26) rfl)
  obtain ⟨c0, c1, c2, -, -, -⟩ := Go.Proofs.YtffilggpimdikaaDoor.Rd5.cells3 (HKp.out.at 0 rfl)
  go_enter Tryd.func15, Tryd.ntmps15
  go_wp2_with fail
  clear c0 c1 c2
  refine (HV.out _).mono ?_
  rintro e w1 ⟨rfl, hb1⟩
  have HKa := Lib.hid (HKp.out.later hb1)
  clear hb1 HKp
  go_wp2_with fail
  go_ret
  exact ⟨rfl, HKa.out.below⟩
set_option maxHeartbeats 4000000 in
set_option maxRecDepth 100000 in
theorem impl_tog (R C : Nat) (s sT : ByteArray) (k1 k2 : Nat) (b1 : k1 ≤ 3) (b2 : k2 ≤ 3)
    (hT : ∀ W : World, Calls Tryd.prog 40 #[mat R C s] W fun e w' => e = .returned (.tuple #[mat C R sT, .bool true]) ∧ Below W.heap.size W w')
    (h1 : ∀ W : World, Calls Tryd.prog 14 #[mat R C s] W fun e w' => e = .returned (.int .i64 (k1 : Int)) ∧ Below W.heap.size W w')
    (h2 : ∀ W : World, Calls Tryd.prog 14 #[mat C R sT] W fun e w' => e = .returned (.int .i64 (k2 : Int)) ∧ Below W.heap.size W w') (w : World) :
    Calls Tryd.prog 16 #[mat R C s] w fun e w' => e = .returned (.int .i64 ((k1 : Int) + (k2 : Int))) ∧ Below w.heap.size w w' := by
  have HWR : Hid (IntKind.i64.wrap ((k1 : Int) + (k2 : Int)) = (k1 : Int) + (k2 : Int)) := IntWalk.i64_in _ ⟨by omega, by omega⟩
  have HT := Lib.hid hT
  have H1 := Lib.hid h1
  have H2 := Lib.hid h2
  clear hT h1 h2
  have HKp := Lib.hid ((Kp.nil w).put (.cells #[.int .i64 (R : Int), .int .i64 (C : Int), .string s] 26) rfl)
  obtain ⟨B, hB⟩ : ∃ B, w.heap.size = B := ⟨_, rfl⟩
  rw [hB] at HKp
  obtain ⟨c0, c1, c2, -, -, -⟩ := Go.Proofs.YtffilggpimdikaaDoor.Rd5.cells3 (HKp.out.at 0 rfl)
  go_enter Tryd.func16, Tryd.ntmps16
  go_wp2_with fail
  refine (HT.out _).mono ?_
  rintro e w2 ⟨rfl, hb2⟩
  obtain ⟨bt, hbt⟩ : ∃ x, w2.heap.size = x := ⟨_, rfl⟩
  have HK2 := Lib.hid ((HKp.out.later hb2).put (.cells #[.int .i64 (C : Int), .int .i64 (R : Int), .string sT] 26) hbt)
  clear hb2 HKp
  clear c0 c1 c2 hB
  go_wp2_with fail
  clear hbt
  refine region_kept (C := fun wx => Kp w wx [(bt, .cells #[.int .i64 (C : Int), .int .i64 (R : Int), .string sT] 26), (B, .cells #[.int .i64 (R : Int), .int .i64 (C : Int), .string s] 26)]) HK2.out.drew (by kernel_rfl) (by kernel_rfl) ?_
  repeat
    (refine wq_step (fun K hK => ?_)
     go_simp
     first
       | (refine hK _ ?_; clear hK K)
       | (apply Exists.intro
          refine ⟨fun wx hC => ?_, hK _ ?_⟩
          · first
            | with_reducible rfl
            | with_reducible exact hC.call (H1.out wx)
            | with_reducible exact hC.call (H2.out wx)
            | (obtain ⟨q00, q01, q02, -, -, -⟩ := Go.Proofs.YtffilggpimdikaaDoor.Rd5.cells3 (hC.at 0 rfl); obtain ⟨q10, q11, q12, -, -, -⟩ := Go.Proofs.YtffilggpimdikaaDoor.Rd5.cells3 (hC.at 1 rfl); go_simp; first | done | rfl)
          clear hK K))
  refine wq_nil ?_
  intro w9 hC
  have HRw9 : Hid (Kp w w9 [(bt, .cells #[.int .i64 (C : Int), .int .i64 (R : Int), .string sT] 26), (B, .cells #[.int .i64 (R : Int), .int .i64 (C : Int), .string s] 26)]) := hC
  clear hC HK2
  go_wp2_with fail
  go_ret
  exact ⟨by show Ending.returned (.int .i64 (IntKind.i64.wrap ((k1 : Int) + (k2 : Int)))) = _; rw [HWR.out], HRw9.out.below⟩
set_option maxHeartbeats 1000000 in
theorem impl_no (r c : Int) (s : ByteArray) (hT : ∀ W : World, Calls Tryd.prog 40 #[mat r c s] W fun e w' => e = .returned (.tuple #[mat 0 0 (str []), .bool false]) ∧ Below W.heap.size W w') (w : World) :
    Calls Tryd.prog 16 #[mat r c s] w fun e w' => e = .returned (.int .i64 (-1)) ∧ Below w.heap.size w w' := by
  have HT := Lib.hid hT
  clear hT
  generalize str [] = z at *
  have HKp := Lib.hid ((Kp.nil w).put (.cells #[.int .i64 r, .int .i64 c, .string s] 26) rfl)
  obtain ⟨B, hB⟩ : ∃ B, w.heap.size = B := ⟨_, rfl⟩
  rw [hB] at HKp
  obtain ⟨c0, c1, c2, -, -, -⟩ := Go.Proofs.YtffilggpimdikaaDoor.Rd5.cells3 (HKp.out.at 0 rfl)
  go_enter Tryd.func16, Tryd.ntmps16
  go_wp2_with fail
  refine (HT.out _).mono ?_
  rintro e w2 ⟨rfl, hb2⟩
  obtain ⟨bt, hbt⟩ : ∃ x, w2.heap.size = x := ⟨_, rfl⟩
  have HK2 := Lib.hid ((HKp.out.later hb2).put (.cells #[.int .i64 0, .int .i64 0, .string z] 26) hbt)
  clear hb2 HKp
  clear c0 c1 c2 hB
  go_wp2_with fail
  go_ret
  exact ⟨rfl, HK2.out.below⟩
theorem both (r c : Int) (s : ByteArray) (hs : s.size ≤ maxLen) : ∃ v : Int,
    (∀ w, Calls Tryd.prog 15 #[mat r c s] w fun e w' => e = .returned (.int .i64 v) ∧ Below w.heap.size w w') ∧
    (∀ w, Calls Tryd.prog 16 #[mat r c s] w fun e w' => e = .returned (.int .i64 v) ∧ Below w.heap.size w w') := by
  by_cases hv : validB r c s = true
  · obtain ⟨R, C, E, rfl, rfl, h1, h2, h3, h4, rfl⟩ := valid_form hv
    have l1 := firsts_len (keyR E C) R
    have l2 := firsts_len (keyR (fun x y => E y x) R) C
    have hsz : (str (rowsB E R C)).size ≤ 64 := by rw [str_size, rowsB_length]; exact prod_le h2 h4
    have hst : (str (rowsB (fun x y => E y x) C R)).size ≤ maxLen := by
      have : (str (rowsB (fun x y => E y x) C R)).size ≤ 64 := by rw [str_size, rowsB_length]; exact prod_le h4 h2
      unfold maxLen
      omega
    have hvt := valid_rows (fun x y => E y x) C R h3 h4 h1 h2
    refine ⟨_, fun w => spec_tog E R C h1 h2 h3 h4 hs hv _ _ rfl rfl w, fun w => impl_tog R C _ _ _ _ (lgB_is _ (by omega)).2 (lgB_is _ (by omega)).2 (fun W => turn_impl E R C h1 h2 h3 h4 _ W fun W => grid_yes E R C h1 h2 h3 h4 _ rfl hs hsz hv W) (fun W => impl_yes E R C h1 h2 h3 h4 hs hv W) (fun W => impl_yes (fun x y => E y x) C R h3 h4 h1 h2 hst hvt W) w⟩
  · have hv' : validB r c s = false := by simpa using hv
    exact ⟨-1, fun w => spec_no r c s hs hv' w, fun w => impl_no r c s (fun W => turn_impl_no r c s W fun W => grid_no r c s hs hv' W) w⟩

theorem walk (r c : Int) (s : ByteArray) (wr : (Lit.int .i64 r).wf = true) (wc : (Lit.int .i64 c).wf = true) (hs : s.size ≤ maxLen) (w : World) :
    Calls Tryd.prog 4 #[mat r c s] w fun e w' => e = .returned (.bool true) ∧ Below w.heap.size w w' := by
  obtain ⟨v, hspec, himpl⟩ := both r c s hs
  have HS := Lib.hid hspec
  have HI := Lib.hid himpl
  clear hspec himpl
  have hs2 := hs
  unfold maxLen at hs2
  by_cases hbig : 1048576 < s.size
  · go_enter Tryd.func4, Tryd.ntmps4
    go_wp2_with fail
    refine (sz_over r c s _ (by omega) (by omega) hs _).mono ?_
    rintro e w1 ⟨rfl, hb1⟩
    have HB := Lib.hid (bstep ((Below.refl w.heap.size w).alloc (Nat.le_refl _) _) hb1)
    clear hb1
    go_wp2_with fail
    go_ret
    exact ⟨rfl, HB.out⟩
  · go_enter Tryd.func4, Tryd.ntmps4
    go_wp2_with fail
    refine (sz_fits r c s _ (by omega) (by omega) _).mono ?_
    rintro e w1 ⟨rfl, hb1⟩
    obtain ⟨k0, k1, k2⟩ := three_of hb1
    have hg : w.heap.size < w1.heap.size := by have := hb1.size; simp at this; omega
    have HB := Lib.hid (bstep ((Below.refl w.heap.size w).alloc (Nat.le_refl _) _) hb1)
    clear hb1
    go_wp2_with fail
    refine (to_any r c s _).mono ?_
    rintro e w2 ⟨rfl, hb2⟩
    go_wp2_with fail
    refine (HS.out _).mono ?_
    rintro e w3 ⟨rfl, hb3⟩
    obtain ⟨j0, j1, j2⟩ := three_on (hb2.trans (hb3.mono hb2.size)) hg k0 k1 k2
    have HB3 := Lib.hid (bstep (bstep HB.out hb2) hb3)
    clear hb2 hb3 k0 k1 k2 HB
    go_wp2_with fail
    refine (to_any r c s _).mono ?_
    rintro e w4 ⟨rfl, hb4⟩
    go_wp2_with fail
    refine (HI.out _).mono ?_
    rintro e w5 ⟨rfl, hb5⟩
    have HB5 := Lib.hid (bstep (bstep HB3.out hb4) hb5)
    clear hb4 hb5 j0 j1 j2 HB3
    go_wp2_with fail
    all_goals (go_ret; exact ⟨rfl, HB5.out⟩)
end Go.Proofs.YtffilggpimdikaaDoor.fnExactTogetherBits
