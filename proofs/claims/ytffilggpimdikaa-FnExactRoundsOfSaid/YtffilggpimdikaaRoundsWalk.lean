/-
  The walk of the law on RoundsOf.
-/
import Derived.Test.YtffilggpimdikaaRoundT
import Derived.Test.YtffilggpimdikaaParts
import Derived.Test.YtffilggpimdikaaNodeH
import Derived.Test.YtffilggpimdikaaBase
namespace Go.Proofs.Ytffilggpimdikaa.fnExactRoundsOf
open Go.RowKit Go.Shelf Go.Proofs.Ytffilggpimdikaa.Plain Go.Proofs.Ytffilggpimdikaa.Tree Go.Proofs.Ytffilggpimdikaa.Read Go.Proofs.Ytffilggpimdikaa.TreeOf Go.Proofs.Ytffilggpimdikaa.Parts Go.Proofs.Ytffilggpimdikaa.FreeL Go.Proofs.Ytffilggpimdikaa.RoundT
open Go.Proofs.Ytffilggpimdikaa.NodeH (eval_get)
open Go.Proofs.Ytffilggpimdikaa.Base (bitOf_any)
open Go.Proofs.Ytffilggpimdikaa.Count (cells4)
open Go.Proofs.Ytffilggpimdikaa.Free (fill wp_value wp_enter wp_load_row freeB)
set_option linter.unusedVariables false
set_option linter.unusedSimpArgs false

theorem as_say (v : Value) (w : World) : (Instr.typeAssert (.iface 36 v) 26 36 true).run Try.prog w = .ok (.tuple #[v, .bool true]) w := by kernel_rfl
theorem as_end (v : Value) (w : World) : (Instr.typeAssert (.iface 41 v) 26 36 true).run Try.prog w = .ok (.tuple #[.agg #[.int .u8 0, .int .i64 0, .nilIface, .nilIface], .bool false]) w := by kernel_rfl

set_option maxHeartbeats 4000000 in
set_option maxRecDepth 100000 in
theorem behind (t : T) : (text t).length ≤ 8000000 → ∀ (p : Nat) (w : World), Calls Try.prog 9 #[tree t, .int .u8 (p : Int)] w fun e w' => e = .returned (.int .i64 (roundT p t : Int)) ∧ Below w.heap.size w w' := by
  induction t with
  | leaf b =>
    intro hl p w
    show Calls _ _ #[.iface 41 (.int .i64 (bitI b)), _] _ fun e w' => e = .returned (.int .i64 0) ∧ _
    generalize bitI b = bi
    have has := as_end
    go_enter Try.func9, Try.ntmps9
    go_wp2_with fail
    go_ret
    exact ⟨rfl, by go_grown⟩
  | say a s z o ihz iho =>
    intro hl p w
    have hlz : (text z).length + (text o).length + 3 = (text (.say a s z o)).length := by simp [text]
    have hZ := fun W => ihz (by omega) (whoB a).toNat W
    have hO := fun W => iho (by omega) (whoB a).toNat W
    have bz := round_small z (whoB a).toNat
    have bo := round_small o (whoB a).toNat
    show Calls _ _ #[.iface 36 (.agg #[.int .u8 ((whoB a).toNat : Int), .int .i64 (s : Int), tree z, tree o]), _] _ fun e w' => e = .returned (.int .i64 ((max (roundT (whoB a).toNat z) (roundT (whoB a).toNat o) + (if (whoB a).toNat = p then 0 else 1) : Nat) : Int)) ∧ _
    generalize roundT (whoB a).toNat z = m at *
    generalize roundT (whoB a).toNat o = n at *
    generalize (whoB a).toNat = q at *
    obtain ⟨t1, v1, e1⟩ := tree_iface z
    obtain ⟨t2, v2, e2⟩ := tree_iface o
    rw [e1] at hZ ⊢
    rw [e2] at hO ⊢
    have HZ := Lib.hid hZ
    have HO := Lib.hid hO
    obtain ⟨d, hd⟩ : ∃ d : Bool, (!((q : Int) == (p : Int))) = d := ⟨_, rfl⟩
    have hd2 : ((q : Int) != (p : Int)) = d := hd
    have hr : (((max m n + (if q = p then 0 else 1) : Nat)) : Int) = bitI d + max (m : Int) (n : Int) := by
      rw [← hd]
      by_cases h : q = p
      · subst h
        simp [bitI]
        omega
      · have h2 : ((q : Int) == (p : Int)) = false := beq_false_of_ne (by omega)
        rw [h2, if_neg h]
        simp [bitI]
        omega
    obtain ⟨rr, hrr⟩ : ∃ rr : Nat, max m n + (if q = p then 0 else 1) = rr := ⟨_, rfl⟩
    rw [hrr] at hr ⊢
    clear hrr
    have HR := Lib.hid hr
    have L1 : m ≤ 8000000 := by omega
    have L2 : n ≤ 8000000 := by omega
    have HBO := Lib.hid (fun W => bitOf_any d W)
    have hbi : 0 ≤ bitI d ∧ bitI d ≤ 1 := by cases d <;> simp [bitI]
    obtain ⟨bi, hbie⟩ : ∃ x, bitI d = x := ⟨_, rfl⟩
    rw [hbie] at HBO hbi HR
    have hwr : IntKind.i64.wrap (bi + max (m : Int) (n : Int)) = bi + max (m : Int) (n : Int) := IntWalk.i64_in _ ⟨by omega, by omega⟩
    have HWR := Lib.hid hwr
    clear hZ hO hl hlz bz bo hr hd hwr hbie ihz iho
    have has := as_say
    obtain ⟨B, hB⟩ : ∃ B, w.heap.size = B := ⟨_, rfl⟩
    have HS : Hid ((w.alloc (.cells #[.int .u8 (q : Int), .int .i64 (s : Int), .iface t1 v1, .iface t2 v2] 36)).heap[B]? = some (.cells #[.int .u8 (q : Int), .int .i64 (s : Int), .iface t1 v1, .iface t2 v2] 36 (0, 0)) ∧ Below w.heap.size w (w.alloc (.cells #[.int .u8 (q : Int), .int .i64 (s : Int), .iface t1 v1, .iface t2 v2] 36))) := by
      rw [← hB]
      exact ⟨heap_alloc_new w _, (Below.refl _ _).alloc (Nat.le_refl _) _⟩
    go_enter Try.func9, Try.ntmps9
    go_wp2_with fail
    generalize w.alloc (.cells #[.int .u8 (q : Int), .int .i64 (s : Int), .iface t1 v1, .iface t2 v2] 36) = w1 at *
    refine wp_region_below (fun | 0 => .pointer (some ⟨B, 2, none⟩) | 1 => .pointer (some ⟨B, 2, none⟩) | 2 => .iface t1 v1 | 3 => .pointer (some ⟨B, 0, none⟩) | 4 => .int .u8 (q : Int) | 5 => .int .i64 (m : Int) | 6 => .pointer (some ⟨B, 2, none⟩) | 7 => .pointer (some ⟨B, 3, none⟩) | 8 => .iface t2 v2 | 9 => .pointer (some ⟨B, 0, none⟩) | 10 => .int .u8 (q : Int) | 11 => .int .i64 (n : Int) | 12 => .int .i64 (max (m : Int) (n : Int)) | 13 => .int .i64 (max (m : Int) (n : Int)) | _ => undef) (by kernel_rfl) (by kernel_rfl) rfl ?conA ?enA
    case conA =>
      intro i o ho a wx hb hf
      match i, ho with
      | 0, ho =>
        obtain rfl := Option.some.inj ho
        have b5 : a.tmps[5]?.getD undef = .pointer (some ⟨B, 0, none⟩) := hf.2 5 (by kernel_rfl)
        exact wp_value (.pointer (some ⟨B, 2, none⟩)) (by unfold execOp; go_simp) ⟨rfl, Below.refl _ _⟩
      | 1, ho =>
        obtain rfl := Option.some.inj ho
        have e15 : a.tmps[15]?.getD undef = .pointer (some ⟨B, 2, none⟩) := hf.1 ⟨0, .data⟩ (by simp) rfl _ 15 rfl rfl
        exact wp_value (.pointer (some ⟨B, 2, none⟩)) (by unfold execOp; go_simp) ⟨rfl, Below.refl _ _⟩
      | 2, ho =>
        obtain rfl := Option.some.inj ho
        have e16 : a.tmps[16]?.getD undef = .pointer (some ⟨B, 2, none⟩) := hf.1 ⟨1, .data⟩ (by simp) rfl _ 16 rfl rfl
        obtain ⟨c0, c1, c2, c3⟩ := cells4 ((hb.block _ (Array.getElem?_eq_some_iff.1 HS.out.1).1).trans HS.out.1)
        exact wp_value (.iface t1 v1) (by unfold execOp; go_simp) ⟨rfl, Below.refl _ _⟩
      | 3, ho =>
        obtain rfl := Option.some.inj ho
        have b5 : a.tmps[5]?.getD undef = .pointer (some ⟨B, 0, none⟩) := hf.2 5 (by kernel_rfl)
        exact wp_value (.pointer (some ⟨B, 0, none⟩)) (by unfold execOp; go_simp) ⟨rfl, Below.refl _ _⟩
      | 4, ho =>
        obtain rfl := Option.some.inj ho
        have e18 : a.tmps[18]?.getD undef = .pointer (some ⟨B, 0, none⟩) := hf.1 ⟨3, .data⟩ (by simp) rfl _ 18 rfl rfl
        obtain ⟨c0, c1, c2, c3⟩ := cells4 ((hb.block _ (Array.getElem?_eq_some_iff.1 HS.out.1).1).trans HS.out.1)
        exact wp_value (.int .u8 (q : Int)) (by unfold execOp; go_simp) ⟨rfl, Below.refl _ _⟩
      | 5, ho =>
        obtain rfl := Option.some.inj ho
        have e17 : a.tmps[17]?.getD undef = .iface t1 v1 := hf.1 ⟨2, .data⟩ (by simp) rfl _ 17 rfl rfl
        have e19 : a.tmps[19]?.getD undef = .int .u8 (q : Int) := hf.1 ⟨4, .data⟩ (by simp) rfl _ 19 rfl rfl
        exact wp_enter 9 #[.iface t1 v1, .int .u8 (q : Int)] (.int .i64 (m : Int)) _ (by unfold execOp; go_simp) (HZ.out wx) (fun w' h => ⟨rfl, h⟩)
      | 6, ho =>
        obtain rfl := Option.some.inj ho
        have b5 : a.tmps[5]?.getD undef = .pointer (some ⟨B, 0, none⟩) := hf.2 5 (by kernel_rfl)
        exact wp_value (.pointer (some ⟨B, 2, none⟩)) (by unfold execOp; go_simp) ⟨rfl, Below.refl _ _⟩
      | 7, ho =>
        obtain rfl := Option.some.inj ho
        have e21 : a.tmps[21]?.getD undef = .pointer (some ⟨B, 2, none⟩) := hf.1 ⟨6, .data⟩ (by simp) rfl _ 21 rfl rfl
        exact wp_value (.pointer (some ⟨B, 3, none⟩)) (by unfold execOp; go_simp) ⟨rfl, Below.refl _ _⟩
      | 8, ho =>
        obtain rfl := Option.some.inj ho
        have e22 : a.tmps[22]?.getD undef = .pointer (some ⟨B, 3, none⟩) := hf.1 ⟨7, .data⟩ (by simp) rfl _ 22 rfl rfl
        obtain ⟨c0, c1, c2, c3⟩ := cells4 ((hb.block _ (Array.getElem?_eq_some_iff.1 HS.out.1).1).trans HS.out.1)
        exact wp_value (.iface t2 v2) (by unfold execOp; go_simp) ⟨rfl, Below.refl _ _⟩
      | 9, ho =>
        obtain rfl := Option.some.inj ho
        have b5 : a.tmps[5]?.getD undef = .pointer (some ⟨B, 0, none⟩) := hf.2 5 (by kernel_rfl)
        exact wp_value (.pointer (some ⟨B, 0, none⟩)) (by unfold execOp; go_simp) ⟨rfl, Below.refl _ _⟩
      | 10, ho =>
        obtain rfl := Option.some.inj ho
        have e24 : a.tmps[24]?.getD undef = .pointer (some ⟨B, 0, none⟩) := hf.1 ⟨9, .data⟩ (by simp) rfl _ 24 rfl rfl
        obtain ⟨c0, c1, c2, c3⟩ := cells4 ((hb.block _ (Array.getElem?_eq_some_iff.1 HS.out.1).1).trans HS.out.1)
        exact wp_value (.int .u8 (q : Int)) (by unfold execOp; go_simp) ⟨rfl, Below.refl _ _⟩
      | 11, ho =>
        obtain rfl := Option.some.inj ho
        have e23 : a.tmps[23]?.getD undef = .iface t2 v2 := hf.1 ⟨8, .data⟩ (by simp) rfl _ 23 rfl rfl
        have e25 : a.tmps[25]?.getD undef = .int .u8 (q : Int) := hf.1 ⟨10, .data⟩ (by simp) rfl _ 25 rfl rfl
        exact wp_enter 9 #[.iface t2 v2, .int .u8 (q : Int)] (.int .i64 (n : Int)) _ (by unfold execOp; go_simp) (HO.out wx) (fun w' h => ⟨rfl, h⟩)
      | 12, ho =>
        obtain rfl := Option.some.inj ho
        have e20 : a.tmps[20]?.getD undef = .int .i64 (m : Int) := hf.1 ⟨5, .data⟩ (by simp) rfl _ 20 rfl rfl
        have e26 : a.tmps[26]?.getD undef = .int .i64 (n : Int) := hf.1 ⟨11, .data⟩ (by simp) rfl _ 26 rfl rfl
        exact wp_value (.int .i64 (max (m : Int) (n : Int))) (by unfold execOp; go_simp) ⟨rfl, Below.refl _ _⟩
      | 13, ho =>
        obtain rfl := Option.some.inj ho
        have e27 : a.tmps[27]?.getD undef = .int .i64 (max (m : Int) (n : Int)) := hf.1 ⟨12, .data⟩ (by simp) rfl _ 27 rfl rfl
        exact wp_value (.int .i64 (max (m : Int) (n : Int))) (by unfold execOp; go_simp) ⟨rfl, Below.refl _ _⟩
      | q + 14, ho => simp at ho
    case enA =>
    intro wx hb
    have hrow := (hb.block _ (Array.getElem?_eq_some_iff.1 HS.out.1).1).trans HS.out.1
    have HW := Lib.hid (HS.out.2.trans (hb.mono HS.out.2.size))
    obtain ⟨c0, c1, c2, c3⟩ := cells4 hrow
    clear hb HS
    simp only [fill, Act.put]
    go_simp
    go_wp2_with fail
    refine (HBO.out _).mono ?_
    rintro e w' ⟨rfl, rfl⟩
    go_wp2_with fail
    go_ret
    exact ⟨by rw [HR.out]; first | rfl | (rw [HWR.out]; rfl), by first | exact HW.out | (rw [← hB]; exact HW.out)⟩

set_option maxHeartbeats 4000000 in
set_option maxRecDepth 100000 in
theorem said_rounds (t : T) : wf t → (text t).length ≤ 2000 → ∀ (p : Nat) (w : World), Calls Try.prog 7 #[.string (str (text t)), .int .u8 (p : Int)] w fun e w' => e = .returned (.int .i64 (roundT p t : Int)) ∧ Below w.heap.size w w' := by
  induction t with
  | leaf b =>
    intro _ _ p w
    have HL : Hid (∀ W, Calls Try.prog 11 #[.string (str (text (.leaf b)))] W fun e w' => e = .returned (.bool true) ∧ W = w') := leaf_yes _ (by rw [str_size]; rfl)
    generalize str (text (.leaf b)) = s at *
    go_enter Try.func7, Try.ntmps7
    go_wp2_with fail
    refine (HL.out _).mono ?_
    rintro e w' ⟨rfl, rfl⟩
    go_wp2_with fail
    go_ret
    exact ⟨rfl, Below.refl _ _⟩
  | say a v z o ihz iho =>
    intro hw hl p w
    have hlz : (text (.say a v z o)).length = (text z).length + (text o).length + 3 := by simp [text]
    have hZ := fun W => ihz hw.2.1 (by omega) (whoB a).toNat W
    have hO := fun W => iho hw.2.2 (by omega) (whoB a).toNat W
    have bz := round_small z (whoB a).toNat
    have bo := round_small o (whoB a).toNat
    have hk : 0 < (str (text (.say a v z o))).size := by rw [str_size]; omega
    have hx : ((str (text (.say a v z o)))[0]'hk).toNat = (whoB a).toNat := by simp [str, text, ByteArray.getElem_eq_getElem_data]
    have HL : Hid (∀ W, Calls Try.prog 11 #[.string (str (text (.say a v z o)))] W fun e w' => e = .returned (.bool false) ∧ W = w') := leaf_no _ (by rw [str_size]; omega)
    have HP := Lib.hid (parts_w a v z o hw.2.1 (str (text (.say a v z o))) (str_data _) (by rw [str_size]; omega))
    show Calls _ _ _ _ fun e w' => e = .returned (.int .i64 ((max (roundT (whoB a).toNat z) (roundT (whoB a).toNat o) + (if (whoB a).toNat = p then 0 else 1) : Nat) : Int)) ∧ _
    generalize roundT (whoB a).toNat z = m at *
    generalize roundT (whoB a).toNat o = n at *
    generalize (whoB a).toNat = q at *
    generalize str (text (.say a v z o)) = s at *
    generalize str (text z) = sz at *
    generalize str (text o) = so at *
    have HZ := Lib.hid hZ
    have HO := Lib.hid hO
    have hki : (0 : Int) < (s.size : Int) := by omega
    have L1 : m ≤ 2000 := by omega
    have L2 : n ≤ 2000 := by omega
    obtain ⟨rr, hrr⟩ : ∃ rr : Nat, max m n + (if q = p then 0 else 1) = rr := ⟨_, rfl⟩
    have HR : Hid ((q = p → (rr : Int) = max (m : Int) (n : Int)) ∧ (q ≠ p → (rr : Int) = max (m : Int) (n : Int) + 1)) := by
      rw [← hrr]
      refine ⟨fun h => ?_, fun h => ?_⟩
      · rw [if_pos h]; omega
      · rw [if_neg h]; omega
    rw [hrr]
    clear hrr
    have hwr : IntKind.i64.wrap (max (m : Int) (n : Int) + 1) = max (m : Int) (n : Int) + 1 := IntWalk.i64_in _ ⟨by omega, by omega⟩
    have HWR := Lib.hid hwr
    clear hZ hO hl hlz bz bo hw hwr ihz iho
    go_enter Try.func7, Try.ntmps7
    go_wp2_with fail
    refine (HL.out _).mono ?_
    rintro e w' ⟨rfl, rfl⟩
    go_wp2_with fail
    refine (HP.out _).mono ?_
    rintro e w1 ⟨rfl, hb1⟩
    have HB1 := Lib.hid hb1
    clear hb1 HL HP
    go_wp2_with fail
    refine wp_region_below (fun | 0 => .string sz | 1 => .string s | 2 => .int .u8 (q : Int) | 3 => .int .i64 (m : Int) | 4 => .string so | 5 => .string s | 6 => .int .u8 (q : Int) | 7 => .int .i64 (n : Int) | 8 => .int .i64 (max (m : Int) (n : Int)) | 9 => .int .i64 (max (m : Int) (n : Int)) | _ => undef) (by kernel_rfl) (by kernel_rfl) rfl ?conA ?enA
    case conA =>
      intro i o ho a wx hb hf
      match i, ho with
      | 0, ho =>
        obtain rfl := Option.some.inj ho
        have b5 : a.tmps[5]?.getD undef = .string sz := hf.2 5 (by kernel_rfl)
        exact wp_value (.string sz) (by unfold execOp; go_simp) ⟨rfl, Below.refl _ _⟩
      | 1, ho =>
        obtain rfl := Option.some.inj ho
        have b0 : a.tmps[0]?.getD undef = .string s := hf.2 0 (by kernel_rfl)
        exact wp_value (.string s) (by unfold execOp; go_simp) ⟨rfl, Below.refl _ _⟩
      | 2, ho =>
        obtain rfl := Option.some.inj ho
        have e16 : a.tmps[16]?.getD undef = .string s := hf.1 ⟨1, .data⟩ (by simp) rfl _ 16 rfl rfl
        exact wp_value (.int .u8 (q : Int)) (by unfold execOp; go_simp; first | done | (rw [if_pos hki]; rfl) | simp [hk, hx]) ⟨rfl, Below.refl _ _⟩
      | 3, ho =>
        obtain rfl := Option.some.inj ho
        have e15 : a.tmps[15]?.getD undef = .string sz := hf.1 ⟨0, .data⟩ (by simp) rfl _ 15 rfl rfl
        have e17 : a.tmps[17]?.getD undef = .int .u8 (q : Int) := hf.1 ⟨2, .data⟩ (by simp) rfl _ 17 rfl rfl
        exact wp_enter 7 #[.string sz, .int .u8 (q : Int)] (.int .i64 (m : Int)) _ (by unfold execOp; go_simp) (HZ.out wx) (fun w' h => ⟨rfl, h⟩)
      | 4, ho =>
        obtain rfl := Option.some.inj ho
        have b6 : a.tmps[6]?.getD undef = .string so := hf.2 6 (by kernel_rfl)
        exact wp_value (.string so) (by unfold execOp; go_simp) ⟨rfl, Below.refl _ _⟩
      | 5, ho =>
        obtain rfl := Option.some.inj ho
        have b0 : a.tmps[0]?.getD undef = .string s := hf.2 0 (by kernel_rfl)
        exact wp_value (.string s) (by unfold execOp; go_simp) ⟨rfl, Below.refl _ _⟩
      | 6, ho =>
        obtain rfl := Option.some.inj ho
        have e20 : a.tmps[20]?.getD undef = .string s := hf.1 ⟨5, .data⟩ (by simp) rfl _ 20 rfl rfl
        exact wp_value (.int .u8 (q : Int)) (by unfold execOp; go_simp; first | done | (rw [if_pos hki]; rfl) | simp [hk, hx]) ⟨rfl, Below.refl _ _⟩
      | 7, ho =>
        obtain rfl := Option.some.inj ho
        have e19 : a.tmps[19]?.getD undef = .string so := hf.1 ⟨4, .data⟩ (by simp) rfl _ 19 rfl rfl
        have e21 : a.tmps[21]?.getD undef = .int .u8 (q : Int) := hf.1 ⟨6, .data⟩ (by simp) rfl _ 21 rfl rfl
        exact wp_enter 7 #[.string so, .int .u8 (q : Int)] (.int .i64 (n : Int)) _ (by unfold execOp; go_simp) (HO.out wx) (fun w' h => ⟨rfl, h⟩)
      | 8, ho =>
        obtain rfl := Option.some.inj ho
        have e18 : a.tmps[18]?.getD undef = .int .i64 (m : Int) := hf.1 ⟨3, .data⟩ (by simp) rfl _ 18 rfl rfl
        have e22 : a.tmps[22]?.getD undef = .int .i64 (n : Int) := hf.1 ⟨7, .data⟩ (by simp) rfl _ 22 rfl rfl
        exact wp_value (.int .i64 (max (m : Int) (n : Int))) (by unfold execOp; go_simp) ⟨rfl, Below.refl _ _⟩
      | 9, ho =>
        obtain rfl := Option.some.inj ho
        have e23 : a.tmps[23]?.getD undef = .int .i64 (max (m : Int) (n : Int)) := hf.1 ⟨8, .data⟩ (by simp) rfl _ 23 rfl rfl
        exact wp_value (.int .i64 (max (m : Int) (n : Int))) (by unfold execOp; go_simp) ⟨rfl, Below.refl _ _⟩
      | q + 10, ho => simp at ho
    case enA =>
    intro wx hb
    have HW := Lib.hid (HB1.out.trans (hb.mono HB1.out.size))
    clear hb HB1 HZ HO
    simp only [fill, Act.put]
    go_simp
    by_cases h : q = p
    · have hq : ((q : Int) == (p : Int)) = true := by subst h; exact beq_self_eq_true _
      have HR1 := Lib.hid (HR.out.1 h)
      clear HR h
      go_wp2_with fail
      go_ret
      exact ⟨by rw [HR1.out]; rfl, HW.out⟩
    · have hq : ((q : Int) == (p : Int)) = false := beq_false_of_ne (by omega)
      have HR1 := Lib.hid (HR.out.2 h)
      clear HR h
      go_wp2_with fail
      go_ret
      exact ⟨by rw [HR1.out]; first | rfl | (rw [HWR.out]; rfl), HW.out⟩

set_option maxHeartbeats 1000000 in
theorem spec_yes (s : ByteArray) (t : T) (hw : wf t) (h : s.data.toList = text t) (hs : s.size ≤ 2000) (w : World) :
    Calls Try.prog 4 #[.string s] w fun e w' => e = .returned (.int .i64 (roundT 0 t : Int)) ∧ Below w.heap.size w w' := by
  have HV := Lib.hid (valid_said s t hw h hs)
  have hl : (text t).length = s.size := by rw [← h]; simp
  have HL : Hid (∀ W, Calls Try.prog 7 #[.string (str (text t)), .int .u8 0] W fun e w' => e = .returned (.int .i64 (roundT 0 t : Int)) ∧ Below W.heap.size W w') := fun W => said_rounds t hw (by omega) 0 W
  have e : s = str (text t) := eq_str h
  rw [← e] at HL
  generalize roundT 0 t = n at *
  clear h e hl hw
  go_enter Try.func4, Try.ntmps4
  go_wp2_with fail
  refine (HV.out _).mono ?_
  rintro e w1 ⟨rfl, rfl⟩
  go_wp2_with fail
  refine (HL.out _).mono ?_
  rintro e w2 ⟨rfl, hb⟩
  have HB := Lib.hid hb
  clear hb
  go_wp2_with fail
  go_ret
  exact ⟨rfl, HB.out⟩
set_option maxHeartbeats 1000000 in
theorem impl_yes (s : ByteArray) (t : T) (hw : wf t) (h : s.data.toList = text t) (hs : s.size ≤ 2000) (w : World) :
    Calls Try.prog 5 #[.string s] w fun e w' => e = .returned (.int .i64 (roundT 0 t : Int)) ∧ Below w.heap.size w w' := by
  have HT := Lib.hid (tree_yes s t hw h hs)
  have hl : (text t).length = s.size := by rw [← h]; simp
  have HC : Hid (∀ W, Calls Try.prog 9 #[tree t, .int .u8 0] W fun e w' => e = .returned (.int .i64 (roundT 0 t : Int)) ∧ Below W.heap.size W w') := fun W => behind t (by omega) 0 W
  obtain ⟨t1, v1, e1⟩ := tree_iface t
  rw [e1] at HT HC
  generalize roundT 0 t = n at *
  clear h hl hw e1
  go_enter Try.func5, Try.ntmps5
  go_wp2_with fail
  refine (HT.out _).mono ?_
  rintro e w1 ⟨rfl, hb1⟩
  go_wp2_with fail
  refine (HC.out _).mono ?_
  rintro e w2 ⟨rfl, hb2⟩
  have HB := Lib.hid (hb1.trans (hb2.mono hb1.size))
  clear hb1 hb2
  go_wp2_with fail
  go_ret
  exact ⟨rfl, HB.out⟩
set_option maxHeartbeats 1000000 in
theorem spec_no (s : ByteArray) (h : ¬ Ok s) (hs : s.size ≤ 1048576) (w : World) :
    Calls Try.prog 4 #[.string s] w fun e w' => e = .returned (.int .i64 (-1)) ∧ Below w.heap.size w w' := by
  have HV := Lib.hid (valid_no s h hs)
  clear h
  go_enter Try.func4, Try.ntmps4
  go_wp2_with fail
  refine (HV.out _).mono ?_
  rintro e w1 ⟨rfl, rfl⟩
  go_wp2_with fail
  go_ret
  exact ⟨rfl, Below.refl _ _⟩
set_option maxHeartbeats 1000000 in
theorem impl_no (s : ByteArray) (h : ¬ Ok s) (hs : s.size ≤ 1048576) (w : World) :
    Calls Try.prog 5 #[.string s] w fun e w' => e = .returned (.int .i64 (-1)) ∧ Below w.heap.size w w' := by
  have HT := Lib.hid (tree_no s h hs)
  clear h
  go_enter Try.func5, Try.ntmps5
  go_wp2_with fail
  refine (HT.out _).mono ?_
  rintro e w1 ⟨rfl, hb1⟩
  have HB := Lib.hid hb1
  clear hb1
  go_wp2_with fail
  go_ret
  exact ⟨rfl, HB.out⟩
theorem both (s : ByteArray) (hs : s.size ≤ 1048576) : ∃ b : Int, (∀ w, Calls Try.prog 4 #[.string s] w fun e w' => e = .returned (.int .i64 b) ∧ Below w.heap.size w w') ∧
    (∀ w, Calls Try.prog 5 #[.string s] w fun e w' => e = .returned (.int .i64 b) ∧ Below w.heap.size w w') := by
  rcases ok_or s with ⟨t, h1, h2, h3⟩ | h
  · exact ⟨_, spec_yes s t h1 h2 h3, impl_yes s t h1 h2 h3⟩
  · exact ⟨-1, spec_no s h hs, impl_no s h hs⟩

set_option maxHeartbeats 400000 in
theorem walk (s : ByteArray) (hs : s.size ≤ maxLen) (w : World) :
    Calls Try.prog 3 #[.string s] w fun e w' => e = .returned (.bool true) ∧ Below w.heap.size w w' := by
  unfold maxLen at hs
  by_cases hbig : 1048576 < s.size
  · go_enter Try.func3, Try.ntmps3
    go_wp2_with fail
    go_ret
    exact ⟨rfl, Below.refl _ _⟩
  obtain ⟨b, hS, hI⟩ := both s (by omega)
  have HS := Lib.hid hS
  have HI := Lib.hid hI
  replace hbig : s.size ≤ 1048576 := by omega
  clear hS hI
  go_enter Try.func3, Try.ntmps3
  go_wp2_with fail
  refine (HS.out _).mono ?_
  rintro e w1 ⟨rfl, hb1⟩
  go_wp2_with fail
  refine (HI.out _).mono ?_
  rintro e w2 ⟨rfl, hb2⟩
  have HB := Lib.hid (hb1.trans (hb2.mono hb1.size))
  clear hb1 hb2
  go_wp2_with fail
  go_ret
  exact ⟨rfl, HB.out⟩
end Go.Proofs.Ytffilggpimdikaa.fnExactRoundsOf
