/-
  The ends that the inputs of a rectangle reach, of the program's trees.
-/
import Derived.Test.YtbccachkkflceaaDoorGLeaf
import Derived.Test.YtbccachkkflceaaDoorGTrimI
import Derived.Test.YtbccachkkflceaaDoorFreeC4
namespace Go.Proofs.YtbccachkkflceaaDoor.LeavesI
open Go.RowKit Go.Shelf Go.Proofs.YtbccachkkflceaaDoor.Plain Go.Proofs.YtbccachkkflceaaDoor.Tree Go.Proofs.YtbccachkkflceaaDoor.Read Go.Proofs.YtbccachkkflceaaDoor.Rect Go.Proofs.YtbccachkkflceaaDoor.TurnC Go.Proofs.YtbccachkkflceaaDoor.TrimT Go.Proofs.YtbccachkkflceaaDoor.PartC Go.Proofs.YtbccachkkflceaaDoor.App Go.Proofs.YtbccachkkflceaaDoor.Leaf
open Go.Proofs.YtbccachkkflceaaDoor.NodeH (eval_get)
open Go.Proofs.YtbccachkkflceaaDoor.TrimI (cells2 info_rect some_no some_yes)
open Go.Proofs.YtbccachkkflceaaDoor.Count (cells4)
open Go.Proofs.YtbccachkkflceaaDoor.Wq (drew_at)
open Go.Proofs.YtbccachkkflceaaDoor.Free (fill wp_value wp_enter wp_load_row freeB)
open Go.Proofs.YtbccachkkflceaaDoor.FreeC4 Go.Proofs.YtbccachkkflceaaDoor.FreeW
set_option linter.unusedVariables false
set_option maxRecDepth 100000
set_option linter.unusedSimpArgs false

theorem info_l : ∃ i, Tryd.prog.info? 63 = some i ∧ i.zero = some (.agg #[.int .i64 0, .int .i64 0, .int .i64 0]) ∧ i.size = 3 ∧ i.bytes = 24 := ⟨_, rfl, rfl, rfl, rfl⟩
theorem get_some {a : Act} {d : Tmp} {v : Value} (h : a.tmps[d]? = some v) : a.tmps[d]?.getD undef = v := by rw [h]; rfl
theorem wp_enterR {o : Oper} {a : Act} {w : World} {K : Act → World → Prop} {Q : Exit → Act → World → Prop} {R : Value → World → Prop} (f : FuncId) (args : Array Value) (h : (execOp a.eval o).run Tryd.prog w = .ok (.enter f args) w)
    (hc : Calls Tryd.prog f args w fun e w' => ∃ v, e = .returned v ∧ R v w') (hK : ∀ v w', R v w' → K (a.put o.dst v) w') : o.wp Tryd.prog a w K Q := by
  unfold Oper.wp
  rw [h]
  refine Calls.mono hc ?_
  rintro e w' ⟨v, rfl, hR⟩
  exact hK v w' hR
def LeavesC (t : T) (f : FuncId) (V : Value) : Prop := ∀ (R C : Nat) (W : World), R < 256 → C < 256 → Calls Tryd.prog f #[V, rect R C] W fun e w' => ∃ v, e = .returned v ∧ Own W w' 63 3 v (leavesT t R C).length (cellsL (leavesT t R C))

set_option maxHeartbeats 2000000 in
set_option maxRecDepth 100000 in
theorem end_leaves (b : V3) : LeavesC (.leaf b) 119 (.int .i64 (gI b)) := by
  intro R C w hR hC
  have hb0 := (Below.refl w.heap.size w).alloc (Nat.le_refl _) (.cells #[.int .i64 (R : Int), .int .i64 (C : Int)] 33)
  have HB0 := Lib.hid hb0
  clear hb0
  by_cases h0 : R = 0 ∨ C = 0
  · rw [leaves_none _ R C h0]
    go_enter Tryd.func119, Tryd.ntmps119
    go_wp2_with fail
    refine (rect_any _ _ _).mono ?_
    rintro e w1 ⟨rfl, hb1⟩
    rw [some_no h0]
    have HB1 := Lib.hid (HB0.out.trans (hb1.mono HB0.out.size))
    clear hb1 HB0
    go_wp2_with fail
    go_ret
    exact ⟨.slice none 0 0, rfl, ⟨⟨by simp [cellsL], .inl ⟨rfl, rfl⟩⟩, HB1.out⟩⟩
  · have hl : leavesT (.leaf b) R C = [(R, C, b)] := by simp only [leavesT]; rw [if_neg h0]
    rw [hl]
    go_enter Tryd.func119, Tryd.ntmps119
    go_wp2_with fail
    refine (rect_any _ _ _).mono ?_
    rintro e w1 ⟨rfl, hb1⟩
    rw [some_yes (by omega) hR (by omega) hC]
    have g0 := heap_alloc_new w (.cells #[.int .i64 (R : Int), .int .i64 (C : Int)] 33)
    have g1 : w1.heap[w.heap.size]? = some (.cells #[.int .i64 (R : Int), .int .i64 (C : Int)] 33 (0, 0)) := (hb1.block _ (Array.getElem?_eq_some_iff.1 g0).1).trans g0
    obtain ⟨c0, c1⟩ := cells2 g1
    have HB1 := Lib.hid (HB0.out.trans (hb1.mono HB0.out.size))
    have HOn : Hid (Own w (w1.alloc (.cells #[.int .i64 (R : Int), .int .i64 (C : Int), .int .i64 (gI b)] 63)) 63 3 (.slice (some ⟨w1.heap.size, 0, none⟩) 1 1) 1 [.int .i64 (R : Int), .int .i64 (C : Int), .int .i64 (gI b)]) := by
      have h1 := World.ownsRow_lit (base := w.heap.size) (e := 63) (size := 3) w1 #[.int .i64 (R : Int), .int .i64 (C : Int), .int .i64 (gI b)] 1 HB1.out.size (by unfold maxLen; omega) rfl
      exact ⟨h1, HB1.out.alloc HB1.out.size _⟩
    clear hb1 HB0 g0 g1 HB1 hl h0
    go_wp2_with fail
    go_ret
    exact ⟨_, rfl, HOn.out⟩

set_option maxHeartbeats 8000000 in
set_option maxRecDepth 100000 in
theorem say_leaves (a : Bool) (s : Nat) (z o : T) (hl : (text (.say a s z o)).length ≤ 2000) (hZ : Go.Proofs.YtbccachkkflceaaDoor.Count.Node 119 129 z (LeavesC z)) (hO : Go.Proofs.YtbccachkkflceaaDoor.Count.Node 119 129 o (LeavesC o)) :
    LeavesC (.say a s z o) 129 (.agg #[.int .u8 ((whoB a).toNat : Int), .int .i64 (s : Int), tree z, tree o]) := by
  intro R C w hR hC
  obtain ⟨h1, h2, h3, h4⟩ := parts_lt a s hR hC
  have hlz : (text (.say a s z o)).length = (text z).length + (text o).length + 3 := by simp [text]
  unfold LeavesC Go.Proofs.YtbccachkkflceaaDoor.Count.Node at hZ hO
  have HPo := Lib.hid fun (t1 t2 : TypeId) (v1 v2 : Value) (W : World) => part_out a s R C hR hC t1 t2 v1 v2 W
  have HPi := Lib.hid fun (t1 t2 : TypeId) (v1 v2 : Value) (W : World) => part_in a s R C hR hC t1 t2 v1 v2 W
  have lz := Nat.le_trans (leaves_length z (outR a s R) (outC a s C)) (show _ ≤ 2000 by omega)
  have lo := Nat.le_trans (leaves_length o (inR a s R) (inC a s C)) (show _ ≤ 2000 by omega)
  have HRes : Hid (leavesT (.say a s z o) R C = leavesT z (outR a s R) (outC a s C) ++ leavesT o (inR a s R) (inC a s C)) := rfl
  have lm := cellsL_length (leavesT o (inR a s R) (inC a s C))
  have o1 := cellsL_one (leavesT o (inR a s R) (inC a s C))
  have hZ2 : (∃ V, tree z = .iface 61 V ∧ ∀ W : World, Calls Tryd.prog 119 #[V, rect (outR a s R) (outC a s C)] W fun e w' => ∃ v, e = .returned v ∧ Own W w' 63 3 v (leavesT z (outR a s R) (outC a s C)).length (cellsL (leavesT z (outR a s R) (outC a s C)))) ∨
      (∃ V, tree z = .iface 77 V ∧ ∀ W : World, Calls Tryd.prog 129 #[V, rect (outR a s R) (outC a s C)] W fun e w' => ∃ v, e = .returned v ∧ Own W w' 63 3 v (leavesT z (outR a s R) (outC a s C)).length (cellsL (leavesT z (outR a s R) (outC a s C)))) := by
    rcases hZ with ⟨V, e, h⟩ | ⟨V, e, h⟩
    · exact .inl ⟨V, e, fun W => h _ _ W h1 h2⟩
    · exact .inr ⟨V, e, fun W => h _ _ W h1 h2⟩
  have hO2 : (∃ V, tree o = .iface 61 V ∧ ∀ W : World, Calls Tryd.prog 119 #[V, rect (inR a s R) (inC a s C)] W fun e w' => ∃ v, e = .returned v ∧ Own W w' 63 3 v (leavesT o (inR a s R) (inC a s C)).length (cellsL (leavesT o (inR a s R) (inC a s C)))) ∨
      (∃ V, tree o = .iface 77 V ∧ ∀ W : World, Calls Tryd.prog 129 #[V, rect (inR a s R) (inC a s C)] W fun e w' => ∃ v, e = .returned v ∧ Own W w' 63 3 v (leavesT o (inR a s R) (inC a s C)).length (cellsL (leavesT o (inR a s R) (inC a s C)))) := by
    rcases hO with ⟨V, e, h⟩ | ⟨V, e, h⟩
    · exact .inl ⟨V, e, fun W => h _ _ W h3 h4⟩
    · exact .inr ⟨V, e, fun W => h _ _ W h3 h4⟩
  generalize leavesT (.say a s z o) R C = LA at *
  generalize leavesT z (outR a s R) (outC a s C) = LZ at *
  generalize leavesT o (inR a s R) (inC a s C) = LO at *
  generalize outR a s R = oR at *
  generalize outC a s C = oC at *
  generalize inR a s R = iR at *
  generalize inC a s C = iC at *
  generalize ((whoB a).toNat : Int) = wh at *
  obtain ⟨i0, hi, hz0, hz1, hz2⟩ := info_l
  have LM := Lib.hid lm
  have O1 := Lib.hid o1
  clear hl hlz hR hC hZ hO h1 h2 h3 h4 lm o1
  obtain ⟨B, hB⟩ : ∃ B, w.heap.size = B := ⟨_, rfl⟩
  have HBB := Lib.hid hB
  rcases hZ2 with ⟨V, ez, hz⟩ | ⟨V, ez, hz⟩ <;> rcases hO2 with ⟨U, eo, ho⟩ | ⟨U, eo, ho⟩
  · have HZ := Lib.hid hz
    have HO := Lib.hid ho
    rw [ez, eo]
    clear ez eo hz ho
    go_enter Tryd.func129, Tryd.ntmps129
    go_wp2_with fail
    obtain ⟨W1, hW1⟩ : ∃ W1, (w.alloc (.cells #[.int .u8 wh, .int .i64 (s : Int), .iface 61 V, .iface 61 U] 77)).alloc (.cells #[.int .i64 (R : Int), .int .i64 (C : Int)] 33) = W1 := ⟨_, rfl⟩
    rw [hW1]
    have HWW : Hid (Below w.heap.size w W1) := by
      have h0 : Below w.heap.size w (w.alloc (.cells #[.int .u8 wh, .int .i64 (s : Int), .iface 61 V, .iface 61 U] 77)) := (Below.refl _ _).alloc (Nat.le_refl _) _
      show Below _ _ _; rw [← hW1]; exact h0.alloc h0.size _
    have HM0 : Hid (∀ wx : World, Below W1.heap.size W1 wx → wx.heap[B]? = some (.cells #[.int .u8 wh, .int .i64 (s : Int), .iface 61 V, .iface 61 U] 77 (0, 0))) := fun wx h => by
      have h1 : (w.alloc (.cells #[.int .u8 wh, .int .i64 (s : Int), .iface 61 V, .iface 61 U] 77)).heap[w.heap.size]? = some (.cells #[.int .u8 wh, .int .i64 (s : Int), .iface 61 V, .iface 61 U] 77 (0, 0)) := heap_alloc_new w _
      have h0 : W1.heap[B]? = some (.cells #[.int .u8 wh, .int .i64 (s : Int), .iface 61 V, .iface 61 U] 77 (0, 0)) := by rw [← hW1, ← HBB.out]; rw [heap_alloc_old _ _ (Array.getElem?_eq_some_iff.1 h1).1]; exact h1
      exact (h.block _ (Array.getElem?_eq_some_iff.1 h0).1).trans h0
    have HN0 : Hid (∀ wx : World, Below W1.heap.size W1 wx → wx.heap[B + 1]? = some (.cells #[.int .i64 (R : Int), .int .i64 (C : Int)] 33 (0, 0))) := fun wx h => by
      have h0 : W1.heap[B + 1]? = some (.cells #[.int .i64 (R : Int), .int .i64 (C : Int)] 33 (0, 0)) := by
        rw [← hW1, ← HBB.out]
        have h2 := heap_alloc_new (w.alloc (.cells #[.int .u8 wh, .int .i64 (s : Int), .iface 61 V, .iface 61 U] 77)) (.cells #[.int .i64 (R : Int), .int .i64 (C : Int)] 33)
        rw [show (w.alloc (.cells #[.int .u8 wh, .int .i64 (s : Int), .iface 61 V, .iface 61 U] 77)).heap.size = w.heap.size + 1 by simp] at h2
        exact h2
      exact (h.block _ (Array.getElem?_eq_some_iff.1 h0).1).trans h0
    clear hW1 hB
    refine wp_region_chain4 (fun | 0 => .pointer (some ⟨B, 2, none⟩) | 1 => .pointer (some ⟨B, 2, none⟩) | 2 => .iface 61 V | 3 => .agg #[.int .u8 wh, .int .i64 (s : Int), .iface 61 V, .iface 61 U] | 4 => rect R C | 5 => rect oR oC | 6 => .iface 61 V | 7 => .iface 61 V | 9 => .pointer (some ⟨B, 2, none⟩) | 10 => .pointer (some ⟨B, 3, none⟩) | 11 => .iface 61 U | 12 => .agg #[.int .u8 wh, .int .i64 (s : Int), .iface 61 V, .iface 61 U] | 13 => rect R C | 14 => rect iR iC | 15 => .iface 61 U | 16 => .iface 61 U | _ => undef) (fun i => !(i == 8) && !(i == 17) && !(i == 18) && !(i == 19)) 8 17 18 19 13 22 23 4 _ _ _ _
      (fun w => Below W1.heap.size W1 w) (fun x w => Own W1 w 63 3 x LZ.length (cellsL LZ)) (fun x y w => Own W1 w 63 3 x LZ.length (cellsL LZ) ∧ Own W1 w 63 3 y LO.length (cellsL LO)) (fun y w => Own W1 w 63 3 y (LZ.length + LO.length) (cellsL LZ ++ cellsL LO)) (fun y w => Own W1 w 63 3 y (LZ.length + LO.length) (cellsL LZ ++ cellsL LO)) (fun w => Below W1.heap.size W1 w)
      (by kernel_rfl) (by kernel_rfl) rfl rfl rfl rfl rfl rfl rfl rfl rfl rfl (by decide) (by decide) (.inr ⟨14, _, rfl, ⟨⟨14, .chain⟩, (by simp), rfl, rfl⟩, ⟨8, .chain⟩, (by simp), rfl, rfl⟩) ⟨⟨17, .data⟩, (by simp), rfl, rfl⟩ ⟨⟨18, .data⟩, (by simp), rfl, rfl⟩ ?otLee ?h0Lee (fun w h => h) (fun v w h => h.below) (fun v u w h => h.1.below) (fun t w h => h.below) (fun t w h => h.below) (fun w w1 hb h => h.trans (hb.mono h.size)) (fun v w w1 hb h => h.later hb) (fun v u w w1 hb h => ⟨h.1.later hb, h.2.later hb⟩) (fun t w w1 hb h => h.later hb) (fun t w w1 hb h => h.later hb) ?conLee ?saLee ?sbLee ?scLee ?sdLee ?enLee
    case otLee =>
      intro i o ho hki
      match i, ho with
      | 0, ho =>
        obtain rfl := Option.some.inj ho
        exact ⟨by decide, by decide, by decide, by decide⟩
      | 1, ho =>
        obtain rfl := Option.some.inj ho
        exact ⟨by decide, by decide, by decide, by decide⟩
      | 2, ho =>
        obtain rfl := Option.some.inj ho
        exact ⟨by decide, by decide, by decide, by decide⟩
      | 3, ho =>
        obtain rfl := Option.some.inj ho
        exact ⟨by decide, by decide, by decide, by decide⟩
      | 4, ho =>
        obtain rfl := Option.some.inj ho
        exact ⟨by decide, by decide, by decide, by decide⟩
      | 5, ho =>
        obtain rfl := Option.some.inj ho
        exact ⟨by decide, by decide, by decide, by decide⟩
      | 6, ho =>
        obtain rfl := Option.some.inj ho
        exact ⟨by decide, by decide, by decide, by decide⟩
      | 7, ho =>
        obtain rfl := Option.some.inj ho
        exact ⟨by decide, by decide, by decide, by decide⟩
      | 8, ho => exact absurd hki (by decide)
      | 9, ho =>
        obtain rfl := Option.some.inj ho
        exact ⟨by decide, by decide, by decide, by decide⟩
      | 10, ho =>
        obtain rfl := Option.some.inj ho
        exact ⟨by decide, by decide, by decide, by decide⟩
      | 11, ho =>
        obtain rfl := Option.some.inj ho
        exact ⟨by decide, by decide, by decide, by decide⟩
      | 12, ho =>
        obtain rfl := Option.some.inj ho
        exact ⟨by decide, by decide, by decide, by decide⟩
      | 13, ho =>
        obtain rfl := Option.some.inj ho
        exact ⟨by decide, by decide, by decide, by decide⟩
      | 14, ho =>
        obtain rfl := Option.some.inj ho
        exact ⟨by decide, by decide, by decide, by decide⟩
      | 15, ho =>
        obtain rfl := Option.some.inj ho
        exact ⟨by decide, by decide, by decide, by decide⟩
      | 16, ho =>
        obtain rfl := Option.some.inj ho
        exact ⟨by decide, by decide, by decide, by decide⟩
      | 17, ho => exact absurd hki (by decide)
      | 18, ho => exact absurd hki (by decide)
      | 19, ho => exact absurd hki (by decide)
      | q + 20, ho => simp at ho
    case h0Lee => exact drew_at W1
    case conLee =>
      intro i o ho hki a wx hJ hf
      match i, ho with
      | 0, ho =>
        obtain rfl := Option.some.inj ho
        have b2 : a.tmps[2]?.getD undef = .pointer (some ⟨B, 0, none⟩) := hf.2 2 (by kernel_rfl)
        exact wp_value (.pointer (some ⟨B, 2, none⟩)) (by unfold execOp; go_simp) ⟨rfl, Below.refl _ _⟩
      | 1, ho =>
        obtain rfl := Option.some.inj ho
        have e5 : a.tmps[5]?.getD undef = .pointer (some ⟨B, 2, none⟩) := hf.1 ⟨0, .data⟩ (by simp) rfl _ 5 rfl rfl (by decide)
        exact wp_value (.pointer (some ⟨B, 2, none⟩)) (by unfold execOp; go_simp) ⟨rfl, Below.refl _ _⟩
      | 2, ho =>
        obtain rfl := Option.some.inj ho
        have e6 : a.tmps[6]?.getD undef = .pointer (some ⟨B, 2, none⟩) := hf.1 ⟨1, .data⟩ (by simp) rfl _ 6 rfl rfl (by decide)
        obtain ⟨c0, c1, c2, c3⟩ := cells4 (HM0.out wx hJ)
        exact wp_value (.iface 61 V) (by unfold execOp; go_simp) ⟨rfl, Below.refl _ _⟩
      | 3, ho =>
        obtain rfl := Option.some.inj ho
        have b2 : a.tmps[2]?.getD undef = .pointer (some ⟨B, 0, none⟩) := hf.2 2 (by kernel_rfl)
        exact wp_load_row 77 (.tmp 2) rfl (B) (eval_get b2) 77 _ (0, 0) _ (HM0.out wx hJ) Tryd.underlying77 rfl (info_say _ _ _ _) ⟨rfl, Below.refl _ _⟩
      | 4, ho =>
        obtain rfl := Option.some.inj ho
        have b3 : a.tmps[3]?.getD undef = .pointer (some ⟨B + 1, 0, none⟩) := hf.2 3 (by kernel_rfl)
        exact wp_load_row 33 (.tmp 3) rfl (B + 1) (eval_get b3) 33 _ (0, 0) _ (HN0.out wx hJ) Tryd.underlying33 rfl (info_rect _ _) ⟨rfl, Below.refl _ _⟩
      | 5, ho =>
        obtain rfl := Option.some.inj ho
        have e8 : a.tmps[8]?.getD undef = .agg #[.int .u8 wh, .int .i64 (s : Int), .iface 61 V, .iface 61 U] := hf.1 ⟨3, .data⟩ (by simp) rfl _ 8 rfl rfl (by decide)
        have e9 : a.tmps[9]?.getD undef = rect R C := hf.1 ⟨4, .data⟩ (by simp) rfl _ 9 rfl rfl (by decide)
        exact wp_enter 50 #[.agg #[.int .u8 wh, .int .i64 (s : Int), .iface 61 V, .iface 61 U], rect R C, .int .i64 0] (rect oR oC) _ (by unfold execOp; go_simp) (HPo.out _ _ _ _ wx) (fun w' h => ⟨rfl, h⟩)
      | 6, ho =>
        obtain rfl := Option.some.inj ho
        have e7 : a.tmps[7]?.getD undef = .iface 61 V := hf.1 ⟨2, .data⟩ (by simp) rfl _ 7 rfl rfl (by decide)
        exact wp_value (.iface 61 V) (by unfold execOp; go_simp) ⟨rfl, Below.refl _ _⟩
      | 7, ho =>
        obtain rfl := Option.some.inj ho
        have e7 : a.tmps[7]?.getD undef = .iface 61 V := hf.1 ⟨2, .data⟩ (by simp) rfl _ 7 rfl rfl (by decide)
        exact wp_value (.iface 61 V) (by unfold execOp; go_simp) ⟨rfl, Below.refl _ _⟩
      | 8, ho => exact absurd hki (by decide)
      | 9, ho =>
        obtain rfl := Option.some.inj ho
        have b2 : a.tmps[2]?.getD undef = .pointer (some ⟨B, 0, none⟩) := hf.2 2 (by kernel_rfl)
        exact wp_value (.pointer (some ⟨B, 2, none⟩)) (by unfold execOp; go_simp) ⟨rfl, Below.refl _ _⟩
      | 10, ho =>
        obtain rfl := Option.some.inj ho
        have e14 : a.tmps[14]?.getD undef = .pointer (some ⟨B, 2, none⟩) := hf.1 ⟨9, .data⟩ (by simp) rfl _ 14 rfl rfl (by decide)
        exact wp_value (.pointer (some ⟨B, 3, none⟩)) (by unfold execOp; go_simp) ⟨rfl, Below.refl _ _⟩
      | 11, ho =>
        obtain rfl := Option.some.inj ho
        have e15 : a.tmps[15]?.getD undef = .pointer (some ⟨B, 3, none⟩) := hf.1 ⟨10, .data⟩ (by simp) rfl _ 15 rfl rfl (by decide)
        obtain ⟨c0, c1, c2, c3⟩ := cells4 (HM0.out wx hJ)
        exact wp_value (.iface 61 U) (by unfold execOp; go_simp) ⟨rfl, Below.refl _ _⟩
      | 12, ho =>
        obtain rfl := Option.some.inj ho
        have b2 : a.tmps[2]?.getD undef = .pointer (some ⟨B, 0, none⟩) := hf.2 2 (by kernel_rfl)
        exact wp_load_row 77 (.tmp 2) rfl (B) (eval_get b2) 77 _ (0, 0) _ (HM0.out wx hJ) Tryd.underlying77 rfl (info_say _ _ _ _) ⟨rfl, Below.refl _ _⟩
      | 13, ho =>
        obtain rfl := Option.some.inj ho
        have b3 : a.tmps[3]?.getD undef = .pointer (some ⟨B + 1, 0, none⟩) := hf.2 3 (by kernel_rfl)
        exact wp_load_row 33 (.tmp 3) rfl (B + 1) (eval_get b3) 33 _ (0, 0) _ (HN0.out wx hJ) Tryd.underlying33 rfl (info_rect _ _) ⟨rfl, Below.refl _ _⟩
      | 14, ho =>
        obtain rfl := Option.some.inj ho
        have e17 : a.tmps[17]?.getD undef = .agg #[.int .u8 wh, .int .i64 (s : Int), .iface 61 V, .iface 61 U] := hf.1 ⟨12, .data⟩ (by simp) rfl _ 17 rfl rfl (by decide)
        have e18 : a.tmps[18]?.getD undef = rect R C := hf.1 ⟨13, .data⟩ (by simp) rfl _ 18 rfl rfl (by decide)
        exact wp_enter 50 #[.agg #[.int .u8 wh, .int .i64 (s : Int), .iface 61 V, .iface 61 U], rect R C, .int .i64 1] (rect iR iC) _ (by unfold execOp; go_simp) (HPi.out _ _ _ _ wx) (fun w' h => ⟨rfl, h⟩)
      | 15, ho =>
        obtain rfl := Option.some.inj ho
        have e16 : a.tmps[16]?.getD undef = .iface 61 U := hf.1 ⟨11, .data⟩ (by simp) rfl _ 16 rfl rfl (by decide)
        exact wp_value (.iface 61 U) (by unfold execOp; go_simp) ⟨rfl, Below.refl _ _⟩
      | 16, ho =>
        obtain rfl := Option.some.inj ho
        have e16 : a.tmps[16]?.getD undef = .iface 61 U := hf.1 ⟨11, .data⟩ (by simp) rfl _ 16 rfl rfl (by decide)
        exact wp_value (.iface 61 U) (by unfold execOp; go_simp) ⟨rfl, Below.refl _ _⟩
      | 17, ho => exact absurd hki (by decide)
      | 18, ho => exact absurd hki (by decide)
      | 19, ho => exact absurd hki (by decide)
      | q + 20, ho => simp at ho
    case saLee =>
      intro a wx hI hf
      have e12 : a.tmps[12]?.getD undef = .iface 61 V := hf.1 ⟨7, .data⟩ (by simp) rfl _ 12 rfl rfl (by decide)
      have e10 : a.tmps[10]?.getD undef = rect oR oC := hf.1 ⟨5, .data⟩ (by simp) rfl _ 10 rfl rfl (by decide)
      refine wp_enterR 119 #[V, rect oR oC] (by unfold execOp; go_simp; go_invoke; rfl) (HZ.out wx) ?_
      intro v' w' h1
      exact ⟨v', rfl, Leaf.Own.lower h1 hI⟩
    case sbLee =>
      intro a wx x hI hv hf
      have e21 : a.tmps[21]?.getD undef = .iface 61 U := hf.1 ⟨16, .data⟩ (by simp) rfl _ 21 rfl rfl (by decide)
      have e19 : a.tmps[19]?.getD undef = rect iR iC := hf.1 ⟨14, .data⟩ (by simp) rfl _ 19 rfl rfl (by decide)
      refine wp_enterR 119 #[U, rect iR iC] (by unfold execOp; go_simp; go_invoke; rfl) (HO.out wx) ?_
      intro v' w' h1
      exact ⟨v', rfl, hI.later h1.below, Leaf.Own.lower h1 hI.below⟩
    case scLee =>
      intro a wx x y hI hv hu hf
      refine wp_append_two (w0 := W1) (.tmp 13) (.tmp 22) 59 rfl 63 i0 (.agg #[.int .i64 0, .int .i64 0, .int .i64 0]) 3 24 Tryd.underlying59 hi hz0 hz1 hz2 rfl (by decide) x y LZ.length LO.length (cellsL LZ) (cellsL LO) (eval_get (get_some hv)) hI.1 (eval_get (get_some hu)) hI.2 LM.out O1.out (by omega) (by decide) ?_
      intro v' w' h1
      exact ⟨v', rfl, h1⟩
    case sdLee =>
      intro a wx y hI hv hf
      have e23 := get_some hv
      exact wp_value y (by unfold execOp; go_simp) ⟨y, rfl, hI⟩
    intro k1 k2 k3 res w9 hI
    have HF : Hid (Own w w9 63 3 res (LZ.length + LO.length) (cellsL LZ ++ cellsL LO)) := Leaf.Own.lower hI HWW.out
    clear hI HM0 HN0 HWW
    simp only [fill, Act.put]
    go_simp
    go_wp2_with fail
    go_ret
    exact ⟨res, rfl, by rw [HRes.out, List.length_append, cellsL_append]; exact HF.out⟩
  · have HZ := Lib.hid hz
    have HO := Lib.hid ho
    rw [ez, eo]
    clear ez eo hz ho
    go_enter Tryd.func129, Tryd.ntmps129
    go_wp2_with fail
    obtain ⟨W1, hW1⟩ : ∃ W1, (w.alloc (.cells #[.int .u8 wh, .int .i64 (s : Int), .iface 61 V, .iface 77 U] 77)).alloc (.cells #[.int .i64 (R : Int), .int .i64 (C : Int)] 33) = W1 := ⟨_, rfl⟩
    rw [hW1]
    have HWW : Hid (Below w.heap.size w W1) := by
      have h0 : Below w.heap.size w (w.alloc (.cells #[.int .u8 wh, .int .i64 (s : Int), .iface 61 V, .iface 77 U] 77)) := (Below.refl _ _).alloc (Nat.le_refl _) _
      show Below _ _ _; rw [← hW1]; exact h0.alloc h0.size _
    have HM0 : Hid (∀ wx : World, Below W1.heap.size W1 wx → wx.heap[B]? = some (.cells #[.int .u8 wh, .int .i64 (s : Int), .iface 61 V, .iface 77 U] 77 (0, 0))) := fun wx h => by
      have h1 : (w.alloc (.cells #[.int .u8 wh, .int .i64 (s : Int), .iface 61 V, .iface 77 U] 77)).heap[w.heap.size]? = some (.cells #[.int .u8 wh, .int .i64 (s : Int), .iface 61 V, .iface 77 U] 77 (0, 0)) := heap_alloc_new w _
      have h0 : W1.heap[B]? = some (.cells #[.int .u8 wh, .int .i64 (s : Int), .iface 61 V, .iface 77 U] 77 (0, 0)) := by rw [← hW1, ← HBB.out]; rw [heap_alloc_old _ _ (Array.getElem?_eq_some_iff.1 h1).1]; exact h1
      exact (h.block _ (Array.getElem?_eq_some_iff.1 h0).1).trans h0
    have HN0 : Hid (∀ wx : World, Below W1.heap.size W1 wx → wx.heap[B + 1]? = some (.cells #[.int .i64 (R : Int), .int .i64 (C : Int)] 33 (0, 0))) := fun wx h => by
      have h0 : W1.heap[B + 1]? = some (.cells #[.int .i64 (R : Int), .int .i64 (C : Int)] 33 (0, 0)) := by
        rw [← hW1, ← HBB.out]
        have h2 := heap_alloc_new (w.alloc (.cells #[.int .u8 wh, .int .i64 (s : Int), .iface 61 V, .iface 77 U] 77)) (.cells #[.int .i64 (R : Int), .int .i64 (C : Int)] 33)
        rw [show (w.alloc (.cells #[.int .u8 wh, .int .i64 (s : Int), .iface 61 V, .iface 77 U] 77)).heap.size = w.heap.size + 1 by simp] at h2
        exact h2
      exact (h.block _ (Array.getElem?_eq_some_iff.1 h0).1).trans h0
    clear hW1 hB
    refine wp_region_chain4 (fun | 0 => .pointer (some ⟨B, 2, none⟩) | 1 => .pointer (some ⟨B, 2, none⟩) | 2 => .iface 61 V | 3 => .agg #[.int .u8 wh, .int .i64 (s : Int), .iface 61 V, .iface 77 U] | 4 => rect R C | 5 => rect oR oC | 6 => .iface 61 V | 7 => .iface 61 V | 9 => .pointer (some ⟨B, 2, none⟩) | 10 => .pointer (some ⟨B, 3, none⟩) | 11 => .iface 77 U | 12 => .agg #[.int .u8 wh, .int .i64 (s : Int), .iface 61 V, .iface 77 U] | 13 => rect R C | 14 => rect iR iC | 15 => .iface 77 U | 16 => .iface 77 U | _ => undef) (fun i => !(i == 8) && !(i == 17) && !(i == 18) && !(i == 19)) 8 17 18 19 13 22 23 4 _ _ _ _
      (fun w => Below W1.heap.size W1 w) (fun x w => Own W1 w 63 3 x LZ.length (cellsL LZ)) (fun x y w => Own W1 w 63 3 x LZ.length (cellsL LZ) ∧ Own W1 w 63 3 y LO.length (cellsL LO)) (fun y w => Own W1 w 63 3 y (LZ.length + LO.length) (cellsL LZ ++ cellsL LO)) (fun y w => Own W1 w 63 3 y (LZ.length + LO.length) (cellsL LZ ++ cellsL LO)) (fun w => Below W1.heap.size W1 w)
      (by kernel_rfl) (by kernel_rfl) rfl rfl rfl rfl rfl rfl rfl rfl rfl rfl (by decide) (by decide) (.inr ⟨14, _, rfl, ⟨⟨14, .chain⟩, (by simp), rfl, rfl⟩, ⟨8, .chain⟩, (by simp), rfl, rfl⟩) ⟨⟨17, .data⟩, (by simp), rfl, rfl⟩ ⟨⟨18, .data⟩, (by simp), rfl, rfl⟩ ?otLes ?h0Les (fun w h => h) (fun v w h => h.below) (fun v u w h => h.1.below) (fun t w h => h.below) (fun t w h => h.below) (fun w w1 hb h => h.trans (hb.mono h.size)) (fun v w w1 hb h => h.later hb) (fun v u w w1 hb h => ⟨h.1.later hb, h.2.later hb⟩) (fun t w w1 hb h => h.later hb) (fun t w w1 hb h => h.later hb) ?conLes ?saLes ?sbLes ?scLes ?sdLes ?enLes
    case otLes =>
      intro i o ho hki
      match i, ho with
      | 0, ho =>
        obtain rfl := Option.some.inj ho
        exact ⟨by decide, by decide, by decide, by decide⟩
      | 1, ho =>
        obtain rfl := Option.some.inj ho
        exact ⟨by decide, by decide, by decide, by decide⟩
      | 2, ho =>
        obtain rfl := Option.some.inj ho
        exact ⟨by decide, by decide, by decide, by decide⟩
      | 3, ho =>
        obtain rfl := Option.some.inj ho
        exact ⟨by decide, by decide, by decide, by decide⟩
      | 4, ho =>
        obtain rfl := Option.some.inj ho
        exact ⟨by decide, by decide, by decide, by decide⟩
      | 5, ho =>
        obtain rfl := Option.some.inj ho
        exact ⟨by decide, by decide, by decide, by decide⟩
      | 6, ho =>
        obtain rfl := Option.some.inj ho
        exact ⟨by decide, by decide, by decide, by decide⟩
      | 7, ho =>
        obtain rfl := Option.some.inj ho
        exact ⟨by decide, by decide, by decide, by decide⟩
      | 8, ho => exact absurd hki (by decide)
      | 9, ho =>
        obtain rfl := Option.some.inj ho
        exact ⟨by decide, by decide, by decide, by decide⟩
      | 10, ho =>
        obtain rfl := Option.some.inj ho
        exact ⟨by decide, by decide, by decide, by decide⟩
      | 11, ho =>
        obtain rfl := Option.some.inj ho
        exact ⟨by decide, by decide, by decide, by decide⟩
      | 12, ho =>
        obtain rfl := Option.some.inj ho
        exact ⟨by decide, by decide, by decide, by decide⟩
      | 13, ho =>
        obtain rfl := Option.some.inj ho
        exact ⟨by decide, by decide, by decide, by decide⟩
      | 14, ho =>
        obtain rfl := Option.some.inj ho
        exact ⟨by decide, by decide, by decide, by decide⟩
      | 15, ho =>
        obtain rfl := Option.some.inj ho
        exact ⟨by decide, by decide, by decide, by decide⟩
      | 16, ho =>
        obtain rfl := Option.some.inj ho
        exact ⟨by decide, by decide, by decide, by decide⟩
      | 17, ho => exact absurd hki (by decide)
      | 18, ho => exact absurd hki (by decide)
      | 19, ho => exact absurd hki (by decide)
      | q + 20, ho => simp at ho
    case h0Les => exact drew_at W1
    case conLes =>
      intro i o ho hki a wx hJ hf
      match i, ho with
      | 0, ho =>
        obtain rfl := Option.some.inj ho
        have b2 : a.tmps[2]?.getD undef = .pointer (some ⟨B, 0, none⟩) := hf.2 2 (by kernel_rfl)
        exact wp_value (.pointer (some ⟨B, 2, none⟩)) (by unfold execOp; go_simp) ⟨rfl, Below.refl _ _⟩
      | 1, ho =>
        obtain rfl := Option.some.inj ho
        have e5 : a.tmps[5]?.getD undef = .pointer (some ⟨B, 2, none⟩) := hf.1 ⟨0, .data⟩ (by simp) rfl _ 5 rfl rfl (by decide)
        exact wp_value (.pointer (some ⟨B, 2, none⟩)) (by unfold execOp; go_simp) ⟨rfl, Below.refl _ _⟩
      | 2, ho =>
        obtain rfl := Option.some.inj ho
        have e6 : a.tmps[6]?.getD undef = .pointer (some ⟨B, 2, none⟩) := hf.1 ⟨1, .data⟩ (by simp) rfl _ 6 rfl rfl (by decide)
        obtain ⟨c0, c1, c2, c3⟩ := cells4 (HM0.out wx hJ)
        exact wp_value (.iface 61 V) (by unfold execOp; go_simp) ⟨rfl, Below.refl _ _⟩
      | 3, ho =>
        obtain rfl := Option.some.inj ho
        have b2 : a.tmps[2]?.getD undef = .pointer (some ⟨B, 0, none⟩) := hf.2 2 (by kernel_rfl)
        exact wp_load_row 77 (.tmp 2) rfl (B) (eval_get b2) 77 _ (0, 0) _ (HM0.out wx hJ) Tryd.underlying77 rfl (info_say _ _ _ _) ⟨rfl, Below.refl _ _⟩
      | 4, ho =>
        obtain rfl := Option.some.inj ho
        have b3 : a.tmps[3]?.getD undef = .pointer (some ⟨B + 1, 0, none⟩) := hf.2 3 (by kernel_rfl)
        exact wp_load_row 33 (.tmp 3) rfl (B + 1) (eval_get b3) 33 _ (0, 0) _ (HN0.out wx hJ) Tryd.underlying33 rfl (info_rect _ _) ⟨rfl, Below.refl _ _⟩
      | 5, ho =>
        obtain rfl := Option.some.inj ho
        have e8 : a.tmps[8]?.getD undef = .agg #[.int .u8 wh, .int .i64 (s : Int), .iface 61 V, .iface 77 U] := hf.1 ⟨3, .data⟩ (by simp) rfl _ 8 rfl rfl (by decide)
        have e9 : a.tmps[9]?.getD undef = rect R C := hf.1 ⟨4, .data⟩ (by simp) rfl _ 9 rfl rfl (by decide)
        exact wp_enter 50 #[.agg #[.int .u8 wh, .int .i64 (s : Int), .iface 61 V, .iface 77 U], rect R C, .int .i64 0] (rect oR oC) _ (by unfold execOp; go_simp) (HPo.out _ _ _ _ wx) (fun w' h => ⟨rfl, h⟩)
      | 6, ho =>
        obtain rfl := Option.some.inj ho
        have e7 : a.tmps[7]?.getD undef = .iface 61 V := hf.1 ⟨2, .data⟩ (by simp) rfl _ 7 rfl rfl (by decide)
        exact wp_value (.iface 61 V) (by unfold execOp; go_simp) ⟨rfl, Below.refl _ _⟩
      | 7, ho =>
        obtain rfl := Option.some.inj ho
        have e7 : a.tmps[7]?.getD undef = .iface 61 V := hf.1 ⟨2, .data⟩ (by simp) rfl _ 7 rfl rfl (by decide)
        exact wp_value (.iface 61 V) (by unfold execOp; go_simp) ⟨rfl, Below.refl _ _⟩
      | 8, ho => exact absurd hki (by decide)
      | 9, ho =>
        obtain rfl := Option.some.inj ho
        have b2 : a.tmps[2]?.getD undef = .pointer (some ⟨B, 0, none⟩) := hf.2 2 (by kernel_rfl)
        exact wp_value (.pointer (some ⟨B, 2, none⟩)) (by unfold execOp; go_simp) ⟨rfl, Below.refl _ _⟩
      | 10, ho =>
        obtain rfl := Option.some.inj ho
        have e14 : a.tmps[14]?.getD undef = .pointer (some ⟨B, 2, none⟩) := hf.1 ⟨9, .data⟩ (by simp) rfl _ 14 rfl rfl (by decide)
        exact wp_value (.pointer (some ⟨B, 3, none⟩)) (by unfold execOp; go_simp) ⟨rfl, Below.refl _ _⟩
      | 11, ho =>
        obtain rfl := Option.some.inj ho
        have e15 : a.tmps[15]?.getD undef = .pointer (some ⟨B, 3, none⟩) := hf.1 ⟨10, .data⟩ (by simp) rfl _ 15 rfl rfl (by decide)
        obtain ⟨c0, c1, c2, c3⟩ := cells4 (HM0.out wx hJ)
        exact wp_value (.iface 77 U) (by unfold execOp; go_simp) ⟨rfl, Below.refl _ _⟩
      | 12, ho =>
        obtain rfl := Option.some.inj ho
        have b2 : a.tmps[2]?.getD undef = .pointer (some ⟨B, 0, none⟩) := hf.2 2 (by kernel_rfl)
        exact wp_load_row 77 (.tmp 2) rfl (B) (eval_get b2) 77 _ (0, 0) _ (HM0.out wx hJ) Tryd.underlying77 rfl (info_say _ _ _ _) ⟨rfl, Below.refl _ _⟩
      | 13, ho =>
        obtain rfl := Option.some.inj ho
        have b3 : a.tmps[3]?.getD undef = .pointer (some ⟨B + 1, 0, none⟩) := hf.2 3 (by kernel_rfl)
        exact wp_load_row 33 (.tmp 3) rfl (B + 1) (eval_get b3) 33 _ (0, 0) _ (HN0.out wx hJ) Tryd.underlying33 rfl (info_rect _ _) ⟨rfl, Below.refl _ _⟩
      | 14, ho =>
        obtain rfl := Option.some.inj ho
        have e17 : a.tmps[17]?.getD undef = .agg #[.int .u8 wh, .int .i64 (s : Int), .iface 61 V, .iface 77 U] := hf.1 ⟨12, .data⟩ (by simp) rfl _ 17 rfl rfl (by decide)
        have e18 : a.tmps[18]?.getD undef = rect R C := hf.1 ⟨13, .data⟩ (by simp) rfl _ 18 rfl rfl (by decide)
        exact wp_enter 50 #[.agg #[.int .u8 wh, .int .i64 (s : Int), .iface 61 V, .iface 77 U], rect R C, .int .i64 1] (rect iR iC) _ (by unfold execOp; go_simp) (HPi.out _ _ _ _ wx) (fun w' h => ⟨rfl, h⟩)
      | 15, ho =>
        obtain rfl := Option.some.inj ho
        have e16 : a.tmps[16]?.getD undef = .iface 77 U := hf.1 ⟨11, .data⟩ (by simp) rfl _ 16 rfl rfl (by decide)
        exact wp_value (.iface 77 U) (by unfold execOp; go_simp) ⟨rfl, Below.refl _ _⟩
      | 16, ho =>
        obtain rfl := Option.some.inj ho
        have e16 : a.tmps[16]?.getD undef = .iface 77 U := hf.1 ⟨11, .data⟩ (by simp) rfl _ 16 rfl rfl (by decide)
        exact wp_value (.iface 77 U) (by unfold execOp; go_simp) ⟨rfl, Below.refl _ _⟩
      | 17, ho => exact absurd hki (by decide)
      | 18, ho => exact absurd hki (by decide)
      | 19, ho => exact absurd hki (by decide)
      | q + 20, ho => simp at ho
    case saLes =>
      intro a wx hI hf
      have e12 : a.tmps[12]?.getD undef = .iface 61 V := hf.1 ⟨7, .data⟩ (by simp) rfl _ 12 rfl rfl (by decide)
      have e10 : a.tmps[10]?.getD undef = rect oR oC := hf.1 ⟨5, .data⟩ (by simp) rfl _ 10 rfl rfl (by decide)
      refine wp_enterR 119 #[V, rect oR oC] (by unfold execOp; go_simp; go_invoke; rfl) (HZ.out wx) ?_
      intro v' w' h1
      exact ⟨v', rfl, Leaf.Own.lower h1 hI⟩
    case sbLes =>
      intro a wx x hI hv hf
      have e21 : a.tmps[21]?.getD undef = .iface 77 U := hf.1 ⟨16, .data⟩ (by simp) rfl _ 21 rfl rfl (by decide)
      have e19 : a.tmps[19]?.getD undef = rect iR iC := hf.1 ⟨14, .data⟩ (by simp) rfl _ 19 rfl rfl (by decide)
      refine wp_enterR 129 #[U, rect iR iC] (by unfold execOp; go_simp; go_invoke; rfl) (HO.out wx) ?_
      intro v' w' h1
      exact ⟨v', rfl, hI.later h1.below, Leaf.Own.lower h1 hI.below⟩
    case scLes =>
      intro a wx x y hI hv hu hf
      refine wp_append_two (w0 := W1) (.tmp 13) (.tmp 22) 59 rfl 63 i0 (.agg #[.int .i64 0, .int .i64 0, .int .i64 0]) 3 24 Tryd.underlying59 hi hz0 hz1 hz2 rfl (by decide) x y LZ.length LO.length (cellsL LZ) (cellsL LO) (eval_get (get_some hv)) hI.1 (eval_get (get_some hu)) hI.2 LM.out O1.out (by omega) (by decide) ?_
      intro v' w' h1
      exact ⟨v', rfl, h1⟩
    case sdLes =>
      intro a wx y hI hv hf
      have e23 := get_some hv
      exact wp_value y (by unfold execOp; go_simp) ⟨y, rfl, hI⟩
    intro k1 k2 k3 res w9 hI
    have HF : Hid (Own w w9 63 3 res (LZ.length + LO.length) (cellsL LZ ++ cellsL LO)) := Leaf.Own.lower hI HWW.out
    clear hI HM0 HN0 HWW
    simp only [fill, Act.put]
    go_simp
    go_wp2_with fail
    go_ret
    exact ⟨res, rfl, by rw [HRes.out, List.length_append, cellsL_append]; exact HF.out⟩
  · have HZ := Lib.hid hz
    have HO := Lib.hid ho
    rw [ez, eo]
    clear ez eo hz ho
    go_enter Tryd.func129, Tryd.ntmps129
    go_wp2_with fail
    obtain ⟨W1, hW1⟩ : ∃ W1, (w.alloc (.cells #[.int .u8 wh, .int .i64 (s : Int), .iface 77 V, .iface 61 U] 77)).alloc (.cells #[.int .i64 (R : Int), .int .i64 (C : Int)] 33) = W1 := ⟨_, rfl⟩
    rw [hW1]
    have HWW : Hid (Below w.heap.size w W1) := by
      have h0 : Below w.heap.size w (w.alloc (.cells #[.int .u8 wh, .int .i64 (s : Int), .iface 77 V, .iface 61 U] 77)) := (Below.refl _ _).alloc (Nat.le_refl _) _
      show Below _ _ _; rw [← hW1]; exact h0.alloc h0.size _
    have HM0 : Hid (∀ wx : World, Below W1.heap.size W1 wx → wx.heap[B]? = some (.cells #[.int .u8 wh, .int .i64 (s : Int), .iface 77 V, .iface 61 U] 77 (0, 0))) := fun wx h => by
      have h1 : (w.alloc (.cells #[.int .u8 wh, .int .i64 (s : Int), .iface 77 V, .iface 61 U] 77)).heap[w.heap.size]? = some (.cells #[.int .u8 wh, .int .i64 (s : Int), .iface 77 V, .iface 61 U] 77 (0, 0)) := heap_alloc_new w _
      have h0 : W1.heap[B]? = some (.cells #[.int .u8 wh, .int .i64 (s : Int), .iface 77 V, .iface 61 U] 77 (0, 0)) := by rw [← hW1, ← HBB.out]; rw [heap_alloc_old _ _ (Array.getElem?_eq_some_iff.1 h1).1]; exact h1
      exact (h.block _ (Array.getElem?_eq_some_iff.1 h0).1).trans h0
    have HN0 : Hid (∀ wx : World, Below W1.heap.size W1 wx → wx.heap[B + 1]? = some (.cells #[.int .i64 (R : Int), .int .i64 (C : Int)] 33 (0, 0))) := fun wx h => by
      have h0 : W1.heap[B + 1]? = some (.cells #[.int .i64 (R : Int), .int .i64 (C : Int)] 33 (0, 0)) := by
        rw [← hW1, ← HBB.out]
        have h2 := heap_alloc_new (w.alloc (.cells #[.int .u8 wh, .int .i64 (s : Int), .iface 77 V, .iface 61 U] 77)) (.cells #[.int .i64 (R : Int), .int .i64 (C : Int)] 33)
        rw [show (w.alloc (.cells #[.int .u8 wh, .int .i64 (s : Int), .iface 77 V, .iface 61 U] 77)).heap.size = w.heap.size + 1 by simp] at h2
        exact h2
      exact (h.block _ (Array.getElem?_eq_some_iff.1 h0).1).trans h0
    clear hW1 hB
    refine wp_region_chain4 (fun | 0 => .pointer (some ⟨B, 2, none⟩) | 1 => .pointer (some ⟨B, 2, none⟩) | 2 => .iface 77 V | 3 => .agg #[.int .u8 wh, .int .i64 (s : Int), .iface 77 V, .iface 61 U] | 4 => rect R C | 5 => rect oR oC | 6 => .iface 77 V | 7 => .iface 77 V | 9 => .pointer (some ⟨B, 2, none⟩) | 10 => .pointer (some ⟨B, 3, none⟩) | 11 => .iface 61 U | 12 => .agg #[.int .u8 wh, .int .i64 (s : Int), .iface 77 V, .iface 61 U] | 13 => rect R C | 14 => rect iR iC | 15 => .iface 61 U | 16 => .iface 61 U | _ => undef) (fun i => !(i == 8) && !(i == 17) && !(i == 18) && !(i == 19)) 8 17 18 19 13 22 23 4 _ _ _ _
      (fun w => Below W1.heap.size W1 w) (fun x w => Own W1 w 63 3 x LZ.length (cellsL LZ)) (fun x y w => Own W1 w 63 3 x LZ.length (cellsL LZ) ∧ Own W1 w 63 3 y LO.length (cellsL LO)) (fun y w => Own W1 w 63 3 y (LZ.length + LO.length) (cellsL LZ ++ cellsL LO)) (fun y w => Own W1 w 63 3 y (LZ.length + LO.length) (cellsL LZ ++ cellsL LO)) (fun w => Below W1.heap.size W1 w)
      (by kernel_rfl) (by kernel_rfl) rfl rfl rfl rfl rfl rfl rfl rfl rfl rfl (by decide) (by decide) (.inr ⟨14, _, rfl, ⟨⟨14, .chain⟩, (by simp), rfl, rfl⟩, ⟨8, .chain⟩, (by simp), rfl, rfl⟩) ⟨⟨17, .data⟩, (by simp), rfl, rfl⟩ ⟨⟨18, .data⟩, (by simp), rfl, rfl⟩ ?otLse ?h0Lse (fun w h => h) (fun v w h => h.below) (fun v u w h => h.1.below) (fun t w h => h.below) (fun t w h => h.below) (fun w w1 hb h => h.trans (hb.mono h.size)) (fun v w w1 hb h => h.later hb) (fun v u w w1 hb h => ⟨h.1.later hb, h.2.later hb⟩) (fun t w w1 hb h => h.later hb) (fun t w w1 hb h => h.later hb) ?conLse ?saLse ?sbLse ?scLse ?sdLse ?enLse
    case otLse =>
      intro i o ho hki
      match i, ho with
      | 0, ho =>
        obtain rfl := Option.some.inj ho
        exact ⟨by decide, by decide, by decide, by decide⟩
      | 1, ho =>
        obtain rfl := Option.some.inj ho
        exact ⟨by decide, by decide, by decide, by decide⟩
      | 2, ho =>
        obtain rfl := Option.some.inj ho
        exact ⟨by decide, by decide, by decide, by decide⟩
      | 3, ho =>
        obtain rfl := Option.some.inj ho
        exact ⟨by decide, by decide, by decide, by decide⟩
      | 4, ho =>
        obtain rfl := Option.some.inj ho
        exact ⟨by decide, by decide, by decide, by decide⟩
      | 5, ho =>
        obtain rfl := Option.some.inj ho
        exact ⟨by decide, by decide, by decide, by decide⟩
      | 6, ho =>
        obtain rfl := Option.some.inj ho
        exact ⟨by decide, by decide, by decide, by decide⟩
      | 7, ho =>
        obtain rfl := Option.some.inj ho
        exact ⟨by decide, by decide, by decide, by decide⟩
      | 8, ho => exact absurd hki (by decide)
      | 9, ho =>
        obtain rfl := Option.some.inj ho
        exact ⟨by decide, by decide, by decide, by decide⟩
      | 10, ho =>
        obtain rfl := Option.some.inj ho
        exact ⟨by decide, by decide, by decide, by decide⟩
      | 11, ho =>
        obtain rfl := Option.some.inj ho
        exact ⟨by decide, by decide, by decide, by decide⟩
      | 12, ho =>
        obtain rfl := Option.some.inj ho
        exact ⟨by decide, by decide, by decide, by decide⟩
      | 13, ho =>
        obtain rfl := Option.some.inj ho
        exact ⟨by decide, by decide, by decide, by decide⟩
      | 14, ho =>
        obtain rfl := Option.some.inj ho
        exact ⟨by decide, by decide, by decide, by decide⟩
      | 15, ho =>
        obtain rfl := Option.some.inj ho
        exact ⟨by decide, by decide, by decide, by decide⟩
      | 16, ho =>
        obtain rfl := Option.some.inj ho
        exact ⟨by decide, by decide, by decide, by decide⟩
      | 17, ho => exact absurd hki (by decide)
      | 18, ho => exact absurd hki (by decide)
      | 19, ho => exact absurd hki (by decide)
      | q + 20, ho => simp at ho
    case h0Lse => exact drew_at W1
    case conLse =>
      intro i o ho hki a wx hJ hf
      match i, ho with
      | 0, ho =>
        obtain rfl := Option.some.inj ho
        have b2 : a.tmps[2]?.getD undef = .pointer (some ⟨B, 0, none⟩) := hf.2 2 (by kernel_rfl)
        exact wp_value (.pointer (some ⟨B, 2, none⟩)) (by unfold execOp; go_simp) ⟨rfl, Below.refl _ _⟩
      | 1, ho =>
        obtain rfl := Option.some.inj ho
        have e5 : a.tmps[5]?.getD undef = .pointer (some ⟨B, 2, none⟩) := hf.1 ⟨0, .data⟩ (by simp) rfl _ 5 rfl rfl (by decide)
        exact wp_value (.pointer (some ⟨B, 2, none⟩)) (by unfold execOp; go_simp) ⟨rfl, Below.refl _ _⟩
      | 2, ho =>
        obtain rfl := Option.some.inj ho
        have e6 : a.tmps[6]?.getD undef = .pointer (some ⟨B, 2, none⟩) := hf.1 ⟨1, .data⟩ (by simp) rfl _ 6 rfl rfl (by decide)
        obtain ⟨c0, c1, c2, c3⟩ := cells4 (HM0.out wx hJ)
        exact wp_value (.iface 77 V) (by unfold execOp; go_simp) ⟨rfl, Below.refl _ _⟩
      | 3, ho =>
        obtain rfl := Option.some.inj ho
        have b2 : a.tmps[2]?.getD undef = .pointer (some ⟨B, 0, none⟩) := hf.2 2 (by kernel_rfl)
        exact wp_load_row 77 (.tmp 2) rfl (B) (eval_get b2) 77 _ (0, 0) _ (HM0.out wx hJ) Tryd.underlying77 rfl (info_say _ _ _ _) ⟨rfl, Below.refl _ _⟩
      | 4, ho =>
        obtain rfl := Option.some.inj ho
        have b3 : a.tmps[3]?.getD undef = .pointer (some ⟨B + 1, 0, none⟩) := hf.2 3 (by kernel_rfl)
        exact wp_load_row 33 (.tmp 3) rfl (B + 1) (eval_get b3) 33 _ (0, 0) _ (HN0.out wx hJ) Tryd.underlying33 rfl (info_rect _ _) ⟨rfl, Below.refl _ _⟩
      | 5, ho =>
        obtain rfl := Option.some.inj ho
        have e8 : a.tmps[8]?.getD undef = .agg #[.int .u8 wh, .int .i64 (s : Int), .iface 77 V, .iface 61 U] := hf.1 ⟨3, .data⟩ (by simp) rfl _ 8 rfl rfl (by decide)
        have e9 : a.tmps[9]?.getD undef = rect R C := hf.1 ⟨4, .data⟩ (by simp) rfl _ 9 rfl rfl (by decide)
        exact wp_enter 50 #[.agg #[.int .u8 wh, .int .i64 (s : Int), .iface 77 V, .iface 61 U], rect R C, .int .i64 0] (rect oR oC) _ (by unfold execOp; go_simp) (HPo.out _ _ _ _ wx) (fun w' h => ⟨rfl, h⟩)
      | 6, ho =>
        obtain rfl := Option.some.inj ho
        have e7 : a.tmps[7]?.getD undef = .iface 77 V := hf.1 ⟨2, .data⟩ (by simp) rfl _ 7 rfl rfl (by decide)
        exact wp_value (.iface 77 V) (by unfold execOp; go_simp) ⟨rfl, Below.refl _ _⟩
      | 7, ho =>
        obtain rfl := Option.some.inj ho
        have e7 : a.tmps[7]?.getD undef = .iface 77 V := hf.1 ⟨2, .data⟩ (by simp) rfl _ 7 rfl rfl (by decide)
        exact wp_value (.iface 77 V) (by unfold execOp; go_simp) ⟨rfl, Below.refl _ _⟩
      | 8, ho => exact absurd hki (by decide)
      | 9, ho =>
        obtain rfl := Option.some.inj ho
        have b2 : a.tmps[2]?.getD undef = .pointer (some ⟨B, 0, none⟩) := hf.2 2 (by kernel_rfl)
        exact wp_value (.pointer (some ⟨B, 2, none⟩)) (by unfold execOp; go_simp) ⟨rfl, Below.refl _ _⟩
      | 10, ho =>
        obtain rfl := Option.some.inj ho
        have e14 : a.tmps[14]?.getD undef = .pointer (some ⟨B, 2, none⟩) := hf.1 ⟨9, .data⟩ (by simp) rfl _ 14 rfl rfl (by decide)
        exact wp_value (.pointer (some ⟨B, 3, none⟩)) (by unfold execOp; go_simp) ⟨rfl, Below.refl _ _⟩
      | 11, ho =>
        obtain rfl := Option.some.inj ho
        have e15 : a.tmps[15]?.getD undef = .pointer (some ⟨B, 3, none⟩) := hf.1 ⟨10, .data⟩ (by simp) rfl _ 15 rfl rfl (by decide)
        obtain ⟨c0, c1, c2, c3⟩ := cells4 (HM0.out wx hJ)
        exact wp_value (.iface 61 U) (by unfold execOp; go_simp) ⟨rfl, Below.refl _ _⟩
      | 12, ho =>
        obtain rfl := Option.some.inj ho
        have b2 : a.tmps[2]?.getD undef = .pointer (some ⟨B, 0, none⟩) := hf.2 2 (by kernel_rfl)
        exact wp_load_row 77 (.tmp 2) rfl (B) (eval_get b2) 77 _ (0, 0) _ (HM0.out wx hJ) Tryd.underlying77 rfl (info_say _ _ _ _) ⟨rfl, Below.refl _ _⟩
      | 13, ho =>
        obtain rfl := Option.some.inj ho
        have b3 : a.tmps[3]?.getD undef = .pointer (some ⟨B + 1, 0, none⟩) := hf.2 3 (by kernel_rfl)
        exact wp_load_row 33 (.tmp 3) rfl (B + 1) (eval_get b3) 33 _ (0, 0) _ (HN0.out wx hJ) Tryd.underlying33 rfl (info_rect _ _) ⟨rfl, Below.refl _ _⟩
      | 14, ho =>
        obtain rfl := Option.some.inj ho
        have e17 : a.tmps[17]?.getD undef = .agg #[.int .u8 wh, .int .i64 (s : Int), .iface 77 V, .iface 61 U] := hf.1 ⟨12, .data⟩ (by simp) rfl _ 17 rfl rfl (by decide)
        have e18 : a.tmps[18]?.getD undef = rect R C := hf.1 ⟨13, .data⟩ (by simp) rfl _ 18 rfl rfl (by decide)
        exact wp_enter 50 #[.agg #[.int .u8 wh, .int .i64 (s : Int), .iface 77 V, .iface 61 U], rect R C, .int .i64 1] (rect iR iC) _ (by unfold execOp; go_simp) (HPi.out _ _ _ _ wx) (fun w' h => ⟨rfl, h⟩)
      | 15, ho =>
        obtain rfl := Option.some.inj ho
        have e16 : a.tmps[16]?.getD undef = .iface 61 U := hf.1 ⟨11, .data⟩ (by simp) rfl _ 16 rfl rfl (by decide)
        exact wp_value (.iface 61 U) (by unfold execOp; go_simp) ⟨rfl, Below.refl _ _⟩
      | 16, ho =>
        obtain rfl := Option.some.inj ho
        have e16 : a.tmps[16]?.getD undef = .iface 61 U := hf.1 ⟨11, .data⟩ (by simp) rfl _ 16 rfl rfl (by decide)
        exact wp_value (.iface 61 U) (by unfold execOp; go_simp) ⟨rfl, Below.refl _ _⟩
      | 17, ho => exact absurd hki (by decide)
      | 18, ho => exact absurd hki (by decide)
      | 19, ho => exact absurd hki (by decide)
      | q + 20, ho => simp at ho
    case saLse =>
      intro a wx hI hf
      have e12 : a.tmps[12]?.getD undef = .iface 77 V := hf.1 ⟨7, .data⟩ (by simp) rfl _ 12 rfl rfl (by decide)
      have e10 : a.tmps[10]?.getD undef = rect oR oC := hf.1 ⟨5, .data⟩ (by simp) rfl _ 10 rfl rfl (by decide)
      refine wp_enterR 129 #[V, rect oR oC] (by unfold execOp; go_simp; go_invoke; rfl) (HZ.out wx) ?_
      intro v' w' h1
      exact ⟨v', rfl, Leaf.Own.lower h1 hI⟩
    case sbLse =>
      intro a wx x hI hv hf
      have e21 : a.tmps[21]?.getD undef = .iface 61 U := hf.1 ⟨16, .data⟩ (by simp) rfl _ 21 rfl rfl (by decide)
      have e19 : a.tmps[19]?.getD undef = rect iR iC := hf.1 ⟨14, .data⟩ (by simp) rfl _ 19 rfl rfl (by decide)
      refine wp_enterR 119 #[U, rect iR iC] (by unfold execOp; go_simp; go_invoke; rfl) (HO.out wx) ?_
      intro v' w' h1
      exact ⟨v', rfl, hI.later h1.below, Leaf.Own.lower h1 hI.below⟩
    case scLse =>
      intro a wx x y hI hv hu hf
      refine wp_append_two (w0 := W1) (.tmp 13) (.tmp 22) 59 rfl 63 i0 (.agg #[.int .i64 0, .int .i64 0, .int .i64 0]) 3 24 Tryd.underlying59 hi hz0 hz1 hz2 rfl (by decide) x y LZ.length LO.length (cellsL LZ) (cellsL LO) (eval_get (get_some hv)) hI.1 (eval_get (get_some hu)) hI.2 LM.out O1.out (by omega) (by decide) ?_
      intro v' w' h1
      exact ⟨v', rfl, h1⟩
    case sdLse =>
      intro a wx y hI hv hf
      have e23 := get_some hv
      exact wp_value y (by unfold execOp; go_simp) ⟨y, rfl, hI⟩
    intro k1 k2 k3 res w9 hI
    have HF : Hid (Own w w9 63 3 res (LZ.length + LO.length) (cellsL LZ ++ cellsL LO)) := Leaf.Own.lower hI HWW.out
    clear hI HM0 HN0 HWW
    simp only [fill, Act.put]
    go_simp
    go_wp2_with fail
    go_ret
    exact ⟨res, rfl, by rw [HRes.out, List.length_append, cellsL_append]; exact HF.out⟩
  · have HZ := Lib.hid hz
    have HO := Lib.hid ho
    rw [ez, eo]
    clear ez eo hz ho
    go_enter Tryd.func129, Tryd.ntmps129
    go_wp2_with fail
    obtain ⟨W1, hW1⟩ : ∃ W1, (w.alloc (.cells #[.int .u8 wh, .int .i64 (s : Int), .iface 77 V, .iface 77 U] 77)).alloc (.cells #[.int .i64 (R : Int), .int .i64 (C : Int)] 33) = W1 := ⟨_, rfl⟩
    rw [hW1]
    have HWW : Hid (Below w.heap.size w W1) := by
      have h0 : Below w.heap.size w (w.alloc (.cells #[.int .u8 wh, .int .i64 (s : Int), .iface 77 V, .iface 77 U] 77)) := (Below.refl _ _).alloc (Nat.le_refl _) _
      show Below _ _ _; rw [← hW1]; exact h0.alloc h0.size _
    have HM0 : Hid (∀ wx : World, Below W1.heap.size W1 wx → wx.heap[B]? = some (.cells #[.int .u8 wh, .int .i64 (s : Int), .iface 77 V, .iface 77 U] 77 (0, 0))) := fun wx h => by
      have h1 : (w.alloc (.cells #[.int .u8 wh, .int .i64 (s : Int), .iface 77 V, .iface 77 U] 77)).heap[w.heap.size]? = some (.cells #[.int .u8 wh, .int .i64 (s : Int), .iface 77 V, .iface 77 U] 77 (0, 0)) := heap_alloc_new w _
      have h0 : W1.heap[B]? = some (.cells #[.int .u8 wh, .int .i64 (s : Int), .iface 77 V, .iface 77 U] 77 (0, 0)) := by rw [← hW1, ← HBB.out]; rw [heap_alloc_old _ _ (Array.getElem?_eq_some_iff.1 h1).1]; exact h1
      exact (h.block _ (Array.getElem?_eq_some_iff.1 h0).1).trans h0
    have HN0 : Hid (∀ wx : World, Below W1.heap.size W1 wx → wx.heap[B + 1]? = some (.cells #[.int .i64 (R : Int), .int .i64 (C : Int)] 33 (0, 0))) := fun wx h => by
      have h0 : W1.heap[B + 1]? = some (.cells #[.int .i64 (R : Int), .int .i64 (C : Int)] 33 (0, 0)) := by
        rw [← hW1, ← HBB.out]
        have h2 := heap_alloc_new (w.alloc (.cells #[.int .u8 wh, .int .i64 (s : Int), .iface 77 V, .iface 77 U] 77)) (.cells #[.int .i64 (R : Int), .int .i64 (C : Int)] 33)
        rw [show (w.alloc (.cells #[.int .u8 wh, .int .i64 (s : Int), .iface 77 V, .iface 77 U] 77)).heap.size = w.heap.size + 1 by simp] at h2
        exact h2
      exact (h.block _ (Array.getElem?_eq_some_iff.1 h0).1).trans h0
    clear hW1 hB
    refine wp_region_chain4 (fun | 0 => .pointer (some ⟨B, 2, none⟩) | 1 => .pointer (some ⟨B, 2, none⟩) | 2 => .iface 77 V | 3 => .agg #[.int .u8 wh, .int .i64 (s : Int), .iface 77 V, .iface 77 U] | 4 => rect R C | 5 => rect oR oC | 6 => .iface 77 V | 7 => .iface 77 V | 9 => .pointer (some ⟨B, 2, none⟩) | 10 => .pointer (some ⟨B, 3, none⟩) | 11 => .iface 77 U | 12 => .agg #[.int .u8 wh, .int .i64 (s : Int), .iface 77 V, .iface 77 U] | 13 => rect R C | 14 => rect iR iC | 15 => .iface 77 U | 16 => .iface 77 U | _ => undef) (fun i => !(i == 8) && !(i == 17) && !(i == 18) && !(i == 19)) 8 17 18 19 13 22 23 4 _ _ _ _
      (fun w => Below W1.heap.size W1 w) (fun x w => Own W1 w 63 3 x LZ.length (cellsL LZ)) (fun x y w => Own W1 w 63 3 x LZ.length (cellsL LZ) ∧ Own W1 w 63 3 y LO.length (cellsL LO)) (fun y w => Own W1 w 63 3 y (LZ.length + LO.length) (cellsL LZ ++ cellsL LO)) (fun y w => Own W1 w 63 3 y (LZ.length + LO.length) (cellsL LZ ++ cellsL LO)) (fun w => Below W1.heap.size W1 w)
      (by kernel_rfl) (by kernel_rfl) rfl rfl rfl rfl rfl rfl rfl rfl rfl rfl (by decide) (by decide) (.inr ⟨14, _, rfl, ⟨⟨14, .chain⟩, (by simp), rfl, rfl⟩, ⟨8, .chain⟩, (by simp), rfl, rfl⟩) ⟨⟨17, .data⟩, (by simp), rfl, rfl⟩ ⟨⟨18, .data⟩, (by simp), rfl, rfl⟩ ?otLss ?h0Lss (fun w h => h) (fun v w h => h.below) (fun v u w h => h.1.below) (fun t w h => h.below) (fun t w h => h.below) (fun w w1 hb h => h.trans (hb.mono h.size)) (fun v w w1 hb h => h.later hb) (fun v u w w1 hb h => ⟨h.1.later hb, h.2.later hb⟩) (fun t w w1 hb h => h.later hb) (fun t w w1 hb h => h.later hb) ?conLss ?saLss ?sbLss ?scLss ?sdLss ?enLss
    case otLss =>
      intro i o ho hki
      match i, ho with
      | 0, ho =>
        obtain rfl := Option.some.inj ho
        exact ⟨by decide, by decide, by decide, by decide⟩
      | 1, ho =>
        obtain rfl := Option.some.inj ho
        exact ⟨by decide, by decide, by decide, by decide⟩
      | 2, ho =>
        obtain rfl := Option.some.inj ho
        exact ⟨by decide, by decide, by decide, by decide⟩
      | 3, ho =>
        obtain rfl := Option.some.inj ho
        exact ⟨by decide, by decide, by decide, by decide⟩
      | 4, ho =>
        obtain rfl := Option.some.inj ho
        exact ⟨by decide, by decide, by decide, by decide⟩
      | 5, ho =>
        obtain rfl := Option.some.inj ho
        exact ⟨by decide, by decide, by decide, by decide⟩
      | 6, ho =>
        obtain rfl := Option.some.inj ho
        exact ⟨by decide, by decide, by decide, by decide⟩
      | 7, ho =>
        obtain rfl := Option.some.inj ho
        exact ⟨by decide, by decide, by decide, by decide⟩
      | 8, ho => exact absurd hki (by decide)
      | 9, ho =>
        obtain rfl := Option.some.inj ho
        exact ⟨by decide, by decide, by decide, by decide⟩
      | 10, ho =>
        obtain rfl := Option.some.inj ho
        exact ⟨by decide, by decide, by decide, by decide⟩
      | 11, ho =>
        obtain rfl := Option.some.inj ho
        exact ⟨by decide, by decide, by decide, by decide⟩
      | 12, ho =>
        obtain rfl := Option.some.inj ho
        exact ⟨by decide, by decide, by decide, by decide⟩
      | 13, ho =>
        obtain rfl := Option.some.inj ho
        exact ⟨by decide, by decide, by decide, by decide⟩
      | 14, ho =>
        obtain rfl := Option.some.inj ho
        exact ⟨by decide, by decide, by decide, by decide⟩
      | 15, ho =>
        obtain rfl := Option.some.inj ho
        exact ⟨by decide, by decide, by decide, by decide⟩
      | 16, ho =>
        obtain rfl := Option.some.inj ho
        exact ⟨by decide, by decide, by decide, by decide⟩
      | 17, ho => exact absurd hki (by decide)
      | 18, ho => exact absurd hki (by decide)
      | 19, ho => exact absurd hki (by decide)
      | q + 20, ho => simp at ho
    case h0Lss => exact drew_at W1
    case conLss =>
      intro i o ho hki a wx hJ hf
      match i, ho with
      | 0, ho =>
        obtain rfl := Option.some.inj ho
        have b2 : a.tmps[2]?.getD undef = .pointer (some ⟨B, 0, none⟩) := hf.2 2 (by kernel_rfl)
        exact wp_value (.pointer (some ⟨B, 2, none⟩)) (by unfold execOp; go_simp) ⟨rfl, Below.refl _ _⟩
      | 1, ho =>
        obtain rfl := Option.some.inj ho
        have e5 : a.tmps[5]?.getD undef = .pointer (some ⟨B, 2, none⟩) := hf.1 ⟨0, .data⟩ (by simp) rfl _ 5 rfl rfl (by decide)
        exact wp_value (.pointer (some ⟨B, 2, none⟩)) (by unfold execOp; go_simp) ⟨rfl, Below.refl _ _⟩
      | 2, ho =>
        obtain rfl := Option.some.inj ho
        have e6 : a.tmps[6]?.getD undef = .pointer (some ⟨B, 2, none⟩) := hf.1 ⟨1, .data⟩ (by simp) rfl _ 6 rfl rfl (by decide)
        obtain ⟨c0, c1, c2, c3⟩ := cells4 (HM0.out wx hJ)
        exact wp_value (.iface 77 V) (by unfold execOp; go_simp) ⟨rfl, Below.refl _ _⟩
      | 3, ho =>
        obtain rfl := Option.some.inj ho
        have b2 : a.tmps[2]?.getD undef = .pointer (some ⟨B, 0, none⟩) := hf.2 2 (by kernel_rfl)
        exact wp_load_row 77 (.tmp 2) rfl (B) (eval_get b2) 77 _ (0, 0) _ (HM0.out wx hJ) Tryd.underlying77 rfl (info_say _ _ _ _) ⟨rfl, Below.refl _ _⟩
      | 4, ho =>
        obtain rfl := Option.some.inj ho
        have b3 : a.tmps[3]?.getD undef = .pointer (some ⟨B + 1, 0, none⟩) := hf.2 3 (by kernel_rfl)
        exact wp_load_row 33 (.tmp 3) rfl (B + 1) (eval_get b3) 33 _ (0, 0) _ (HN0.out wx hJ) Tryd.underlying33 rfl (info_rect _ _) ⟨rfl, Below.refl _ _⟩
      | 5, ho =>
        obtain rfl := Option.some.inj ho
        have e8 : a.tmps[8]?.getD undef = .agg #[.int .u8 wh, .int .i64 (s : Int), .iface 77 V, .iface 77 U] := hf.1 ⟨3, .data⟩ (by simp) rfl _ 8 rfl rfl (by decide)
        have e9 : a.tmps[9]?.getD undef = rect R C := hf.1 ⟨4, .data⟩ (by simp) rfl _ 9 rfl rfl (by decide)
        exact wp_enter 50 #[.agg #[.int .u8 wh, .int .i64 (s : Int), .iface 77 V, .iface 77 U], rect R C, .int .i64 0] (rect oR oC) _ (by unfold execOp; go_simp) (HPo.out _ _ _ _ wx) (fun w' h => ⟨rfl, h⟩)
      | 6, ho =>
        obtain rfl := Option.some.inj ho
        have e7 : a.tmps[7]?.getD undef = .iface 77 V := hf.1 ⟨2, .data⟩ (by simp) rfl _ 7 rfl rfl (by decide)
        exact wp_value (.iface 77 V) (by unfold execOp; go_simp) ⟨rfl, Below.refl _ _⟩
      | 7, ho =>
        obtain rfl := Option.some.inj ho
        have e7 : a.tmps[7]?.getD undef = .iface 77 V := hf.1 ⟨2, .data⟩ (by simp) rfl _ 7 rfl rfl (by decide)
        exact wp_value (.iface 77 V) (by unfold execOp; go_simp) ⟨rfl, Below.refl _ _⟩
      | 8, ho => exact absurd hki (by decide)
      | 9, ho =>
        obtain rfl := Option.some.inj ho
        have b2 : a.tmps[2]?.getD undef = .pointer (some ⟨B, 0, none⟩) := hf.2 2 (by kernel_rfl)
        exact wp_value (.pointer (some ⟨B, 2, none⟩)) (by unfold execOp; go_simp) ⟨rfl, Below.refl _ _⟩
      | 10, ho =>
        obtain rfl := Option.some.inj ho
        have e14 : a.tmps[14]?.getD undef = .pointer (some ⟨B, 2, none⟩) := hf.1 ⟨9, .data⟩ (by simp) rfl _ 14 rfl rfl (by decide)
        exact wp_value (.pointer (some ⟨B, 3, none⟩)) (by unfold execOp; go_simp) ⟨rfl, Below.refl _ _⟩
      | 11, ho =>
        obtain rfl := Option.some.inj ho
        have e15 : a.tmps[15]?.getD undef = .pointer (some ⟨B, 3, none⟩) := hf.1 ⟨10, .data⟩ (by simp) rfl _ 15 rfl rfl (by decide)
        obtain ⟨c0, c1, c2, c3⟩ := cells4 (HM0.out wx hJ)
        exact wp_value (.iface 77 U) (by unfold execOp; go_simp) ⟨rfl, Below.refl _ _⟩
      | 12, ho =>
        obtain rfl := Option.some.inj ho
        have b2 : a.tmps[2]?.getD undef = .pointer (some ⟨B, 0, none⟩) := hf.2 2 (by kernel_rfl)
        exact wp_load_row 77 (.tmp 2) rfl (B) (eval_get b2) 77 _ (0, 0) _ (HM0.out wx hJ) Tryd.underlying77 rfl (info_say _ _ _ _) ⟨rfl, Below.refl _ _⟩
      | 13, ho =>
        obtain rfl := Option.some.inj ho
        have b3 : a.tmps[3]?.getD undef = .pointer (some ⟨B + 1, 0, none⟩) := hf.2 3 (by kernel_rfl)
        exact wp_load_row 33 (.tmp 3) rfl (B + 1) (eval_get b3) 33 _ (0, 0) _ (HN0.out wx hJ) Tryd.underlying33 rfl (info_rect _ _) ⟨rfl, Below.refl _ _⟩
      | 14, ho =>
        obtain rfl := Option.some.inj ho
        have e17 : a.tmps[17]?.getD undef = .agg #[.int .u8 wh, .int .i64 (s : Int), .iface 77 V, .iface 77 U] := hf.1 ⟨12, .data⟩ (by simp) rfl _ 17 rfl rfl (by decide)
        have e18 : a.tmps[18]?.getD undef = rect R C := hf.1 ⟨13, .data⟩ (by simp) rfl _ 18 rfl rfl (by decide)
        exact wp_enter 50 #[.agg #[.int .u8 wh, .int .i64 (s : Int), .iface 77 V, .iface 77 U], rect R C, .int .i64 1] (rect iR iC) _ (by unfold execOp; go_simp) (HPi.out _ _ _ _ wx) (fun w' h => ⟨rfl, h⟩)
      | 15, ho =>
        obtain rfl := Option.some.inj ho
        have e16 : a.tmps[16]?.getD undef = .iface 77 U := hf.1 ⟨11, .data⟩ (by simp) rfl _ 16 rfl rfl (by decide)
        exact wp_value (.iface 77 U) (by unfold execOp; go_simp) ⟨rfl, Below.refl _ _⟩
      | 16, ho =>
        obtain rfl := Option.some.inj ho
        have e16 : a.tmps[16]?.getD undef = .iface 77 U := hf.1 ⟨11, .data⟩ (by simp) rfl _ 16 rfl rfl (by decide)
        exact wp_value (.iface 77 U) (by unfold execOp; go_simp) ⟨rfl, Below.refl _ _⟩
      | 17, ho => exact absurd hki (by decide)
      | 18, ho => exact absurd hki (by decide)
      | 19, ho => exact absurd hki (by decide)
      | q + 20, ho => simp at ho
    case saLss =>
      intro a wx hI hf
      have e12 : a.tmps[12]?.getD undef = .iface 77 V := hf.1 ⟨7, .data⟩ (by simp) rfl _ 12 rfl rfl (by decide)
      have e10 : a.tmps[10]?.getD undef = rect oR oC := hf.1 ⟨5, .data⟩ (by simp) rfl _ 10 rfl rfl (by decide)
      refine wp_enterR 129 #[V, rect oR oC] (by unfold execOp; go_simp; go_invoke; rfl) (HZ.out wx) ?_
      intro v' w' h1
      exact ⟨v', rfl, Leaf.Own.lower h1 hI⟩
    case sbLss =>
      intro a wx x hI hv hf
      have e21 : a.tmps[21]?.getD undef = .iface 77 U := hf.1 ⟨16, .data⟩ (by simp) rfl _ 21 rfl rfl (by decide)
      have e19 : a.tmps[19]?.getD undef = rect iR iC := hf.1 ⟨14, .data⟩ (by simp) rfl _ 19 rfl rfl (by decide)
      refine wp_enterR 129 #[U, rect iR iC] (by unfold execOp; go_simp; go_invoke; rfl) (HO.out wx) ?_
      intro v' w' h1
      exact ⟨v', rfl, hI.later h1.below, Leaf.Own.lower h1 hI.below⟩
    case scLss =>
      intro a wx x y hI hv hu hf
      refine wp_append_two (w0 := W1) (.tmp 13) (.tmp 22) 59 rfl 63 i0 (.agg #[.int .i64 0, .int .i64 0, .int .i64 0]) 3 24 Tryd.underlying59 hi hz0 hz1 hz2 rfl (by decide) x y LZ.length LO.length (cellsL LZ) (cellsL LO) (eval_get (get_some hv)) hI.1 (eval_get (get_some hu)) hI.2 LM.out O1.out (by omega) (by decide) ?_
      intro v' w' h1
      exact ⟨v', rfl, h1⟩
    case sdLss =>
      intro a wx y hI hv hf
      have e23 := get_some hv
      exact wp_value y (by unfold execOp; go_simp) ⟨y, rfl, hI⟩
    intro k1 k2 k3 res w9 hI
    have HF : Hid (Own w w9 63 3 res (LZ.length + LO.length) (cellsL LZ ++ cellsL LO)) := Leaf.Own.lower hI HWW.out
    clear hI HM0 HN0 HWW
    simp only [fill, Act.put]
    go_simp
    go_wp2_with fail
    go_ret
    exact ⟨res, rfl, by rw [HRes.out, List.length_append, cellsL_append]; exact HF.out⟩

theorem leaves_to (t : T) : (text t).length ≤ 2000 → Go.Proofs.YtbccachkkflceaaDoor.Count.Node 119 129 t (LeavesC t) := by
  induction t with
  | leaf b => intro _; exact .inl ⟨_, rfl, end_leaves b⟩
  | say a s z o ihz iho =>
    intro hl
    have hlz : (text (.say a s z o)).length = (text z).length + (text o).length + 3 := by simp [text]
    exact .inr ⟨_, rfl, say_leaves a s z o hl (ihz (by omega)) (iho (by omega))⟩
end Go.Proofs.YtbccachkkflceaaDoor.LeavesI
