/-
  Texts of one seat, joined: LeavesI, TreeIn, LeafRectsI, SaidMat.
-/
import Derived.Test.YtbbgibbpeibhiaaGreatDoorJn9
import Derived.Test.YtbbgibbpeibhiaaGreatDoorJn11
import Derived.Test.YtbbgibbpeibhiaaGreatDoorJn4
import Derived.Test.YtbbgibbpeibhiaaGreatDoorJn5
import Derived.Test.YtbbgibbpeibhiaaGreatDoorJn6
import Derived.Laws.IdiomStrings
import Derived.Laws.Concat
/-
  The ends that the inputs of a rectangle reach, of the program's trees.
-/
namespace Go.Proofs.YtbbgibbpeibhiaaGreatDoor.LeavesI
open Go.RowKit Go.Shelf Go.Proofs.YtbbgibbpeibhiaaGreatDoor.Plain Go.Proofs.YtbbgibbpeibhiaaGreatDoor.Tree Go.Proofs.YtbbgibbpeibhiaaGreatDoor.Read Go.Proofs.YtbbgibbpeibhiaaGreatDoor.Rect Go.Proofs.YtbbgibbpeibhiaaGreatDoor.TurnC Go.Proofs.YtbbgibbpeibhiaaGreatDoor.TrimT Go.Proofs.YtbbgibbpeibhiaaGreatDoor.PartC Go.Proofs.YtbbgibbpeibhiaaGreatDoor.App Go.Proofs.YtbbgibbpeibhiaaGreatDoor.Leaf
open Go.Proofs.YtbbgibbpeibhiaaGreatDoor.NodeH (eval_get)
open Go.Proofs.YtbbgibbpeibhiaaGreatDoor.TrimI (cells2 info_rect some_no some_yes)
open Go.Proofs.YtbbgibbpeibhiaaGreatDoor.Count (cells4)
open Go.Proofs.YtbbgibbpeibhiaaGreatDoor.Wq (drew_at)
open Go.Proofs.YtbbgibbpeibhiaaGreatDoor.Free (fill wp_value wp_enter wp_load_row freeB)
open Go.Proofs.YtbbgibbpeibhiaaGreatDoor.FreeC4 Go.Proofs.YtbbgibbpeibhiaaGreatDoor.FreeW
set_option linter.unusedVariables false
set_option maxRecDepth 100000
set_option linter.unusedSimpArgs false

theorem info_l : ∃ i, Tryz.prog.info? 63 = some i ∧ i.zero = some (.agg #[.int .i64 0, .int .i64 0, .int .i64 0]) ∧ i.size = 3 ∧ i.bytes = 24 := ⟨_, rfl, rfl, rfl, rfl⟩
theorem get_some {a : Act} {d : Tmp} {v : Value} (h : a.tmps[d]? = some v) : a.tmps[d]?.getD undef = v := by rw [h]; rfl
theorem wp_enterR {o : Oper} {a : Act} {w : World} {K : Act → World → Prop} {Q : Exit → Act → World → Prop} {R : Value → World → Prop} (f : FuncId) (args : Array Value) (h : (execOp a.eval o).run Tryz.prog w = .ok (.enter f args) w)
    (hc : Calls Tryz.prog f args w fun e w' => ∃ v, e = .returned v ∧ R v w') (hK : ∀ v w', R v w' → K (a.put o.dst v) w') : o.wp Tryz.prog a w K Q := by
  unfold Oper.wp
  rw [h]
  refine Calls.mono hc ?_
  rintro e w' ⟨v, rfl, hR⟩
  exact hK v w' hR
def LeavesC (t : T) (f : FuncId) (V : Value) : Prop := ∀ (R C : Nat) (W : World), R < 256 → C < 256 → Calls Tryz.prog f #[V, rect R C] W fun e w' => ∃ v, e = .returned v ∧ Own W w' 63 3 v (leavesT t R C).length (cellsL (leavesT t R C))

set_option maxHeartbeats 2000000 in
set_option maxRecDepth 100000 in
theorem end_leaves (b : Bool) : LeavesC (.leaf b) 118 (.int .i64 (bitI b)) := by
  intro R C w hR hC
  have hb0 := (Below.refl w.heap.size w).alloc (Nat.le_refl _) (.cells #[.int .i64 (R : Int), .int .i64 (C : Int)] 45)
  have HB0 := Lib.hid hb0
  clear hb0
  by_cases h0 : R = 0 ∨ C = 0
  · rw [leaves_none _ R C h0]
    go_enter Tryz.func118, Tryz.ntmps118
    go_wp2_with fail
    refine (rect_any _ _ _).mono ?_
    rintro e w1 ⟨rfl, hb1⟩
    rw [some_no h0]
    have HB1 := Lib.hid (HB0.out.trans (hb1.mono HB0.out.size))
    clear hb1 HB0
    go_wp2_with fail
    go_ret
    exact ⟨.slice none 0 0, rfl, ⟨⟨by simp [cellsL], .inl ⟨rfl, rfl⟩⟩, HB1.out⟩⟩
  · have hl : leavesT (.leaf b) R C = [(R, C, b)] := by simp only [leavesT]; rw [if_neg h0]
    rw [hl]
    go_enter Tryz.func118, Tryz.ntmps118
    go_wp2_with fail
    refine (rect_any _ _ _).mono ?_
    rintro e w1 ⟨rfl, hb1⟩
    rw [some_yes (by omega) hR (by omega) hC]
    have g0 := heap_alloc_new w (.cells #[.int .i64 (R : Int), .int .i64 (C : Int)] 45)
    have g1 : w1.heap[w.heap.size]? = some (.cells #[.int .i64 (R : Int), .int .i64 (C : Int)] 45 (0, 0)) := (hb1.block _ (Array.getElem?_eq_some_iff.1 g0).1).trans g0
    obtain ⟨c0, c1⟩ := cells2 g1
    have HB1 := Lib.hid (HB0.out.trans (hb1.mono HB0.out.size))
    have HOn : Hid (Own w (w1.alloc (.cells #[.int .i64 (R : Int), .int .i64 (C : Int), .int .i64 (bitI b)] 63)) 63 3 (.slice (some ⟨w1.heap.size, 0, none⟩) 1 1) 1 [.int .i64 (R : Int), .int .i64 (C : Int), .int .i64 (bitI b)]) := by
      have h1 := World.ownsRow_lit (base := w.heap.size) (e := 63) (size := 3) w1 #[.int .i64 (R : Int), .int .i64 (C : Int), .int .i64 (bitI b)] 1 HB1.out.size (by unfold maxLen; omega) rfl
      exact ⟨h1, HB1.out.alloc HB1.out.size _⟩
    clear hb1 HB0 g0 g1 HB1 hl h0
    go_wp2_with fail
    go_ret
    exact ⟨_, rfl, HOn.out⟩

set_option maxHeartbeats 8000000 in
set_option maxRecDepth 100000 in
theorem say_leaves (a : Bool) (s : Nat) (z o : T) (hl : (text (.say a s z o)).length ≤ 2000) (hZ : Go.Proofs.YtbbgibbpeibhiaaGreatDoor.Count.Node 118 127 z (LeavesC z)) (hO : Go.Proofs.YtbbgibbpeibhiaaGreatDoor.Count.Node 118 127 o (LeavesC o)) :
    LeavesC (.say a s z o) 127 (.agg #[.int .u8 ((whoB a).toNat : Int), .int .i64 (s : Int), tree z, tree o]) := by
  intro R C w hR hC
  obtain ⟨h1, h2, h3, h4⟩ := parts_lt a s hR hC
  have hlz : (text (.say a s z o)).length = (text z).length + (text o).length + 3 := by simp [text]
  unfold LeavesC Go.Proofs.YtbbgibbpeibhiaaGreatDoor.Count.Node at hZ hO
  have HPo := Lib.hid fun (t1 t2 : TypeId) (v1 v2 : Value) (W : World) => part_out a s R C hR hC t1 t2 v1 v2 W
  have HPi := Lib.hid fun (t1 t2 : TypeId) (v1 v2 : Value) (W : World) => part_in a s R C hR hC t1 t2 v1 v2 W
  have lz := Nat.le_trans (leaves_length z (outR a s R) (outC a s C)) (show _ ≤ 2000 by omega)
  have lo := Nat.le_trans (leaves_length o (inR a s R) (inC a s C)) (show _ ≤ 2000 by omega)
  have HRes : Hid (leavesT (.say a s z o) R C = leavesT z (outR a s R) (outC a s C) ++ leavesT o (inR a s R) (inC a s C)) := rfl
  have lm := cellsL_length (leavesT o (inR a s R) (inC a s C))
  have o1 := cellsL_one (leavesT o (inR a s R) (inC a s C))
  have hZ2 : (∃ V, tree z = .iface 61 V ∧ ∀ W : World, Calls Tryz.prog 118 #[V, rect (outR a s R) (outC a s C)] W fun e w' => ∃ v, e = .returned v ∧ Own W w' 63 3 v (leavesT z (outR a s R) (outC a s C)).length (cellsL (leavesT z (outR a s R) (outC a s C)))) ∨
      (∃ V, tree z = .iface 81 V ∧ ∀ W : World, Calls Tryz.prog 127 #[V, rect (outR a s R) (outC a s C)] W fun e w' => ∃ v, e = .returned v ∧ Own W w' 63 3 v (leavesT z (outR a s R) (outC a s C)).length (cellsL (leavesT z (outR a s R) (outC a s C)))) := by
    rcases hZ with ⟨V, e, h⟩ | ⟨V, e, h⟩
    · exact .inl ⟨V, e, fun W => h _ _ W h1 h2⟩
    · exact .inr ⟨V, e, fun W => h _ _ W h1 h2⟩
  have hO2 : (∃ V, tree o = .iface 61 V ∧ ∀ W : World, Calls Tryz.prog 118 #[V, rect (inR a s R) (inC a s C)] W fun e w' => ∃ v, e = .returned v ∧ Own W w' 63 3 v (leavesT o (inR a s R) (inC a s C)).length (cellsL (leavesT o (inR a s R) (inC a s C)))) ∨
      (∃ V, tree o = .iface 81 V ∧ ∀ W : World, Calls Tryz.prog 127 #[V, rect (inR a s R) (inC a s C)] W fun e w' => ∃ v, e = .returned v ∧ Own W w' 63 3 v (leavesT o (inR a s R) (inC a s C)).length (cellsL (leavesT o (inR a s R) (inC a s C)))) := by
    rcases hO with ⟨V, e, h⟩ | ⟨V, e, h⟩
    · exact .inl ⟨V, e, fun W => h _ _ W h3 h4⟩
    · exact .inr ⟨V, e, fun W => h _ _ W h3 h4⟩
  generalize leavesT (.say a s z o) R C = LA at *
  generalize leavesT z (outR a s R) (outC a s C) = LZ at *
  generalize leavesT o (inR a s R) (inC a s C) = LO at *
  generalize outR a s R = oR at *
  generalize outC a s C = oC at *
  generalize inR a s R = iR at *
  generalize inC a s C = iC at *
  generalize ((whoB a).toNat : Int) = wh at *
  obtain ⟨i0, hi, hz0, hz1, hz2⟩ := info_l
  have LM := Lib.hid lm
  have O1 := Lib.hid o1
  clear hl hlz hR hC hZ hO h1 h2 h3 h4 lm o1
  obtain ⟨B, hB⟩ : ∃ B, w.heap.size = B := ⟨_, rfl⟩
  have HBB := Lib.hid hB
  rcases hZ2 with ⟨V, ez, hz⟩ | ⟨V, ez, hz⟩ <;> rcases hO2 with ⟨U, eo, ho⟩ | ⟨U, eo, ho⟩
  · have HZ := Lib.hid hz
    have HO := Lib.hid ho
    rw [ez, eo]
    clear ez eo hz ho
    go_enter Tryz.func127, Tryz.ntmps127
    go_wp2_with fail
    obtain ⟨W1, hW1⟩ : ∃ W1, (w.alloc (.cells #[.int .u8 wh, .int .i64 (s : Int), .iface 61 V, .iface 61 U] 81)).alloc (.cells #[.int .i64 (R : Int), .int .i64 (C : Int)] 45) = W1 := ⟨_, rfl⟩
    rw [hW1]
    have HWW : Hid (Below w.heap.size w W1) := by
      have h0 : Below w.heap.size w (w.alloc (.cells #[.int .u8 wh, .int .i64 (s : Int), .iface 61 V, .iface 61 U] 81)) := (Below.refl _ _).alloc (Nat.le_refl _) _
      show Below _ _ _; rw [← hW1]; exact h0.alloc h0.size _
    have HM0 : Hid (∀ wx : World, Below W1.heap.size W1 wx → wx.heap[B]? = some (.cells #[.int .u8 wh, .int .i64 (s : Int), .iface 61 V, .iface 61 U] 81 (0, 0))) := fun wx h => by
      have h1 : (w.alloc (.cells #[.int .u8 wh, .int .i64 (s : Int), .iface 61 V, .iface 61 U] 81)).heap[w.heap.size]? = some (.cells #[.int .u8 wh, .int .i64 (s : Int), .iface 61 V, .iface 61 U] 81 (0, 0)) := heap_alloc_new w _
      have h0 : W1.heap[B]? = some (.cells #[.int .u8 wh, .int .i64 (s : Int), .iface 61 V, .iface 61 U] 81 (0, 0)) := by rw [← hW1, ← HBB.out]; rw [heap_alloc_old _ _ (Array.getElem?_eq_some_iff.1 h1).1]; exact h1
      exact (h.block _ (Array.getElem?_eq_some_iff.1 h0).1).trans h0
    have HN0 : Hid (∀ wx : World, Below W1.heap.size W1 wx → wx.heap[B + 1]? = some (.cells #[.int .i64 (R : Int), .int .i64 (C : Int)] 45 (0, 0))) := fun wx h => by
      have h0 : W1.heap[B + 1]? = some (.cells #[.int .i64 (R : Int), .int .i64 (C : Int)] 45 (0, 0)) := by
        rw [← hW1, ← HBB.out]
        have h2 := heap_alloc_new (w.alloc (.cells #[.int .u8 wh, .int .i64 (s : Int), .iface 61 V, .iface 61 U] 81)) (.cells #[.int .i64 (R : Int), .int .i64 (C : Int)] 45)
        rw [show (w.alloc (.cells #[.int .u8 wh, .int .i64 (s : Int), .iface 61 V, .iface 61 U] 81)).heap.size = w.heap.size + 1 by simp] at h2
        exact h2
      exact (h.block _ (Array.getElem?_eq_some_iff.1 h0).1).trans h0
    clear hW1 hB
    refine wp_region_chain4 (fun | 0 => .pointer (some ⟨B, 2, none⟩) | 1 => .pointer (some ⟨B, 2, none⟩) | 2 => .iface 61 V | 3 => .agg #[.int .u8 wh, .int .i64 (s : Int), .iface 61 V, .iface 61 U] | 4 => rect R C | 5 => rect oR oC | 6 => .iface 61 V | 7 => .iface 61 V | 9 => .pointer (some ⟨B, 2, none⟩) | 10 => .pointer (some ⟨B, 3, none⟩) | 11 => .iface 61 U | 12 => .agg #[.int .u8 wh, .int .i64 (s : Int), .iface 61 V, .iface 61 U] | 13 => rect R C | 14 => rect iR iC | 15 => .iface 61 U | 16 => .iface 61 U | _ => undef) (fun i => !(i == 8) && !(i == 17) && !(i == 18) && !(i == 19)) 8 17 18 19 13 22 23 4 _ _ _ _
      (fun w => Below W1.heap.size W1 w) (fun x w => Own W1 w 63 3 x LZ.length (cellsL LZ)) (fun x y w => Own W1 w 63 3 x LZ.length (cellsL LZ) ∧ Own W1 w 63 3 y LO.length (cellsL LO)) (fun y w => Own W1 w 63 3 y (LZ.length + LO.length) (cellsL LZ ++ cellsL LO)) (fun y w => Own W1 w 63 3 y (LZ.length + LO.length) (cellsL LZ ++ cellsL LO)) (fun w => Below W1.heap.size W1 w)
      (by kernel_rfl) (by kernel_rfl) rfl rfl rfl rfl rfl rfl rfl rfl rfl rfl (by decide) (by decide) (.inr ⟨14, _, rfl, ⟨⟨14, .chain⟩, (by simp), rfl, rfl⟩, ⟨8, .chain⟩, (by simp), rfl, rfl⟩) ⟨⟨17, .data⟩, (by simp), rfl, rfl⟩ ⟨⟨18, .data⟩, (by simp), rfl, rfl⟩ ?otLee ?h0Lee (fun w h => h) (fun v w h => h.below) (fun v u w h => h.1.below) (fun t w h => h.below) (fun t w h => h.below) (fun w w1 hb h => h.trans (hb.mono h.size)) (fun v w w1 hb h => h.later hb) (fun v u w w1 hb h => ⟨h.1.later hb, h.2.later hb⟩) (fun t w w1 hb h => h.later hb) (fun t w w1 hb h => h.later hb) ?conLee ?saLee ?sbLee ?scLee ?sdLee ?enLee
    case otLee =>
      intro i o ho hki
      match i, ho with
      | 0, ho =>
        obtain rfl := Option.some.inj ho
        exact ⟨by decide, by decide, by decide, by decide⟩
      | 1, ho =>
        obtain rfl := Option.some.inj ho
        exact ⟨by decide, by decide, by decide, by decide⟩
      | 2, ho =>
        obtain rfl := Option.some.inj ho
        exact ⟨by decide, by decide, by decide, by decide⟩
      | 3, ho =>
        obtain rfl := Option.some.inj ho
        exact ⟨by decide, by decide, by decide, by decide⟩
      | 4, ho =>
        obtain rfl := Option.some.inj ho
        exact ⟨by decide, by decide, by decide, by decide⟩
      | 5, ho =>
        obtain rfl := Option.some.inj ho
        exact ⟨by decide, by decide, by decide, by decide⟩
      | 6, ho =>
        obtain rfl := Option.some.inj ho
        exact ⟨by decide, by decide, by decide, by decide⟩
      | 7, ho =>
        obtain rfl := Option.some.inj ho
        exact ⟨by decide, by decide, by decide, by decide⟩
      | 8, ho => exact absurd hki (by decide)
      | 9, ho =>
        obtain rfl := Option.some.inj ho
        exact ⟨by decide, by decide, by decide, by decide⟩
      | 10, ho =>
        obtain rfl := Option.some.inj ho
        exact ⟨by decide, by decide, by decide, by decide⟩
      | 11, ho =>
        obtain rfl := Option.some.inj ho
        exact ⟨by decide, by decide, by decide, by decide⟩
      | 12, ho =>
        obtain rfl := Option.some.inj ho
        exact ⟨by decide, by decide, by decide, by decide⟩
      | 13, ho =>
        obtain rfl := Option.some.inj ho
        exact ⟨by decide, by decide, by decide, by decide⟩
      | 14, ho =>
        obtain rfl := Option.some.inj ho
        exact ⟨by decide, by decide, by decide, by decide⟩
      | 15, ho =>
        obtain rfl := Option.some.inj ho
        exact ⟨by decide, by decide, by decide, by decide⟩
      | 16, ho =>
        obtain rfl := Option.some.inj ho
        exact ⟨by decide, by decide, by decide, by decide⟩
      | 17, ho => exact absurd hki (by decide)
      | 18, ho => exact absurd hki (by decide)
      | 19, ho => exact absurd hki (by decide)
      | q + 20, ho => simp at ho
    case h0Lee => exact drew_at W1
    case conLee =>
      intro i o ho hki a wx hJ hf
      match i, ho with
      | 0, ho =>
        obtain rfl := Option.some.inj ho
        have b2 : a.tmps[2]?.getD undef = .pointer (some ⟨B, 0, none⟩) := hf.2 2 (by kernel_rfl)
        exact wp_value (.pointer (some ⟨B, 2, none⟩)) (by unfold execOp; go_simp) ⟨rfl, Below.refl _ _⟩
      | 1, ho =>
        obtain rfl := Option.some.inj ho
        have e5 : a.tmps[5]?.getD undef = .pointer (some ⟨B, 2, none⟩) := hf.1 ⟨0, .data⟩ (by simp) rfl _ 5 rfl rfl (by decide)
        exact wp_value (.pointer (some ⟨B, 2, none⟩)) (by unfold execOp; go_simp) ⟨rfl, Below.refl _ _⟩
      | 2, ho =>
        obtain rfl := Option.some.inj ho
        have e6 : a.tmps[6]?.getD undef = .pointer (some ⟨B, 2, none⟩) := hf.1 ⟨1, .data⟩ (by simp) rfl _ 6 rfl rfl (by decide)
        obtain ⟨c0, c1, c2, c3⟩ := cells4 (HM0.out wx hJ)
        exact wp_value (.iface 61 V) (by unfold execOp; go_simp) ⟨rfl, Below.refl _ _⟩
      | 3, ho =>
        obtain rfl := Option.some.inj ho
        have b2 : a.tmps[2]?.getD undef = .pointer (some ⟨B, 0, none⟩) := hf.2 2 (by kernel_rfl)
        exact wp_load_row 81 (.tmp 2) rfl (B) (eval_get b2) 81 _ (0, 0) _ (HM0.out wx hJ) Tryz.underlying81 rfl (info_say _ _ _ _) ⟨rfl, Below.refl _ _⟩
      | 4, ho =>
        obtain rfl := Option.some.inj ho
        have b3 : a.tmps[3]?.getD undef = .pointer (some ⟨B + 1, 0, none⟩) := hf.2 3 (by kernel_rfl)
        exact wp_load_row 45 (.tmp 3) rfl (B + 1) (eval_get b3) 45 _ (0, 0) _ (HN0.out wx hJ) Tryz.underlying45 rfl (info_rect _ _) ⟨rfl, Below.refl _ _⟩
      | 5, ho =>
        obtain rfl := Option.some.inj ho
        have e8 : a.tmps[8]?.getD undef = .agg #[.int .u8 wh, .int .i64 (s : Int), .iface 61 V, .iface 61 U] := hf.1 ⟨3, .data⟩ (by simp) rfl _ 8 rfl rfl (by decide)
        have e9 : a.tmps[9]?.getD undef = rect R C := hf.1 ⟨4, .data⟩ (by simp) rfl _ 9 rfl rfl (by decide)
        exact wp_enter 51 #[.agg #[.int .u8 wh, .int .i64 (s : Int), .iface 61 V, .iface 61 U], rect R C, .int .i64 0] (rect oR oC) _ (by unfold execOp; go_simp) (HPo.out _ _ _ _ wx) (fun w' h => ⟨rfl, h⟩)
      | 6, ho =>
        obtain rfl := Option.some.inj ho
        have e7 : a.tmps[7]?.getD undef = .iface 61 V := hf.1 ⟨2, .data⟩ (by simp) rfl _ 7 rfl rfl (by decide)
        exact wp_value (.iface 61 V) (by unfold execOp; go_simp) ⟨rfl, Below.refl _ _⟩
      | 7, ho =>
        obtain rfl := Option.some.inj ho
        have e7 : a.tmps[7]?.getD undef = .iface 61 V := hf.1 ⟨2, .data⟩ (by simp) rfl _ 7 rfl rfl (by decide)
        exact wp_value (.iface 61 V) (by unfold execOp; go_simp) ⟨rfl, Below.refl _ _⟩
      | 8, ho => exact absurd hki (by decide)
      | 9, ho =>
        obtain rfl := Option.some.inj ho
        have b2 : a.tmps[2]?.getD undef = .pointer (some ⟨B, 0, none⟩) := hf.2 2 (by kernel_rfl)
        exact wp_value (.pointer (some ⟨B, 2, none⟩)) (by unfold execOp; go_simp) ⟨rfl, Below.refl _ _⟩
      | 10, ho =>
        obtain rfl := Option.some.inj ho
        have e14 : a.tmps[14]?.getD undef = .pointer (some ⟨B, 2, none⟩) := hf.1 ⟨9, .data⟩ (by simp) rfl _ 14 rfl rfl (by decide)
        exact wp_value (.pointer (some ⟨B, 3, none⟩)) (by unfold execOp; go_simp) ⟨rfl, Below.refl _ _⟩
      | 11, ho =>
        obtain rfl := Option.some.inj ho
        have e15 : a.tmps[15]?.getD undef = .pointer (some ⟨B, 3, none⟩) := hf.1 ⟨10, .data⟩ (by simp) rfl _ 15 rfl rfl (by decide)
        obtain ⟨c0, c1, c2, c3⟩ := cells4 (HM0.out wx hJ)
        exact wp_value (.iface 61 U) (by unfold execOp; go_simp) ⟨rfl, Below.refl _ _⟩
      | 12, ho =>
        obtain rfl := Option.some.inj ho
        have b2 : a.tmps[2]?.getD undef = .pointer (some ⟨B, 0, none⟩) := hf.2 2 (by kernel_rfl)
        exact wp_load_row 81 (.tmp 2) rfl (B) (eval_get b2) 81 _ (0, 0) _ (HM0.out wx hJ) Tryz.underlying81 rfl (info_say _ _ _ _) ⟨rfl, Below.refl _ _⟩
      | 13, ho =>
        obtain rfl := Option.some.inj ho
        have b3 : a.tmps[3]?.getD undef = .pointer (some ⟨B + 1, 0, none⟩) := hf.2 3 (by kernel_rfl)
        exact wp_load_row 45 (.tmp 3) rfl (B + 1) (eval_get b3) 45 _ (0, 0) _ (HN0.out wx hJ) Tryz.underlying45 rfl (info_rect _ _) ⟨rfl, Below.refl _ _⟩
      | 14, ho =>
        obtain rfl := Option.some.inj ho
        have e17 : a.tmps[17]?.getD undef = .agg #[.int .u8 wh, .int .i64 (s : Int), .iface 61 V, .iface 61 U] := hf.1 ⟨12, .data⟩ (by simp) rfl _ 17 rfl rfl (by decide)
        have e18 : a.tmps[18]?.getD undef = rect R C := hf.1 ⟨13, .data⟩ (by simp) rfl _ 18 rfl rfl (by decide)
        exact wp_enter 51 #[.agg #[.int .u8 wh, .int .i64 (s : Int), .iface 61 V, .iface 61 U], rect R C, .int .i64 1] (rect iR iC) _ (by unfold execOp; go_simp) (HPi.out _ _ _ _ wx) (fun w' h => ⟨rfl, h⟩)
      | 15, ho =>
        obtain rfl := Option.some.inj ho
        have e16 : a.tmps[16]?.getD undef = .iface 61 U := hf.1 ⟨11, .data⟩ (by simp) rfl _ 16 rfl rfl (by decide)
        exact wp_value (.iface 61 U) (by unfold execOp; go_simp) ⟨rfl, Below.refl _ _⟩
      | 16, ho =>
        obtain rfl := Option.some.inj ho
        have e16 : a.tmps[16]?.getD undef = .iface 61 U := hf.1 ⟨11, .data⟩ (by simp) rfl _ 16 rfl rfl (by decide)
        exact wp_value (.iface 61 U) (by unfold execOp; go_simp) ⟨rfl, Below.refl _ _⟩
      | 17, ho => exact absurd hki (by decide)
      | 18, ho => exact absurd hki (by decide)
      | 19, ho => exact absurd hki (by decide)
      | q + 20, ho => simp at ho
    case saLee =>
      intro a wx hI hf
      have e12 : a.tmps[12]?.getD undef = .iface 61 V := hf.1 ⟨7, .data⟩ (by simp) rfl _ 12 rfl rfl (by decide)
      have e10 : a.tmps[10]?.getD undef = rect oR oC := hf.1 ⟨5, .data⟩ (by simp) rfl _ 10 rfl rfl (by decide)
      refine wp_enterR 118 #[V, rect oR oC] (by unfold execOp; go_simp; go_invoke; rfl) (HZ.out wx) ?_
      intro v' w' h1
      exact ⟨v', rfl, Leaf.Own.lower h1 hI⟩
    case sbLee =>
      intro a wx x hI hv hf
      have e21 : a.tmps[21]?.getD undef = .iface 61 U := hf.1 ⟨16, .data⟩ (by simp) rfl _ 21 rfl rfl (by decide)
      have e19 : a.tmps[19]?.getD undef = rect iR iC := hf.1 ⟨14, .data⟩ (by simp) rfl _ 19 rfl rfl (by decide)
      refine wp_enterR 118 #[U, rect iR iC] (by unfold execOp; go_simp; go_invoke; rfl) (HO.out wx) ?_
      intro v' w' h1
      exact ⟨v', rfl, hI.later h1.below, Leaf.Own.lower h1 hI.below⟩
    case scLee =>
      intro a wx x y hI hv hu hf
      refine wp_append_two (w0 := W1) (.tmp 13) (.tmp 22) 59 rfl 63 i0 (.agg #[.int .i64 0, .int .i64 0, .int .i64 0]) 3 24 Tryz.underlying59 hi hz0 hz1 hz2 rfl (by decide) x y LZ.length LO.length (cellsL LZ) (cellsL LO) (eval_get (get_some hv)) hI.1 (eval_get (get_some hu)) hI.2 LM.out O1.out (by omega) (by decide) ?_
      intro v' w' h1
      exact ⟨v', rfl, h1⟩
    case sdLee =>
      intro a wx y hI hv hf
      have e23 := get_some hv
      exact wp_value y (by unfold execOp; go_simp) ⟨y, rfl, hI⟩
    intro k1 k2 k3 res w9 hI
    have HF : Hid (Own w w9 63 3 res (LZ.length + LO.length) (cellsL LZ ++ cellsL LO)) := Leaf.Own.lower hI HWW.out
    clear hI HM0 HN0 HWW
    simp only [fill, Act.put]
    go_simp
    go_wp2_with fail
    go_ret
    exact ⟨res, rfl, by rw [HRes.out, List.length_append, cellsL_append]; exact HF.out⟩
  · have HZ := Lib.hid hz
    have HO := Lib.hid ho
    rw [ez, eo]
    clear ez eo hz ho
    go_enter Tryz.func127, Tryz.ntmps127
    go_wp2_with fail
    obtain ⟨W1, hW1⟩ : ∃ W1, (w.alloc (.cells #[.int .u8 wh, .int .i64 (s : Int), .iface 61 V, .iface 81 U] 81)).alloc (.cells #[.int .i64 (R : Int), .int .i64 (C : Int)] 45) = W1 := ⟨_, rfl⟩
    rw [hW1]
    have HWW : Hid (Below w.heap.size w W1) := by
      have h0 : Below w.heap.size w (w.alloc (.cells #[.int .u8 wh, .int .i64 (s : Int), .iface 61 V, .iface 81 U] 81)) := (Below.refl _ _).alloc (Nat.le_refl _) _
      show Below _ _ _; rw [← hW1]; exact h0.alloc h0.size _
    have HM0 : Hid (∀ wx : World, Below W1.heap.size W1 wx → wx.heap[B]? = some (.cells #[.int .u8 wh, .int .i64 (s : Int), .iface 61 V, .iface 81 U] 81 (0, 0))) := fun wx h => by
      have h1 : (w.alloc (.cells #[.int .u8 wh, .int .i64 (s : Int), .iface 61 V, .iface 81 U] 81)).heap[w.heap.size]? = some (.cells #[.int .u8 wh, .int .i64 (s : Int), .iface 61 V, .iface 81 U] 81 (0, 0)) := heap_alloc_new w _
      have h0 : W1.heap[B]? = some (.cells #[.int .u8 wh, .int .i64 (s : Int), .iface 61 V, .iface 81 U] 81 (0, 0)) := by rw [← hW1, ← HBB.out]; rw [heap_alloc_old _ _ (Array.getElem?_eq_some_iff.1 h1).1]; exact h1
      exact (h.block _ (Array.getElem?_eq_some_iff.1 h0).1).trans h0
    have HN0 : Hid (∀ wx : World, Below W1.heap.size W1 wx → wx.heap[B + 1]? = some (.cells #[.int .i64 (R : Int), .int .i64 (C : Int)] 45 (0, 0))) := fun wx h => by
      have h0 : W1.heap[B + 1]? = some (.cells #[.int .i64 (R : Int), .int .i64 (C : Int)] 45 (0, 0)) := by
        rw [← hW1, ← HBB.out]
        have h2 := heap_alloc_new (w.alloc (.cells #[.int .u8 wh, .int .i64 (s : Int), .iface 61 V, .iface 81 U] 81)) (.cells #[.int .i64 (R : Int), .int .i64 (C : Int)] 45)
        rw [show (w.alloc (.cells #[.int .u8 wh, .int .i64 (s : Int), .iface 61 V, .iface 81 U] 81)).heap.size = w.heap.size + 1 by simp] at h2
        exact h2
      exact (h.block _ (Array.getElem?_eq_some_iff.1 h0).1).trans h0
    clear hW1 hB
    refine wp_region_chain4 (fun | 0 => .pointer (some ⟨B, 2, none⟩) | 1 => .pointer (some ⟨B, 2, none⟩) | 2 => .iface 61 V | 3 => .agg #[.int .u8 wh, .int .i64 (s : Int), .iface 61 V, .iface 81 U] | 4 => rect R C | 5 => rect oR oC | 6 => .iface 61 V | 7 => .iface 61 V | 9 => .pointer (some ⟨B, 2, none⟩) | 10 => .pointer (some ⟨B, 3, none⟩) | 11 => .iface 81 U | 12 => .agg #[.int .u8 wh, .int .i64 (s : Int), .iface 61 V, .iface 81 U] | 13 => rect R C | 14 => rect iR iC | 15 => .iface 81 U | 16 => .iface 81 U | _ => undef) (fun i => !(i == 8) && !(i == 17) && !(i == 18) && !(i == 19)) 8 17 18 19 13 22 23 4 _ _ _ _
      (fun w => Below W1.heap.size W1 w) (fun x w => Own W1 w 63 3 x LZ.length (cellsL LZ)) (fun x y w => Own W1 w 63 3 x LZ.length (cellsL LZ) ∧ Own W1 w 63 3 y LO.length (cellsL LO)) (fun y w => Own W1 w 63 3 y (LZ.length + LO.length) (cellsL LZ ++ cellsL LO)) (fun y w => Own W1 w 63 3 y (LZ.length + LO.length) (cellsL LZ ++ cellsL LO)) (fun w => Below W1.heap.size W1 w)
      (by kernel_rfl) (by kernel_rfl) rfl rfl rfl rfl rfl rfl rfl rfl rfl rfl (by decide) (by decide) (.inr ⟨14, _, rfl, ⟨⟨14, .chain⟩, (by simp), rfl, rfl⟩, ⟨8, .chain⟩, (by simp), rfl, rfl⟩) ⟨⟨17, .data⟩, (by simp), rfl, rfl⟩ ⟨⟨18, .data⟩, (by simp), rfl, rfl⟩ ?otLes ?h0Les (fun w h => h) (fun v w h => h.below) (fun v u w h => h.1.below) (fun t w h => h.below) (fun t w h => h.below) (fun w w1 hb h => h.trans (hb.mono h.size)) (fun v w w1 hb h => h.later hb) (fun v u w w1 hb h => ⟨h.1.later hb, h.2.later hb⟩) (fun t w w1 hb h => h.later hb) (fun t w w1 hb h => h.later hb) ?conLes ?saLes ?sbLes ?scLes ?sdLes ?enLes
    case otLes =>
      intro i o ho hki
      match i, ho with
      | 0, ho =>
        obtain rfl := Option.some.inj ho
        exact ⟨by decide, by decide, by decide, by decide⟩
      | 1, ho =>
        obtain rfl := Option.some.inj ho
        exact ⟨by decide, by decide, by decide, by decide⟩
      | 2, ho =>
        obtain rfl := Option.some.inj ho
        exact ⟨by decide, by decide, by decide, by decide⟩
      | 3, ho =>
        obtain rfl := Option.some.inj ho
        exact ⟨by decide, by decide, by decide, by decide⟩
      | 4, ho =>
        obtain rfl := Option.some.inj ho
        exact ⟨by decide, by decide, by decide, by decide⟩
      | 5, ho =>
        obtain rfl := Option.some.inj ho
        exact ⟨by decide, by decide, by decide, by decide⟩
      | 6, ho =>
        obtain rfl := Option.some.inj ho
        exact ⟨by decide, by decide, by decide, by decide⟩
      | 7, ho =>
        obtain rfl := Option.some.inj ho
        exact ⟨by decide, by decide, by decide, by decide⟩
      | 8, ho => exact absurd hki (by decide)
      | 9, ho =>
        obtain rfl := Option.some.inj ho
        exact ⟨by decide, by decide, by decide, by decide⟩
      | 10, ho =>
        obtain rfl := Option.some.inj ho
        exact ⟨by decide, by decide, by decide, by decide⟩
      | 11, ho =>
        obtain rfl := Option.some.inj ho
        exact ⟨by decide, by decide, by decide, by decide⟩
      | 12, ho =>
        obtain rfl := Option.some.inj ho
        exact ⟨by decide, by decide, by decide, by decide⟩
      | 13, ho =>
        obtain rfl := Option.some.inj ho
        exact ⟨by decide, by decide, by decide, by decide⟩
      | 14, ho =>
        obtain rfl := Option.some.inj ho
        exact ⟨by decide, by decide, by decide, by decide⟩
      | 15, ho =>
        obtain rfl := Option.some.inj ho
        exact ⟨by decide, by decide, by decide, by decide⟩
      | 16, ho =>
        obtain rfl := Option.some.inj ho
        exact ⟨by decide, by decide, by decide, by decide⟩
      | 17, ho => exact absurd hki (by decide)
      | 18, ho => exact absurd hki (by decide)
      | 19, ho => exact absurd hki (by decide)
      | q + 20, ho => simp at ho
    case h0Les => exact drew_at W1
    case conLes =>
      intro i o ho hki a wx hJ hf
      match i, ho with
      | 0, ho =>
        obtain rfl := Option.some.inj ho
        have b2 : a.tmps[2]?.getD undef = .pointer (some ⟨B, 0, none⟩) := hf.2 2 (by kernel_rfl)
        exact wp_value (.pointer (some ⟨B, 2, none⟩)) (by unfold execOp; go_simp) ⟨rfl, Below.refl _ _⟩
      | 1, ho =>
        obtain rfl := Option.some.inj ho
        have e5 : a.tmps[5]?.getD undef = .pointer (some ⟨B, 2, none⟩) := hf.1 ⟨0, .data⟩ (by simp) rfl _ 5 rfl rfl (by decide)
        exact wp_value (.pointer (some ⟨B, 2, none⟩)) (by unfold execOp; go_simp) ⟨rfl, Below.refl _ _⟩
      | 2, ho =>
        obtain rfl := Option.some.inj ho
        have e6 : a.tmps[6]?.getD undef = .pointer (some ⟨B, 2, none⟩) := hf.1 ⟨1, .data⟩ (by simp) rfl _ 6 rfl rfl (by decide)
        obtain ⟨c0, c1, c2, c3⟩ := cells4 (HM0.out wx hJ)
        exact wp_value (.iface 61 V) (by unfold execOp; go_simp) ⟨rfl, Below.refl _ _⟩
      | 3, ho =>
        obtain rfl := Option.some.inj ho
        have b2 : a.tmps[2]?.getD undef = .pointer (some ⟨B, 0, none⟩) := hf.2 2 (by kernel_rfl)
        exact wp_load_row 81 (.tmp 2) rfl (B) (eval_get b2) 81 _ (0, 0) _ (HM0.out wx hJ) Tryz.underlying81 rfl (info_say _ _ _ _) ⟨rfl, Below.refl _ _⟩
      | 4, ho =>
        obtain rfl := Option.some.inj ho
        have b3 : a.tmps[3]?.getD undef = .pointer (some ⟨B + 1, 0, none⟩) := hf.2 3 (by kernel_rfl)
        exact wp_load_row 45 (.tmp 3) rfl (B + 1) (eval_get b3) 45 _ (0, 0) _ (HN0.out wx hJ) Tryz.underlying45 rfl (info_rect _ _) ⟨rfl, Below.refl _ _⟩
      | 5, ho =>
        obtain rfl := Option.some.inj ho
        have e8 : a.tmps[8]?.getD undef = .agg #[.int .u8 wh, .int .i64 (s : Int), .iface 61 V, .iface 81 U] := hf.1 ⟨3, .data⟩ (by simp) rfl _ 8 rfl rfl (by decide)
        have e9 : a.tmps[9]?.getD undef = rect R C := hf.1 ⟨4, .data⟩ (by simp) rfl _ 9 rfl rfl (by decide)
        exact wp_enter 51 #[.agg #[.int .u8 wh, .int .i64 (s : Int), .iface 61 V, .iface 81 U], rect R C, .int .i64 0] (rect oR oC) _ (by unfold execOp; go_simp) (HPo.out _ _ _ _ wx) (fun w' h => ⟨rfl, h⟩)
      | 6, ho =>
        obtain rfl := Option.some.inj ho
        have e7 : a.tmps[7]?.getD undef = .iface 61 V := hf.1 ⟨2, .data⟩ (by simp) rfl _ 7 rfl rfl (by decide)
        exact wp_value (.iface 61 V) (by unfold execOp; go_simp) ⟨rfl, Below.refl _ _⟩
      | 7, ho =>
        obtain rfl := Option.some.inj ho
        have e7 : a.tmps[7]?.getD undef = .iface 61 V := hf.1 ⟨2, .data⟩ (by simp) rfl _ 7 rfl rfl (by decide)
        exact wp_value (.iface 61 V) (by unfold execOp; go_simp) ⟨rfl, Below.refl _ _⟩
      | 8, ho => exact absurd hki (by decide)
      | 9, ho =>
        obtain rfl := Option.some.inj ho
        have b2 : a.tmps[2]?.getD undef = .pointer (some ⟨B, 0, none⟩) := hf.2 2 (by kernel_rfl)
        exact wp_value (.pointer (some ⟨B, 2, none⟩)) (by unfold execOp; go_simp) ⟨rfl, Below.refl _ _⟩
      | 10, ho =>
        obtain rfl := Option.some.inj ho
        have e14 : a.tmps[14]?.getD undef = .pointer (some ⟨B, 2, none⟩) := hf.1 ⟨9, .data⟩ (by simp) rfl _ 14 rfl rfl (by decide)
        exact wp_value (.pointer (some ⟨B, 3, none⟩)) (by unfold execOp; go_simp) ⟨rfl, Below.refl _ _⟩
      | 11, ho =>
        obtain rfl := Option.some.inj ho
        have e15 : a.tmps[15]?.getD undef = .pointer (some ⟨B, 3, none⟩) := hf.1 ⟨10, .data⟩ (by simp) rfl _ 15 rfl rfl (by decide)
        obtain ⟨c0, c1, c2, c3⟩ := cells4 (HM0.out wx hJ)
        exact wp_value (.iface 81 U) (by unfold execOp; go_simp) ⟨rfl, Below.refl _ _⟩
      | 12, ho =>
        obtain rfl := Option.some.inj ho
        have b2 : a.tmps[2]?.getD undef = .pointer (some ⟨B, 0, none⟩) := hf.2 2 (by kernel_rfl)
        exact wp_load_row 81 (.tmp 2) rfl (B) (eval_get b2) 81 _ (0, 0) _ (HM0.out wx hJ) Tryz.underlying81 rfl (info_say _ _ _ _) ⟨rfl, Below.refl _ _⟩
      | 13, ho =>
        obtain rfl := Option.some.inj ho
        have b3 : a.tmps[3]?.getD undef = .pointer (some ⟨B + 1, 0, none⟩) := hf.2 3 (by kernel_rfl)
        exact wp_load_row 45 (.tmp 3) rfl (B + 1) (eval_get b3) 45 _ (0, 0) _ (HN0.out wx hJ) Tryz.underlying45 rfl (info_rect _ _) ⟨rfl, Below.refl _ _⟩
      | 14, ho =>
        obtain rfl := Option.some.inj ho
        have e17 : a.tmps[17]?.getD undef = .agg #[.int .u8 wh, .int .i64 (s : Int), .iface 61 V, .iface 81 U] := hf.1 ⟨12, .data⟩ (by simp) rfl _ 17 rfl rfl (by decide)
        have e18 : a.tmps[18]?.getD undef = rect R C := hf.1 ⟨13, .data⟩ (by simp) rfl _ 18 rfl rfl (by decide)
        exact wp_enter 51 #[.agg #[.int .u8 wh, .int .i64 (s : Int), .iface 61 V, .iface 81 U], rect R C, .int .i64 1] (rect iR iC) _ (by unfold execOp; go_simp) (HPi.out _ _ _ _ wx) (fun w' h => ⟨rfl, h⟩)
      | 15, ho =>
        obtain rfl := Option.some.inj ho
        have e16 : a.tmps[16]?.getD undef = .iface 81 U := hf.1 ⟨11, .data⟩ (by simp) rfl _ 16 rfl rfl (by decide)
        exact wp_value (.iface 81 U) (by unfold execOp; go_simp) ⟨rfl, Below.refl _ _⟩
      | 16, ho =>
        obtain rfl := Option.some.inj ho
        have e16 : a.tmps[16]?.getD undef = .iface 81 U := hf.1 ⟨11, .data⟩ (by simp) rfl _ 16 rfl rfl (by decide)
        exact wp_value (.iface 81 U) (by unfold execOp; go_simp) ⟨rfl, Below.refl _ _⟩
      | 17, ho => exact absurd hki (by decide)
      | 18, ho => exact absurd hki (by decide)
      | 19, ho => exact absurd hki (by decide)
      | q + 20, ho => simp at ho
    case saLes =>
      intro a wx hI hf
      have e12 : a.tmps[12]?.getD undef = .iface 61 V := hf.1 ⟨7, .data⟩ (by simp) rfl _ 12 rfl rfl (by decide)
      have e10 : a.tmps[10]?.getD undef = rect oR oC := hf.1 ⟨5, .data⟩ (by simp) rfl _ 10 rfl rfl (by decide)
      refine wp_enterR 118 #[V, rect oR oC] (by unfold execOp; go_simp; go_invoke; rfl) (HZ.out wx) ?_
      intro v' w' h1
      exact ⟨v', rfl, Leaf.Own.lower h1 hI⟩
    case sbLes =>
      intro a wx x hI hv hf
      have e21 : a.tmps[21]?.getD undef = .iface 81 U := hf.1 ⟨16, .data⟩ (by simp) rfl _ 21 rfl rfl (by decide)
      have e19 : a.tmps[19]?.getD undef = rect iR iC := hf.1 ⟨14, .data⟩ (by simp) rfl _ 19 rfl rfl (by decide)
      refine wp_enterR 127 #[U, rect iR iC] (by unfold execOp; go_simp; go_invoke; rfl) (HO.out wx) ?_
      intro v' w' h1
      exact ⟨v', rfl, hI.later h1.below, Leaf.Own.lower h1 hI.below⟩
    case scLes =>
      intro a wx x y hI hv hu hf
      refine wp_append_two (w0 := W1) (.tmp 13) (.tmp 22) 59 rfl 63 i0 (.agg #[.int .i64 0, .int .i64 0, .int .i64 0]) 3 24 Tryz.underlying59 hi hz0 hz1 hz2 rfl (by decide) x y LZ.length LO.length (cellsL LZ) (cellsL LO) (eval_get (get_some hv)) hI.1 (eval_get (get_some hu)) hI.2 LM.out O1.out (by omega) (by decide) ?_
      intro v' w' h1
      exact ⟨v', rfl, h1⟩
    case sdLes =>
      intro a wx y hI hv hf
      have e23 := get_some hv
      exact wp_value y (by unfold execOp; go_simp) ⟨y, rfl, hI⟩
    intro k1 k2 k3 res w9 hI
    have HF : Hid (Own w w9 63 3 res (LZ.length + LO.length) (cellsL LZ ++ cellsL LO)) := Leaf.Own.lower hI HWW.out
    clear hI HM0 HN0 HWW
    simp only [fill, Act.put]
    go_simp
    go_wp2_with fail
    go_ret
    exact ⟨res, rfl, by rw [HRes.out, List.length_append, cellsL_append]; exact HF.out⟩
  · have HZ := Lib.hid hz
    have HO := Lib.hid ho
    rw [ez, eo]
    clear ez eo hz ho
    go_enter Tryz.func127, Tryz.ntmps127
    go_wp2_with fail
    obtain ⟨W1, hW1⟩ : ∃ W1, (w.alloc (.cells #[.int .u8 wh, .int .i64 (s : Int), .iface 81 V, .iface 61 U] 81)).alloc (.cells #[.int .i64 (R : Int), .int .i64 (C : Int)] 45) = W1 := ⟨_, rfl⟩
    rw [hW1]
    have HWW : Hid (Below w.heap.size w W1) := by
      have h0 : Below w.heap.size w (w.alloc (.cells #[.int .u8 wh, .int .i64 (s : Int), .iface 81 V, .iface 61 U] 81)) := (Below.refl _ _).alloc (Nat.le_refl _) _
      show Below _ _ _; rw [← hW1]; exact h0.alloc h0.size _
    have HM0 : Hid (∀ wx : World, Below W1.heap.size W1 wx → wx.heap[B]? = some (.cells #[.int .u8 wh, .int .i64 (s : Int), .iface 81 V, .iface 61 U] 81 (0, 0))) := fun wx h => by
      have h1 : (w.alloc (.cells #[.int .u8 wh, .int .i64 (s : Int), .iface 81 V, .iface 61 U] 81)).heap[w.heap.size]? = some (.cells #[.int .u8 wh, .int .i64 (s : Int), .iface 81 V, .iface 61 U] 81 (0, 0)) := heap_alloc_new w _
      have h0 : W1.heap[B]? = some (.cells #[.int .u8 wh, .int .i64 (s : Int), .iface 81 V, .iface 61 U] 81 (0, 0)) := by rw [← hW1, ← HBB.out]; rw [heap_alloc_old _ _ (Array.getElem?_eq_some_iff.1 h1).1]; exact h1
      exact (h.block _ (Array.getElem?_eq_some_iff.1 h0).1).trans h0
    have HN0 : Hid (∀ wx : World, Below W1.heap.size W1 wx → wx.heap[B + 1]? = some (.cells #[.int .i64 (R : Int), .int .i64 (C : Int)] 45 (0, 0))) := fun wx h => by
      have h0 : W1.heap[B + 1]? = some (.cells #[.int .i64 (R : Int), .int .i64 (C : Int)] 45 (0, 0)) := by
        rw [← hW1, ← HBB.out]
        have h2 := heap_alloc_new (w.alloc (.cells #[.int .u8 wh, .int .i64 (s : Int), .iface 81 V, .iface 61 U] 81)) (.cells #[.int .i64 (R : Int), .int .i64 (C : Int)] 45)
        rw [show (w.alloc (.cells #[.int .u8 wh, .int .i64 (s : Int), .iface 81 V, .iface 61 U] 81)).heap.size = w.heap.size + 1 by simp] at h2
        exact h2
      exact (h.block _ (Array.getElem?_eq_some_iff.1 h0).1).trans h0
    clear hW1 hB
    refine wp_region_chain4 (fun | 0 => .pointer (some ⟨B, 2, none⟩) | 1 => .pointer (some ⟨B, 2, none⟩) | 2 => .iface 81 V | 3 => .agg #[.int .u8 wh, .int .i64 (s : Int), .iface 81 V, .iface 61 U] | 4 => rect R C | 5 => rect oR oC | 6 => .iface 81 V | 7 => .iface 81 V | 9 => .pointer (some ⟨B, 2, none⟩) | 10 => .pointer (some ⟨B, 3, none⟩) | 11 => .iface 61 U | 12 => .agg #[.int .u8 wh, .int .i64 (s : Int), .iface 81 V, .iface 61 U] | 13 => rect R C | 14 => rect iR iC | 15 => .iface 61 U | 16 => .iface 61 U | _ => undef) (fun i => !(i == 8) && !(i == 17) && !(i == 18) && !(i == 19)) 8 17 18 19 13 22 23 4 _ _ _ _
      (fun w => Below W1.heap.size W1 w) (fun x w => Own W1 w 63 3 x LZ.length (cellsL LZ)) (fun x y w => Own W1 w 63 3 x LZ.length (cellsL LZ) ∧ Own W1 w 63 3 y LO.length (cellsL LO)) (fun y w => Own W1 w 63 3 y (LZ.length + LO.length) (cellsL LZ ++ cellsL LO)) (fun y w => Own W1 w 63 3 y (LZ.length + LO.length) (cellsL LZ ++ cellsL LO)) (fun w => Below W1.heap.size W1 w)
      (by kernel_rfl) (by kernel_rfl) rfl rfl rfl rfl rfl rfl rfl rfl rfl rfl (by decide) (by decide) (.inr ⟨14, _, rfl, ⟨⟨14, .chain⟩, (by simp), rfl, rfl⟩, ⟨8, .chain⟩, (by simp), rfl, rfl⟩) ⟨⟨17, .data⟩, (by simp), rfl, rfl⟩ ⟨⟨18, .data⟩, (by simp), rfl, rfl⟩ ?otLse ?h0Lse (fun w h => h) (fun v w h => h.below) (fun v u w h => h.1.below) (fun t w h => h.below) (fun t w h => h.below) (fun w w1 hb h => h.trans (hb.mono h.size)) (fun v w w1 hb h => h.later hb) (fun v u w w1 hb h => ⟨h.1.later hb, h.2.later hb⟩) (fun t w w1 hb h => h.later hb) (fun t w w1 hb h => h.later hb) ?conLse ?saLse ?sbLse ?scLse ?sdLse ?enLse
    case otLse =>
      intro i o ho hki
      match i, ho with
      | 0, ho =>
        obtain rfl := Option.some.inj ho
        exact ⟨by decide, by decide, by decide, by decide⟩
      | 1, ho =>
        obtain rfl := Option.some.inj ho
        exact ⟨by decide, by decide, by decide, by decide⟩
      | 2, ho =>
        obtain rfl := Option.some.inj ho
        exact ⟨by decide, by decide, by decide, by decide⟩
      | 3, ho =>
        obtain rfl := Option.some.inj ho
        exact ⟨by decide, by decide, by decide, by decide⟩
      | 4, ho =>
        obtain rfl := Option.some.inj ho
        exact ⟨by decide, by decide, by decide, by decide⟩
      | 5, ho =>
        obtain rfl := Option.some.inj ho
        exact ⟨by decide, by decide, by decide, by decide⟩
      | 6, ho =>
        obtain rfl := Option.some.inj ho
        exact ⟨by decide, by decide, by decide, by decide⟩
      | 7, ho =>
        obtain rfl := Option.some.inj ho
        exact ⟨by decide, by decide, by decide, by decide⟩
      | 8, ho => exact absurd hki (by decide)
      | 9, ho =>
        obtain rfl := Option.some.inj ho
        exact ⟨by decide, by decide, by decide, by decide⟩
      | 10, ho =>
        obtain rfl := Option.some.inj ho
        exact ⟨by decide, by decide, by decide, by decide⟩
      | 11, ho =>
        obtain rfl := Option.some.inj ho
        exact ⟨by decide, by decide, by decide, by decide⟩
      | 12, ho =>
        obtain rfl := Option.some.inj ho
        exact ⟨by decide, by decide, by decide, by decide⟩
      | 13, ho =>
        obtain rfl := Option.some.inj ho
        exact ⟨by decide, by decide, by decide, by decide⟩
      | 14, ho =>
        obtain rfl := Option.some.inj ho
        exact ⟨by decide, by decide, by decide, by decide⟩
      | 15, ho =>
        obtain rfl := Option.some.inj ho
        exact ⟨by decide, by decide, by decide, by decide⟩
      | 16, ho =>
        obtain rfl := Option.some.inj ho
        exact ⟨by decide, by decide, by decide, by decide⟩
      | 17, ho => exact absurd hki (by decide)
      | 18, ho => exact absurd hki (by decide)
      | 19, ho => exact absurd hki (by decide)
      | q + 20, ho => simp at ho
    case h0Lse => exact drew_at W1
    case conLse =>
      intro i o ho hki a wx hJ hf
      match i, ho with
      | 0, ho =>
        obtain rfl := Option.some.inj ho
        have b2 : a.tmps[2]?.getD undef = .pointer (some ⟨B, 0, none⟩) := hf.2 2 (by kernel_rfl)
        exact wp_value (.pointer (some ⟨B, 2, none⟩)) (by unfold execOp; go_simp) ⟨rfl, Below.refl _ _⟩
      | 1, ho =>
        obtain rfl := Option.some.inj ho
        have e5 : a.tmps[5]?.getD undef = .pointer (some ⟨B, 2, none⟩) := hf.1 ⟨0, .data⟩ (by simp) rfl _ 5 rfl rfl (by decide)
        exact wp_value (.pointer (some ⟨B, 2, none⟩)) (by unfold execOp; go_simp) ⟨rfl, Below.refl _ _⟩
      | 2, ho =>
        obtain rfl := Option.some.inj ho
        have e6 : a.tmps[6]?.getD undef = .pointer (some ⟨B, 2, none⟩) := hf.1 ⟨1, .data⟩ (by simp) rfl _ 6 rfl rfl (by decide)
        obtain ⟨c0, c1, c2, c3⟩ := cells4 (HM0.out wx hJ)
        exact wp_value (.iface 81 V) (by unfold execOp; go_simp) ⟨rfl, Below.refl _ _⟩
      | 3, ho =>
        obtain rfl := Option.some.inj ho
        have b2 : a.tmps[2]?.getD undef = .pointer (some ⟨B, 0, none⟩) := hf.2 2 (by kernel_rfl)
        exact wp_load_row 81 (.tmp 2) rfl (B) (eval_get b2) 81 _ (0, 0) _ (HM0.out wx hJ) Tryz.underlying81 rfl (info_say _ _ _ _) ⟨rfl, Below.refl _ _⟩
      | 4, ho =>
        obtain rfl := Option.some.inj ho
        have b3 : a.tmps[3]?.getD undef = .pointer (some ⟨B + 1, 0, none⟩) := hf.2 3 (by kernel_rfl)
        exact wp_load_row 45 (.tmp 3) rfl (B + 1) (eval_get b3) 45 _ (0, 0) _ (HN0.out wx hJ) Tryz.underlying45 rfl (info_rect _ _) ⟨rfl, Below.refl _ _⟩
      | 5, ho =>
        obtain rfl := Option.some.inj ho
        have e8 : a.tmps[8]?.getD undef = .agg #[.int .u8 wh, .int .i64 (s : Int), .iface 81 V, .iface 61 U] := hf.1 ⟨3, .data⟩ (by simp) rfl _ 8 rfl rfl (by decide)
        have e9 : a.tmps[9]?.getD undef = rect R C := hf.1 ⟨4, .data⟩ (by simp) rfl _ 9 rfl rfl (by decide)
        exact wp_enter 51 #[.agg #[.int .u8 wh, .int .i64 (s : Int), .iface 81 V, .iface 61 U], rect R C, .int .i64 0] (rect oR oC) _ (by unfold execOp; go_simp) (HPo.out _ _ _ _ wx) (fun w' h => ⟨rfl, h⟩)
      | 6, ho =>
        obtain rfl := Option.some.inj ho
        have e7 : a.tmps[7]?.getD undef = .iface 81 V := hf.1 ⟨2, .data⟩ (by simp) rfl _ 7 rfl rfl (by decide)
        exact wp_value (.iface 81 V) (by unfold execOp; go_simp) ⟨rfl, Below.refl _ _⟩
      | 7, ho =>
        obtain rfl := Option.some.inj ho
        have e7 : a.tmps[7]?.getD undef = .iface 81 V := hf.1 ⟨2, .data⟩ (by simp) rfl _ 7 rfl rfl (by decide)
        exact wp_value (.iface 81 V) (by unfold execOp; go_simp) ⟨rfl, Below.refl _ _⟩
      | 8, ho => exact absurd hki (by decide)
      | 9, ho =>
        obtain rfl := Option.some.inj ho
        have b2 : a.tmps[2]?.getD undef = .pointer (some ⟨B, 0, none⟩) := hf.2 2 (by kernel_rfl)
        exact wp_value (.pointer (some ⟨B, 2, none⟩)) (by unfold execOp; go_simp) ⟨rfl, Below.refl _ _⟩
      | 10, ho =>
        obtain rfl := Option.some.inj ho
        have e14 : a.tmps[14]?.getD undef = .pointer (some ⟨B, 2, none⟩) := hf.1 ⟨9, .data⟩ (by simp) rfl _ 14 rfl rfl (by decide)
        exact wp_value (.pointer (some ⟨B, 3, none⟩)) (by unfold execOp; go_simp) ⟨rfl, Below.refl _ _⟩
      | 11, ho =>
        obtain rfl := Option.some.inj ho
        have e15 : a.tmps[15]?.getD undef = .pointer (some ⟨B, 3, none⟩) := hf.1 ⟨10, .data⟩ (by simp) rfl _ 15 rfl rfl (by decide)
        obtain ⟨c0, c1, c2, c3⟩ := cells4 (HM0.out wx hJ)
        exact wp_value (.iface 61 U) (by unfold execOp; go_simp) ⟨rfl, Below.refl _ _⟩
      | 12, ho =>
        obtain rfl := Option.some.inj ho
        have b2 : a.tmps[2]?.getD undef = .pointer (some ⟨B, 0, none⟩) := hf.2 2 (by kernel_rfl)
        exact wp_load_row 81 (.tmp 2) rfl (B) (eval_get b2) 81 _ (0, 0) _ (HM0.out wx hJ) Tryz.underlying81 rfl (info_say _ _ _ _) ⟨rfl, Below.refl _ _⟩
      | 13, ho =>
        obtain rfl := Option.some.inj ho
        have b3 : a.tmps[3]?.getD undef = .pointer (some ⟨B + 1, 0, none⟩) := hf.2 3 (by kernel_rfl)
        exact wp_load_row 45 (.tmp 3) rfl (B + 1) (eval_get b3) 45 _ (0, 0) _ (HN0.out wx hJ) Tryz.underlying45 rfl (info_rect _ _) ⟨rfl, Below.refl _ _⟩
      | 14, ho =>
        obtain rfl := Option.some.inj ho
        have e17 : a.tmps[17]?.getD undef = .agg #[.int .u8 wh, .int .i64 (s : Int), .iface 81 V, .iface 61 U] := hf.1 ⟨12, .data⟩ (by simp) rfl _ 17 rfl rfl (by decide)
        have e18 : a.tmps[18]?.getD undef = rect R C := hf.1 ⟨13, .data⟩ (by simp) rfl _ 18 rfl rfl (by decide)
        exact wp_enter 51 #[.agg #[.int .u8 wh, .int .i64 (s : Int), .iface 81 V, .iface 61 U], rect R C, .int .i64 1] (rect iR iC) _ (by unfold execOp; go_simp) (HPi.out _ _ _ _ wx) (fun w' h => ⟨rfl, h⟩)
      | 15, ho =>
        obtain rfl := Option.some.inj ho
        have e16 : a.tmps[16]?.getD undef = .iface 61 U := hf.1 ⟨11, .data⟩ (by simp) rfl _ 16 rfl rfl (by decide)
        exact wp_value (.iface 61 U) (by unfold execOp; go_simp) ⟨rfl, Below.refl _ _⟩
      | 16, ho =>
        obtain rfl := Option.some.inj ho
        have e16 : a.tmps[16]?.getD undef = .iface 61 U := hf.1 ⟨11, .data⟩ (by simp) rfl _ 16 rfl rfl (by decide)
        exact wp_value (.iface 61 U) (by unfold execOp; go_simp) ⟨rfl, Below.refl _ _⟩
      | 17, ho => exact absurd hki (by decide)
      | 18, ho => exact absurd hki (by decide)
      | 19, ho => exact absurd hki (by decide)
      | q + 20, ho => simp at ho
    case saLse =>
      intro a wx hI hf
      have e12 : a.tmps[12]?.getD undef = .iface 81 V := hf.1 ⟨7, .data⟩ (by simp) rfl _ 12 rfl rfl (by decide)
      have e10 : a.tmps[10]?.getD undef = rect oR oC := hf.1 ⟨5, .data⟩ (by simp) rfl _ 10 rfl rfl (by decide)
      refine wp_enterR 127 #[V, rect oR oC] (by unfold execOp; go_simp; go_invoke; rfl) (HZ.out wx) ?_
      intro v' w' h1
      exact ⟨v', rfl, Leaf.Own.lower h1 hI⟩
    case sbLse =>
      intro a wx x hI hv hf
      have e21 : a.tmps[21]?.getD undef = .iface 61 U := hf.1 ⟨16, .data⟩ (by simp) rfl _ 21 rfl rfl (by decide)
      have e19 : a.tmps[19]?.getD undef = rect iR iC := hf.1 ⟨14, .data⟩ (by simp) rfl _ 19 rfl rfl (by decide)
      refine wp_enterR 118 #[U, rect iR iC] (by unfold execOp; go_simp; go_invoke; rfl) (HO.out wx) ?_
      intro v' w' h1
      exact ⟨v', rfl, hI.later h1.below, Leaf.Own.lower h1 hI.below⟩
    case scLse =>
      intro a wx x y hI hv hu hf
      refine wp_append_two (w0 := W1) (.tmp 13) (.tmp 22) 59 rfl 63 i0 (.agg #[.int .i64 0, .int .i64 0, .int .i64 0]) 3 24 Tryz.underlying59 hi hz0 hz1 hz2 rfl (by decide) x y LZ.length LO.length (cellsL LZ) (cellsL LO) (eval_get (get_some hv)) hI.1 (eval_get (get_some hu)) hI.2 LM.out O1.out (by omega) (by decide) ?_
      intro v' w' h1
      exact ⟨v', rfl, h1⟩
    case sdLse =>
      intro a wx y hI hv hf
      have e23 := get_some hv
      exact wp_value y (by unfold execOp; go_simp) ⟨y, rfl, hI⟩
    intro k1 k2 k3 res w9 hI
    have HF : Hid (Own w w9 63 3 res (LZ.length + LO.length) (cellsL LZ ++ cellsL LO)) := Leaf.Own.lower hI HWW.out
    clear hI HM0 HN0 HWW
    simp only [fill, Act.put]
    go_simp
    go_wp2_with fail
    go_ret
    exact ⟨res, rfl, by rw [HRes.out, List.length_append, cellsL_append]; exact HF.out⟩
  · have HZ := Lib.hid hz
    have HO := Lib.hid ho
    rw [ez, eo]
    clear ez eo hz ho
    go_enter Tryz.func127, Tryz.ntmps127
    go_wp2_with fail
    obtain ⟨W1, hW1⟩ : ∃ W1, (w.alloc (.cells #[.int .u8 wh, .int .i64 (s : Int), .iface 81 V, .iface 81 U] 81)).alloc (.cells #[.int .i64 (R : Int), .int .i64 (C : Int)] 45) = W1 := ⟨_, rfl⟩
    rw [hW1]
    have HWW : Hid (Below w.heap.size w W1) := by
      have h0 : Below w.heap.size w (w.alloc (.cells #[.int .u8 wh, .int .i64 (s : Int), .iface 81 V, .iface 81 U] 81)) := (Below.refl _ _).alloc (Nat.le_refl _) _
      show Below _ _ _; rw [← hW1]; exact h0.alloc h0.size _
    have HM0 : Hid (∀ wx : World, Below W1.heap.size W1 wx → wx.heap[B]? = some (.cells #[.int .u8 wh, .int .i64 (s : Int), .iface 81 V, .iface 81 U] 81 (0, 0))) := fun wx h => by
      have h1 : (w.alloc (.cells #[.int .u8 wh, .int .i64 (s : Int), .iface 81 V, .iface 81 U] 81)).heap[w.heap.size]? = some (.cells #[.int .u8 wh, .int .i64 (s : Int), .iface 81 V, .iface 81 U] 81 (0, 0)) := heap_alloc_new w _
      have h0 : W1.heap[B]? = some (.cells #[.int .u8 wh, .int .i64 (s : Int), .iface 81 V, .iface 81 U] 81 (0, 0)) := by rw [← hW1, ← HBB.out]; rw [heap_alloc_old _ _ (Array.getElem?_eq_some_iff.1 h1).1]; exact h1
      exact (h.block _ (Array.getElem?_eq_some_iff.1 h0).1).trans h0
    have HN0 : Hid (∀ wx : World, Below W1.heap.size W1 wx → wx.heap[B + 1]? = some (.cells #[.int .i64 (R : Int), .int .i64 (C : Int)] 45 (0, 0))) := fun wx h => by
      have h0 : W1.heap[B + 1]? = some (.cells #[.int .i64 (R : Int), .int .i64 (C : Int)] 45 (0, 0)) := by
        rw [← hW1, ← HBB.out]
        have h2 := heap_alloc_new (w.alloc (.cells #[.int .u8 wh, .int .i64 (s : Int), .iface 81 V, .iface 81 U] 81)) (.cells #[.int .i64 (R : Int), .int .i64 (C : Int)] 45)
        rw [show (w.alloc (.cells #[.int .u8 wh, .int .i64 (s : Int), .iface 81 V, .iface 81 U] 81)).heap.size = w.heap.size + 1 by simp] at h2
        exact h2
      exact (h.block _ (Array.getElem?_eq_some_iff.1 h0).1).trans h0
    clear hW1 hB
    refine wp_region_chain4 (fun | 0 => .pointer (some ⟨B, 2, none⟩) | 1 => .pointer (some ⟨B, 2, none⟩) | 2 => .iface 81 V | 3 => .agg #[.int .u8 wh, .int .i64 (s : Int), .iface 81 V, .iface 81 U] | 4 => rect R C | 5 => rect oR oC | 6 => .iface 81 V | 7 => .iface 81 V | 9 => .pointer (some ⟨B, 2, none⟩) | 10 => .pointer (some ⟨B, 3, none⟩) | 11 => .iface 81 U | 12 => .agg #[.int .u8 wh, .int .i64 (s : Int), .iface 81 V, .iface 81 U] | 13 => rect R C | 14 => rect iR iC | 15 => .iface 81 U | 16 => .iface 81 U | _ => undef) (fun i => !(i == 8) && !(i == 17) && !(i == 18) && !(i == 19)) 8 17 18 19 13 22 23 4 _ _ _ _
      (fun w => Below W1.heap.size W1 w) (fun x w => Own W1 w 63 3 x LZ.length (cellsL LZ)) (fun x y w => Own W1 w 63 3 x LZ.length (cellsL LZ) ∧ Own W1 w 63 3 y LO.length (cellsL LO)) (fun y w => Own W1 w 63 3 y (LZ.length + LO.length) (cellsL LZ ++ cellsL LO)) (fun y w => Own W1 w 63 3 y (LZ.length + LO.length) (cellsL LZ ++ cellsL LO)) (fun w => Below W1.heap.size W1 w)
      (by kernel_rfl) (by kernel_rfl) rfl rfl rfl rfl rfl rfl rfl rfl rfl rfl (by decide) (by decide) (.inr ⟨14, _, rfl, ⟨⟨14, .chain⟩, (by simp), rfl, rfl⟩, ⟨8, .chain⟩, (by simp), rfl, rfl⟩) ⟨⟨17, .data⟩, (by simp), rfl, rfl⟩ ⟨⟨18, .data⟩, (by simp), rfl, rfl⟩ ?otLss ?h0Lss (fun w h => h) (fun v w h => h.below) (fun v u w h => h.1.below) (fun t w h => h.below) (fun t w h => h.below) (fun w w1 hb h => h.trans (hb.mono h.size)) (fun v w w1 hb h => h.later hb) (fun v u w w1 hb h => ⟨h.1.later hb, h.2.later hb⟩) (fun t w w1 hb h => h.later hb) (fun t w w1 hb h => h.later hb) ?conLss ?saLss ?sbLss ?scLss ?sdLss ?enLss
    case otLss =>
      intro i o ho hki
      match i, ho with
      | 0, ho =>
        obtain rfl := Option.some.inj ho
        exact ⟨by decide, by decide, by decide, by decide⟩
      | 1, ho =>
        obtain rfl := Option.some.inj ho
        exact ⟨by decide, by decide, by decide, by decide⟩
      | 2, ho =>
        obtain rfl := Option.some.inj ho
        exact ⟨by decide, by decide, by decide, by decide⟩
      | 3, ho =>
        obtain rfl := Option.some.inj ho
        exact ⟨by decide, by decide, by decide, by decide⟩
      | 4, ho =>
        obtain rfl := Option.some.inj ho
        exact ⟨by decide, by decide, by decide, by decide⟩
      | 5, ho =>
        obtain rfl := Option.some.inj ho
        exact ⟨by decide, by decide, by decide, by decide⟩
      | 6, ho =>
        obtain rfl := Option.some.inj ho
        exact ⟨by decide, by decide, by decide, by decide⟩
      | 7, ho =>
        obtain rfl := Option.some.inj ho
        exact ⟨by decide, by decide, by decide, by decide⟩
      | 8, ho => exact absurd hki (by decide)
      | 9, ho =>
        obtain rfl := Option.some.inj ho
        exact ⟨by decide, by decide, by decide, by decide⟩
      | 10, ho =>
        obtain rfl := Option.some.inj ho
        exact ⟨by decide, by decide, by decide, by decide⟩
      | 11, ho =>
        obtain rfl := Option.some.inj ho
        exact ⟨by decide, by decide, by decide, by decide⟩
      | 12, ho =>
        obtain rfl := Option.some.inj ho
        exact ⟨by decide, by decide, by decide, by decide⟩
      | 13, ho =>
        obtain rfl := Option.some.inj ho
        exact ⟨by decide, by decide, by decide, by decide⟩
      | 14, ho =>
        obtain rfl := Option.some.inj ho
        exact ⟨by decide, by decide, by decide, by decide⟩
      | 15, ho =>
        obtain rfl := Option.some.inj ho
        exact ⟨by decide, by decide, by decide, by decide⟩
      | 16, ho =>
        obtain rfl := Option.some.inj ho
        exact ⟨by decide, by decide, by decide, by decide⟩
      | 17, ho => exact absurd hki (by decide)
      | 18, ho => exact absurd hki (by decide)
      | 19, ho => exact absurd hki (by decide)
      | q + 20, ho => simp at ho
    case h0Lss => exact drew_at W1
    case conLss =>
      intro i o ho hki a wx hJ hf
      match i, ho with
      | 0, ho =>
        obtain rfl := Option.some.inj ho
        have b2 : a.tmps[2]?.getD undef = .pointer (some ⟨B, 0, none⟩) := hf.2 2 (by kernel_rfl)
        exact wp_value (.pointer (some ⟨B, 2, none⟩)) (by unfold execOp; go_simp) ⟨rfl, Below.refl _ _⟩
      | 1, ho =>
        obtain rfl := Option.some.inj ho
        have e5 : a.tmps[5]?.getD undef = .pointer (some ⟨B, 2, none⟩) := hf.1 ⟨0, .data⟩ (by simp) rfl _ 5 rfl rfl (by decide)
        exact wp_value (.pointer (some ⟨B, 2, none⟩)) (by unfold execOp; go_simp) ⟨rfl, Below.refl _ _⟩
      | 2, ho =>
        obtain rfl := Option.some.inj ho
        have e6 : a.tmps[6]?.getD undef = .pointer (some ⟨B, 2, none⟩) := hf.1 ⟨1, .data⟩ (by simp) rfl _ 6 rfl rfl (by decide)
        obtain ⟨c0, c1, c2, c3⟩ := cells4 (HM0.out wx hJ)
        exact wp_value (.iface 81 V) (by unfold execOp; go_simp) ⟨rfl, Below.refl _ _⟩
      | 3, ho =>
        obtain rfl := Option.some.inj ho
        have b2 : a.tmps[2]?.getD undef = .pointer (some ⟨B, 0, none⟩) := hf.2 2 (by kernel_rfl)
        exact wp_load_row 81 (.tmp 2) rfl (B) (eval_get b2) 81 _ (0, 0) _ (HM0.out wx hJ) Tryz.underlying81 rfl (info_say _ _ _ _) ⟨rfl, Below.refl _ _⟩
      | 4, ho =>
        obtain rfl := Option.some.inj ho
        have b3 : a.tmps[3]?.getD undef = .pointer (some ⟨B + 1, 0, none⟩) := hf.2 3 (by kernel_rfl)
        exact wp_load_row 45 (.tmp 3) rfl (B + 1) (eval_get b3) 45 _ (0, 0) _ (HN0.out wx hJ) Tryz.underlying45 rfl (info_rect _ _) ⟨rfl, Below.refl _ _⟩
      | 5, ho =>
        obtain rfl := Option.some.inj ho
        have e8 : a.tmps[8]?.getD undef = .agg #[.int .u8 wh, .int .i64 (s : Int), .iface 81 V, .iface 81 U] := hf.1 ⟨3, .data⟩ (by simp) rfl _ 8 rfl rfl (by decide)
        have e9 : a.tmps[9]?.getD undef = rect R C := hf.1 ⟨4, .data⟩ (by simp) rfl _ 9 rfl rfl (by decide)
        exact wp_enter 51 #[.agg #[.int .u8 wh, .int .i64 (s : Int), .iface 81 V, .iface 81 U], rect R C, .int .i64 0] (rect oR oC) _ (by unfold execOp; go_simp) (HPo.out _ _ _ _ wx) (fun w' h => ⟨rfl, h⟩)
      | 6, ho =>
        obtain rfl := Option.some.inj ho
        have e7 : a.tmps[7]?.getD undef = .iface 81 V := hf.1 ⟨2, .data⟩ (by simp) rfl _ 7 rfl rfl (by decide)
        exact wp_value (.iface 81 V) (by unfold execOp; go_simp) ⟨rfl, Below.refl _ _⟩
      | 7, ho =>
        obtain rfl := Option.some.inj ho
        have e7 : a.tmps[7]?.getD undef = .iface 81 V := hf.1 ⟨2, .data⟩ (by simp) rfl _ 7 rfl rfl (by decide)
        exact wp_value (.iface 81 V) (by unfold execOp; go_simp) ⟨rfl, Below.refl _ _⟩
      | 8, ho => exact absurd hki (by decide)
      | 9, ho =>
        obtain rfl := Option.some.inj ho
        have b2 : a.tmps[2]?.getD undef = .pointer (some ⟨B, 0, none⟩) := hf.2 2 (by kernel_rfl)
        exact wp_value (.pointer (some ⟨B, 2, none⟩)) (by unfold execOp; go_simp) ⟨rfl, Below.refl _ _⟩
      | 10, ho =>
        obtain rfl := Option.some.inj ho
        have e14 : a.tmps[14]?.getD undef = .pointer (some ⟨B, 2, none⟩) := hf.1 ⟨9, .data⟩ (by simp) rfl _ 14 rfl rfl (by decide)
        exact wp_value (.pointer (some ⟨B, 3, none⟩)) (by unfold execOp; go_simp) ⟨rfl, Below.refl _ _⟩
      | 11, ho =>
        obtain rfl := Option.some.inj ho
        have e15 : a.tmps[15]?.getD undef = .pointer (some ⟨B, 3, none⟩) := hf.1 ⟨10, .data⟩ (by simp) rfl _ 15 rfl rfl (by decide)
        obtain ⟨c0, c1, c2, c3⟩ := cells4 (HM0.out wx hJ)
        exact wp_value (.iface 81 U) (by unfold execOp; go_simp) ⟨rfl, Below.refl _ _⟩
      | 12, ho =>
        obtain rfl := Option.some.inj ho
        have b2 : a.tmps[2]?.getD undef = .pointer (some ⟨B, 0, none⟩) := hf.2 2 (by kernel_rfl)
        exact wp_load_row 81 (.tmp 2) rfl (B) (eval_get b2) 81 _ (0, 0) _ (HM0.out wx hJ) Tryz.underlying81 rfl (info_say _ _ _ _) ⟨rfl, Below.refl _ _⟩
      | 13, ho =>
        obtain rfl := Option.some.inj ho
        have b3 : a.tmps[3]?.getD undef = .pointer (some ⟨B + 1, 0, none⟩) := hf.2 3 (by kernel_rfl)
        exact wp_load_row 45 (.tmp 3) rfl (B + 1) (eval_get b3) 45 _ (0, 0) _ (HN0.out wx hJ) Tryz.underlying45 rfl (info_rect _ _) ⟨rfl, Below.refl _ _⟩
      | 14, ho =>
        obtain rfl := Option.some.inj ho
        have e17 : a.tmps[17]?.getD undef = .agg #[.int .u8 wh, .int .i64 (s : Int), .iface 81 V, .iface 81 U] := hf.1 ⟨12, .data⟩ (by simp) rfl _ 17 rfl rfl (by decide)
        have e18 : a.tmps[18]?.getD undef = rect R C := hf.1 ⟨13, .data⟩ (by simp) rfl _ 18 rfl rfl (by decide)
        exact wp_enter 51 #[.agg #[.int .u8 wh, .int .i64 (s : Int), .iface 81 V, .iface 81 U], rect R C, .int .i64 1] (rect iR iC) _ (by unfold execOp; go_simp) (HPi.out _ _ _ _ wx) (fun w' h => ⟨rfl, h⟩)
      | 15, ho =>
        obtain rfl := Option.some.inj ho
        have e16 : a.tmps[16]?.getD undef = .iface 81 U := hf.1 ⟨11, .data⟩ (by simp) rfl _ 16 rfl rfl (by decide)
        exact wp_value (.iface 81 U) (by unfold execOp; go_simp) ⟨rfl, Below.refl _ _⟩
      | 16, ho =>
        obtain rfl := Option.some.inj ho
        have e16 : a.tmps[16]?.getD undef = .iface 81 U := hf.1 ⟨11, .data⟩ (by simp) rfl _ 16 rfl rfl (by decide)
        exact wp_value (.iface 81 U) (by unfold execOp; go_simp) ⟨rfl, Below.refl _ _⟩
      | 17, ho => exact absurd hki (by decide)
      | 18, ho => exact absurd hki (by decide)
      | 19, ho => exact absurd hki (by decide)
      | q + 20, ho => simp at ho
    case saLss =>
      intro a wx hI hf
      have e12 : a.tmps[12]?.getD undef = .iface 81 V := hf.1 ⟨7, .data⟩ (by simp) rfl _ 12 rfl rfl (by decide)
      have e10 : a.tmps[10]?.getD undef = rect oR oC := hf.1 ⟨5, .data⟩ (by simp) rfl _ 10 rfl rfl (by decide)
      refine wp_enterR 127 #[V, rect oR oC] (by unfold execOp; go_simp; go_invoke; rfl) (HZ.out wx) ?_
      intro v' w' h1
      exact ⟨v', rfl, Leaf.Own.lower h1 hI⟩
    case sbLss =>
      intro a wx x hI hv hf
      have e21 : a.tmps[21]?.getD undef = .iface 81 U := hf.1 ⟨16, .data⟩ (by simp) rfl _ 21 rfl rfl (by decide)
      have e19 : a.tmps[19]?.getD undef = rect iR iC := hf.1 ⟨14, .data⟩ (by simp) rfl _ 19 rfl rfl (by decide)
      refine wp_enterR 127 #[U, rect iR iC] (by unfold execOp; go_simp; go_invoke; rfl) (HO.out wx) ?_
      intro v' w' h1
      exact ⟨v', rfl, hI.later h1.below, Leaf.Own.lower h1 hI.below⟩
    case scLss =>
      intro a wx x y hI hv hu hf
      refine wp_append_two (w0 := W1) (.tmp 13) (.tmp 22) 59 rfl 63 i0 (.agg #[.int .i64 0, .int .i64 0, .int .i64 0]) 3 24 Tryz.underlying59 hi hz0 hz1 hz2 rfl (by decide) x y LZ.length LO.length (cellsL LZ) (cellsL LO) (eval_get (get_some hv)) hI.1 (eval_get (get_some hu)) hI.2 LM.out O1.out (by omega) (by decide) ?_
      intro v' w' h1
      exact ⟨v', rfl, h1⟩
    case sdLss =>
      intro a wx y hI hv hf
      have e23 := get_some hv
      exact wp_value y (by unfold execOp; go_simp) ⟨y, rfl, hI⟩
    intro k1 k2 k3 res w9 hI
    have HF : Hid (Own w w9 63 3 res (LZ.length + LO.length) (cellsL LZ ++ cellsL LO)) := Leaf.Own.lower hI HWW.out
    clear hI HM0 HN0 HWW
    simp only [fill, Act.put]
    go_simp
    go_wp2_with fail
    go_ret
    exact ⟨res, rfl, by rw [HRes.out, List.length_append, cellsL_append]; exact HF.out⟩

theorem leaves_to (t : T) : (text t).length ≤ 2000 → Go.Proofs.YtbbgibbpeibhiaaGreatDoor.Count.Node 118 127 t (LeavesC t) := by
  induction t with
  | leaf b => intro _; exact .inl ⟨_, rfl, end_leaves b⟩
  | say a s z o ihz iho =>
    intro hl
    have hlz : (text (.say a s z o)).length = (text z).length + (text o).length + 3 := by simp [text]
    exact .inr ⟨_, rfl, say_leaves a s z o hl (ihz (by omega)) (iho (by omega))⟩
end Go.Proofs.YtbbgibbpeibhiaaGreatDoor.LeavesI

/-
  The rectangle of all rows and columns, of both sides; the program's tree in it.
-/
namespace Go.Proofs.YtbbgibbpeibhiaaGreatDoor.TreeIn
open Go.RowKit Go.Shelf Go.Proofs.YtbbgibbpeibhiaaGreatDoor.Plain Go.Proofs.YtbbgibbpeibhiaaGreatDoor.Tree Go.Proofs.YtbbgibbpeibhiaaGreatDoor.Read Go.Proofs.YtbbgibbpeibhiaaGreatDoor.Rect Go.Proofs.YtbbgibbpeibhiaaGreatDoor.TreeOf Go.Proofs.YtbbgibbpeibhiaaGreatDoor.FreeL
open Go.Proofs.YtbbgibbpeibhiaaGreatDoor.Free (fill wp_value wp_enter wp_load_row freeB)
open Go.Proofs.YtbbgibbpeibhiaaGreatDoor.Split (eval_get cells2 info_rect one_rect)
set_option linter.unusedVariables false
set_option linter.unusedSimpArgs false

/-- the set of so many -/
def allN (r : Nat) : Nat := 2 ^ r - 1
theorem pow_facts (r : Nat) (h : 1 ≤ r ∧ r ≤ 8) : wrap64 ((2 : Int) ^ r) = (allN r : Int) + 1 ∧ 1 ≤ allN r ∧ allN r < 256 := by
  have e : r = 1 ∨ r = 2 ∨ r = 3 ∨ r = 4 ∨ r = 5 ∨ r = 6 ∨ r = 7 ∨ r = 8 := by omega
  rcases e with rfl | rfl | rfl | rfl | rfl | rfl | rfl | rfl <;> (refine ⟨?_, by decide, by decide⟩; simp [allN, wrap64])
set_option maxHeartbeats 2000000 in
theorem whole_said (r c : Nat) (hr : 1 ≤ r ∧ r ≤ 8) (hc : 1 ≤ c ∧ c ≤ 8) (w : World) :
    Calls Tryz.prog 24 #[.int .i64 (r : Int), .int .i64 (c : Int)] w fun e w' => e = .returned (rect (allN r) (allN c)) ∧ Below w.heap.size w w' := by
  obtain ⟨p1, p2, p3⟩ := pow_facts r hr
  obtain ⟨q1, q2, q3⟩ := pow_facts c hc
  generalize allN r = M at *
  generalize allN c = N at *
  go_enter Tryz.func24, Tryz.ntmps24
  go_wp2
  go_returns
  exact ⟨rfl, by go_grown⟩
/-- numbers of rows and columns of a matrix -/
def Sides (r c : Int) : Prop := (1 ≤ r ∧ r ≤ 8) ∧ (1 ≤ c ∧ c ≤ 8)
set_option maxHeartbeats 1000000 in
theorem sides_yes (r c : Int) (h : Sides r c) (w : World) : Calls Tryz.prog 21 #[.int .i64 r, .int .i64 c] w fun e w' => e = .returned (.bool true) ∧ w = w' := by
  have H := Lib.hid h
  clear h
  go_enter Tryz.func21, Tryz.ntmps21
  go_wp2_with fail
  refine (in_any _ _ _ _).mono ?_
  rintro e w' ⟨rfl, rfl⟩
  rw [decide_eq_true H.out.1]
  go_wp2_with fail
  refine (in_any _ _ _ _).mono ?_
  rintro e w' ⟨rfl, rfl⟩
  rw [decide_eq_true H.out.2]
  go_wp2_with fail
  go_ret
  exact ⟨rfl, rfl⟩
set_option maxHeartbeats 1000000 in
theorem sides_no (r c : Int) (h : ¬ Sides r c) (w : World) : Calls Tryz.prog 21 #[.int .i64 r, .int .i64 c] w fun e w' => e = .returned (.bool false) ∧ w = w' := by
  by_cases h1 : 1 ≤ r ∧ r ≤ 8
  · have h2 : ¬ (1 ≤ c ∧ c ≤ 8) := fun h2 => h ⟨h1, h2⟩
    have H1 := Lib.hid h1
    have H2 := Lib.hid h2
    clear h h1 h2
    go_enter Tryz.func21, Tryz.ntmps21
    go_wp2_with fail
    refine (in_any _ _ _ _).mono ?_
    rintro e w' ⟨rfl, rfl⟩
    rw [decide_eq_true H1.out]
    go_wp2_with fail
    refine (in_any _ _ _ _).mono ?_
    rintro e w' ⟨rfl, rfl⟩
    rw [decide_eq_false H2.out]
    go_wp2_with fail
    go_ret
    exact ⟨rfl, rfl⟩
  · have H1 := Lib.hid h1
    clear h h1
    go_enter Tryz.func21, Tryz.ntmps21
    go_wp2_with fail
    refine (in_any _ _ _ _).mono ?_
    rintro e w' ⟨rfl, rfl⟩
    rw [decide_eq_false H1.out]
    go_wp2_with fail
    go_ret
    exact ⟨rfl, rfl⟩
set_option maxHeartbeats 1000000 in
theorem side_w (n : Int) (b : Bool) (h : decide (1 ≤ n ∧ n ≤ 8) = b) (w : World) : Calls Tryz.prog 43 #[.int .i64 n] w fun e w' => e = .returned (.bool b) ∧ w = w' := by
  subst h
  by_cases h1 : 1 ≤ n
  · by_cases h2 : n ≤ 8
    · rw [decide_eq_true ⟨h1, h2⟩]
      go_enter Tryz.func43, Tryz.ntmps43
      go_wp2
      go_ret
      exact ⟨rfl, rfl⟩
    · rw [decide_eq_false (fun x => h2 x.2)]
      have h3 : 8 < n := by omega
      clear h2
      go_enter Tryz.func43, Tryz.ntmps43
      go_wp2
      go_ret
      exact ⟨by simp; omega, rfl⟩
  · rw [decide_eq_false (fun x => h1 x.1)]
    have h3 : n < 1 := by omega
    clear h1
    go_enter Tryz.func43, Tryz.ntmps43
    go_wp2
    go_ret
    exact ⟨rfl, rfl⟩

set_option maxHeartbeats 2000000 in
set_option maxRecDepth 100000 in
/-- numbers that are no sides -/
theorem in_bad (s : ByteArray) (r c : Int) (h : ¬ Sides r c) (w : World) :
    Calls Tryz.prog 26 #[.string s, .int .i64 r, .int .i64 c] w fun e w' => e = .returned (.tuple #[.nilIface, rect 0 0]) ∧ Below w.heap.size w w' := by
  by_cases h1 : 1 ≤ r ∧ r ≤ 8
  · have h2 : ¬ (1 ≤ c ∧ c ≤ 8) := fun h2 => h ⟨h1, h2⟩
    have HS1 := Lib.hid (side_w r true (decide_eq_true h1))
    have HS2 := Lib.hid (side_w c false (decide_eq_false h2))
    clear h h1 h2
    go_enter Tryz.func26, Tryz.ntmps26
    go_wp2_with fail
    refine (HS1.out _).mono ?_
    rintro e w' ⟨rfl, rfl⟩
    go_wp2_with fail
    refine (HS2.out _).mono ?_
    rintro e w' ⟨rfl, rfl⟩
    go_wp2_with fail
    refine bodyPost_ret (v := .tuple #[.nilIface, rect 0 0]) (by simp [results, Tryz.results26, go_sem]) rfl ⟨rfl, by go_grown⟩
  · have HS1 := Lib.hid (side_w r false (decide_eq_false h1))
    clear h h1
    go_enter Tryz.func26, Tryz.ntmps26
    go_wp2_with fail
    refine (HS1.out _).mono ?_
    rintro e w' ⟨rfl, rfl⟩
    go_wp2_with fail
    refine bodyPost_ret (v := .tuple #[.nilIface, rect 0 0]) (by simp [results, Tryz.results26, go_sem]) rfl ⟨rfl, by go_grown⟩

set_option maxHeartbeats 4000000 in
set_option maxRecDepth 100000 in
theorem in_yes (s : ByteArray) (X : Value) (hX : ∀ W : World, Calls Tryz.prog 32 #[.string s] W fun e w' => e = .returned X ∧ Below W.heap.size W w') (r c : Nat) (hr : 1 ≤ r ∧ r ≤ 8) (hc : 1 ≤ c ∧ c ≤ 8) (w : World) :
    Calls Tryz.prog 26 #[.string s, .int .i64 (r : Int), .int .i64 (c : Int)] w fun e w' => e = .returned (.tuple #[X, rect (allN r) (allN c)]) ∧ Below w.heap.size w w' := by
  have HS1 := Lib.hid (side_w (r : Int) true (decide_eq_true (by omega)))
  have HS2 := Lib.hid (side_w (c : Int) true (decide_eq_true (by omega)))
  have HX := Lib.hid hX
  have HP := Lib.hid (And.intro (pow_facts r hr) (pow_facts c hc))
  generalize allN r = M at *
  generalize allN c = N at *
  obtain ⟨B, hB⟩ : ∃ B, w.heap.size = B := ⟨_, rfl⟩
  have HBB := Lib.hid hB
  obtain ⟨r1, r2⟩ := hr
  obtain ⟨c1, c2⟩ := hc
  clear hX
  go_enter Tryz.func26, Tryz.ntmps26
  go_wp2_with fail
  refine (HS1.out _).mono ?_
  rintro e w' ⟨rfl, rfl⟩
  go_wp2_with fail
  refine (HS2.out _).mono ?_
  rintro e w' ⟨rfl, rfl⟩
  go_wp2_with fail
  obtain ⟨W1, hW1⟩ : ∃ W1, w.alloc (.cells #[.int .i64 0, .int .i64 0] 45) = W1 := ⟨_, rfl⟩
  rw [hW1]
  have HW : Hid (Below w.heap.size w W1) := by show Below _ _ _; rw [← hW1]; exact (Below.refl _ _).alloc (Nat.le_refl _) _
  have HM0 : Hid (∀ wx : World, Below W1.heap.size W1 wx → wx.heap[B]? = some (.cells #[.int .i64 0, .int .i64 0] 45 (0, 0))) := fun wx h => by
    have h0 : W1.heap[B]? = some (.cells #[.int .i64 0, .int .i64 0] 45 (0, 0)) := by rw [← hW1, ← HBB.out]; exact heap_alloc_new w _
    exact (h.block _ (Array.getElem?_eq_some_iff.1 h0).1).trans h0
  clear hW1 hB
  refine wp_region_last (fun | 0 => .string s | 1 => X | 2 => .int .i64 (r : Int) | 3 => .int .i64 ((M : Int) + 1) | 4 => .int .i64 (M : Int) | 5 => .int .i64 (c : Int) | 6 => .int .i64 ((N : Int) + 1) | 7 => .int .i64 (N : Int) | 8 => rect M N | 9 => X | _ => undef) 10 (fun wx => wx.setRow B #[.int .i64 (M : Int), .int .i64 (N : Int)]) _ (by kernel_rfl) (by kernel_rfl) rfl rfl rfl rfl (by kernel_rfl) ?con ?st ?en
  case con =>
    intro i o ho hlt a wx hb hf
    match i, ho with
    | 0, ho =>
      obtain rfl := Option.some.inj ho
      have b0 : a.tmps[0]?.getD undef = .string s := hf.2 0 (by kernel_rfl)
      exact wp_value (.string s) (by unfold execOp; go_simp) ⟨rfl, Below.refl _ _⟩
    | 1, ho =>
      obtain rfl := Option.some.inj ho
      have e17 : a.tmps[17]?.getD undef = .string s := hf.1 ⟨0, .data⟩ (by simp) rfl _ 17 rfl rfl
      exact wp_enter 32 #[.string s] X _ (by unfold execOp; go_simp) (HX.out wx) (fun w' h => ⟨rfl, h⟩)
    | 2, ho =>
      obtain rfl := Option.some.inj ho
      have b1 : a.tmps[1]?.getD undef = .int .i64 (r : Int) := hf.2 1 (by kernel_rfl)
      exact wp_value (.int .i64 (r : Int)) (by unfold execOp; go_simp) ⟨rfl, Below.refl _ _⟩
    | 3, ho =>
      obtain rfl := Option.some.inj ho
      have e19 : a.tmps[19]?.getD undef = .int .i64 (r : Int) := hf.1 ⟨2, .data⟩ (by simp) rfl _ 19 rfl rfl
      have p1 := HP.out.1.1
      exact wp_value (.int .i64 ((M : Int) + 1)) (by unfold execOp; go_simp; first | exact p1 | (simp only [IntKind.wrap_i64, wrap64] at p1 ⊢; exact p1)) ⟨rfl, Below.refl _ _⟩
    | 4, ho =>
      obtain rfl := Option.some.inj ho
      have e20 : a.tmps[20]?.getD undef = .int .i64 ((M : Int) + 1) := hf.1 ⟨3, .data⟩ (by simp) rfl _ 20 rfl rfl
      have p3 := HP.out.1.2.2
      exact wp_value (.int .i64 (M : Int)) (by unfold execOp; go_simp; simp only [IntKind.wrap_i64]; omega) ⟨rfl, Below.refl _ _⟩
    | 5, ho =>
      obtain rfl := Option.some.inj ho
      have b2 : a.tmps[2]?.getD undef = .int .i64 (c : Int) := hf.2 2 (by kernel_rfl)
      exact wp_value (.int .i64 (c : Int)) (by unfold execOp; go_simp) ⟨rfl, Below.refl _ _⟩
    | 6, ho =>
      obtain rfl := Option.some.inj ho
      have e22 : a.tmps[22]?.getD undef = .int .i64 (c : Int) := hf.1 ⟨5, .data⟩ (by simp) rfl _ 22 rfl rfl
      have p1 := HP.out.2.1
      exact wp_value (.int .i64 ((N : Int) + 1)) (by unfold execOp; go_simp; first | exact p1 | (simp only [IntKind.wrap_i64, wrap64] at p1 ⊢; exact p1)) ⟨rfl, Below.refl _ _⟩
    | 7, ho =>
      obtain rfl := Option.some.inj ho
      have e23 : a.tmps[23]?.getD undef = .int .i64 ((N : Int) + 1) := hf.1 ⟨6, .data⟩ (by simp) rfl _ 23 rfl rfl
      have p3 := HP.out.2.2.2
      exact wp_value (.int .i64 (N : Int)) (by unfold execOp; go_simp; simp only [IntKind.wrap_i64]; omega) ⟨rfl, Below.refl _ _⟩
    | 8, ho =>
      obtain rfl := Option.some.inj ho
      have e21 : a.tmps[21]?.getD undef = .int .i64 (M : Int) := hf.1 ⟨4, .data⟩ (by simp) rfl _ 21 rfl rfl
      have e24 : a.tmps[24]?.getD undef = .int .i64 (N : Int) := hf.1 ⟨7, .data⟩ (by simp) rfl _ 24 rfl rfl
      exact wp_value (rect M N) (by unfold execOp; go_simp) ⟨rfl, Below.refl _ _⟩
    | 9, ho =>
      obtain rfl := Option.some.inj ho
      have e18 : a.tmps[18]?.getD undef = X := hf.1 ⟨1, .data⟩ (by simp) rfl _ 18 rfl rfl
      exact wp_value X (by unfold execOp; go_simp) ⟨rfl, Below.refl _ _⟩
    | 10, ho => exact absurd hlt (by omega)
    | q + 11, ho => simp at ho
  case st =>
    intro a wx hb hf
    have e25 : a.tmps[25]?.getD undef = rect M N := hf.1 ⟨8, .data⟩ (by simp) rfl _ 25 rfl rfl
    have b7 : a.tmps[7]?.getD undef = .pointer (some ⟨B, 0, none⟩) := hf.2 7 (by kernel_rfl)
    exact wp_store_row 45 (.tmp 7) (.tmp 25) rfl B #[.int .i64 (M : Int), .int .i64 (N : Int)] (eval_get b7) (eval_get e25) 45 _ (HM0.out wx hb) (info_rect _ _) rfl (one_rect _ _) ⟨rfl, rfl⟩
  intro w5 hb5
  have HR : Hid ((w5.setRow B #[.int .i64 (M : Int), .int .i64 (N : Int)]).heap[B]? = some (.cells #[.int .i64 (M : Int), .int .i64 (N : Int)] 45 (0, 0))) := by
    have h0 := HM0.out w5 hb5
    show _ = _
    simp [World.setRow, Array.getElem?_modify, h0]
  have HB5 : Hid (Below w.heap.size w (w5.setRow B #[.int .i64 (M : Int), .int .i64 (N : Int)])) := by
    have h0 := HW.out.trans (hb5.mono HW.out.size)
    exact h0.trans ⟨rfl, rfl, rfl, by simp [World.setRow], fun k hk => by simp only [World.setRow, Array.getElem?_modify]; rw [if_neg (by rw [HBB.out] at hk; omega)]⟩
  clear hb5 HM0 HW
  simp only [fill, Act.put]
  go_simp
  generalize w5.setRow B #[.int .i64 (M : Int), .int .i64 (N : Int)] = w6 at *
  obtain ⟨x0, x1, _, _⟩ := cells2 HR.out
  go_wp2_with fail
  refine bodyPost_ret (v := .tuple #[X, rect M N]) (by simp [results, Tryz.results26, go_sem, x0, x1]) rfl ⟨rfl, HB5.out⟩
end Go.Proofs.YtbbgibbpeibhiaaGreatDoor.TreeIn

/-
  The program's rectangles of the ends.
-/
namespace Go.Proofs.YtbbgibbpeibhiaaGreatDoor.LeafRectsI
open Go.RowKit Go.Shelf Go.Proofs.YtbbgibbpeibhiaaGreatDoor.Plain Go.Proofs.YtbbgibbpeibhiaaGreatDoor.Tree Go.Proofs.YtbbgibbpeibhiaaGreatDoor.Read Go.Proofs.YtbbgibbpeibhiaaGreatDoor.Rect Go.Proofs.YtbbgibbpeibhiaaGreatDoor.TreeOf Go.Proofs.YtbbgibbpeibhiaaGreatDoor.TreeIn Go.Proofs.YtbbgibbpeibhiaaGreatDoor.App Go.Proofs.YtbbgibbpeibhiaaGreatDoor.Leaf Go.Proofs.YtbbgibbpeibhiaaGreatDoor.LeavesI
set_option linter.unusedVariables false
set_option maxRecDepth 100000
set_option linter.unusedSimpArgs false
theorem info_r : ∃ i, Tryz.prog.info? 45 = some i ∧ i.zero = some (.agg #[.int .i64 0, .int .i64 0]) ∧ i.size = 2 ∧ i.bytes = 16 := ⟨_, rfl, rfl, rfl, rfl⟩

theorem cellsL_get : ∀ (l : List (Nat × Nat × Bool)) (k : Nat) (h : k < l.length), (cellsL l)[k * 3]? = some (.int .i64 (l[k].1 : Int)) ∧ (cellsL l)[k * 3 + 1]? = some (.int .i64 (l[k].2.1 : Int)) ∧ (cellsL l)[k * 3 + 2]? = some (.int .i64 (bitI l[k].2.2))
  | [], k, h => by simp at h
  | p :: l, 0, h => by simp [cellsL]
  | p :: l, k + 1, h => by
    have ih := cellsL_get l k (by simpa using h)
    have e : cellsL (p :: l) = .int .i64 (p.1 : Int) :: .int .i64 (p.2.1 : Int) :: .int .i64 (bitI p.2.2) :: cellsL l := by simp [cellsL]
    have e0 : (k + 1) * 3 = k * 3 + 3 := by omega
    rw [e, e0]
    simpa using ih
theorem cellsR_take (l : List (Nat × Nat × Bool)) (k : Nat) (h : k < l.length) : cellsR (l.take (k + 1)) = cellsR (l.take k) ++ [.int .i64 (l[k].1 : Int), .int .i64 (l[k].2.1 : Int)] := by
  rw [List.take_succ_eq_append_getElem h, cellsR_append]
  simp [cellsR]
theorem cells_list {w : World} (cs : List Value) (ty : TypeId) : ∀ j u, cs[j]? = some u → (w.alloc (.cells cs.toArray ty)).cell? ((⟨w.heap.size, 0, none⟩ : Addr).add j) = some u := by
  intro j u hj
  have h := cell_of_row (w.alloc (.cells cs.toArray ty)) w.heap.size j cs.toArray ty (0, 0) (heap_alloc_new w _)
  have e : ((⟨w.heap.size, 0, none⟩ : Addr).add j) = ⟨w.heap.size, j, none⟩ := by
    simp [Addr.add]
    try exact fun h => h.symm
  rw [e, h]
  simpa using hj
theorem cells_list' {w : World} {n : Nat} (hn : w.heap.size = n) (cs : List Value) (ty : TypeId) : ∀ j u, cs[j]? = some u → (w.alloc (.cells cs.toArray ty)).cell? ((⟨n, 0, none⟩ : Addr).add j) = some u := by
  subst hn
  exact cells_list cs ty

end Go.Proofs.YtbbgibbpeibhiaaGreatDoor.LeafRectsI

/-
  The matrix that a protocol finds, of the reference.
-/
namespace Go.Proofs.YtbbgibbpeibhiaaGreatDoor.SaidMat
open Go.RowKit Go.Shelf Go.Proofs.YtbbgibbpeibhiaaGreatDoor.Plain Go.Proofs.YtbbgibbpeibhiaaGreatDoor.Tree Go.Proofs.YtbbgibbpeibhiaaGreatDoor.Read Go.Proofs.YtbbgibbpeibhiaaGreatDoor.Parts Go.Proofs.YtbbgibbpeibhiaaGreatDoor.Rect Go.Proofs.YtbbgibbpeibhiaaGreatDoor.Talk Go.Proofs.YtbbgibbpeibhiaaGreatDoor.FreeL
open Go.Proofs.YtbbgibbpeibhiaaGreatDoor.Free (fill wp_value wp_enter wp_load_row freeB)
set_option linter.unusedVariables false
set_option maxRecDepth 100000
set_option linter.unusedSimpArgs false

theorem conv_one (w : World) (d : UInt8) (v : Int) (hv : v = (d.toNat : Int)) :
    (convert 22 9 (.slice (some ⟨w.heap.size, 0, none⟩) 1 1)).run Tryz.prog (w.alloc (.cells #[.int .u8 v] 5)) = .ok (.string ⟨#[d]⟩) (w.alloc (.cells #[.int .u8 v] 5)) := by
  have h := run_convert_bytes_back (P := Tryz.prog) (w.alloc (.cells #[.int .u8 v] 5)) 22 9 5 ⟨w.heap.size, 0, none⟩ 1 [d] Tryz.underlying22 Tryz.underlying5 Tryz.underlying9 (fun j hj => by
    obtain rfl : j = 0 := by simpa using hj
    rw [hv]
    exact cell_of_row _ _ 0 _ _ _ (heap_alloc_new w _))
  exact h
def mtx (r c : Int) (s : ByteArray) : Value := .agg #[.int .i64 r, .int .i64 c, .string s]
theorem cells3 {w : World} {b : Nat} {c0 c1 c2 : Value} {ty : TypeId} (h : w.heap[b]? = some (.cells #[c0, c1, c2] ty (0, 0))) : w.cell? ⟨b, 0, none⟩ = some c0 ∧ w.cell? ⟨b, 1, none⟩ = some c1 ∧ w.cell? ⟨b, 2, none⟩ = some c2 ∧ w.frozen? ⟨b, 0, none⟩ = false ∧ w.frozen? ⟨b, 1, none⟩ = false ∧ w.frozen? ⟨b, 2, none⟩ = false :=
  ⟨cell_of_row _ _ 0 _ _ _ h, cell_of_row _ _ 1 _ _ _ h, cell_of_row _ _ 2 _ _ _ h, frozen_of_row _ _ _ _ _ h, frozen_of_row _ _ _ _ _ h, frozen_of_row _ _ _ _ _ h⟩
theorem wp_skip {P : Program} {o : Oper} {a : Act} {w w' : World} {K : Act → World → Prop} {Q : Exit → Act → World → Prop} (h : (execOp a.eval o).run P w = .ok .skip w') (hK : K (a.put o.dst undef) w') : o.wp P a w K Q := by
  unfold Oper.wp
  rw [h]
  exact hK
/-- the result's block, and the matrix so far -/
structure Mx (w wr : World) (B : Nat) (r c : Int) (s : ByteArray) : Prop where
  res : wr.heap[B]? = some (.cells #[.int .i64 0, .int .i64 0, .string ⟨#[]⟩] 28 (0, 0))
  sofar : wr.heap[B + 1]? = some (.cells #[.int .i64 r, .int .i64 c, .string s] 28 (0, 0))
  below : Below w.heap.size w wr
  size : w.heap.size = B
theorem Mx.later {w wr w2 : World} {B : Nat} {r c : Int} {s : ByteArray} (h : Mx w wr B r c s) (hb : Below wr.heap.size wr w2) : Mx w w2 B r c s :=
  ⟨(hb.block _ (Array.getElem?_eq_some_iff.1 h.res).1).trans h.res, (hb.block _ (Array.getElem?_eq_some_iff.1 h.sofar).1).trans h.sofar, h.below.trans (hb.mono h.below.size), h.size⟩
theorem Mx.put {w wr : World} {B : Nat} {r c : Int} {s : ByteArray} (h : Mx w wr B r c s) (u : ByteArray) : Mx w (wr.setCell ⟨B + 1, 2, none⟩ (.string u)) B r c u := by
  have ho : ∀ k, k ≠ B + 1 → (wr.setCell ⟨B + 1, 2, none⟩ (.string u)).heap[k]? = wr.heap[k]? := fun k hk => by
    simp only [World.setCell, Array.getElem?_modify]
    rw [if_neg (by omega)]
  refine ⟨(ho B (by omega)).trans h.res, by simp [World.setCell, Array.getElem?_modify, h.sofar], ?_, h.size⟩
  exact h.below.trans ⟨rfl, rfl, rfl, by simp [World.setCell], fun k hk => ho k (by have := h.size; omega)⟩

end Go.Proofs.YtbbgibbpeibhiaaGreatDoor.SaidMat

