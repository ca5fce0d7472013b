/-
  Both players exchanged, in the program's trees.
-/
import Derived.Test.YtodfeaelidpckaaTurnC
import Derived.Test.YtodfeaelidpckaaFree
namespace Go.Proofs.Ytodfeaelidpckaa.Edit
open Go.RowKit Go.Shelf Go.Proofs.Ytodfeaelidpckaa.Plain Go.Proofs.Ytodfeaelidpckaa.Tree Go.Proofs.Ytodfeaelidpckaa.Read Go.Proofs.Ytodfeaelidpckaa.TurnC Go.Proofs.Ytodfeaelidpckaa.FreeL
open Go.Proofs.Ytodfeaelidpckaa.Count (cells4)
open Go.Proofs.Ytodfeaelidpckaa.Free (fill wp_value wp_enter wp_load_row freeB)
set_option linter.unusedVariables false
set_option linter.unusedSimpArgs false

theorem eval_get {a : Act} {d : Tmp} {v : Value} (h : a.tmps[d]?.getD undef = v) : a.eval (.tmp d) = v := by
  rw [← h]
  show a.tmps.getD d undef = _
  simp [Array.getD_eq_getD_getElem?]
theorem there_row {w : World} {B : Nat} {c0 c1 c2 c3 : Value} {T : TypeId} (h : w.heap[B]? = some (.cells #[c0, c1, c2, c3] T (0, 0))) : w.there B 2 2 := fun j hj => by
  have e : j = 0 ∨ j = 1 := by omega
  rcases e with rfl | rfl
  · exact ⟨by rw [cell_of_row _ _ _ _ _ _ h]; rfl, frozen_of_row _ _ _ _ _ h⟩
  · exact ⟨by rw [cell_of_row _ _ _ _ _ _ h]; rfl, frozen_of_row _ _ _ _ _ h⟩
theorem all2 (t1 t2 : TypeId) (x y : Value) : (#[.iface t1 x, .iface t2 y] : Array Value).all (·.oneCell') = true := by simp [Value.oneCell']
theorem all4 (a b : Int) (t1 t2 : TypeId) (x y : Value) : (#[.int .u8 a, .int .i64 b, .iface t1 x, .iface t2 y] : Array Value).all (·.oneCell') = true := by simp [Value.oneCell']
theorem info_two (x y : Value) : (Try.prog.info? 47).map (·.size) = some (#[x, y] : Array Value).size := by kernel_rfl
def EditC (t : T) (f : FuncId) (V : Value) : Prop := ∀ W : World, Calls Try.prog f #[V, .func (.func 40) #[] #[]] W fun e w' => e = .returned (tree (turnT t)) ∧ Below W.heap.size W w'

set_option maxHeartbeats 1000000 in
theorem end_edit (b : Bool) : EditC (.leaf b) 107 (.int .i64 (bitI b)) := by
  intro w
  go_enter Try.func107, Try.ntmps107
  go_wp2
  go_ret
  exact ⟨rfl, Below.refl _ _⟩

set_option maxHeartbeats 4000000 in
set_option maxRecDepth 100000 in
theorem say_edit (a : Bool) (s : Nat) (z o : T) (hZ : Go.Proofs.Ytodfeaelidpckaa.Count.Node 107 96 z (EditC z)) (hO : Go.Proofs.Ytodfeaelidpckaa.Count.Node 107 96 o (EditC o)) :
    EditC (.say a s z o) 96 (.agg #[.int .u8 ((whoB a).toNat : Int), .int .i64 (s : Int), tree z, tree o]) := by
  intro w
  unfold EditC at hZ hO
  obtain ⟨tz, vz, ez2⟩ := tree_iface (turnT z)
  obtain ⟨to, vo, eo2⟩ := tree_iface (turnT o)
  have HT : Hid (tree (turnT (.say a s z o)) = .iface 49 (.agg #[.int .u8 ((whoB (!a)).toNat : Int), .int .i64 (s : Int), .iface tz vz, .iface to vo])) := by
    show tree (.say (!a) s (turnT z) (turnT o)) = _
    simp only [tree, sayV, ez2, eo2]
  rw [ez2] at hZ
  rw [eo2] at hO
  clear ez2 eo2
  generalize tree (turnT (.say a s z o)) = res at *
  obtain ⟨B, hB⟩ : ∃ B, w.heap.size = B := ⟨_, rfl⟩
  have HBB := Lib.hid hB
  have HF := Lib.hid fun (t1 t2 : TypeId) (v1 v2 : Value) (W : World) => turn_change a (s : Int) t1 t2 v1 v2 W
  generalize ((whoB (!a)).toNat : Int) = wh2 at *
  generalize ((whoB a).toNat : Int) = wh at *
  rcases hZ with ⟨V, ez, hz⟩ | ⟨V, ez, hz⟩ <;> rcases hO with ⟨U, eo, ho⟩ | ⟨U, eo, ho⟩
  · have HZ := Lib.hid hz
    have HO := Lib.hid ho
    rw [ez, eo]
    clear ez eo hz ho
    go_enter Try.func96, Try.ntmps96
    go_wp2_with fail
    refine (HF.out _ _ _ _ _).mono ?_
    rintro e w1 ⟨rfl, hb1⟩
    have HM : Hid (w1.heap[B]? = some (.cells #[.int .u8 wh, .int .i64 (s : Int), .iface 65 V, .iface 65 U] 49 (0, 0))) := by
      have h0 : (w.alloc (.cells #[.int .u8 wh, .int .i64 (s : Int), .iface 65 V, .iface 65 U] 49)).heap[w.heap.size]? = some (.cells #[.int .u8 wh, .int .i64 (s : Int), .iface 65 V, .iface 65 U] 49 (0, 0)) := heap_alloc_new w _
      show _ = _
      rw [← HBB.out]
      exact (hb1.block _ (Array.getElem?_eq_some_iff.1 h0).1).trans h0
    have HW : Hid (Below w.heap.size w w1) := by
      have h0 : Below w.heap.size w (w.alloc (.cells #[.int .u8 wh, .int .i64 (s : Int), .iface 65 V, .iface 65 U] 49)) := (Below.refl _ _).alloc (Nat.le_refl _) _
      exact h0.trans (hb1.mono h0.size)
    clear hb1
    go_wp2_with (have X := HM.out; refine wpList_store_row rfl 49 (.tmp 2) (.tmp 7) rfl B _ rfl rfl 49 _ X (info_say _ _ _ _) rfl (all4 _ _ _ _ _ _) ?_; clear X)
    obtain ⟨W1, hW1⟩ : ∃ W1, w1.setRow B #[.int .u8 wh2, .int .i64 (s : Int), .iface 65 V, .iface 65 U] = W1 := ⟨_, rfl⟩
    rw [hW1]
    have HWW : Hid (Below w.heap.size w W1) := by show Below _ _ _; rw [← hW1]; exact setRow_below' HW.out (by rw [HBB.out]; exact Nat.le_refl _) _
    have HM0 : Hid (∀ wx : World, Below W1.heap.size W1 wx → wx.heap[B]? = some (.cells #[.int .u8 wh2, .int .i64 (s : Int), .iface 65 V, .iface 65 U] 49 (0, 0))) := fun wx h => by
      have h0 : W1.heap[B]? = some (.cells #[.int .u8 wh2, .int .i64 (s : Int), .iface 65 V, .iface 65 U] 49 (0, 0)) := by rw [← hW1]; exact setRow_at' HM.out
      exact (h.block _ (Array.getElem?_eq_some_iff.1 h0).1).trans h0
    clear hW1 HM HW
    go_wp2_with fail
    refine wp_region_last (fun | 0 => .pointer (some ⟨B, 2, none⟩) | 1 => .pointer (some ⟨B, 2, none⟩) | 2 => .iface 65 V | 3 => .func (.func 40) #[] #[] | 4 => .iface tz vz | 5 => .pointer (some ⟨B, 2, none⟩) | 6 => .pointer (some ⟨B, 3, none⟩) | 7 => .iface 65 U | 8 => .func (.func 40) #[] #[] | 9 => .iface to vo | 10 => .agg #[.iface tz vz, .iface to vo] | 11 => .pointer (some ⟨B, 2, none⟩) | _ => undef) 12 (fun wx => wx.setRow B #[.int .u8 wh2, .int .i64 (s : Int), .iface tz vz, .iface to vo]) _ (by kernel_rfl) (by kernel_rfl) rfl rfl rfl rfl (by kernel_rfl) ?conee ?stee ?enee
    case conee =>
      intro i o ho hlt a wx hb hf
      match i, ho with
      | 0, ho =>
        obtain rfl := Option.some.inj ho
        have b2 : a.tmps[2]?.getD undef = .pointer (some ⟨B, 0, none⟩) := hf.2 2 (by kernel_rfl)
        exact wp_value (.pointer (some ⟨B, 2, none⟩)) (by unfold execOp; go_simp) ⟨rfl, Below.refl _ _⟩
      | 1, ho =>
        obtain rfl := Option.some.inj ho
        have e8 : a.tmps[8]?.getD undef = .pointer (some ⟨B, 2, none⟩) := hf.1 ⟨0, .data⟩ (by simp) rfl _ 8 rfl rfl
        exact wp_value (.pointer (some ⟨B, 2, none⟩)) (by unfold execOp; go_simp) ⟨rfl, Below.refl _ _⟩
      | 2, ho =>
        obtain rfl := Option.some.inj ho
        have e9 : a.tmps[9]?.getD undef = .pointer (some ⟨B, 2, none⟩) := hf.1 ⟨1, .data⟩ (by simp) rfl _ 9 rfl rfl
        obtain ⟨c0, c1, c2, c3⟩ := cells4 (HM0.out wx hb)
        exact wp_value (.iface 65 V) (by unfold execOp; go_simp) ⟨rfl, Below.refl _ _⟩
      | 3, ho =>
        obtain rfl := Option.some.inj ho
        have b1 : a.tmps[1]?.getD undef = .func (.func 40) #[] #[] := hf.2 1 (by kernel_rfl)
        exact wp_value (.func (.func 40) #[] #[]) (by unfold execOp; go_simp) ⟨rfl, Below.refl _ _⟩
      | 4, ho =>
        obtain rfl := Option.some.inj ho
        have e10 : a.tmps[10]?.getD undef = .iface 65 V := hf.1 ⟨2, .data⟩ (by simp) rfl _ 10 rfl rfl
        have e11 : a.tmps[11]?.getD undef = .func (.func 40) #[] #[] := hf.1 ⟨3, .data⟩ (by simp) rfl _ 11 rfl rfl
        exact wp_enter 107 #[V, .func (.func 40) #[] #[]] (.iface tz vz) _ (by unfold execOp; go_simp; go_invoke; rfl) (HZ.out wx) (fun w' h => ⟨rfl, h⟩)
      | 5, ho =>
        obtain rfl := Option.some.inj ho
        have b2 : a.tmps[2]?.getD undef = .pointer (some ⟨B, 0, none⟩) := hf.2 2 (by kernel_rfl)
        exact wp_value (.pointer (some ⟨B, 2, none⟩)) (by unfold execOp; go_simp) ⟨rfl, Below.refl _ _⟩
      | 6, ho =>
        obtain rfl := Option.some.inj ho
        have e13 : a.tmps[13]?.getD undef = .pointer (some ⟨B, 2, none⟩) := hf.1 ⟨5, .data⟩ (by simp) rfl _ 13 rfl rfl
        exact wp_value (.pointer (some ⟨B, 3, none⟩)) (by unfold execOp; go_simp) ⟨rfl, Below.refl _ _⟩
      | 7, ho =>
        obtain rfl := Option.some.inj ho
        have e14 : a.tmps[14]?.getD undef = .pointer (some ⟨B, 3, none⟩) := hf.1 ⟨6, .data⟩ (by simp) rfl _ 14 rfl rfl
        obtain ⟨c0, c1, c2, c3⟩ := cells4 (HM0.out wx hb)
        exact wp_value (.iface 65 U) (by unfold execOp; go_simp) ⟨rfl, Below.refl _ _⟩
      | 8, ho =>
        obtain rfl := Option.some.inj ho
        have b1 : a.tmps[1]?.getD undef = .func (.func 40) #[] #[] := hf.2 1 (by kernel_rfl)
        exact wp_value (.func (.func 40) #[] #[]) (by unfold execOp; go_simp) ⟨rfl, Below.refl _ _⟩
      | 9, ho =>
        obtain rfl := Option.some.inj ho
        have e15 : a.tmps[15]?.getD undef = .iface 65 U := hf.1 ⟨7, .data⟩ (by simp) rfl _ 15 rfl rfl
        have e16 : a.tmps[16]?.getD undef = .func (.func 40) #[] #[] := hf.1 ⟨8, .data⟩ (by simp) rfl _ 16 rfl rfl
        exact wp_enter 107 #[U, .func (.func 40) #[] #[]] (.iface to vo) _ (by unfold execOp; go_simp; go_invoke; rfl) (HO.out wx) (fun w' h => ⟨rfl, h⟩)
      | 10, ho =>
        obtain rfl := Option.some.inj ho
        have e12 : a.tmps[12]?.getD undef = .iface tz vz := hf.1 ⟨4, .data⟩ (by simp) rfl _ 12 rfl rfl
        have e17 : a.tmps[17]?.getD undef = .iface to vo := hf.1 ⟨9, .data⟩ (by simp) rfl _ 17 rfl rfl
        exact wp_value (.agg #[.iface tz vz, .iface to vo]) (by unfold execOp; go_simp) ⟨rfl, Below.refl _ _⟩
      | 11, ho =>
        obtain rfl := Option.some.inj ho
        have b2 : a.tmps[2]?.getD undef = .pointer (some ⟨B, 0, none⟩) := hf.2 2 (by kernel_rfl)
        exact wp_value (.pointer (some ⟨B, 2, none⟩)) (by unfold execOp; go_simp) ⟨rfl, Below.refl _ _⟩
      | 12, ho => exact absurd hlt (by omega)
      | q + 13, ho => simp at ho
    case stee =>
      intro a wx hb hf
      have e18 : a.tmps[18]?.getD undef = .agg #[.iface tz vz, .iface to vo] := hf.1 ⟨10, .data⟩ (by simp) rfl _ 18 rfl rfl
      have e19 : a.tmps[19]?.getD undef = .pointer (some ⟨B, 2, none⟩) := hf.1 ⟨11, .data⟩ (by simp) rfl _ 19 rfl rfl
      exact wp_store_mid 47 (.tmp 19) (.tmp 18) rfl B 2 #[.iface tz vz, .iface to vo] (eval_get e19) (eval_get e18) (there_row (HM0.out wx hb)) (info_two _ _) (all2 _ _ _ _) ⟨rfl, set2 (HM0.out wx hb) _ _⟩
    intro w5 hb5
    have HR : Hid ((w5.setRow B #[.int .u8 wh2, .int .i64 (s : Int), .iface tz vz, .iface to vo]).heap[B]? = some (.cells #[.int .u8 wh2, .int .i64 (s : Int), .iface tz vz, .iface to vo] 49 (0, 0))) := setRow_at' (HM0.out w5 hb5)
    have HB5 : Hid (Below w.heap.size w (w5.setRow B #[.int .u8 wh2, .int .i64 (s : Int), .iface tz vz, .iface to vo])) := setRow_below' (HWW.out.trans (hb5.mono HWW.out.size)) (by rw [HBB.out]; exact Nat.le_refl _) _
    clear hb5 HM0 HWW
    simp only [fill, Act.put]
    go_simp
    generalize w5.setRow B #[.int .u8 wh2, .int .i64 (s : Int), .iface tz vz, .iface to vo] = w6 at *
    obtain ⟨c0, c1, c2, c3⟩ := cells4 HR.out
    clear HR
    go_wp2_with fail
    go_ret
    exact ⟨by rw [HT.out]; rfl, HB5.out⟩
  · have HZ := Lib.hid hz
    have HO := Lib.hid ho
    rw [ez, eo]
    clear ez eo hz ho
    go_enter Try.func96, Try.ntmps96
    go_wp2_with fail
    refine (HF.out _ _ _ _ _).mono ?_
    rintro e w1 ⟨rfl, hb1⟩
    have HM : Hid (w1.heap[B]? = some (.cells #[.int .u8 wh, .int .i64 (s : Int), .iface 65 V, .iface 49 U] 49 (0, 0))) := by
      have h0 : (w.alloc (.cells #[.int .u8 wh, .int .i64 (s : Int), .iface 65 V, .iface 49 U] 49)).heap[w.heap.size]? = some (.cells #[.int .u8 wh, .int .i64 (s : Int), .iface 65 V, .iface 49 U] 49 (0, 0)) := heap_alloc_new w _
      show _ = _
      rw [← HBB.out]
      exact (hb1.block _ (Array.getElem?_eq_some_iff.1 h0).1).trans h0
    have HW : Hid (Below w.heap.size w w1) := by
      have h0 : Below w.heap.size w (w.alloc (.cells #[.int .u8 wh, .int .i64 (s : Int), .iface 65 V, .iface 49 U] 49)) := (Below.refl _ _).alloc (Nat.le_refl _) _
      exact h0.trans (hb1.mono h0.size)
    clear hb1
    go_wp2_with (have X := HM.out; refine wpList_store_row rfl 49 (.tmp 2) (.tmp 7) rfl B _ rfl rfl 49 _ X (info_say _ _ _ _) rfl (all4 _ _ _ _ _ _) ?_; clear X)
    obtain ⟨W1, hW1⟩ : ∃ W1, w1.setRow B #[.int .u8 wh2, .int .i64 (s : Int), .iface 65 V, .iface 49 U] = W1 := ⟨_, rfl⟩
    rw [hW1]
    have HWW : Hid (Below w.heap.size w W1) := by show Below _ _ _; rw [← hW1]; exact setRow_below' HW.out (by rw [HBB.out]; exact Nat.le_refl _) _
    have HM0 : Hid (∀ wx : World, Below W1.heap.size W1 wx → wx.heap[B]? = some (.cells #[.int .u8 wh2, .int .i64 (s : Int), .iface 65 V, .iface 49 U] 49 (0, 0))) := fun wx h => by
      have h0 : W1.heap[B]? = some (.cells #[.int .u8 wh2, .int .i64 (s : Int), .iface 65 V, .iface 49 U] 49 (0, 0)) := by rw [← hW1]; exact setRow_at' HM.out
      exact (h.block _ (Array.getElem?_eq_some_iff.1 h0).1).trans h0
    clear hW1 HM HW
    go_wp2_with fail
    refine wp_region_last (fun | 0 => .pointer (some ⟨B, 2, none⟩) | 1 => .pointer (some ⟨B, 2, none⟩) | 2 => .iface 65 V | 3 => .func (.func 40) #[] #[] | 4 => .iface tz vz | 5 => .pointer (some ⟨B, 2, none⟩) | 6 => .pointer (some ⟨B, 3, none⟩) | 7 => .iface 49 U | 8 => .func (.func 40) #[] #[] | 9 => .iface to vo | 10 => .agg #[.iface tz vz, .iface to vo] | 11 => .pointer (some ⟨B, 2, none⟩) | _ => undef) 12 (fun wx => wx.setRow B #[.int .u8 wh2, .int .i64 (s : Int), .iface tz vz, .iface to vo]) _ (by kernel_rfl) (by kernel_rfl) rfl rfl rfl rfl (by kernel_rfl) ?cones ?stes ?enes
    case cones =>
      intro i o ho hlt a wx hb hf
      match i, ho with
      | 0, ho =>
        obtain rfl := Option.some.inj ho
        have b2 : a.tmps[2]?.getD undef = .pointer (some ⟨B, 0, none⟩) := hf.2 2 (by kernel_rfl)
        exact wp_value (.pointer (some ⟨B, 2, none⟩)) (by unfold execOp; go_simp) ⟨rfl, Below.refl _ _⟩
      | 1, ho =>
        obtain rfl := Option.some.inj ho
        have e8 : a.tmps[8]?.getD undef = .pointer (some ⟨B, 2, none⟩) := hf.1 ⟨0, .data⟩ (by simp) rfl _ 8 rfl rfl
        exact wp_value (.pointer (some ⟨B, 2, none⟩)) (by unfold execOp; go_simp) ⟨rfl, Below.refl _ _⟩
      | 2, ho =>
        obtain rfl := Option.some.inj ho
        have e9 : a.tmps[9]?.getD undef = .pointer (some ⟨B, 2, none⟩) := hf.1 ⟨1, .data⟩ (by simp) rfl _ 9 rfl rfl
        obtain ⟨c0, c1, c2, c3⟩ := cells4 (HM0.out wx hb)
        exact wp_value (.iface 65 V) (by unfold execOp; go_simp) ⟨rfl, Below.refl _ _⟩
      | 3, ho =>
        obtain rfl := Option.some.inj ho
        have b1 : a.tmps[1]?.getD undef = .func (.func 40) #[] #[] := hf.2 1 (by kernel_rfl)
        exact wp_value (.func (.func 40) #[] #[]) (by unfold execOp; go_simp) ⟨rfl, Below.refl _ _⟩
      | 4, ho =>
        obtain rfl := Option.some.inj ho
        have e10 : a.tmps[10]?.getD undef = .iface 65 V := hf.1 ⟨2, .data⟩ (by simp) rfl _ 10 rfl rfl
        have e11 : a.tmps[11]?.getD undef = .func (.func 40) #[] #[] := hf.1 ⟨3, .data⟩ (by simp) rfl _ 11 rfl rfl
        exact wp_enter 107 #[V, .func (.func 40) #[] #[]] (.iface tz vz) _ (by unfold execOp; go_simp; go_invoke; rfl) (HZ.out wx) (fun w' h => ⟨rfl, h⟩)
      | 5, ho =>
        obtain rfl := Option.some.inj ho
        have b2 : a.tmps[2]?.getD undef = .pointer (some ⟨B, 0, none⟩) := hf.2 2 (by kernel_rfl)
        exact wp_value (.pointer (some ⟨B, 2, none⟩)) (by unfold execOp; go_simp) ⟨rfl, Below.refl _ _⟩
      | 6, ho =>
        obtain rfl := Option.some.inj ho
        have e13 : a.tmps[13]?.getD undef = .pointer (some ⟨B, 2, none⟩) := hf.1 ⟨5, .data⟩ (by simp) rfl _ 13 rfl rfl
        exact wp_value (.pointer (some ⟨B, 3, none⟩)) (by unfold execOp; go_simp) ⟨rfl, Below.refl _ _⟩
      | 7, ho =>
        obtain rfl := Option.some.inj ho
        have e14 : a.tmps[14]?.getD undef = .pointer (some ⟨B, 3, none⟩) := hf.1 ⟨6, .data⟩ (by simp) rfl _ 14 rfl rfl
        obtain ⟨c0, c1, c2, c3⟩ := cells4 (HM0.out wx hb)
        exact wp_value (.iface 49 U) (by unfold execOp; go_simp) ⟨rfl, Below.refl _ _⟩
      | 8, ho =>
        obtain rfl := Option.some.inj ho
        have b1 : a.tmps[1]?.getD undef = .func (.func 40) #[] #[] := hf.2 1 (by kernel_rfl)
        exact wp_value (.func (.func 40) #[] #[]) (by unfold execOp; go_simp) ⟨rfl, Below.refl _ _⟩
      | 9, ho =>
        obtain rfl := Option.some.inj ho
        have e15 : a.tmps[15]?.getD undef = .iface 49 U := hf.1 ⟨7, .data⟩ (by simp) rfl _ 15 rfl rfl
        have e16 : a.tmps[16]?.getD undef = .func (.func 40) #[] #[] := hf.1 ⟨8, .data⟩ (by simp) rfl _ 16 rfl rfl
        exact wp_enter 96 #[U, .func (.func 40) #[] #[]] (.iface to vo) _ (by unfold execOp; go_simp; go_invoke; rfl) (HO.out wx) (fun w' h => ⟨rfl, h⟩)
      | 10, ho =>
        obtain rfl := Option.some.inj ho
        have e12 : a.tmps[12]?.getD undef = .iface tz vz := hf.1 ⟨4, .data⟩ (by simp) rfl _ 12 rfl rfl
        have e17 : a.tmps[17]?.getD undef = .iface to vo := hf.1 ⟨9, .data⟩ (by simp) rfl _ 17 rfl rfl
        exact wp_value (.agg #[.iface tz vz, .iface to vo]) (by unfold execOp; go_simp) ⟨rfl, Below.refl _ _⟩
      | 11, ho =>
        obtain rfl := Option.some.inj ho
        have b2 : a.tmps[2]?.getD undef = .pointer (some ⟨B, 0, none⟩) := hf.2 2 (by kernel_rfl)
        exact wp_value (.pointer (some ⟨B, 2, none⟩)) (by unfold execOp; go_simp) ⟨rfl, Below.refl _ _⟩
      | 12, ho => exact absurd hlt (by omega)
      | q + 13, ho => simp at ho
    case stes =>
      intro a wx hb hf
      have e18 : a.tmps[18]?.getD undef = .agg #[.iface tz vz, .iface to vo] := hf.1 ⟨10, .data⟩ (by simp) rfl _ 18 rfl rfl
      have e19 : a.tmps[19]?.getD undef = .pointer (some ⟨B, 2, none⟩) := hf.1 ⟨11, .data⟩ (by simp) rfl _ 19 rfl rfl
      exact wp_store_mid 47 (.tmp 19) (.tmp 18) rfl B 2 #[.iface tz vz, .iface to vo] (eval_get e19) (eval_get e18) (there_row (HM0.out wx hb)) (info_two _ _) (all2 _ _ _ _) ⟨rfl, set2 (HM0.out wx hb) _ _⟩
    intro w5 hb5
    have HR : Hid ((w5.setRow B #[.int .u8 wh2, .int .i64 (s : Int), .iface tz vz, .iface to vo]).heap[B]? = some (.cells #[.int .u8 wh2, .int .i64 (s : Int), .iface tz vz, .iface to vo] 49 (0, 0))) := setRow_at' (HM0.out w5 hb5)
    have HB5 : Hid (Below w.heap.size w (w5.setRow B #[.int .u8 wh2, .int .i64 (s : Int), .iface tz vz, .iface to vo])) := setRow_below' (HWW.out.trans (hb5.mono HWW.out.size)) (by rw [HBB.out]; exact Nat.le_refl _) _
    clear hb5 HM0 HWW
    simp only [fill, Act.put]
    go_simp
    generalize w5.setRow B #[.int .u8 wh2, .int .i64 (s : Int), .iface tz vz, .iface to vo] = w6 at *
    obtain ⟨c0, c1, c2, c3⟩ := cells4 HR.out
    clear HR
    go_wp2_with fail
    go_ret
    exact ⟨by rw [HT.out]; rfl, HB5.out⟩
  · have HZ := Lib.hid hz
    have HO := Lib.hid ho
    rw [ez, eo]
    clear ez eo hz ho
    go_enter Try.func96, Try.ntmps96
    go_wp2_with fail
    refine (HF.out _ _ _ _ _).mono ?_
    rintro e w1 ⟨rfl, hb1⟩
    have HM : Hid (w1.heap[B]? = some (.cells #[.int .u8 wh, .int .i64 (s : Int), .iface 49 V, .iface 65 U] 49 (0, 0))) := by
      have h0 : (w.alloc (.cells #[.int .u8 wh, .int .i64 (s : Int), .iface 49 V, .iface 65 U] 49)).heap[w.heap.size]? = some (.cells #[.int .u8 wh, .int .i64 (s : Int), .iface 49 V, .iface 65 U] 49 (0, 0)) := heap_alloc_new w _
      show _ = _
      rw [← HBB.out]
      exact (hb1.block _ (Array.getElem?_eq_some_iff.1 h0).1).trans h0
    have HW : Hid (Below w.heap.size w w1) := by
      have h0 : Below w.heap.size w (w.alloc (.cells #[.int .u8 wh, .int .i64 (s : Int), .iface 49 V, .iface 65 U] 49)) := (Below.refl _ _).alloc (Nat.le_refl _) _
      exact h0.trans (hb1.mono h0.size)
    clear hb1
    go_wp2_with (have X := HM.out; refine wpList_store_row rfl 49 (.tmp 2) (.tmp 7) rfl B _ rfl rfl 49 _ X (info_say _ _ _ _) rfl (all4 _ _ _ _ _ _) ?_; clear X)
    obtain ⟨W1, hW1⟩ : ∃ W1, w1.setRow B #[.int .u8 wh2, .int .i64 (s : Int), .iface 49 V, .iface 65 U] = W1 := ⟨_, rfl⟩
    rw [hW1]
    have HWW : Hid (Below w.heap.size w W1) := by show Below _ _ _; rw [← hW1]; exact setRow_below' HW.out (by rw [HBB.out]; exact Nat.le_refl _) _
    have HM0 : Hid (∀ wx : World, Below W1.heap.size W1 wx → wx.heap[B]? = some (.cells #[.int .u8 wh2, .int .i64 (s : Int), .iface 49 V, .iface 65 U] 49 (0, 0))) := fun wx h => by
      have h0 : W1.heap[B]? = some (.cells #[.int .u8 wh2, .int .i64 (s : Int), .iface 49 V, .iface 65 U] 49 (0, 0)) := by rw [← hW1]; exact setRow_at' HM.out
      exact (h.block _ (Array.getElem?_eq_some_iff.1 h0).1).trans h0
    clear hW1 HM HW
    go_wp2_with fail
    refine wp_region_last (fun | 0 => .pointer (some ⟨B, 2, none⟩) | 1 => .pointer (some ⟨B, 2, none⟩) | 2 => .iface 49 V | 3 => .func (.func 40) #[] #[] | 4 => .iface tz vz | 5 => .pointer (some ⟨B, 2, none⟩) | 6 => .pointer (some ⟨B, 3, none⟩) | 7 => .iface 65 U | 8 => .func (.func 40) #[] #[] | 9 => .iface to vo | 10 => .agg #[.iface tz vz, .iface to vo] | 11 => .pointer (some ⟨B, 2, none⟩) | _ => undef) 12 (fun wx => wx.setRow B #[.int .u8 wh2, .int .i64 (s : Int), .iface tz vz, .iface to vo]) _ (by kernel_rfl) (by kernel_rfl) rfl rfl rfl rfl (by kernel_rfl) ?conse ?stse ?ense
    case conse =>
      intro i o ho hlt a wx hb hf
      match i, ho with
      | 0, ho =>
        obtain rfl := Option.some.inj ho
        have b2 : a.tmps[2]?.getD undef = .pointer (some ⟨B, 0, none⟩) := hf.2 2 (by kernel_rfl)
        exact wp_value (.pointer (some ⟨B, 2, none⟩)) (by unfold execOp; go_simp) ⟨rfl, Below.refl _ _⟩
      | 1, ho =>
        obtain rfl := Option.some.inj ho
        have e8 : a.tmps[8]?.getD undef = .pointer (some ⟨B, 2, none⟩) := hf.1 ⟨0, .data⟩ (by simp) rfl _ 8 rfl rfl
        exact wp_value (.pointer (some ⟨B, 2, none⟩)) (by unfold execOp; go_simp) ⟨rfl, Below.refl _ _⟩
      | 2, ho =>
        obtain rfl := Option.some.inj ho
        have e9 : a.tmps[9]?.getD undef = .pointer (some ⟨B, 2, none⟩) := hf.1 ⟨1, .data⟩ (by simp) rfl _ 9 rfl rfl
        obtain ⟨c0, c1, c2, c3⟩ := cells4 (HM0.out wx hb)
        exact wp_value (.iface 49 V) (by unfold execOp; go_simp) ⟨rfl, Below.refl _ _⟩
      | 3, ho =>
        obtain rfl := Option.some.inj ho
        have b1 : a.tmps[1]?.getD undef = .func (.func 40) #[] #[] := hf.2 1 (by kernel_rfl)
        exact wp_value (.func (.func 40) #[] #[]) (by unfold execOp; go_simp) ⟨rfl, Below.refl _ _⟩
      | 4, ho =>
        obtain rfl := Option.some.inj ho
        have e10 : a.tmps[10]?.getD undef = .iface 49 V := hf.1 ⟨2, .data⟩ (by simp) rfl _ 10 rfl rfl
        have e11 : a.tmps[11]?.getD undef = .func (.func 40) #[] #[] := hf.1 ⟨3, .data⟩ (by simp) rfl _ 11 rfl rfl
        exact wp_enter 96 #[V, .func (.func 40) #[] #[]] (.iface tz vz) _ (by unfold execOp; go_simp; go_invoke; rfl) (HZ.out wx) (fun w' h => ⟨rfl, h⟩)
      | 5, ho =>
        obtain rfl := Option.some.inj ho
        have b2 : a.tmps[2]?.getD undef = .pointer (some ⟨B, 0, none⟩) := hf.2 2 (by kernel_rfl)
        exact wp_value (.pointer (some ⟨B, 2, none⟩)) (by unfold execOp; go_simp) ⟨rfl, Below.refl _ _⟩
      | 6, ho =>
        obtain rfl := Option.some.inj ho
        have e13 : a.tmps[13]?.getD undef = .pointer (some ⟨B, 2, none⟩) := hf.1 ⟨5, .data⟩ (by simp) rfl _ 13 rfl rfl
        exact wp_value (.pointer (some ⟨B, 3, none⟩)) (by unfold execOp; go_simp) ⟨rfl, Below.refl _ _⟩
      | 7, ho =>
        obtain rfl := Option.some.inj ho
        have e14 : a.tmps[14]?.getD undef = .pointer (some ⟨B, 3, none⟩) := hf.1 ⟨6, .data⟩ (by simp) rfl _ 14 rfl rfl
        obtain ⟨c0, c1, c2, c3⟩ := cells4 (HM0.out wx hb)
        exact wp_value (.iface 65 U) (by unfold execOp; go_simp) ⟨rfl, Below.refl _ _⟩
      | 8, ho =>
        obtain rfl := Option.some.inj ho
        have b1 : a.tmps[1]?.getD undef = .func (.func 40) #[] #[] := hf.2 1 (by kernel_rfl)
        exact wp_value (.func (.func 40) #[] #[]) (by unfold execOp; go_simp) ⟨rfl, Below.refl _ _⟩
      | 9, ho =>
        obtain rfl := Option.some.inj ho
        have e15 : a.tmps[15]?.getD undef = .iface 65 U := hf.1 ⟨7, .data⟩ (by simp) rfl _ 15 rfl rfl
        have e16 : a.tmps[16]?.getD undef = .func (.func 40) #[] #[] := hf.1 ⟨8, .data⟩ (by simp) rfl _ 16 rfl rfl
        exact wp_enter 107 #[U, .func (.func 40) #[] #[]] (.iface to vo) _ (by unfold execOp; go_simp; go_invoke; rfl) (HO.out wx) (fun w' h => ⟨rfl, h⟩)
      | 10, ho =>
        obtain rfl := Option.some.inj ho
        have e12 : a.tmps[12]?.getD undef = .iface tz vz := hf.1 ⟨4, .data⟩ (by simp) rfl _ 12 rfl rfl
        have e17 : a.tmps[17]?.getD undef = .iface to vo := hf.1 ⟨9, .data⟩ (by simp) rfl _ 17 rfl rfl
        exact wp_value (.agg #[.iface tz vz, .iface to vo]) (by unfold execOp; go_simp) ⟨rfl, Below.refl _ _⟩
      | 11, ho =>
        obtain rfl := Option.some.inj ho
        have b2 : a.tmps[2]?.getD undef = .pointer (some ⟨B, 0, none⟩) := hf.2 2 (by kernel_rfl)
        exact wp_value (.pointer (some ⟨B, 2, none⟩)) (by unfold execOp; go_simp) ⟨rfl, Below.refl _ _⟩
      | 12, ho => exact absurd hlt (by omega)
      | q + 13, ho => simp at ho
    case stse =>
      intro a wx hb hf
      have e18 : a.tmps[18]?.getD undef = .agg #[.iface tz vz, .iface to vo] := hf.1 ⟨10, .data⟩ (by simp) rfl _ 18 rfl rfl
      have e19 : a.tmps[19]?.getD undef = .pointer (some ⟨B, 2, none⟩) := hf.1 ⟨11, .data⟩ (by simp) rfl _ 19 rfl rfl
      exact wp_store_mid 47 (.tmp 19) (.tmp 18) rfl B 2 #[.iface tz vz, .iface to vo] (eval_get e19) (eval_get e18) (there_row (HM0.out wx hb)) (info_two _ _) (all2 _ _ _ _) ⟨rfl, set2 (HM0.out wx hb) _ _⟩
    intro w5 hb5
    have HR : Hid ((w5.setRow B #[.int .u8 wh2, .int .i64 (s : Int), .iface tz vz, .iface to vo]).heap[B]? = some (.cells #[.int .u8 wh2, .int .i64 (s : Int), .iface tz vz, .iface to vo] 49 (0, 0))) := setRow_at' (HM0.out w5 hb5)
    have HB5 : Hid (Below w.heap.size w (w5.setRow B #[.int .u8 wh2, .int .i64 (s : Int), .iface tz vz, .iface to vo])) := setRow_below' (HWW.out.trans (hb5.mono HWW.out.size)) (by rw [HBB.out]; exact Nat.le_refl _) _
    clear hb5 HM0 HWW
    simp only [fill, Act.put]
    go_simp
    generalize w5.setRow B #[.int .u8 wh2, .int .i64 (s : Int), .iface tz vz, .iface to vo] = w6 at *
    obtain ⟨c0, c1, c2, c3⟩ := cells4 HR.out
    clear HR
    go_wp2_with fail
    go_ret
    exact ⟨by rw [HT.out]; rfl, HB5.out⟩
  · have HZ := Lib.hid hz
    have HO := Lib.hid ho
    rw [ez, eo]
    clear ez eo hz ho
    go_enter Try.func96, Try.ntmps96
    go_wp2_with fail
    refine (HF.out _ _ _ _ _).mono ?_
    rintro e w1 ⟨rfl, hb1⟩
    have HM : Hid (w1.heap[B]? = some (.cells #[.int .u8 wh, .int .i64 (s : Int), .iface 49 V, .iface 49 U] 49 (0, 0))) := by
      have h0 : (w.alloc (.cells #[.int .u8 wh, .int .i64 (s : Int), .iface 49 V, .iface 49 U] 49)).heap[w.heap.size]? = some (.cells #[.int .u8 wh, .int .i64 (s : Int), .iface 49 V, .iface 49 U] 49 (0, 0)) := heap_alloc_new w _
      show _ = _
      rw [← HBB.out]
      exact (hb1.block _ (Array.getElem?_eq_some_iff.1 h0).1).trans h0
    have HW : Hid (Below w.heap.size w w1) := by
      have h0 : Below w.heap.size w (w.alloc (.cells #[.int .u8 wh, .int .i64 (s : Int), .iface 49 V, .iface 49 U] 49)) := (Below.refl _ _).alloc (Nat.le_refl _) _
      exact h0.trans (hb1.mono h0.size)
    clear hb1
    go_wp2_with (have X := HM.out; refine wpList_store_row rfl 49 (.tmp 2) (.tmp 7) rfl B _ rfl rfl 49 _ X (info_say _ _ _ _) rfl (all4 _ _ _ _ _ _) ?_; clear X)
    obtain ⟨W1, hW1⟩ : ∃ W1, w1.setRow B #[.int .u8 wh2, .int .i64 (s : Int), .iface 49 V, .iface 49 U] = W1 := ⟨_, rfl⟩
    rw [hW1]
    have HWW : Hid (Below w.heap.size w W1) := by show Below _ _ _; rw [← hW1]; exact setRow_below' HW.out (by rw [HBB.out]; exact Nat.le_refl _) _
    have HM0 : Hid (∀ wx : World, Below W1.heap.size W1 wx → wx.heap[B]? = some (.cells #[.int .u8 wh2, .int .i64 (s : Int), .iface 49 V, .iface 49 U] 49 (0, 0))) := fun wx h => by
      have h0 : W1.heap[B]? = some (.cells #[.int .u8 wh2, .int .i64 (s : Int), .iface 49 V, .iface 49 U] 49 (0, 0)) := by rw [← hW1]; exact setRow_at' HM.out
      exact (h.block _ (Array.getElem?_eq_some_iff.1 h0).1).trans h0
    clear hW1 HM HW
    go_wp2_with fail
    refine wp_region_last (fun | 0 => .pointer (some ⟨B, 2, none⟩) | 1 => .pointer (some ⟨B, 2, none⟩) | 2 => .iface 49 V | 3 => .func (.func 40) #[] #[] | 4 => .iface tz vz | 5 => .pointer (some ⟨B, 2, none⟩) | 6 => .pointer (some ⟨B, 3, none⟩) | 7 => .iface 49 U | 8 => .func (.func 40) #[] #[] | 9 => .iface to vo | 10 => .agg #[.iface tz vz, .iface to vo] | 11 => .pointer (some ⟨B, 2, none⟩) | _ => undef) 12 (fun wx => wx.setRow B #[.int .u8 wh2, .int .i64 (s : Int), .iface tz vz, .iface to vo]) _ (by kernel_rfl) (by kernel_rfl) rfl rfl rfl rfl (by kernel_rfl) ?conss ?stss ?enss
    case conss =>
      intro i o ho hlt a wx hb hf
      match i, ho with
      | 0, ho =>
        obtain rfl := Option.some.inj ho
        have b2 : a.tmps[2]?.getD undef = .pointer (some ⟨B, 0, none⟩) := hf.2 2 (by kernel_rfl)
        exact wp_value (.pointer (some ⟨B, 2, none⟩)) (by unfold execOp; go_simp) ⟨rfl, Below.refl _ _⟩
      | 1, ho =>
        obtain rfl := Option.some.inj ho
        have e8 : a.tmps[8]?.getD undef = .pointer (some ⟨B, 2, none⟩) := hf.1 ⟨0, .data⟩ (by simp) rfl _ 8 rfl rfl
        exact wp_value (.pointer (some ⟨B, 2, none⟩)) (by unfold execOp; go_simp) ⟨rfl, Below.refl _ _⟩
      | 2, ho =>
        obtain rfl := Option.some.inj ho
        have e9 : a.tmps[9]?.getD undef = .pointer (some ⟨B, 2, none⟩) := hf.1 ⟨1, .data⟩ (by simp) rfl _ 9 rfl rfl
        obtain ⟨c0, c1, c2, c3⟩ := cells4 (HM0.out wx hb)
        exact wp_value (.iface 49 V) (by unfold execOp; go_simp) ⟨rfl, Below.refl _ _⟩
      | 3, ho =>
        obtain rfl := Option.some.inj ho
        have b1 : a.tmps[1]?.getD undef = .func (.func 40) #[] #[] := hf.2 1 (by kernel_rfl)
        exact wp_value (.func (.func 40) #[] #[]) (by unfold execOp; go_simp) ⟨rfl, Below.refl _ _⟩
      | 4, ho =>
        obtain rfl := Option.some.inj ho
        have e10 : a.tmps[10]?.getD undef = .iface 49 V := hf.1 ⟨2, .data⟩ (by simp) rfl _ 10 rfl rfl
        have e11 : a.tmps[11]?.getD undef = .func (.func 40) #[] #[] := hf.1 ⟨3, .data⟩ (by simp) rfl _ 11 rfl rfl
        exact wp_enter 96 #[V, .func (.func 40) #[] #[]] (.iface tz vz) _ (by unfold execOp; go_simp; go_invoke; rfl) (HZ.out wx) (fun w' h => ⟨rfl, h⟩)
      | 5, ho =>
        obtain rfl := Option.some.inj ho
        have b2 : a.tmps[2]?.getD undef = .pointer (some ⟨B, 0, none⟩) := hf.2 2 (by kernel_rfl)
        exact wp_value (.pointer (some ⟨B, 2, none⟩)) (by unfold execOp; go_simp) ⟨rfl, Below.refl _ _⟩
      | 6, ho =>
        obtain rfl := Option.some.inj ho
        have e13 : a.tmps[13]?.getD undef = .pointer (some ⟨B, 2, none⟩) := hf.1 ⟨5, .data⟩ (by simp) rfl _ 13 rfl rfl
        exact wp_value (.pointer (some ⟨B, 3, none⟩)) (by unfold execOp; go_simp) ⟨rfl, Below.refl _ _⟩
      | 7, ho =>
        obtain rfl := Option.some.inj ho
        have e14 : a.tmps[14]?.getD undef = .pointer (some ⟨B, 3, none⟩) := hf.1 ⟨6, .data⟩ (by simp) rfl _ 14 rfl rfl
        obtain ⟨c0, c1, c2, c3⟩ := cells4 (HM0.out wx hb)
        exact wp_value (.iface 49 U) (by unfold execOp; go_simp) ⟨rfl, Below.refl _ _⟩
      | 8, ho =>
        obtain rfl := Option.some.inj ho
        have b1 : a.tmps[1]?.getD undef = .func (.func 40) #[] #[] := hf.2 1 (by kernel_rfl)
        exact wp_value (.func (.func 40) #[] #[]) (by unfold execOp; go_simp) ⟨rfl, Below.refl _ _⟩
      | 9, ho =>
        obtain rfl := Option.some.inj ho
        have e15 : a.tmps[15]?.getD undef = .iface 49 U := hf.1 ⟨7, .data⟩ (by simp) rfl _ 15 rfl rfl
        have e16 : a.tmps[16]?.getD undef = .func (.func 40) #[] #[] := hf.1 ⟨8, .data⟩ (by simp) rfl _ 16 rfl rfl
        exact wp_enter 96 #[U, .func (.func 40) #[] #[]] (.iface to vo) _ (by unfold execOp; go_simp; go_invoke; rfl) (HO.out wx) (fun w' h => ⟨rfl, h⟩)
      | 10, ho =>
        obtain rfl := Option.some.inj ho
        have e12 : a.tmps[12]?.getD undef = .iface tz vz := hf.1 ⟨4, .data⟩ (by simp) rfl _ 12 rfl rfl
        have e17 : a.tmps[17]?.getD undef = .iface to vo := hf.1 ⟨9, .data⟩ (by simp) rfl _ 17 rfl rfl
        exact wp_value (.agg #[.iface tz vz, .iface to vo]) (by unfold execOp; go_simp) ⟨rfl, Below.refl _ _⟩
      | 11, ho =>
        obtain rfl := Option.some.inj ho
        have b2 : a.tmps[2]?.getD undef = .pointer (some ⟨B, 0, none⟩) := hf.2 2 (by kernel_rfl)
        exact wp_value (.pointer (some ⟨B, 2, none⟩)) (by unfold execOp; go_simp) ⟨rfl, Below.refl _ _⟩
      | 12, ho => exact absurd hlt (by omega)
      | q + 13, ho => simp at ho
    case stss =>
      intro a wx hb hf
      have e18 : a.tmps[18]?.getD undef = .agg #[.iface tz vz, .iface to vo] := hf.1 ⟨10, .data⟩ (by simp) rfl _ 18 rfl rfl
      have e19 : a.tmps[19]?.getD undef = .pointer (some ⟨B, 2, none⟩) := hf.1 ⟨11, .data⟩ (by simp) rfl _ 19 rfl rfl
      exact wp_store_mid 47 (.tmp 19) (.tmp 18) rfl B 2 #[.iface tz vz, .iface to vo] (eval_get e19) (eval_get e18) (there_row (HM0.out wx hb)) (info_two _ _) (all2 _ _ _ _) ⟨rfl, set2 (HM0.out wx hb) _ _⟩
    intro w5 hb5
    have HR : Hid ((w5.setRow B #[.int .u8 wh2, .int .i64 (s : Int), .iface tz vz, .iface to vo]).heap[B]? = some (.cells #[.int .u8 wh2, .int .i64 (s : Int), .iface tz vz, .iface to vo] 49 (0, 0))) := setRow_at' (HM0.out w5 hb5)
    have HB5 : Hid (Below w.heap.size w (w5.setRow B #[.int .u8 wh2, .int .i64 (s : Int), .iface tz vz, .iface to vo])) := setRow_below' (HWW.out.trans (hb5.mono HWW.out.size)) (by rw [HBB.out]; exact Nat.le_refl _) _
    clear hb5 HM0 HWW
    simp only [fill, Act.put]
    go_simp
    generalize w5.setRow B #[.int .u8 wh2, .int .i64 (s : Int), .iface tz vz, .iface to vo] = w6 at *
    obtain ⟨c0, c1, c2, c3⟩ := cells4 HR.out
    clear HR
    go_wp2_with fail
    go_ret
    exact ⟨by rw [HT.out]; rfl, HB5.out⟩

theorem edit_to (t : T) : Go.Proofs.Ytodfeaelidpckaa.Count.Node 107 96 t (EditC t) := by
  induction t with
  | leaf b => exact .inl ⟨_, rfl, end_edit b⟩
  | say a s z o ihz iho => exact .inr ⟨_, rfl, say_edit a s z o ihz iho⟩
end Go.Proofs.Ytodfeaelidpckaa.Edit
