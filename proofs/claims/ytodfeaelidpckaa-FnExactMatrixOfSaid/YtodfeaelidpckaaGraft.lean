/-
  Other protocols at the ends, in the program's trees.
-/
import Derived.Test.YtodfeaelidpckaaTurnC
import Derived.Test.YtodfeaelidpckaaFree
namespace Go.Proofs.Ytodfeaelidpckaa.Graft
open Go.RowKit Go.Shelf Go.Proofs.Ytodfeaelidpckaa.Plain Go.Proofs.Ytodfeaelidpckaa.Tree Go.Proofs.Ytodfeaelidpckaa.Read Go.Proofs.Ytodfeaelidpckaa.TurnC Go.Proofs.Ytodfeaelidpckaa.FreeL
open Go.Proofs.Ytodfeaelidpckaa.Count (cells4)
open Go.Proofs.Ytodfeaelidpckaa.Free (fill wp_value wp_enter wp_load_row freeB)
set_option linter.unusedVariables false
set_option linter.unusedSimpArgs false

theorem eval_get {a : Act} {d : Tmp} {v : Value} (h : a.tmps[d]?.getD undef = v) : a.eval (.tmp d) = v := by
  rw [← h]
  show a.tmps.getD d undef = _
  simp [Array.getD_eq_getD_getElem?]
theorem there_row {w : World} {B : Nat} {c0 c1 c2 c3 : Value} {T : TypeId} (h : w.heap[B]? = some (.cells #[c0, c1, c2, c3] T (0, 0))) : w.there B 2 2 := fun j hj => by
  have e : j = 0 ∨ j = 1 := by omega
  rcases e with rfl | rfl
  · exact ⟨by rw [cell_of_row _ _ _ _ _ _ h]; rfl, frozen_of_row _ _ _ _ _ h⟩
  · exact ⟨by rw [cell_of_row _ _ _ _ _ _ h]; rfl, frozen_of_row _ _ _ _ _ h⟩
theorem all2 (t1 t2 : TypeId) (x y : Value) : (#[.iface t1 x, .iface t2 y] : Array Value).all (·.oneCell') = true := by simp [Value.oneCell']
theorem all4 (a b : Int) (t1 t2 : TypeId) (x y : Value) : (#[.int .u8 a, .int .i64 b, .iface t1 x, .iface t2 y] : Array Value).all (·.oneCell') = true := by simp [Value.oneCell']
theorem info_two (x y : Value) : (Try.prog.info? 47).map (·.size) = some (#[x, y] : Array Value).size := by kernel_rfl
def GraftC (zero one : T) (t : T) (f : FuncId) (V : Value) : Prop := ∀ W : World, Calls Try.prog f #[V, .agg #[tree zero, tree one]] W fun e w' => e = .returned (tree (graftT zero one t)) ∧ Below W.heap.size W w'

set_option maxHeartbeats 1000000 in
theorem end_graft (zero one : T) (b : Bool) : GraftC zero one (.leaf b) 108 (.int .i64 (bitI b)) := by
  intro w
  obtain ⟨t0, v0, e0⟩ := tree_iface zero
  obtain ⟨t1, v1, e1⟩ := tree_iface one
  cases b
  · show Calls _ _ _ _ fun e w' => e = .returned (tree zero) ∧ _
    rw [e0, e1, show bitI false = 0 from rfl]
    clear e0 e1
    go_enter Try.func108, Try.ntmps108
    go_wp2
    go_ret
    exact ⟨rfl, by go_grown⟩
  · show Calls _ _ _ _ fun e w' => e = .returned (tree one) ∧ _
    rw [e0, e1, show bitI true = 1 from rfl]
    clear e0 e1
    go_enter Try.func108, Try.ntmps108
    go_wp2
    go_ret
    exact ⟨rfl, by go_grown⟩

set_option maxHeartbeats 4000000 in
set_option maxRecDepth 100000 in
theorem say_graft (zero one : T) (a : Bool) (s : Nat) (z o : T) (hZ : Go.Proofs.Ytodfeaelidpckaa.Count.Node 108 97 z (GraftC zero one z)) (hO : Go.Proofs.Ytodfeaelidpckaa.Count.Node 108 97 o (GraftC zero one o)) :
    GraftC zero one (.say a s z o) 97 (.agg #[.int .u8 ((whoB a).toNat : Int), .int .i64 (s : Int), tree z, tree o]) := by
  intro w
  unfold GraftC at hZ hO
  obtain ⟨tz, vz, ez2⟩ := tree_iface (graftT zero one z)
  obtain ⟨to, vo, eo2⟩ := tree_iface (graftT zero one o)
  have HT : Hid (tree (graftT zero one (.say a s z o)) = .iface 49 (.agg #[.int .u8 ((whoB a).toNat : Int), .int .i64 (s : Int), .iface tz vz, .iface to vo])) := by
    show tree (.say a s (graftT zero one z) (graftT zero one o)) = _
    simp only [tree, sayV, ez2, eo2]
  rw [ez2] at hZ
  rw [eo2] at hO
  clear ez2 eo2
  obtain ⟨t0, v0, e0⟩ := tree_iface zero
  obtain ⟨t1, v1, e1⟩ := tree_iface one
  rw [e0, e1] at hZ hO ⊢
  clear e0 e1
  generalize tree (graftT zero one (.say a s z o)) = res at *
  obtain ⟨B, hB⟩ : ∃ B, w.heap.size = B := ⟨_, rfl⟩
  have HBB := Lib.hid hB
  generalize ((whoB a).toNat : Int) = wh at *
  rcases hZ with ⟨V, ez, hz⟩ | ⟨V, ez, hz⟩ <;> rcases hO with ⟨U, eo, ho⟩ | ⟨U, eo, ho⟩
  · have HZ := Lib.hid hz
    have HO := Lib.hid ho
    rw [ez, eo]
    clear ez eo hz ho
    go_enter Try.func97, Try.ntmps97
    go_wp2_with fail
    obtain ⟨W1, hW1⟩ : ∃ W1, (w.alloc (.cells #[.int .u8 wh, .int .i64 (s : Int), .iface 65 V, .iface 65 U] 49)).alloc (.cells #[.iface t0 v0, .iface t1 v1] 47) = W1 := ⟨_, rfl⟩
    rw [hW1]
    have HWW : Hid (Below w.heap.size w W1) := by
      have h0 : Below w.heap.size w (w.alloc (.cells #[.int .u8 wh, .int .i64 (s : Int), .iface 65 V, .iface 65 U] 49)) := (Below.refl _ _).alloc (Nat.le_refl _) _
      show Below _ _ _; rw [← hW1]; exact h0.alloc h0.size _
    have HM0 : Hid (∀ wx : World, Below W1.heap.size W1 wx → wx.heap[B]? = some (.cells #[.int .u8 wh, .int .i64 (s : Int), .iface 65 V, .iface 65 U] 49 (0, 0))) := fun wx h => by
      have h1 : (w.alloc (.cells #[.int .u8 wh, .int .i64 (s : Int), .iface 65 V, .iface 65 U] 49)).heap[w.heap.size]? = some (.cells #[.int .u8 wh, .int .i64 (s : Int), .iface 65 V, .iface 65 U] 49 (0, 0)) := heap_alloc_new w _
      have h0 : W1.heap[B]? = some (.cells #[.int .u8 wh, .int .i64 (s : Int), .iface 65 V, .iface 65 U] 49 (0, 0)) := by rw [← hW1, ← HBB.out]; rw [heap_alloc_old _ _ (Array.getElem?_eq_some_iff.1 h1).1]; exact h1
      exact (h.block _ (Array.getElem?_eq_some_iff.1 h0).1).trans h0
    have HN0 : Hid (∀ wx : World, Below W1.heap.size W1 wx → wx.heap[B + 1]? = some (.cells #[.iface t0 v0, .iface t1 v1] 47 (0, 0))) := fun wx h => by
      have h0 : W1.heap[B + 1]? = some (.cells #[.iface t0 v0, .iface t1 v1] 47 (0, 0)) := by
        rw [← hW1, ← HBB.out]
        have h2 := heap_alloc_new (w.alloc (.cells #[.int .u8 wh, .int .i64 (s : Int), .iface 65 V, .iface 65 U] 49)) (.cells #[.iface t0 v0, .iface t1 v1] 47)
        rw [show (w.alloc (.cells #[.int .u8 wh, .int .i64 (s : Int), .iface 65 V, .iface 65 U] 49)).heap.size = w.heap.size + 1 by simp] at h2
        exact h2
      exact (h.block _ (Array.getElem?_eq_some_iff.1 h0).1).trans h0
    clear hW1
    refine wp_region_last (fun | 0 => .pointer (some ⟨B, 2, none⟩) | 1 => .pointer (some ⟨B, 2, none⟩) | 2 => .iface 65 V | 3 => .agg #[.iface t0 v0, .iface t1 v1] | 4 => .iface tz vz | 5 => .pointer (some ⟨B, 2, none⟩) | 6 => .pointer (some ⟨B, 3, none⟩) | 7 => .iface 65 U | 8 => .agg #[.iface t0 v0, .iface t1 v1] | 9 => .iface to vo | 10 => .agg #[.iface tz vz, .iface to vo] | 11 => .pointer (some ⟨B, 2, none⟩) | _ => undef) 12 (fun wx => wx.setRow B #[.int .u8 wh, .int .i64 (s : Int), .iface tz vz, .iface to vo]) _ (by kernel_rfl) (by kernel_rfl) rfl rfl rfl rfl (by kernel_rfl) ?conee ?stee ?enee
    case conee =>
      intro i o ho hlt a wx hb hf
      match i, ho with
      | 0, ho =>
        obtain rfl := Option.some.inj ho
        have b2 : a.tmps[2]?.getD undef = .pointer (some ⟨B, 0, none⟩) := hf.2 2 (by kernel_rfl)
        exact wp_value (.pointer (some ⟨B, 2, none⟩)) (by unfold execOp; go_simp) ⟨rfl, Below.refl _ _⟩
      | 1, ho =>
        obtain rfl := Option.some.inj ho
        have e5 : a.tmps[5]?.getD undef = .pointer (some ⟨B, 2, none⟩) := hf.1 ⟨0, .data⟩ (by simp) rfl _ 5 rfl rfl
        exact wp_value (.pointer (some ⟨B, 2, none⟩)) (by unfold execOp; go_simp) ⟨rfl, Below.refl _ _⟩
      | 2, ho =>
        obtain rfl := Option.some.inj ho
        have e6 : a.tmps[6]?.getD undef = .pointer (some ⟨B, 2, none⟩) := hf.1 ⟨1, .data⟩ (by simp) rfl _ 6 rfl rfl
        obtain ⟨c0, c1, c2, c3⟩ := cells4 (HM0.out wx hb)
        exact wp_value (.iface 65 V) (by unfold execOp; go_simp) ⟨rfl, Below.refl _ _⟩
      | 3, ho =>
        obtain rfl := Option.some.inj ho
        have b3 : a.tmps[3]?.getD undef = .pointer (some ⟨B + 1, 0, none⟩) := hf.2 3 (by kernel_rfl)
        have g0 : wx.cell? ⟨B + 1, 0, none⟩ = some (.iface t0 v0) := cell_of_row _ _ _ _ _ _ (HN0.out wx hb)
        have g1 : wx.cell? ⟨B + 1, 1, none⟩ = some (.iface t1 v1) := cell_of_row _ _ _ _ _ _ (HN0.out wx hb)
        exact wp_value (.agg #[.iface t0 v0, .iface t1 v1]) (by unfold execOp; go_simp) ⟨rfl, Below.refl _ _⟩
      | 4, ho =>
        obtain rfl := Option.some.inj ho
        have e7 : a.tmps[7]?.getD undef = .iface 65 V := hf.1 ⟨2, .data⟩ (by simp) rfl _ 7 rfl rfl
        have e8 : a.tmps[8]?.getD undef = .agg #[.iface t0 v0, .iface t1 v1] := hf.1 ⟨3, .data⟩ (by simp) rfl _ 8 rfl rfl
        exact wp_enter 108 #[V, .agg #[.iface t0 v0, .iface t1 v1]] (.iface tz vz) _ (by unfold execOp; go_simp; go_invoke; rfl) (HZ.out wx) (fun w' h => ⟨rfl, h⟩)
      | 5, ho =>
        obtain rfl := Option.some.inj ho
        have b2 : a.tmps[2]?.getD undef = .pointer (some ⟨B, 0, none⟩) := hf.2 2 (by kernel_rfl)
        exact wp_value (.pointer (some ⟨B, 2, none⟩)) (by unfold execOp; go_simp) ⟨rfl, Below.refl _ _⟩
      | 6, ho =>
        obtain rfl := Option.some.inj ho
        have e10 : a.tmps[10]?.getD undef = .pointer (some ⟨B, 2, none⟩) := hf.1 ⟨5, .data⟩ (by simp) rfl _ 10 rfl rfl
        exact wp_value (.pointer (some ⟨B, 3, none⟩)) (by unfold execOp; go_simp) ⟨rfl, Below.refl _ _⟩
      | 7, ho =>
        obtain rfl := Option.some.inj ho
        have e11 : a.tmps[11]?.getD undef = .pointer (some ⟨B, 3, none⟩) := hf.1 ⟨6, .data⟩ (by simp) rfl _ 11 rfl rfl
        obtain ⟨c0, c1, c2, c3⟩ := cells4 (HM0.out wx hb)
        exact wp_value (.iface 65 U) (by unfold execOp; go_simp) ⟨rfl, Below.refl _ _⟩
      | 8, ho =>
        obtain rfl := Option.some.inj ho
        have b3 : a.tmps[3]?.getD undef = .pointer (some ⟨B + 1, 0, none⟩) := hf.2 3 (by kernel_rfl)
        have g0 : wx.cell? ⟨B + 1, 0, none⟩ = some (.iface t0 v0) := cell_of_row _ _ _ _ _ _ (HN0.out wx hb)
        have g1 : wx.cell? ⟨B + 1, 1, none⟩ = some (.iface t1 v1) := cell_of_row _ _ _ _ _ _ (HN0.out wx hb)
        exact wp_value (.agg #[.iface t0 v0, .iface t1 v1]) (by unfold execOp; go_simp) ⟨rfl, Below.refl _ _⟩
      | 9, ho =>
        obtain rfl := Option.some.inj ho
        have e12 : a.tmps[12]?.getD undef = .iface 65 U := hf.1 ⟨7, .data⟩ (by simp) rfl _ 12 rfl rfl
        have e13 : a.tmps[13]?.getD undef = .agg #[.iface t0 v0, .iface t1 v1] := hf.1 ⟨8, .data⟩ (by simp) rfl _ 13 rfl rfl
        exact wp_enter 108 #[U, .agg #[.iface t0 v0, .iface t1 v1]] (.iface to vo) _ (by unfold execOp; go_simp; go_invoke; rfl) (HO.out wx) (fun w' h => ⟨rfl, h⟩)
      | 10, ho =>
        obtain rfl := Option.some.inj ho
        have e9 : a.tmps[9]?.getD undef = .iface tz vz := hf.1 ⟨4, .data⟩ (by simp) rfl _ 9 rfl rfl
        have e14 : a.tmps[14]?.getD undef = .iface to vo := hf.1 ⟨9, .data⟩ (by simp) rfl _ 14 rfl rfl
        exact wp_value (.agg #[.iface tz vz, .iface to vo]) (by unfold execOp; go_simp) ⟨rfl, Below.refl _ _⟩
      | 11, ho =>
        obtain rfl := Option.some.inj ho
        have b2 : a.tmps[2]?.getD undef = .pointer (some ⟨B, 0, none⟩) := hf.2 2 (by kernel_rfl)
        exact wp_value (.pointer (some ⟨B, 2, none⟩)) (by unfold execOp; go_simp) ⟨rfl, Below.refl _ _⟩
      | 12, ho => exact absurd hlt (by omega)
      | q + 13, ho => simp at ho
    case stee =>
      intro a wx hb hf
      have e15 : a.tmps[15]?.getD undef = .agg #[.iface tz vz, .iface to vo] := hf.1 ⟨10, .data⟩ (by simp) rfl _ 15 rfl rfl
      have e16 : a.tmps[16]?.getD undef = .pointer (some ⟨B, 2, none⟩) := hf.1 ⟨11, .data⟩ (by simp) rfl _ 16 rfl rfl
      exact wp_store_mid 47 (.tmp 16) (.tmp 15) rfl B 2 #[.iface tz vz, .iface to vo] (eval_get e16) (eval_get e15) (there_row (HM0.out wx hb)) (info_two _ _) (all2 _ _ _ _) ⟨rfl, set2 (HM0.out wx hb) _ _⟩
    intro w5 hb5
    have HR : Hid ((w5.setRow B #[.int .u8 wh, .int .i64 (s : Int), .iface tz vz, .iface to vo]).heap[B]? = some (.cells #[.int .u8 wh, .int .i64 (s : Int), .iface tz vz, .iface to vo] 49 (0, 0))) := setRow_at' (HM0.out w5 hb5)
    have HB5 : Hid (Below w.heap.size w (w5.setRow B #[.int .u8 wh, .int .i64 (s : Int), .iface tz vz, .iface to vo])) := setRow_below' (HWW.out.trans (hb5.mono HWW.out.size)) (by rw [HBB.out]; exact Nat.le_refl _) _
    clear hb5 HM0 HWW
    simp only [fill, Act.put]
    go_simp
    generalize w5.setRow B #[.int .u8 wh, .int .i64 (s : Int), .iface tz vz, .iface to vo] = w6 at *
    obtain ⟨c0, c1, c2, c3⟩ := cells4 HR.out
    clear HR
    go_wp2_with fail
    go_ret
    exact ⟨by rw [HT.out]; rfl, HB5.out⟩
  · have HZ := Lib.hid hz
    have HO := Lib.hid ho
    rw [ez, eo]
    clear ez eo hz ho
    go_enter Try.func97, Try.ntmps97
    go_wp2_with fail
    obtain ⟨W1, hW1⟩ : ∃ W1, (w.alloc (.cells #[.int .u8 wh, .int .i64 (s : Int), .iface 65 V, .iface 49 U] 49)).alloc (.cells #[.iface t0 v0, .iface t1 v1] 47) = W1 := ⟨_, rfl⟩
    rw [hW1]
    have HWW : Hid (Below w.heap.size w W1) := by
      have h0 : Below w.heap.size w (w.alloc (.cells #[.int .u8 wh, .int .i64 (s : Int), .iface 65 V, .iface 49 U] 49)) := (Below.refl _ _).alloc (Nat.le_refl _) _
      show Below _ _ _; rw [← hW1]; exact h0.alloc h0.size _
    have HM0 : Hid (∀ wx : World, Below W1.heap.size W1 wx → wx.heap[B]? = some (.cells #[.int .u8 wh, .int .i64 (s : Int), .iface 65 V, .iface 49 U] 49 (0, 0))) := fun wx h => by
      have h1 : (w.alloc (.cells #[.int .u8 wh, .int .i64 (s : Int), .iface 65 V, .iface 49 U] 49)).heap[w.heap.size]? = some (.cells #[.int .u8 wh, .int .i64 (s : Int), .iface 65 V, .iface 49 U] 49 (0, 0)) := heap_alloc_new w _
      have h0 : W1.heap[B]? = some (.cells #[.int .u8 wh, .int .i64 (s : Int), .iface 65 V, .iface 49 U] 49 (0, 0)) := by rw [← hW1, ← HBB.out]; rw [heap_alloc_old _ _ (Array.getElem?_eq_some_iff.1 h1).1]; exact h1
      exact (h.block _ (Array.getElem?_eq_some_iff.1 h0).1).trans h0
    have HN0 : Hid (∀ wx : World, Below W1.heap.size W1 wx → wx.heap[B + 1]? = some (.cells #[.iface t0 v0, .iface t1 v1] 47 (0, 0))) := fun wx h => by
      have h0 : W1.heap[B + 1]? = some (.cells #[.iface t0 v0, .iface t1 v1] 47 (0, 0)) := by
        rw [← hW1, ← HBB.out]
        have h2 := heap_alloc_new (w.alloc (.cells #[.int .u8 wh, .int .i64 (s : Int), .iface 65 V, .iface 49 U] 49)) (.cells #[.iface t0 v0, .iface t1 v1] 47)
        rw [show (w.alloc (.cells #[.int .u8 wh, .int .i64 (s : Int), .iface 65 V, .iface 49 U] 49)).heap.size = w.heap.size + 1 by simp] at h2
        exact h2
      exact (h.block _ (Array.getElem?_eq_some_iff.1 h0).1).trans h0
    clear hW1
    refine wp_region_last (fun | 0 => .pointer (some ⟨B, 2, none⟩) | 1 => .pointer (some ⟨B, 2, none⟩) | 2 => .iface 65 V | 3 => .agg #[.iface t0 v0, .iface t1 v1] | 4 => .iface tz vz | 5 => .pointer (some ⟨B, 2, none⟩) | 6 => .pointer (some ⟨B, 3, none⟩) | 7 => .iface 49 U | 8 => .agg #[.iface t0 v0, .iface t1 v1] | 9 => .iface to vo | 10 => .agg #[.iface tz vz, .iface to vo] | 11 => .pointer (some ⟨B, 2, none⟩) | _ => undef) 12 (fun wx => wx.setRow B #[.int .u8 wh, .int .i64 (s : Int), .iface tz vz, .iface to vo]) _ (by kernel_rfl) (by kernel_rfl) rfl rfl rfl rfl (by kernel_rfl) ?cones ?stes ?enes
    case cones =>
      intro i o ho hlt a wx hb hf
      match i, ho with
      | 0, ho =>
        obtain rfl := Option.some.inj ho
        have b2 : a.tmps[2]?.getD undef = .pointer (some ⟨B, 0, none⟩) := hf.2 2 (by kernel_rfl)
        exact wp_value (.pointer (some ⟨B, 2, none⟩)) (by unfold execOp; go_simp) ⟨rfl, Below.refl _ _⟩
      | 1, ho =>
        obtain rfl := Option.some.inj ho
        have e5 : a.tmps[5]?.getD undef = .pointer (some ⟨B, 2, none⟩) := hf.1 ⟨0, .data⟩ (by simp) rfl _ 5 rfl rfl
        exact wp_value (.pointer (some ⟨B, 2, none⟩)) (by unfold execOp; go_simp) ⟨rfl, Below.refl _ _⟩
      | 2, ho =>
        obtain rfl := Option.some.inj ho
        have e6 : a.tmps[6]?.getD undef = .pointer (some ⟨B, 2, none⟩) := hf.1 ⟨1, .data⟩ (by simp) rfl _ 6 rfl rfl
        obtain ⟨c0, c1, c2, c3⟩ := cells4 (HM0.out wx hb)
        exact wp_value (.iface 65 V) (by unfold execOp; go_simp) ⟨rfl, Below.refl _ _⟩
      | 3, ho =>
        obtain rfl := Option.some.inj ho
        have b3 : a.tmps[3]?.getD undef = .pointer (some ⟨B + 1, 0, none⟩) := hf.2 3 (by kernel_rfl)
        have g0 : wx.cell? ⟨B + 1, 0, none⟩ = some (.iface t0 v0) := cell_of_row _ _ _ _ _ _ (HN0.out wx hb)
        have g1 : wx.cell? ⟨B + 1, 1, none⟩ = some (.iface t1 v1) := cell_of_row _ _ _ _ _ _ (HN0.out wx hb)
        exact wp_value (.agg #[.iface t0 v0, .iface t1 v1]) (by unfold execOp; go_simp) ⟨rfl, Below.refl _ _⟩
      | 4, ho =>
        obtain rfl := Option.some.inj ho
        have e7 : a.tmps[7]?.getD undef = .iface 65 V := hf.1 ⟨2, .data⟩ (by simp) rfl _ 7 rfl rfl
        have e8 : a.tmps[8]?.getD undef = .agg #[.iface t0 v0, .iface t1 v1] := hf.1 ⟨3, .data⟩ (by simp) rfl _ 8 rfl rfl
        exact wp_enter 108 #[V, .agg #[.iface t0 v0, .iface t1 v1]] (.iface tz vz) _ (by unfold execOp; go_simp; go_invoke; rfl) (HZ.out wx) (fun w' h => ⟨rfl, h⟩)
      | 5, ho =>
        obtain rfl := Option.some.inj ho
        have b2 : a.tmps[2]?.getD undef = .pointer (some ⟨B, 0, none⟩) := hf.2 2 (by kernel_rfl)
        exact wp_value (.pointer (some ⟨B, 2, none⟩)) (by unfold execOp; go_simp) ⟨rfl, Below.refl _ _⟩
      | 6, ho =>
        obtain rfl := Option.some.inj ho
        have e10 : a.tmps[10]?.getD undef = .pointer (some ⟨B, 2, none⟩) := hf.1 ⟨5, .data⟩ (by simp) rfl _ 10 rfl rfl
        exact wp_value (.pointer (some ⟨B, 3, none⟩)) (by unfold execOp; go_simp) ⟨rfl, Below.refl _ _⟩
      | 7, ho =>
        obtain rfl := Option.some.inj ho
        have e11 : a.tmps[11]?.getD undef = .pointer (some ⟨B, 3, none⟩) := hf.1 ⟨6, .data⟩ (by simp) rfl _ 11 rfl rfl
        obtain ⟨c0, c1, c2, c3⟩ := cells4 (HM0.out wx hb)
        exact wp_value (.iface 49 U) (by unfold execOp; go_simp) ⟨rfl, Below.refl _ _⟩
      | 8, ho =>
        obtain rfl := Option.some.inj ho
        have b3 : a.tmps[3]?.getD undef = .pointer (some ⟨B + 1, 0, none⟩) := hf.2 3 (by kernel_rfl)
        have g0 : wx.cell? ⟨B + 1, 0, none⟩ = some (.iface t0 v0) := cell_of_row _ _ _ _ _ _ (HN0.out wx hb)
        have g1 : wx.cell? ⟨B + 1, 1, none⟩ = some (.iface t1 v1) := cell_of_row _ _ _ _ _ _ (HN0.out wx hb)
        exact wp_value (.agg #[.iface t0 v0, .iface t1 v1]) (by unfold execOp; go_simp) ⟨rfl, Below.refl _ _⟩
      | 9, ho =>
        obtain rfl := Option.some.inj ho
        have e12 : a.tmps[12]?.getD undef = .iface 49 U := hf.1 ⟨7, .data⟩ (by simp) rfl _ 12 rfl rfl
        have e13 : a.tmps[13]?.getD undef = .agg #[.iface t0 v0, .iface t1 v1] := hf.1 ⟨8, .data⟩ (by simp) rfl _ 13 rfl rfl
        exact wp_enter 97 #[U, .agg #[.iface t0 v0, .iface t1 v1]] (.iface to vo) _ (by unfold execOp; go_simp; go_invoke; rfl) (HO.out wx) (fun w' h => ⟨rfl, h⟩)
      | 10, ho =>
        obtain rfl := Option.some.inj ho
        have e9 : a.tmps[9]?.getD undef = .iface tz vz := hf.1 ⟨4, .data⟩ (by simp) rfl _ 9 rfl rfl
        have e14 : a.tmps[14]?.getD undef = .iface to vo := hf.1 ⟨9, .data⟩ (by simp) rfl _ 14 rfl rfl
        exact wp_value (.agg #[.iface tz vz, .iface to vo]) (by unfold execOp; go_simp) ⟨rfl, Below.refl _ _⟩
      | 11, ho =>
        obtain rfl := Option.some.inj ho
        have b2 : a.tmps[2]?.getD undef = .pointer (some ⟨B, 0, none⟩) := hf.2 2 (by kernel_rfl)
        exact wp_value (.pointer (some ⟨B, 2, none⟩)) (by unfold execOp; go_simp) ⟨rfl, Below.refl _ _⟩
      | 12, ho => exact absurd hlt (by omega)
      | q + 13, ho => simp at ho
    case stes =>
      intro a wx hb hf
      have e15 : a.tmps[15]?.getD undef = .agg #[.iface tz vz, .iface to vo] := hf.1 ⟨10, .data⟩ (by simp) rfl _ 15 rfl rfl
      have e16 : a.tmps[16]?.getD undef = .pointer (some ⟨B, 2, none⟩) := hf.1 ⟨11, .data⟩ (by simp) rfl _ 16 rfl rfl
      exact wp_store_mid 47 (.tmp 16) (.tmp 15) rfl B 2 #[.iface tz vz, .iface to vo] (eval_get e16) (eval_get e15) (there_row (HM0.out wx hb)) (info_two _ _) (all2 _ _ _ _) ⟨rfl, set2 (HM0.out wx hb) _ _⟩
    intro w5 hb5
    have HR : Hid ((w5.setRow B #[.int .u8 wh, .int .i64 (s : Int), .iface tz vz, .iface to vo]).heap[B]? = some (.cells #[.int .u8 wh, .int .i64 (s : Int), .iface tz vz, .iface to vo] 49 (0, 0))) := setRow_at' (HM0.out w5 hb5)
    have HB5 : Hid (Below w.heap.size w (w5.setRow B #[.int .u8 wh, .int .i64 (s : Int), .iface tz vz, .iface to vo])) := setRow_below' (HWW.out.trans (hb5.mono HWW.out.size)) (by rw [HBB.out]; exact Nat.le_refl _) _
    clear hb5 HM0 HWW
    simp only [fill, Act.put]
    go_simp
    generalize w5.setRow B #[.int .u8 wh, .int .i64 (s : Int), .iface tz vz, .iface to vo] = w6 at *
    obtain ⟨c0, c1, c2, c3⟩ := cells4 HR.out
    clear HR
    go_wp2_with fail
    go_ret
    exact ⟨by rw [HT.out]; rfl, HB5.out⟩
  · have HZ := Lib.hid hz
    have HO := Lib.hid ho
    rw [ez, eo]
    clear ez eo hz ho
    go_enter Try.func97, Try.ntmps97
    go_wp2_with fail
    obtain ⟨W1, hW1⟩ : ∃ W1, (w.alloc (.cells #[.int .u8 wh, .int .i64 (s : Int), .iface 49 V, .iface 65 U] 49)).alloc (.cells #[.iface t0 v0, .iface t1 v1] 47) = W1 := ⟨_, rfl⟩
    rw [hW1]
    have HWW : Hid (Below w.heap.size w W1) := by
      have h0 : Below w.heap.size w (w.alloc (.cells #[.int .u8 wh, .int .i64 (s : Int), .iface 49 V, .iface 65 U] 49)) := (Below.refl _ _).alloc (Nat.le_refl _) _
      show Below _ _ _; rw [← hW1]; exact h0.alloc h0.size _
    have HM0 : Hid (∀ wx : World, Below W1.heap.size W1 wx → wx.heap[B]? = some (.cells #[.int .u8 wh, .int .i64 (s : Int), .iface 49 V, .iface 65 U] 49 (0, 0))) := fun wx h => by
      have h1 : (w.alloc (.cells #[.int .u8 wh, .int .i64 (s : Int), .iface 49 V, .iface 65 U] 49)).heap[w.heap.size]? = some (.cells #[.int .u8 wh, .int .i64 (s : Int), .iface 49 V, .iface 65 U] 49 (0, 0)) := heap_alloc_new w _
      have h0 : W1.heap[B]? = some (.cells #[.int .u8 wh, .int .i64 (s : Int), .iface 49 V, .iface 65 U] 49 (0, 0)) := by rw [← hW1, ← HBB.out]; rw [heap_alloc_old _ _ (Array.getElem?_eq_some_iff.1 h1).1]; exact h1
      exact (h.block _ (Array.getElem?_eq_some_iff.1 h0).1).trans h0
    have HN0 : Hid (∀ wx : World, Below W1.heap.size W1 wx → wx.heap[B + 1]? = some (.cells #[.iface t0 v0, .iface t1 v1] 47 (0, 0))) := fun wx h => by
      have h0 : W1.heap[B + 1]? = some (.cells #[.iface t0 v0, .iface t1 v1] 47 (0, 0)) := by
        rw [← hW1, ← HBB.out]
        have h2 := heap_alloc_new (w.alloc (.cells #[.int .u8 wh, .int .i64 (s : Int), .iface 49 V, .iface 65 U] 49)) (.cells #[.iface t0 v0, .iface t1 v1] 47)
        rw [show (w.alloc (.cells #[.int .u8 wh, .int .i64 (s : Int), .iface 49 V, .iface 65 U] 49)).heap.size = w.heap.size + 1 by simp] at h2
        exact h2
      exact (h.block _ (Array.getElem?_eq_some_iff.1 h0).1).trans h0
    clear hW1
    refine wp_region_last (fun | 0 => .pointer (some ⟨B, 2, none⟩) | 1 => .pointer (some ⟨B, 2, none⟩) | 2 => .iface 49 V | 3 => .agg #[.iface t0 v0, .iface t1 v1] | 4 => .iface tz vz | 5 => .pointer (some ⟨B, 2, none⟩) | 6 => .pointer (some ⟨B, 3, none⟩) | 7 => .iface 65 U | 8 => .agg #[.iface t0 v0, .iface t1 v1] | 9 => .iface to vo | 10 => .agg #[.iface tz vz, .iface to vo] | 11 => .pointer (some ⟨B, 2, none⟩) | _ => undef) 12 (fun wx => wx.setRow B #[.int .u8 wh, .int .i64 (s : Int), .iface tz vz, .iface to vo]) _ (by kernel_rfl) (by kernel_rfl) rfl rfl rfl rfl (by kernel_rfl) ?conse ?stse ?ense
    case conse =>
      intro i o ho hlt a wx hb hf
      match i, ho with
      | 0, ho =>
        obtain rfl := Option.some.inj ho
        have b2 : a.tmps[2]?.getD undef = .pointer (some ⟨B, 0, none⟩) := hf.2 2 (by kernel_rfl)
        exact wp_value (.pointer (some ⟨B, 2, none⟩)) (by unfold execOp; go_simp) ⟨rfl, Below.refl _ _⟩
      | 1, ho =>
        obtain rfl := Option.some.inj ho
        have e5 : a.tmps[5]?.getD undef = .pointer (some ⟨B, 2, none⟩) := hf.1 ⟨0, .data⟩ (by simp) rfl _ 5 rfl rfl
        exact wp_value (.pointer (some ⟨B, 2, none⟩)) (by unfold execOp; go_simp) ⟨rfl, Below.refl _ _⟩
      | 2, ho =>
        obtain rfl := Option.some.inj ho
        have e6 : a.tmps[6]?.getD undef = .pointer (some ⟨B, 2, none⟩) := hf.1 ⟨1, .data⟩ (by simp) rfl _ 6 rfl rfl
        obtain ⟨c0, c1, c2, c3⟩ := cells4 (HM0.out wx hb)
        exact wp_value (.iface 49 V) (by unfold execOp; go_simp) ⟨rfl, Below.refl _ _⟩
      | 3, ho =>
        obtain rfl := Option.some.inj ho
        have b3 : a.tmps[3]?.getD undef = .pointer (some ⟨B + 1, 0, none⟩) := hf.2 3 (by kernel_rfl)
        have g0 : wx.cell? ⟨B + 1, 0, none⟩ = some (.iface t0 v0) := cell_of_row _ _ _ _ _ _ (HN0.out wx hb)
        have g1 : wx.cell? ⟨B + 1, 1, none⟩ = some (.iface t1 v1) := cell_of_row _ _ _ _ _ _ (HN0.out wx hb)
        exact wp_value (.agg #[.iface t0 v0, .iface t1 v1]) (by unfold execOp; go_simp) ⟨rfl, Below.refl _ _⟩
      | 4, ho =>
        obtain rfl := Option.some.inj ho
        have e7 : a.tmps[7]?.getD undef = .iface 49 V := hf.1 ⟨2, .data⟩ (by simp) rfl _ 7 rfl rfl
        have e8 : a.tmps[8]?.getD undef = .agg #[.iface t0 v0, .iface t1 v1] := hf.1 ⟨3, .data⟩ (by simp) rfl _ 8 rfl rfl
        exact wp_enter 97 #[V, .agg #[.iface t0 v0, .iface t1 v1]] (.iface tz vz) _ (by unfold execOp; go_simp; go_invoke; rfl) (HZ.out wx) (fun w' h => ⟨rfl, h⟩)
      | 5, ho =>
        obtain rfl := Option.some.inj ho
        have b2 : a.tmps[2]?.getD undef = .pointer (some ⟨B, 0, none⟩) := hf.2 2 (by kernel_rfl)
        exact wp_value (.pointer (some ⟨B, 2, none⟩)) (by unfold execOp; go_simp) ⟨rfl, Below.refl _ _⟩
      | 6, ho =>
        obtain rfl := Option.some.inj ho
        have e10 : a.tmps[10]?.getD undef = .pointer (some ⟨B, 2, none⟩) := hf.1 ⟨5, .data⟩ (by simp) rfl _ 10 rfl rfl
        exact wp_value (.pointer (some ⟨B, 3, none⟩)) (by unfold execOp; go_simp) ⟨rfl, Below.refl _ _⟩
      | 7, ho =>
        obtain rfl := Option.some.inj ho
        have e11 : a.tmps[11]?.getD undef = .pointer (some ⟨B, 3, none⟩) := hf.1 ⟨6, .data⟩ (by simp) rfl _ 11 rfl rfl
        obtain ⟨c0, c1, c2, c3⟩ := cells4 (HM0.out wx hb)
        exact wp_value (.iface 65 U) (by unfold execOp; go_simp) ⟨rfl, Below.refl _ _⟩
      | 8, ho =>
        obtain rfl := Option.some.inj ho
        have b3 : a.tmps[3]?.getD undef = .pointer (some ⟨B + 1, 0, none⟩) := hf.2 3 (by kernel_rfl)
        have g0 : wx.cell? ⟨B + 1, 0, none⟩ = some (.iface t0 v0) := cell_of_row _ _ _ _ _ _ (HN0.out wx hb)
        have g1 : wx.cell? ⟨B + 1, 1, none⟩ = some (.iface t1 v1) := cell_of_row _ _ _ _ _ _ (HN0.out wx hb)
        exact wp_value (.agg #[.iface t0 v0, .iface t1 v1]) (by unfold execOp; go_simp) ⟨rfl, Below.refl _ _⟩
      | 9, ho =>
        obtain rfl := Option.some.inj ho
        have e12 : a.tmps[12]?.getD undef = .iface 65 U := hf.1 ⟨7, .data⟩ (by simp) rfl _ 12 rfl rfl
        have e13 : a.tmps[13]?.getD undef = .agg #[.iface t0 v0, .iface t1 v1] := hf.1 ⟨8, .data⟩ (by simp) rfl _ 13 rfl rfl
        exact wp_enter 108 #[U, .agg #[.iface t0 v0, .iface t1 v1]] (.iface to vo) _ (by unfold execOp; go_simp; go_invoke; rfl) (HO.out wx) (fun w' h => ⟨rfl, h⟩)
      | 10, ho =>
        obtain rfl := Option.some.inj ho
        have e9 : a.tmps[9]?.getD undef = .iface tz vz := hf.1 ⟨4, .data⟩ (by simp) rfl _ 9 rfl rfl
        have e14 : a.tmps[14]?.getD undef = .iface to vo := hf.1 ⟨9, .data⟩ (by simp) rfl _ 14 rfl rfl
        exact wp_value (.agg #[.iface tz vz, .iface to vo]) (by unfold execOp; go_simp) ⟨rfl, Below.refl _ _⟩
      | 11, ho =>
        obtain rfl := Option.some.inj ho
        have b2 : a.tmps[2]?.getD undef = .pointer (some ⟨B, 0, none⟩) := hf.2 2 (by kernel_rfl)
        exact wp_value (.pointer (some ⟨B, 2, none⟩)) (by unfold execOp; go_simp) ⟨rfl, Below.refl _ _⟩
      | 12, ho => exact absurd hlt (by omega)
      | q + 13, ho => simp at ho
    case stse =>
      intro a wx hb hf
      have e15 : a.tmps[15]?.getD undef = .agg #[.iface tz vz, .iface to vo] := hf.1 ⟨10, .data⟩ (by simp) rfl _ 15 rfl rfl
      have e16 : a.tmps[16]?.getD undef = .pointer (some ⟨B, 2, none⟩) := hf.1 ⟨11, .data⟩ (by simp) rfl _ 16 rfl rfl
      exact wp_store_mid 47 (.tmp 16) (.tmp 15) rfl B 2 #[.iface tz vz, .iface to vo] (eval_get e16) (eval_get e15) (there_row (HM0.out wx hb)) (info_two _ _) (all2 _ _ _ _) ⟨rfl, set2 (HM0.out wx hb) _ _⟩
    intro w5 hb5
    have HR : Hid ((w5.setRow B #[.int .u8 wh, .int .i64 (s : Int), .iface tz vz, .iface to vo]).heap[B]? = some (.cells #[.int .u8 wh, .int .i64 (s : Int), .iface tz vz, .iface to vo] 49 (0, 0))) := setRow_at' (HM0.out w5 hb5)
    have HB5 : Hid (Below w.heap.size w (w5.setRow B #[.int .u8 wh, .int .i64 (s : Int), .iface tz vz, .iface to vo])) := setRow_below' (HWW.out.trans (hb5.mono HWW.out.size)) (by rw [HBB.out]; exact Nat.le_refl _) _
    clear hb5 HM0 HWW
    simp only [fill, Act.put]
    go_simp
    generalize w5.setRow B #[.int .u8 wh, .int .i64 (s : Int), .iface tz vz, .iface to vo] = w6 at *
    obtain ⟨c0, c1, c2, c3⟩ := cells4 HR.out
    clear HR
    go_wp2_with fail
    go_ret
    exact ⟨by rw [HT.out]; rfl, HB5.out⟩
  · have HZ := Lib.hid hz
    have HO := Lib.hid ho
    rw [ez, eo]
    clear ez eo hz ho
    go_enter Try.func97, Try.ntmps97
    go_wp2_with fail
    obtain ⟨W1, hW1⟩ : ∃ W1, (w.alloc (.cells #[.int .u8 wh, .int .i64 (s : Int), .iface 49 V, .iface 49 U] 49)).alloc (.cells #[.iface t0 v0, .iface t1 v1] 47) = W1 := ⟨_, rfl⟩
    rw [hW1]
    have HWW : Hid (Below w.heap.size w W1) := by
      have h0 : Below w.heap.size w (w.alloc (.cells #[.int .u8 wh, .int .i64 (s : Int), .iface 49 V, .iface 49 U] 49)) := (Below.refl _ _).alloc (Nat.le_refl _) _
      show Below _ _ _; rw [← hW1]; exact h0.alloc h0.size _
    have HM0 : Hid (∀ wx : World, Below W1.heap.size W1 wx → wx.heap[B]? = some (.cells #[.int .u8 wh, .int .i64 (s : Int), .iface 49 V, .iface 49 U] 49 (0, 0))) := fun wx h => by
      have h1 : (w.alloc (.cells #[.int .u8 wh, .int .i64 (s : Int), .iface 49 V, .iface 49 U] 49)).heap[w.heap.size]? = some (.cells #[.int .u8 wh, .int .i64 (s : Int), .iface 49 V, .iface 49 U] 49 (0, 0)) := heap_alloc_new w _
      have h0 : W1.heap[B]? = some (.cells #[.int .u8 wh, .int .i64 (s : Int), .iface 49 V, .iface 49 U] 49 (0, 0)) := by rw [← hW1, ← HBB.out]; rw [heap_alloc_old _ _ (Array.getElem?_eq_some_iff.1 h1).1]; exact h1
      exact (h.block _ (Array.getElem?_eq_some_iff.1 h0).1).trans h0
    have HN0 : Hid (∀ wx : World, Below W1.heap.size W1 wx → wx.heap[B + 1]? = some (.cells #[.iface t0 v0, .iface t1 v1] 47 (0, 0))) := fun wx h => by
      have h0 : W1.heap[B + 1]? = some (.cells #[.iface t0 v0, .iface t1 v1] 47 (0, 0)) := by
        rw [← hW1, ← HBB.out]
        have h2 := heap_alloc_new (w.alloc (.cells #[.int .u8 wh, .int .i64 (s : Int), .iface 49 V, .iface 49 U] 49)) (.cells #[.iface t0 v0, .iface t1 v1] 47)
        rw [show (w.alloc (.cells #[.int .u8 wh, .int .i64 (s : Int), .iface 49 V, .iface 49 U] 49)).heap.size = w.heap.size + 1 by simp] at h2
        exact h2
      exact (h.block _ (Array.getElem?_eq_some_iff.1 h0).1).trans h0
    clear hW1
    refine wp_region_last (fun | 0 => .pointer (some ⟨B, 2, none⟩) | 1 => .pointer (some ⟨B, 2, none⟩) | 2 => .iface 49 V | 3 => .agg #[.iface t0 v0, .iface t1 v1] | 4 => .iface tz vz | 5 => .pointer (some ⟨B, 2, none⟩) | 6 => .pointer (some ⟨B, 3, none⟩) | 7 => .iface 49 U | 8 => .agg #[.iface t0 v0, .iface t1 v1] | 9 => .iface to vo | 10 => .agg #[.iface tz vz, .iface to vo] | 11 => .pointer (some ⟨B, 2, none⟩) | _ => undef) 12 (fun wx => wx.setRow B #[.int .u8 wh, .int .i64 (s : Int), .iface tz vz, .iface to vo]) _ (by kernel_rfl) (by kernel_rfl) rfl rfl rfl rfl (by kernel_rfl) ?conss ?stss ?enss
    case conss =>
      intro i o ho hlt a wx hb hf
      match i, ho with
      | 0, ho =>
        obtain rfl := Option.some.inj ho
        have b2 : a.tmps[2]?.getD undef = .pointer (some ⟨B, 0, none⟩) := hf.2 2 (by kernel_rfl)
        exact wp_value (.pointer (some ⟨B, 2, none⟩)) (by unfold execOp; go_simp) ⟨rfl, Below.refl _ _⟩
      | 1, ho =>
        obtain rfl := Option.some.inj ho
        have e5 : a.tmps[5]?.getD undef = .pointer (some ⟨B, 2, none⟩) := hf.1 ⟨0, .data⟩ (by simp) rfl _ 5 rfl rfl
        exact wp_value (.pointer (some ⟨B, 2, none⟩)) (by unfold execOp; go_simp) ⟨rfl, Below.refl _ _⟩
      | 2, ho =>
        obtain rfl := Option.some.inj ho
        have e6 : a.tmps[6]?.getD undef = .pointer (some ⟨B, 2, none⟩) := hf.1 ⟨1, .data⟩ (by simp) rfl _ 6 rfl rfl
        obtain ⟨c0, c1, c2, c3⟩ := cells4 (HM0.out wx hb)
        exact wp_value (.iface 49 V) (by unfold execOp; go_simp) ⟨rfl, Below.refl _ _⟩
      | 3, ho =>
        obtain rfl := Option.some.inj ho
        have b3 : a.tmps[3]?.getD undef = .pointer (some ⟨B + 1, 0, none⟩) := hf.2 3 (by kernel_rfl)
        have g0 : wx.cell? ⟨B + 1, 0, none⟩ = some (.iface t0 v0) := cell_of_row _ _ _ _ _ _ (HN0.out wx hb)
        have g1 : wx.cell? ⟨B + 1, 1, none⟩ = some (.iface t1 v1) := cell_of_row _ _ _ _ _ _ (HN0.out wx hb)
        exact wp_value (.agg #[.iface t0 v0, .iface t1 v1]) (by unfold execOp; go_simp) ⟨rfl, Below.refl _ _⟩
      | 4, ho =>
        obtain rfl := Option.some.inj ho
        have e7 : a.tmps[7]?.getD undef = .iface 49 V := hf.1 ⟨2, .data⟩ (by simp) rfl _ 7 rfl rfl
        have e8 : a.tmps[8]?.getD undef = .agg #[.iface t0 v0, .iface t1 v1] := hf.1 ⟨3, .data⟩ (by simp) rfl _ 8 rfl rfl
        exact wp_enter 97 #[V, .agg #[.iface t0 v0, .iface t1 v1]] (.iface tz vz) _ (by unfold execOp; go_simp; go_invoke; rfl) (HZ.out wx) (fun w' h => ⟨rfl, h⟩)
      | 5, ho =>
        obtain rfl := Option.some.inj ho
        have b2 : a.tmps[2]?.getD undef = .pointer (some ⟨B, 0, none⟩) := hf.2 2 (by kernel_rfl)
        exact wp_value (.pointer (some ⟨B, 2, none⟩)) (by unfold execOp; go_simp) ⟨rfl, Below.refl _ _⟩
      | 6, ho =>
        obtain rfl := Option.some.inj ho
        have e10 : a.tmps[10]?.getD undef = .pointer (some ⟨B, 2, none⟩) := hf.1 ⟨5, .data⟩ (by simp) rfl _ 10 rfl rfl
        exact wp_value (.pointer (some ⟨B, 3, none⟩)) (by unfold execOp; go_simp) ⟨rfl, Below.refl _ _⟩
      | 7, ho =>
        obtain rfl := Option.some.inj ho
        have e11 : a.tmps[11]?.getD undef = .pointer (some ⟨B, 3, none⟩) := hf.1 ⟨6, .data⟩ (by simp) rfl _ 11 rfl rfl
        obtain ⟨c0, c1, c2, c3⟩ := cells4 (HM0.out wx hb)
        exact wp_value (.iface 49 U) (by unfold execOp; go_simp) ⟨rfl, Below.refl _ _⟩
      | 8, ho =>
        obtain rfl := Option.some.inj ho
        have b3 : a.tmps[3]?.getD undef = .pointer (some ⟨B + 1, 0, none⟩) := hf.2 3 (by kernel_rfl)
        have g0 : wx.cell? ⟨B + 1, 0, none⟩ = some (.iface t0 v0) := cell_of_row _ _ _ _ _ _ (HN0.out wx hb)
        have g1 : wx.cell? ⟨B + 1, 1, none⟩ = some (.iface t1 v1) := cell_of_row _ _ _ _ _ _ (HN0.out wx hb)
        exact wp_value (.agg #[.iface t0 v0, .iface t1 v1]) (by unfold execOp; go_simp) ⟨rfl, Below.refl _ _⟩
      | 9, ho =>
        obtain rfl := Option.some.inj ho
        have e12 : a.tmps[12]?.getD undef = .iface 49 U := hf.1 ⟨7, .data⟩ (by simp) rfl _ 12 rfl rfl
        have e13 : a.tmps[13]?.getD undef = .agg #[.iface t0 v0, .iface t1 v1] := hf.1 ⟨8, .data⟩ (by simp) rfl _ 13 rfl rfl
        exact wp_enter 97 #[U, .agg #[.iface t0 v0, .iface t1 v1]] (.iface to vo) _ (by unfold execOp; go_simp; go_invoke; rfl) (HO.out wx) (fun w' h => ⟨rfl, h⟩)
      | 10, ho =>
        obtain rfl := Option.some.inj ho
        have e9 : a.tmps[9]?.getD undef = .iface tz vz := hf.1 ⟨4, .data⟩ (by simp) rfl _ 9 rfl rfl
        have e14 : a.tmps[14]?.getD undef = .iface to vo := hf.1 ⟨9, .data⟩ (by simp) rfl _ 14 rfl rfl
        exact wp_value (.agg #[.iface tz vz, .iface to vo]) (by unfold execOp; go_simp) ⟨rfl, Below.refl _ _⟩
      | 11, ho =>
        obtain rfl := Option.some.inj ho
        have b2 : a.tmps[2]?.getD undef = .pointer (some ⟨B, 0, none⟩) := hf.2 2 (by kernel_rfl)
        exact wp_value (.pointer (some ⟨B, 2, none⟩)) (by unfold execOp; go_simp) ⟨rfl, Below.refl _ _⟩
      | 12, ho => exact absurd hlt (by omega)
      | q + 13, ho => simp at ho
    case stss =>
      intro a wx hb hf
      have e15 : a.tmps[15]?.getD undef = .agg #[.iface tz vz, .iface to vo] := hf.1 ⟨10, .data⟩ (by simp) rfl _ 15 rfl rfl
      have e16 : a.tmps[16]?.getD undef = .pointer (some ⟨B, 2, none⟩) := hf.1 ⟨11, .data⟩ (by simp) rfl _ 16 rfl rfl
      exact wp_store_mid 47 (.tmp 16) (.tmp 15) rfl B 2 #[.iface tz vz, .iface to vo] (eval_get e16) (eval_get e15) (there_row (HM0.out wx hb)) (info_two _ _) (all2 _ _ _ _) ⟨rfl, set2 (HM0.out wx hb) _ _⟩
    intro w5 hb5
    have HR : Hid ((w5.setRow B #[.int .u8 wh, .int .i64 (s : Int), .iface tz vz, .iface to vo]).heap[B]? = some (.cells #[.int .u8 wh, .int .i64 (s : Int), .iface tz vz, .iface to vo] 49 (0, 0))) := setRow_at' (HM0.out w5 hb5)
    have HB5 : Hid (Below w.heap.size w (w5.setRow B #[.int .u8 wh, .int .i64 (s : Int), .iface tz vz, .iface to vo])) := setRow_below' (HWW.out.trans (hb5.mono HWW.out.size)) (by rw [HBB.out]; exact Nat.le_refl _) _
    clear hb5 HM0 HWW
    simp only [fill, Act.put]
    go_simp
    generalize w5.setRow B #[.int .u8 wh, .int .i64 (s : Int), .iface tz vz, .iface to vo] = w6 at *
    obtain ⟨c0, c1, c2, c3⟩ := cells4 HR.out
    clear HR
    go_wp2_with fail
    go_ret
    exact ⟨by rw [HT.out]; rfl, HB5.out⟩

theorem graft_to (zero one : T) (t : T) : Go.Proofs.Ytodfeaelidpckaa.Count.Node 108 97 t (GraftC zero one t) := by
  induction t with
  | leaf b => exact .inl ⟨_, rfl, end_graft zero one b⟩
  | say a s z o ihz iho => exact .inr ⟨_, rfl, say_graft zero one a s z o ihz iho⟩
end Go.Proofs.Ytodfeaelidpckaa.Graft
