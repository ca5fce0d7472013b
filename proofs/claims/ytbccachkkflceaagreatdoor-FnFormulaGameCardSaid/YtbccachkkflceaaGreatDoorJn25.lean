/-
  Texts of one seat, joined: GCount, GameBitsWalk.
-/
import Derived.Test.YtbccachkkflceaaGreatDoorJn1
import Derived.Test.YtbccachkkflceaaGreatDoorJn23
import Derived.Test.YtbccachkkflceaaGreatDoorJn21
/-
  The greatest number of bits and the number of ends, of the program's trees.
-/
namespace Go.Proofs.YtbccachkkflceaaGreatDoor.Count
open Go.RowKit Go.Shelf Go.Proofs.YtbccachkkflceaaGreatDoor.Plain Go.Proofs.YtbccachkkflceaaGreatDoor.Tree Go.Proofs.YtbccachkkflceaaGreatDoor.Hex Go.Proofs.YtbccachkkflceaaGreatDoor.Read
open Go.Proofs.YtbccachkkflceaaGreatDoor.Wq (WQ wq_step wq_nil region_kept drew_at)
set_option linter.unusedVariables false
set_option linter.unusedSimpArgs false

def BitsC (t : T) (f : FuncId) (V : Value) : Prop := ∀ W : World, Calls Tryz.prog f #[V] W fun e w' => e = .returned (.int .i64 (Tree.bits t : Int)) ∧ Below W.heap.size W w'
set_option maxHeartbeats 1000000 in
theorem end_Bits (b : V3) : BitsC (.leaf b) 135 (.int .i64 (gI b)) := by
  intro w
  go_enter Tryz.func135, Tryz.ntmps135
  go_wp2
  go_ret
  exact ⟨rfl, Below.refl _ _⟩

set_option maxHeartbeats 4000000 in
set_option maxRecDepth 100000 in
theorem count_bits (t : T) (hl : (text t).length ≤ 8000000) : Node 135 148 t (BitsC t) := by
  induction t with
  | leaf b => exact .inl ⟨_, rfl, end_Bits b⟩
  | say a v z o ihz iho =>
    have hlz : (text z).length + (text o).length + 3 = (text (.say a v z o)).length := by simp [text]
    have hZ := ihz (by omega)
    have hO := iho (by omega)
    have bz := bits_lt z
    have bo := bits_lt o
    refine .inr ⟨_, rfl, fun w => ?_⟩
    have hm : Tree.bits (.say a v z o) = 1 + max (Tree.bits z) (Tree.bits o) := rfl
    unfold BitsC at hZ hO
    rw [hm]
    clear hm ihz iho
    generalize Tree.bits z = m at *
    generalize Tree.bits o = n at *
    generalize ((whoB a).toNat : Int) = wh
    have HM : Hid (((1 + max m n : Nat) : Int) = 1 + max (m : Int) (n : Int)) := by show _ = _; omega
    have L1 : m ≤ 8000000 := by omega
    have L2 : n ≤ 8000000 := by omega
    have HWR : Hid (IntKind.i64.wrap (1 + max (m : Int) (n : Int)) = 1 + max (m : Int) (n : Int)) := by show _ = _; simp only [IntKind.wrap_i64, wrap64]; omega
    clear hl hlz bz bo
    obtain ⟨B, hB⟩ : ∃ B, w.heap.size = B := ⟨_, rfl⟩
    have HBB := Lib.hid hB
    rcases hZ with ⟨V, ez, hz⟩ | ⟨V, ez, hz⟩ <;> rcases hO with ⟨U, eo, ho⟩ | ⟨U, eo, ho⟩
    · have HZ := Lib.hid hz
      have HO := Lib.hid ho
      rw [ez, eo]
      clear ez eo hz ho
      go_enter Tryz.func148, Tryz.ntmps148
      go_wp2_with fail
      obtain ⟨W1, hW1⟩ : ∃ W1, w.alloc (.cells #[.int .u8 wh, .int .i64 (v : Int), .iface 65 V, .iface 65 U] 72) = W1 := ⟨_, rfl⟩
      rw [hW1]
      have HW : Hid (Below w.heap.size w W1) := by show Below _ _ _; rw [← hW1]; exact (Below.refl _ _).alloc (Nat.le_refl _) _
      have HM0 : Hid (∀ wx : World, Below W1.heap.size W1 wx → wx.heap[B]? = some (.cells #[.int .u8 wh, .int .i64 (v : Int), .iface 65 V, .iface 65 U] 72 (0, 0))) := fun wx h => by
        have h0 : W1.heap[B]? = some (.cells #[.int .u8 wh, .int .i64 (v : Int), .iface 65 V, .iface 65 U] 72 (0, 0)) := by rw [← hW1, ← HBB.out]; exact heap_alloc_new w _
        exact (h.block _ (Array.getElem?_eq_some_iff.1 h0).1).trans h0
      clear hW1 hB
      refine region_kept (C := fun wx => Below W1.heap.size W1 wx) (drew_at W1) (by kernel_rfl) (by kernel_rfl) ?_
      repeat
        (refine wq_step (fun K hK => ?_)
         go_simp
         first
           | (refine hK _ ?_; clear hK K)
           | (apply Exists.intro
              refine ⟨fun wx hC => ?_, hK _ ?_⟩
              · first
                | with_reducible rfl
                | (go_invoke; go_simp; with_reducible exact ((HZ.out wx).mono fun e w' h => ⟨h.1, hC.trans (h.2.mono hC.size)⟩))
                | (go_invoke; go_simp; with_reducible exact ((HO.out wx).mono fun e w' h => ⟨h.1, hC.trans (h.2.mono hC.size)⟩))
                | (obtain ⟨d0, d1, d2, d3⟩ := cells4 (HM0.out wx hC); go_simp; first | done | rfl)
              clear hK K))
      refine wq_nil ?_
      intro w2 hC
      have HC := Lib.hid (HW.out.trans (hC.mono HW.out.size))
      clear hC
      go_simp
      go_wp2_with fail
      go_ret
      exact ⟨by rw [HM.out]; first | rfl | (rw [HWR.out]; rfl), HC.out⟩
    · have HZ := Lib.hid hz
      have HO := Lib.hid ho
      rw [ez, eo]
      clear ez eo hz ho
      go_enter Tryz.func148, Tryz.ntmps148
      go_wp2_with fail
      obtain ⟨W1, hW1⟩ : ∃ W1, w.alloc (.cells #[.int .u8 wh, .int .i64 (v : Int), .iface 65 V, .iface 72 U] 72) = W1 := ⟨_, rfl⟩
      rw [hW1]
      have HW : Hid (Below w.heap.size w W1) := by show Below _ _ _; rw [← hW1]; exact (Below.refl _ _).alloc (Nat.le_refl _) _
      have HM0 : Hid (∀ wx : World, Below W1.heap.size W1 wx → wx.heap[B]? = some (.cells #[.int .u8 wh, .int .i64 (v : Int), .iface 65 V, .iface 72 U] 72 (0, 0))) := fun wx h => by
        have h0 : W1.heap[B]? = some (.cells #[.int .u8 wh, .int .i64 (v : Int), .iface 65 V, .iface 72 U] 72 (0, 0)) := by rw [← hW1, ← HBB.out]; exact heap_alloc_new w _
        exact (h.block _ (Array.getElem?_eq_some_iff.1 h0).1).trans h0
      clear hW1 hB
      refine region_kept (C := fun wx => Below W1.heap.size W1 wx) (drew_at W1) (by kernel_rfl) (by kernel_rfl) ?_
      repeat
        (refine wq_step (fun K hK => ?_)
         go_simp
         first
           | (refine hK _ ?_; clear hK K)
           | (apply Exists.intro
              refine ⟨fun wx hC => ?_, hK _ ?_⟩
              · first
                | with_reducible rfl
                | (go_invoke; go_simp; with_reducible exact ((HZ.out wx).mono fun e w' h => ⟨h.1, hC.trans (h.2.mono hC.size)⟩))
                | (go_invoke; go_simp; with_reducible exact ((HO.out wx).mono fun e w' h => ⟨h.1, hC.trans (h.2.mono hC.size)⟩))
                | (obtain ⟨d0, d1, d2, d3⟩ := cells4 (HM0.out wx hC); go_simp; first | done | rfl)
              clear hK K))
      refine wq_nil ?_
      intro w2 hC
      have HC := Lib.hid (HW.out.trans (hC.mono HW.out.size))
      clear hC
      go_simp
      go_wp2_with fail
      go_ret
      exact ⟨by rw [HM.out]; first | rfl | (rw [HWR.out]; rfl), HC.out⟩
    · have HZ := Lib.hid hz
      have HO := Lib.hid ho
      rw [ez, eo]
      clear ez eo hz ho
      go_enter Tryz.func148, Tryz.ntmps148
      go_wp2_with fail
      obtain ⟨W1, hW1⟩ : ∃ W1, w.alloc (.cells #[.int .u8 wh, .int .i64 (v : Int), .iface 72 V, .iface 65 U] 72) = W1 := ⟨_, rfl⟩
      rw [hW1]
      have HW : Hid (Below w.heap.size w W1) := by show Below _ _ _; rw [← hW1]; exact (Below.refl _ _).alloc (Nat.le_refl _) _
      have HM0 : Hid (∀ wx : World, Below W1.heap.size W1 wx → wx.heap[B]? = some (.cells #[.int .u8 wh, .int .i64 (v : Int), .iface 72 V, .iface 65 U] 72 (0, 0))) := fun wx h => by
        have h0 : W1.heap[B]? = some (.cells #[.int .u8 wh, .int .i64 (v : Int), .iface 72 V, .iface 65 U] 72 (0, 0)) := by rw [← hW1, ← HBB.out]; exact heap_alloc_new w _
        exact (h.block _ (Array.getElem?_eq_some_iff.1 h0).1).trans h0
      clear hW1 hB
      refine region_kept (C := fun wx => Below W1.heap.size W1 wx) (drew_at W1) (by kernel_rfl) (by kernel_rfl) ?_
      repeat
        (refine wq_step (fun K hK => ?_)
         go_simp
         first
           | (refine hK _ ?_; clear hK K)
           | (apply Exists.intro
              refine ⟨fun wx hC => ?_, hK _ ?_⟩
              · first
                | with_reducible rfl
                | (go_invoke; go_simp; with_reducible exact ((HZ.out wx).mono fun e w' h => ⟨h.1, hC.trans (h.2.mono hC.size)⟩))
                | (go_invoke; go_simp; with_reducible exact ((HO.out wx).mono fun e w' h => ⟨h.1, hC.trans (h.2.mono hC.size)⟩))
                | (obtain ⟨d0, d1, d2, d3⟩ := cells4 (HM0.out wx hC); go_simp; first | done | rfl)
              clear hK K))
      refine wq_nil ?_
      intro w2 hC
      have HC := Lib.hid (HW.out.trans (hC.mono HW.out.size))
      clear hC
      go_simp
      go_wp2_with fail
      go_ret
      exact ⟨by rw [HM.out]; first | rfl | (rw [HWR.out]; rfl), HC.out⟩
    · have HZ := Lib.hid hz
      have HO := Lib.hid ho
      rw [ez, eo]
      clear ez eo hz ho
      go_enter Tryz.func148, Tryz.ntmps148
      go_wp2_with fail
      obtain ⟨W1, hW1⟩ : ∃ W1, w.alloc (.cells #[.int .u8 wh, .int .i64 (v : Int), .iface 72 V, .iface 72 U] 72) = W1 := ⟨_, rfl⟩
      rw [hW1]
      have HW : Hid (Below w.heap.size w W1) := by show Below _ _ _; rw [← hW1]; exact (Below.refl _ _).alloc (Nat.le_refl _) _
      have HM0 : Hid (∀ wx : World, Below W1.heap.size W1 wx → wx.heap[B]? = some (.cells #[.int .u8 wh, .int .i64 (v : Int), .iface 72 V, .iface 72 U] 72 (0, 0))) := fun wx h => by
        have h0 : W1.heap[B]? = some (.cells #[.int .u8 wh, .int .i64 (v : Int), .iface 72 V, .iface 72 U] 72 (0, 0)) := by rw [← hW1, ← HBB.out]; exact heap_alloc_new w _
        exact (h.block _ (Array.getElem?_eq_some_iff.1 h0).1).trans h0
      clear hW1 hB
      refine region_kept (C := fun wx => Below W1.heap.size W1 wx) (drew_at W1) (by kernel_rfl) (by kernel_rfl) ?_
      repeat
        (refine wq_step (fun K hK => ?_)
         go_simp
         first
           | (refine hK _ ?_; clear hK K)
           | (apply Exists.intro
              refine ⟨fun wx hC => ?_, hK _ ?_⟩
              · first
                | with_reducible rfl
                | (go_invoke; go_simp; with_reducible exact ((HZ.out wx).mono fun e w' h => ⟨h.1, hC.trans (h.2.mono hC.size)⟩))
                | (go_invoke; go_simp; with_reducible exact ((HO.out wx).mono fun e w' h => ⟨h.1, hC.trans (h.2.mono hC.size)⟩))
                | (obtain ⟨d0, d1, d2, d3⟩ := cells4 (HM0.out wx hC); go_simp; first | done | rfl)
              clear hK K))
      refine wq_nil ?_
      intro w2 hC
      have HC := Lib.hid (HW.out.trans (hC.mono HW.out.size))
      clear hC
      go_simp
      go_wp2_with fail
      go_ret
      exact ⟨by rw [HM.out]; first | rfl | (rw [HWR.out]; rfl), HC.out⟩

def EndsC (t : T) (f : FuncId) (V : Value) : Prop := ∀ W : World, Calls Tryz.prog f #[V] W fun e w' => e = .returned (.int .i64 (ends t : Int)) ∧ Below W.heap.size W w'
set_option maxHeartbeats 1000000 in
theorem end_Ends (b : V3) : EndsC (.leaf b) 136 (.int .i64 (gI b)) := by
  intro w
  go_enter Tryz.func136, Tryz.ntmps136
  go_wp2
  go_ret
  exact ⟨rfl, Below.refl _ _⟩

set_option maxHeartbeats 4000000 in
set_option maxRecDepth 100000 in
theorem count_ends (t : T) (hl : (text t).length ≤ 8000000) : Node 136 149 t (EndsC t) := by
  induction t with
  | leaf b => exact .inl ⟨_, rfl, end_Ends b⟩
  | say a v z o ihz iho =>
    have hlz : (text z).length + (text o).length + 3 = (text (.say a v z o)).length := by simp [text]
    have hZ := ihz (by omega)
    have hO := iho (by omega)
    have bz := ends_le z
    have bo := ends_le o
    refine .inr ⟨_, rfl, fun w => ?_⟩
    have hm : ends (.say a v z o) = ends z + ends o := rfl
    unfold EndsC at hZ hO
    rw [hm]
    clear hm ihz iho
    generalize ends z = m at *
    generalize ends o = n at *
    generalize ((whoB a).toNat : Int) = wh
    have HM : Hid (((m + n : Nat) : Int) = (m : Int) + (n : Int)) := by show _ = _; omega
    have L1 : m ≤ 8000000 := by omega
    have L2 : n ≤ 8000000 := by omega
    have HWR : Hid (IntKind.i64.wrap ((m : Int) + (n : Int)) = (m : Int) + (n : Int)) := by show _ = _; simp only [IntKind.wrap_i64, wrap64]; omega
    clear hl hlz bz bo
    obtain ⟨B, hB⟩ : ∃ B, w.heap.size = B := ⟨_, rfl⟩
    have HBB := Lib.hid hB
    rcases hZ with ⟨V, ez, hz⟩ | ⟨V, ez, hz⟩ <;> rcases hO with ⟨U, eo, ho⟩ | ⟨U, eo, ho⟩
    · have HZ := Lib.hid hz
      have HO := Lib.hid ho
      rw [ez, eo]
      clear ez eo hz ho
      go_enter Tryz.func149, Tryz.ntmps149
      go_wp2_with fail
      obtain ⟨W1, hW1⟩ : ∃ W1, w.alloc (.cells #[.int .u8 wh, .int .i64 (v : Int), .iface 65 V, .iface 65 U] 72) = W1 := ⟨_, rfl⟩
      rw [hW1]
      have HW : Hid (Below w.heap.size w W1) := by show Below _ _ _; rw [← hW1]; exact (Below.refl _ _).alloc (Nat.le_refl _) _
      have HM0 : Hid (∀ wx : World, Below W1.heap.size W1 wx → wx.heap[B]? = some (.cells #[.int .u8 wh, .int .i64 (v : Int), .iface 65 V, .iface 65 U] 72 (0, 0))) := fun wx h => by
        have h0 : W1.heap[B]? = some (.cells #[.int .u8 wh, .int .i64 (v : Int), .iface 65 V, .iface 65 U] 72 (0, 0)) := by rw [← hW1, ← HBB.out]; exact heap_alloc_new w _
        exact (h.block _ (Array.getElem?_eq_some_iff.1 h0).1).trans h0
      clear hW1 hB
      refine region_kept (C := fun wx => Below W1.heap.size W1 wx) (drew_at W1) (by kernel_rfl) (by kernel_rfl) ?_
      repeat
        (refine wq_step (fun K hK => ?_)
         go_simp
         first
           | (refine hK _ ?_; clear hK K)
           | (apply Exists.intro
              refine ⟨fun wx hC => ?_, hK _ ?_⟩
              · first
                | with_reducible rfl
                | (go_invoke; go_simp; with_reducible exact ((HZ.out wx).mono fun e w' h => ⟨h.1, hC.trans (h.2.mono hC.size)⟩))
                | (go_invoke; go_simp; with_reducible exact ((HO.out wx).mono fun e w' h => ⟨h.1, hC.trans (h.2.mono hC.size)⟩))
                | (obtain ⟨d0, d1, d2, d3⟩ := cells4 (HM0.out wx hC); go_simp; first | done | rfl)
              clear hK K))
      refine wq_nil ?_
      intro w2 hC
      have HC := Lib.hid (HW.out.trans (hC.mono HW.out.size))
      clear hC
      go_simp
      go_wp2_with fail
      go_ret
      exact ⟨by rw [HM.out]; first | rfl | (rw [HWR.out]; rfl), HC.out⟩
    · have HZ := Lib.hid hz
      have HO := Lib.hid ho
      rw [ez, eo]
      clear ez eo hz ho
      go_enter Tryz.func149, Tryz.ntmps149
      go_wp2_with fail
      obtain ⟨W1, hW1⟩ : ∃ W1, w.alloc (.cells #[.int .u8 wh, .int .i64 (v : Int), .iface 65 V, .iface 72 U] 72) = W1 := ⟨_, rfl⟩
      rw [hW1]
      have HW : Hid (Below w.heap.size w W1) := by show Below _ _ _; rw [← hW1]; exact (Below.refl _ _).alloc (Nat.le_refl _) _
      have HM0 : Hid (∀ wx : World, Below W1.heap.size W1 wx → wx.heap[B]? = some (.cells #[.int .u8 wh, .int .i64 (v : Int), .iface 65 V, .iface 72 U] 72 (0, 0))) := fun wx h => by
        have h0 : W1.heap[B]? = some (.cells #[.int .u8 wh, .int .i64 (v : Int), .iface 65 V, .iface 72 U] 72 (0, 0)) := by rw [← hW1, ← HBB.out]; exact heap_alloc_new w _
        exact (h.block _ (Array.getElem?_eq_some_iff.1 h0).1).trans h0
      clear hW1 hB
      refine region_kept (C := fun wx => Below W1.heap.size W1 wx) (drew_at W1) (by kernel_rfl) (by kernel_rfl) ?_
      repeat
        (refine wq_step (fun K hK => ?_)
         go_simp
         first
           | (refine hK _ ?_; clear hK K)
           | (apply Exists.intro
              refine ⟨fun wx hC => ?_, hK _ ?_⟩
              · first
                | with_reducible rfl
                | (go_invoke; go_simp; with_reducible exact ((HZ.out wx).mono fun e w' h => ⟨h.1, hC.trans (h.2.mono hC.size)⟩))
                | (go_invoke; go_simp; with_reducible exact ((HO.out wx).mono fun e w' h => ⟨h.1, hC.trans (h.2.mono hC.size)⟩))
                | (obtain ⟨d0, d1, d2, d3⟩ := cells4 (HM0.out wx hC); go_simp; first | done | rfl)
              clear hK K))
      refine wq_nil ?_
      intro w2 hC
      have HC := Lib.hid (HW.out.trans (hC.mono HW.out.size))
      clear hC
      go_simp
      go_wp2_with fail
      go_ret
      exact ⟨by rw [HM.out]; first | rfl | (rw [HWR.out]; rfl), HC.out⟩
    · have HZ := Lib.hid hz
      have HO := Lib.hid ho
      rw [ez, eo]
      clear ez eo hz ho
      go_enter Tryz.func149, Tryz.ntmps149
      go_wp2_with fail
      obtain ⟨W1, hW1⟩ : ∃ W1, w.alloc (.cells #[.int .u8 wh, .int .i64 (v : Int), .iface 72 V, .iface 65 U] 72) = W1 := ⟨_, rfl⟩
      rw [hW1]
      have HW : Hid (Below w.heap.size w W1) := by show Below _ _ _; rw [← hW1]; exact (Below.refl _ _).alloc (Nat.le_refl _) _
      have HM0 : Hid (∀ wx : World, Below W1.heap.size W1 wx → wx.heap[B]? = some (.cells #[.int .u8 wh, .int .i64 (v : Int), .iface 72 V, .iface 65 U] 72 (0, 0))) := fun wx h => by
        have h0 : W1.heap[B]? = some (.cells #[.int .u8 wh, .int .i64 (v : Int), .iface 72 V, .iface 65 U] 72 (0, 0)) := by rw [← hW1, ← HBB.out]; exact heap_alloc_new w _
        exact (h.block _ (Array.getElem?_eq_some_iff.1 h0).1).trans h0
      clear hW1 hB
      refine region_kept (C := fun wx => Below W1.heap.size W1 wx) (drew_at W1) (by kernel_rfl) (by kernel_rfl) ?_
      repeat
        (refine wq_step (fun K hK => ?_)
         go_simp
         first
           | (refine hK _ ?_; clear hK K)
           | (apply Exists.intro
              refine ⟨fun wx hC => ?_, hK _ ?_⟩
              · first
                | with_reducible rfl
                | (go_invoke; go_simp; with_reducible exact ((HZ.out wx).mono fun e w' h => ⟨h.1, hC.trans (h.2.mono hC.size)⟩))
                | (go_invoke; go_simp; with_reducible exact ((HO.out wx).mono fun e w' h => ⟨h.1, hC.trans (h.2.mono hC.size)⟩))
                | (obtain ⟨d0, d1, d2, d3⟩ := cells4 (HM0.out wx hC); go_simp; first | done | rfl)
              clear hK K))
      refine wq_nil ?_
      intro w2 hC
      have HC := Lib.hid (HW.out.trans (hC.mono HW.out.size))
      clear hC
      go_simp
      go_wp2_with fail
      go_ret
      exact ⟨by rw [HM.out]; first | rfl | (rw [HWR.out]; rfl), HC.out⟩
    · have HZ := Lib.hid hz
      have HO := Lib.hid ho
      rw [ez, eo]
      clear ez eo hz ho
      go_enter Tryz.func149, Tryz.ntmps149
      go_wp2_with fail
      obtain ⟨W1, hW1⟩ : ∃ W1, w.alloc (.cells #[.int .u8 wh, .int .i64 (v : Int), .iface 72 V, .iface 72 U] 72) = W1 := ⟨_, rfl⟩
      rw [hW1]
      have HW : Hid (Below w.heap.size w W1) := by show Below _ _ _; rw [← hW1]; exact (Below.refl _ _).alloc (Nat.le_refl _) _
      have HM0 : Hid (∀ wx : World, Below W1.heap.size W1 wx → wx.heap[B]? = some (.cells #[.int .u8 wh, .int .i64 (v : Int), .iface 72 V, .iface 72 U] 72 (0, 0))) := fun wx h => by
        have h0 : W1.heap[B]? = some (.cells #[.int .u8 wh, .int .i64 (v : Int), .iface 72 V, .iface 72 U] 72 (0, 0)) := by rw [← hW1, ← HBB.out]; exact heap_alloc_new w _
        exact (h.block _ (Array.getElem?_eq_some_iff.1 h0).1).trans h0
      clear hW1 hB
      refine region_kept (C := fun wx => Below W1.heap.size W1 wx) (drew_at W1) (by kernel_rfl) (by kernel_rfl) ?_
      repeat
        (refine wq_step (fun K hK => ?_)
         go_simp
         first
           | (refine hK _ ?_; clear hK K)
           | (apply Exists.intro
              refine ⟨fun wx hC => ?_, hK _ ?_⟩
              · first
                | with_reducible rfl
                | (go_invoke; go_simp; with_reducible exact ((HZ.out wx).mono fun e w' h => ⟨h.1, hC.trans (h.2.mono hC.size)⟩))
                | (go_invoke; go_simp; with_reducible exact ((HO.out wx).mono fun e w' h => ⟨h.1, hC.trans (h.2.mono hC.size)⟩))
                | (obtain ⟨d0, d1, d2, d3⟩ := cells4 (HM0.out wx hC); go_simp; first | done | rfl)
              clear hK K))
      refine wq_nil ?_
      intro w2 hC
      have HC := Lib.hid (HW.out.trans (hC.mono HW.out.size))
      clear hC
      go_simp
      go_wp2_with fail
      go_ret
      exact ⟨by rw [HM.out]; first | rfl | (rw [HWR.out]; rfl), HC.out⟩
end Go.Proofs.YtbccachkkflceaaGreatDoor.Count

/-
  The walk of the law on GameBits.
-/
namespace Go.Proofs.YtbccachkkflceaaGreatDoor.fnExactGameBits
open Go.RowKit Go.Shelf Go.Proofs.YtbccachkkflceaaGreatDoor.Plain Go.Proofs.YtbccachkkflceaaGreatDoor.Tree Go.Proofs.YtbccachkkflceaaGreatDoor.Read Go.Proofs.YtbccachkkflceaaGreatDoor.TreeOf Go.Proofs.YtbccachkkflceaaGreatDoor.Parts
open Go.Proofs.YtbccachkkflceaaGreatDoor.Count (count_bits)
set_option linter.unusedVariables false
set_option linter.unusedSimpArgs false

set_option maxHeartbeats 1000000 in
theorem impl_yes (s : ByteArray) (t : T) (hw : wf t) (h : s.data.toList = text t) (hs : s.size ≤ 2000) (w : World) :
    Calls Tryz.prog 11 #[.string s] w fun e w' => e = .returned (.int .i64 (Tree.bits t : Int)) ∧ Below w.heap.size w w' := by
  have HT := Lib.hid (tree_yes s t hw h hs)
  have hl : (text t).length = s.size := by rw [← h]; simp
  have hC := count_bits t (by omega)
  clear h hl hw
  rcases hC with ⟨V, ev, hv⟩ | ⟨V, ev, hv⟩
  all_goals
    have HC := Lib.hid hv
    rw [ev] at HT
    clear ev hv
    go_enter Tryz.func11, Tryz.ntmps11
    go_wp2_with fail
    refine (HT.out _).mono ?_
    rintro e w1 ⟨rfl, hb1⟩
    go_wp2_with fail
    refine (HC.out _).mono ?_
    rintro e w2 ⟨rfl, hb2⟩
    have HB := Lib.hid (hb1.trans (hb2.mono hb1.size))
    clear hb1 hb2
    go_wp2_with fail
    go_ret
    exact ⟨rfl, HB.out⟩
set_option maxHeartbeats 1000000 in
theorem impl_no (s : ByteArray) (h : ¬ Ok s) (hs : s.size ≤ 1048576) (w : World) :
    Calls Tryz.prog 11 #[.string s] w fun e w' => e = .returned (.int .i64 (-1)) ∧ Below w.heap.size w w' := by
  have HT := Lib.hid (tree_no s h hs)
  clear h
  go_enter Tryz.func11, Tryz.ntmps11
  go_wp2_with fail
  refine (HT.out _).mono ?_
  rintro e w1 ⟨rfl, hb1⟩
  have HB := Lib.hid hb1
  clear hb1
  go_wp2_with fail
  go_ret
  exact ⟨rfl, HB.out⟩
end Go.Proofs.YtbccachkkflceaaGreatDoor.fnExactGameBits

