/-
  The reference's rectangles of the ends.
-/
import Derived.Test.YtodfeaelidpckaaLeaf
import Derived.Test.YtodfeaelidpckaaSaidTrim
import Derived.Test.YtodfeaelidpckaaFreeC4
namespace Go.Proofs.Ytodfeaelidpckaa.SaidRects
open Go.RowKit Go.Shelf Go.Proofs.Ytodfeaelidpckaa.Plain Go.Proofs.Ytodfeaelidpckaa.Tree Go.Proofs.Ytodfeaelidpckaa.Hex Go.Proofs.Ytodfeaelidpckaa.Read Go.Proofs.Ytodfeaelidpckaa.Parts Go.Proofs.Ytodfeaelidpckaa.TrimT Go.Proofs.Ytodfeaelidpckaa.Rect Go.Proofs.Ytodfeaelidpckaa.Split Go.Proofs.Ytodfeaelidpckaa.App Go.Proofs.Ytodfeaelidpckaa.Leaf
open Go.Proofs.Ytodfeaelidpckaa.SaidTrim (eq0 ne0)
open Go.Proofs.Ytodfeaelidpckaa.Wq (drew_at)
open Go.Proofs.Ytodfeaelidpckaa.Free (fill wp_value wp_enter wp_load_row freeB)
open Go.Proofs.Ytodfeaelidpckaa.FreeC4 Go.Proofs.Ytodfeaelidpckaa.FreeW
set_option linter.unusedVariables false
set_option linter.unusedSimpArgs false

theorem info_r : ∃ i, Try.prog.info? 57 = some i ∧ i.zero = some (.agg #[.int .i64 0, .int .i64 0]) ∧ i.size = 2 ∧ i.bytes = 16 := ⟨_, rfl, rfl, rfl, rfl⟩
theorem get_some {a : Act} {d : Tmp} {v : Value} (h : a.tmps[d]? = some v) : a.tmps[d]?.getD undef = v := by rw [h]; rfl
theorem wp_enterR {o : Oper} {a : Act} {w : World} {K : Act → World → Prop} {Q : Exit → Act → World → Prop} {R : Value → World → Prop} (f : FuncId) (args : Array Value) (h : (execOp a.eval o).run Try.prog w = .ok (.enter f args) w)
    (hc : Calls Try.prog f args w fun e w' => ∃ v, e = .returned v ∧ R v w') (hK : ∀ v w', R v w' → K (a.put o.dst v) w') : o.wp Try.prog a w K Q := by
  unfold Oper.wp
  rw [h]
  refine Calls.mono hc ?_
  rintro e w' ⟨v, rfl, hR⟩
  exact hK v w' hR
def SaidR (t : T) : Prop := ∀ (R C : Nat) (w : World), R < 256 → C < 256 →
    Calls Try.prog 47 #[.string (str (text t)), rect R C] w fun e w' => ∃ v, e = .returned v ∧ Own w w' 57 2 v (leavesT t R C).length (cellsR (leavesT t R C))

set_option maxHeartbeats 2000000 in
set_option maxRecDepth 100000 in
/-- no rectangle: no ends -/
theorem rects_none (s : ByteArray) (R C : Nat) (h : R = 0 ∨ C = 0) (w : World) :
    Calls Try.prog 47 #[.string s, rect R C] w fun e w' => ∃ v, e = .returned v ∧ Own w w' 57 2 v 0 [] := by
  have hb0 := (Below.refl w.heap.size w).alloc (Nat.le_refl _) (.cells #[.int .i64 (R : Int), .int .i64 (C : Int)] 57)
  have HOn : Hid (Own w ((w.alloc (.cells #[.int .i64 (R : Int), .int .i64 (C : Int)] 57)).alloc (.cells #[] 57)) 57 2 (.slice (some ⟨w.heap.size + 1, 0, none⟩) 0 0) 0 []) := by
    have h1 := World.ownsRow_lit (base := w.heap.size) (e := 57) (size := 2) (w.alloc (.cells #[.int .i64 (R : Int), .int .i64 (C : Int)] 57)) #[] 0 (by simp) (by unfold maxLen; omega) rfl
    rw [show (w.alloc (.cells #[.int .i64 (R : Int), .int .i64 (C : Int)] 57)).heap.size = w.heap.size + 1 by simp] at h1
    exact ⟨h1, hb0.alloc hb0.size _⟩
  clear hb0
  by_cases hR : R = 0
  · have n1 := eq0 hR
    clear h hR
    go_enter Try.func47, Try.ntmps47
    go_wp2_with fail
    go_ret
    exact ⟨_, rfl, HOn.out⟩
  · have n1 := ne0 hR
    have n2 := eq0 (n := C) (by omega)
    clear h hR
    go_enter Try.func47, Try.ntmps47
    go_wp2_with fail
    go_ret
    exact ⟨_, rfl, HOn.out⟩

set_option maxHeartbeats 8000000 in
set_option maxRecDepth 100000 in
theorem said_rects (t : T) : wf t → (text t).length ≤ 2000 → SaidR t := by
  induction t with
  | leaf b =>
    intro _ _ R C w hR hC
    by_cases h0 : R = 0 ∨ C = 0
    · rw [leaves_none _ R C h0]
      exact rects_none _ R C h0 w
    have hl : leavesT (.leaf b) R C = [(R, C, b)] := by simp only [leavesT]; rw [if_neg h0]
    rw [hl]
    have n1 := ne0 (n := R) (by omega)
    have n2 := ne0 (n := C) (by omega)
    have HL : Hid (∀ W, Calls Try.prog 57 #[.string (str (text (.leaf b)))] W fun e w' => e = .returned (.bool true) ∧ W = w') := leaf_yes _ (by rw [str_size]; rfl)
    have hb0 := (Below.refl w.heap.size w).alloc (Nat.le_refl _) (.cells #[.int .i64 (R : Int), .int .i64 (C : Int)] 57)
    have HOn : Hid (Own w ((w.alloc (.cells #[.int .i64 (R : Int), .int .i64 (C : Int)] 57)).alloc (.cells #[.int .i64 (R : Int), .int .i64 (C : Int)] 57)) 57 2 (.slice (some ⟨w.heap.size + 1, 0, none⟩) 1 1) 1 [.int .i64 (R : Int), .int .i64 (C : Int)]) := by
      have h1 := World.ownsRow_lit (base := w.heap.size) (e := 57) (size := 2) (w.alloc (.cells #[.int .i64 (R : Int), .int .i64 (C : Int)] 57)) #[.int .i64 (R : Int), .int .i64 (C : Int)] 1 (by simp) (by unfold maxLen; omega) rfl
      rw [show (w.alloc (.cells #[.int .i64 (R : Int), .int .i64 (C : Int)] 57)).heap.size = w.heap.size + 1 by simp] at h1
      exact ⟨h1, hb0.alloc hb0.size _⟩
    generalize str (text (.leaf b)) = s at *
    clear hb0 hl h0 hR hC
    go_enter Try.func47, Try.ntmps47
    go_wp2_with fail
    refine (HL.out _).mono ?_
    rintro e w' ⟨rfl, rfl⟩
    go_wp2_with fail
    go_ret
    exact ⟨_, rfl, HOn.out⟩
  | say a v z o ihz iho =>
    intro hw hl R C w hR hC
    by_cases h0 : R = 0 ∨ C = 0
    · rw [leaves_none _ R C h0]
      exact rects_none _ R C h0 w
    have hlz : (text (.say a v z o)).length = (text z).length + (text o).length + 3 := by simp [text]
    obtain ⟨h1, h2, h3, h4⟩ := parts_lt a v hR hC
    have HZ := Lib.hid (fun W => ihz hw.2.1 (by omega) (outR a v R) (outC a v C) W h1 h2)
    have HO := Lib.hid (fun W => iho hw.2.2 (by omega) (inR a v R) (inC a v C) W h3 h4)
    have HL : Hid (∀ W, Calls Try.prog 57 #[.string (str (text (.say a v z o)))] W fun e w' => e = .returned (.bool false) ∧ W = w') := leaf_no _ (by rw [str_size]; omega)
    have HP := Lib.hid (parts_w a v z o hw.2.1 (str (text (.say a v z o))) (str_data _) (by rw [str_size]; omega))
    have HSp := Lib.hid (split_said a v z o hw.1 (str (text (.say a v z o))) (str_data _) (by rw [str_size]; omega) R C hR hC)
    have n1 := ne0 (n := R) (by omega)
    have n2 := ne0 (n := C) (by omega)
    have lz := Nat.le_trans (leaves_length z (outR a v R) (outC a v C)) (show _ ≤ 2000 by omega)
    have lo := Nat.le_trans (leaves_length o (inR a v R) (inC a v C)) (show _ ≤ 2000 by omega)
    have HRes : Hid (leavesT (.say a v z o) R C = leavesT z (outR a v R) (outC a v C) ++ leavesT o (inR a v R) (inC a v C)) := rfl
    have lm := cellsR_length (leavesT o (inR a v R) (inC a v C))
    have o1 := cellsR_one (leavesT o (inR a v R) (inC a v C))
    generalize leavesT (.say a v z o) R C = LA at *
    generalize leavesT z (outR a v R) (outC a v C) = LZ at *
    generalize leavesT o (inR a v R) (inC a v C) = LO at *
    generalize outR a v R = oR at *
    generalize outC a v C = oC at *
    generalize inR a v R = iR at *
    generalize inC a v C = iC at *
    generalize str (text (.say a v z o)) = st at *
    generalize str (text z) = sz at *
    generalize str (text o) = so at *
    obtain ⟨i0, hi, hz0, hz1, hz2⟩ := info_r
    have LM := Lib.hid lm
    have O1 := Lib.hid o1
    clear hl hlz hw ihz iho h0 hR hC lm o1
    go_enter Try.func47, Try.ntmps47
    go_wp2_with fail
    refine (HL.out _).mono ?_
    rintro e w' ⟨rfl, rfl⟩
    go_wp2_with fail
    refine (HP.out _).mono ?_
    rintro e w1 ⟨rfl, hb1⟩
    have g0 : (w.alloc (.cells #[.int .i64 (R : Int), .int .i64 (C : Int)] 57)).heap[w.heap.size]? = some (.cells #[.int .i64 (R : Int), .int .i64 (C : Int)] 57 (0, 0)) := heap_alloc_new w _
    have g1 : w1.heap[w.heap.size]? = some (.cells #[.int .i64 (R : Int), .int .i64 (C : Int)] 57 (0, 0)) := (hb1.block _ (Array.getElem?_eq_some_iff.1 g0).1).trans g0
    obtain ⟨c0, c1, _, _⟩ := cells2 g1
    have HB1 : Hid (Below w.heap.size w w1) := by
      have b0 := (Below.refl w.heap.size w).alloc (Nat.le_refl _) (.cells #[.int .i64 (R : Int), .int .i64 (C : Int)] 57)
      exact b0.trans (hb1.mono b0.size)
    clear hb1 g0 g1
    go_wp2_with fail
    refine (HSp.out _).mono ?_
    rintro e w2 ⟨rfl, hb2⟩
    have HB2 := Lib.hid (HB1.out.trans (hb2.mono HB1.out.size))
    clear hb2 HB1 c0 c1
    obtain ⟨W3, hW3⟩ : ∃ W3, ((w2.alloc (.cells #[.int .i64 (oR : Int), .int .i64 (oC : Int)] 57)).alloc (.cells #[.int .i64 (iR : Int), .int .i64 (iC : Int)] 57)) = W3 := ⟨_, rfl⟩
    have HB3 : Hid (Below w.heap.size w W3) := by
      show Below _ _ _
      rw [← hW3]
      have b1 := HB2.out.alloc HB2.out.size (.cells #[.int .i64 (oR : Int), .int .i64 (oC : Int)] 57)
      exact b1.alloc b1.size _
    obtain ⟨B, hB⟩ : ∃ B, w2.heap.size = B := ⟨_, rfl⟩
    have HM1 : Hid (∀ wx : World, Below W3.heap.size W3 wx → wx.heap[B]? = some (.cells #[.int .i64 (oR : Int), .int .i64 (oC : Int)] 57 (0, 0))) := fun wx h => by
      have g0 := heap_alloc_new w2 (.cells #[.int .i64 (oR : Int), .int .i64 (oC : Int)] 57)
      have g1 := (heap_alloc_old (w2.alloc (.cells #[.int .i64 (oR : Int), .int .i64 (oC : Int)] 57)) (.cells #[.int .i64 (iR : Int), .int .i64 (iC : Int)] 57) (Array.getElem?_eq_some_iff.1 g0).1).trans g0
      rw [hW3, hB] at g1
      exact (h.block _ (Array.getElem?_eq_some_iff.1 g1).1).trans g1
    have HM2 : Hid (∀ wx : World, Below W3.heap.size W3 wx → wx.heap[B + 1]? = some (.cells #[.int .i64 (iR : Int), .int .i64 (iC : Int)] 57 (0, 0))) := fun wx h => by
      have g1 := heap_alloc_new (w2.alloc (.cells #[.int .i64 (oR : Int), .int .i64 (oC : Int)] 57)) (.cells #[.int .i64 (iR : Int), .int .i64 (iC : Int)] 57)
      rw [show (w2.alloc (.cells #[.int .i64 (oR : Int), .int .i64 (oC : Int)] 57)).heap.size = w2.heap.size + 1 by simp] at g1
      rw [hW3, hB] at g1
      exact (h.block _ (Array.getElem?_eq_some_iff.1 g1).1).trans g1
    have HW3 := Lib.hid hW3
    clear hW3
    go_wp2_with fail
    rw [HW3.out]
    clear HW3 HB2
    refine wp_region_chain4 (fun | 0 => .string sz | 1 => rect oR oC | 3 => .string so | 4 => rect iR iC | _ => undef) (fun i => !(i == 2) && !(i == 5) && !(i == 6) && !(i == 7)) 2 5 6 7 35 38 39 4 _ _ _ _
      (fun w => Below W3.heap.size W3 w) (fun x w => Own W3 w 57 2 x LZ.length (cellsR LZ)) (fun x y w => Own W3 w 57 2 x LZ.length (cellsR LZ) ∧ Own W3 w 57 2 y LO.length (cellsR LO)) (fun y w => Own W3 w 57 2 y (LZ.length + LO.length) (cellsR LZ ++ cellsR LO)) (fun y w => Own W3 w 57 2 y (LZ.length + LO.length) (cellsR LZ ++ cellsR LO)) (fun w => Below W3.heap.size W3 w)
      (by kernel_rfl) (by kernel_rfl) rfl rfl rfl rfl rfl rfl rfl rfl rfl rfl (by decide) (by decide) (.inl ⟨⟨2, .chain⟩, (by simp), rfl, rfl⟩) ⟨⟨5, .data⟩, (by simp), rfl, rfl⟩ ⟨⟨6, .data⟩, (by simp), rfl, rfl⟩ ?otR ?h0R (fun w h => h) (fun v w h => h.below) (fun v u w h => h.1.below) (fun t w h => h.below) (fun t w h => h.below) (fun w w1 hb h => h.trans (hb.mono h.size)) (fun v w w1 hb h => h.later hb) (fun v u w w1 hb h => ⟨h.1.later hb, h.2.later hb⟩) (fun t w w1 hb h => h.later hb) (fun t w w1 hb h => h.later hb) ?conR ?saR ?sbR ?scR ?sdR ?enR
    case otR =>
      intro i o ho hki
      match i, ho with
      | 0, ho =>
        obtain rfl := Option.some.inj ho
        exact ⟨by decide, by decide, by decide, by decide⟩
      | 1, ho =>
        obtain rfl := Option.some.inj ho
        exact ⟨by decide, by decide, by decide, by decide⟩
      | 2, ho => exact absurd hki (by decide)
      | 3, ho =>
        obtain rfl := Option.some.inj ho
        exact ⟨by decide, by decide, by decide, by decide⟩
      | 4, ho =>
        obtain rfl := Option.some.inj ho
        exact ⟨by decide, by decide, by decide, by decide⟩
      | 5, ho => exact absurd hki (by decide)
      | 6, ho => exact absurd hki (by decide)
      | 7, ho => exact absurd hki (by decide)
      | q + 8, ho => simp at ho
    case h0R => exact drew_at W3
    case conR =>
      intro i o ho hki a wx hJ hf
      match i, ho with
      | 0, ho =>
        obtain rfl := Option.some.inj ho
        have b5 : a.tmps[5]?.getD undef = .string sz := hf.2 5 (by kernel_rfl)
        exact wp_value (.string sz) (by unfold execOp; go_simp) ⟨rfl, Below.refl _ _⟩
      | 1, ho =>
        obtain rfl := Option.some.inj ho
        have b7 : a.tmps[7]?.getD undef = .pointer (some ⟨B, 0, none⟩) := hf.2 7 (by kernel_rfl)
        obtain ⟨d0, d1, _, _⟩ := cells2 (HM1.out wx hJ)
        exact wp_value (rect oR oC) (by unfold execOp; go_simp) ⟨rfl, Below.refl _ _⟩
      | 2, ho => exact absurd hki (by decide)
      | 3, ho =>
        obtain rfl := Option.some.inj ho
        have b6 : a.tmps[6]?.getD undef = .string so := hf.2 6 (by kernel_rfl)
        exact wp_value (.string so) (by unfold execOp; go_simp) ⟨rfl, Below.refl _ _⟩
      | 4, ho =>
        obtain rfl := Option.some.inj ho
        have b8 : a.tmps[8]?.getD undef = .pointer (some ⟨B + 1, 0, none⟩) := hf.2 8 (by kernel_rfl)
        obtain ⟨f0, f1, _, _⟩ := cells2 (HM2.out wx hJ)
        exact wp_value (rect iR iC) (by unfold execOp; go_simp) ⟨rfl, Below.refl _ _⟩
      | 5, ho => exact absurd hki (by decide)
      | 6, ho => exact absurd hki (by decide)
      | 7, ho => exact absurd hki (by decide)
      | q + 8, ho => simp at ho
    case saR =>
      intro a wx hI hf
      have e33 : a.tmps[33]?.getD undef = .string sz := hf.1 ⟨0, .data⟩ (by simp) rfl _ 33 rfl rfl (by decide)
      have e34 : a.tmps[34]?.getD undef = rect oR oC := hf.1 ⟨1, .data⟩ (by simp) rfl _ 34 rfl rfl (by decide)
      refine wp_enterR 47 #[.string sz, rect oR oC] (by unfold execOp; go_simp) (HZ.out wx) ?_
      intro v' w' h1
      exact ⟨v', rfl, Leaf.Own.lower h1 hI⟩
    case sbR =>
      intro a wx x hI hv hf
      have e36 : a.tmps[36]?.getD undef = .string so := hf.1 ⟨3, .data⟩ (by simp) rfl _ 36 rfl rfl (by decide)
      have e37 : a.tmps[37]?.getD undef = rect iR iC := hf.1 ⟨4, .data⟩ (by simp) rfl _ 37 rfl rfl (by decide)
      refine wp_enterR 47 #[.string so, rect iR iC] (by unfold execOp; go_simp) (HO.out wx) ?_
      intro v' w' h1
      exact ⟨v', rfl, hI.later h1.below, Leaf.Own.lower h1 hI.below⟩
    case scR =>
      intro a wx x y hI hv hu hf
      refine wp_append_two (w0 := W3) (.tmp 35) (.tmp 38) 30 rfl 57 i0 (.agg #[.int .i64 0, .int .i64 0]) 2 16 Try.underlying30 hi hz0 hz1 hz2 rfl (by decide) x y LZ.length LO.length (cellsR LZ) (cellsR LO) (eval_get (get_some hv)) hI.1 (eval_get (get_some hu)) hI.2 LM.out O1.out (by omega) (by decide) ?_
      intro v' w' h1
      exact ⟨v', rfl, h1⟩
    case sdR =>
      intro a wx y hI hv hf
      have e39 := get_some hv
      exact wp_value y (by unfold execOp; go_simp) ⟨y, rfl, hI⟩
    intro k1 k2 k3 res w9 hI
    have HF : Hid (Own w w9 57 2 res (LZ.length + LO.length) (cellsR LZ ++ cellsR LO)) := Leaf.Own.lower hI HB3.out
    clear hI HM1 HM2 HB3
    simp only [fill, Act.put]
    go_simp
    go_wp2_with fail
    go_ret
    exact ⟨res, rfl, by rw [HRes.out, List.length_append, cellsR_append]; exact HF.out⟩
end Go.Proofs.Ytodfeaelidpckaa.SaidRects
