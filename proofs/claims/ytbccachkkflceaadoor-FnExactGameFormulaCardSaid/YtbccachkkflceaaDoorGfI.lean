/-
  The program's formula of a protocol that plays a game.
-/
import Derived.Test.YtbccachkkflceaaDoorGfM
import Derived.Test.YtbccachkkflceaaDoorPlI
import Derived.Test.YtbccachkkflceaaDoorPlN
import Derived.Test.YtbccachkkflceaaDoorGTrimI
import Derived.Test.YtbccachkkflceaaDoorFmText
import Derived.Test.YtbccachkkflceaaDoorGTreeOf
namespace Go.Proofs.YtbccachkkflceaaDoor.GfI
open Go.RowKit Go.Shelf Go.Proofs.YtbccachkkflceaaDoor.Plain Go.Proofs.YtbccachkkflceaaDoor.Pat Go.Proofs.YtbccachkkflceaaDoor.Tree Go.Proofs.YtbccachkkflceaaDoor.TrimT Go.Proofs.YtbccachkkflceaaDoor.PartC Go.Proofs.YtbccachkkflceaaDoor.PlM Go.Proofs.YtbccachkkflceaaDoor.PlI Go.Proofs.YtbccachkkflceaaDoor.PlN Go.Proofs.YtbccachkkflceaaDoor.GfM Go.Proofs.YtbccachkkflceaaDoor.FreeL Go.Proofs.YtbccachkkflceaaDoor.Rect
open Go.Proofs.YtbccachkkflceaaDoor.Fm (F val sgn)
open Go.Proofs.YtbccachkkflceaaDoor.Count (cells4)
open Go.Proofs.YtbccachkkflceaaDoor.FmMeth (cells2)
open Go.Proofs.YtbccachkkflceaaDoor.TrimI (TrimC trim_to)
open Go.Proofs.YtbccachkkflceaaDoor.Free (fill wp_value wp_enter wp_load_row freeB)
set_option linter.unusedVariables false
set_option linter.unusedSimpArgs false

theorem eval_get {a : Act} {d : Tmp} {v : Value} (h : a.tmps[d]?.getD undef = v) : a.eval (.tmp d) = v := by
  rw [← h]
  show a.tmps.getD d undef = _
  simp [Array.getD_eq_getD_getElem?]
theorem info_say (a b : Int) (t1 t2 : TypeId) (x y : Value) : (Tryd.prog.info? 77).map (·.size) = some (#[.int .u8 a, .int .i64 b, .iface t1 x, .iface t2 y] : Array Value).size := by kernel_rfl
theorem as_end (v : Value) (w : World) : (Instr.typeAssert (.iface 61 v) 29 61 true).run Tryd.prog w = .ok (.tuple #[v, .bool true]) w := by kernel_rfl
theorem as_say0 (v : Value) (w : World) : (Instr.typeAssert (.iface 77 v) 29 61 true).run Tryd.prog w = .ok (.tuple #[.int .i64 0, .bool false]) w := by kernel_rfl
theorem as_say (v : Value) (w : World) : (Instr.typeAssert (.iface 77 v) 29 77 true).run Tryd.prog w = .ok (.tuple #[v, .bool true]) w := by kernel_rfl
set_option maxHeartbeats 400000 in
theorem sign_of (a : Bool) (w : World) : Calls Tryd.prog 51 #[.int .u8 ((whoB a).toNat : Int)] w fun e w' => e = .returned (.int .u8 ((sgn (!a)).toNat : Int)) ∧ w = w' := by
  cases a
  · show Calls _ _ #[.int .u8 66] _ fun e w' => e = .returned (.int .u8 38) ∧ _
    go_enter Tryd.func51, Tryd.ntmps51
    go_wp2_with fail
    go_ret
    exact ⟨rfl, rfl⟩
  · show Calls _ _ #[.int .u8 65] _ fun e w' => e = .returned (.int .u8 124) ∧ _
    go_enter Tryd.func51, Tryd.ntmps51
    go_wp2_with fail
    go_ret
    exact ⟨rfl, rfl⟩

set_option maxHeartbeats 8000000 in
set_option maxRecDepth 100000 in
theorem formula_from (t : T) : ∀ (R C : Nat), R < 256 → C < 256 → ∀ w : World, Calls Tryd.prog 30 #[Read.tree t, rect R C] w fun e w' => e = .returned (FmRead.tree (frmI t R C)) ∧ Below w.heap.size w w' := by
  induction t with
  | leaf b =>
    intro R C hR hC w
    have HPA := Lib.hid (parting (gN b) R C (gN_lt b) hR hC)
    have hres : ∃ L1 L2 ok, partV (gN b) R C = .tuple #[.agg #[.int .i64 L1, .int .i64 L2], .bool ok] ∧ FmRead.tree (frmI (.leaf b) R C) = .iface 65 (.agg #[.int .i64 L1, .int .i64 L2]) := by
      unfold partV frmI
      cases partL (gN b) R C with
      | none => exact ⟨0, 0, false, rfl, rfl⟩
      | some v => exact ⟨(gN b : Int), bitI v, true, rfl, rfl⟩
    obtain ⟨L1, L2, ok, e1, e2⟩ := hres
    rw [e1] at HPA
    rw [e2]
    show Calls _ _ #[.iface 61 (.int .i64 (gN b : Int)), rect R C] _ _
    generalize gN b = k at *
    clear e1 e2 hR hC
    have has := as_end
    have hb0 := (Below.refl w.heap.size w).alloc (Nat.le_refl _) (.cells #[.int .i64 (R : Int), .int .i64 (C : Int)] 33)
    have HB0 := Lib.hid hb0
    clear hb0
    go_enter Tryd.func30, Tryd.ntmps30
    go_wp2_with fail
    refine (HPA.out _).mono ?_
    rintro e w2 ⟨rfl, hb⟩
    have HB := Lib.hid (HB0.out.trans (hb.mono HB0.out.size))
    have HB2 := Lib.hid (HB.out.alloc HB.out.size (.cells #[.int .i64 L1, .int .i64 L2] 65))
    clear hb HB HB0
    go_wp2_with fail
    go_ret
    exact ⟨rfl, HB2.out⟩
  | say a s z o ihz iho =>
    intro R C hR hC w
    obtain ⟨h1, h2, h3, h4⟩ := parts_lt a s hR hC
    have hZ := ihz (outR a s R) (outC a s C) h1 h2
    have hO := iho (inR a s R) (inC a s C) h3 h4
    have hPo := fun t1 t2 v1 v2 W => part_out a s R C hR hC t1 t2 v1 v2 W
    have hPi := fun t1 t2 v1 v2 W => part_in a s R C hR hC t1 t2 v1 v2 W
    have HSO := Lib.hid (sign_of a)
    obtain ⟨t3, v3, e3⟩ := FmRead.tree_iface (frmI z (outR a s R) (outC a s C))
    obtain ⟨t4, v4, e4⟩ := FmRead.tree_iface (frmI o (inR a s R) (inC a s C))
    have hT : FmRead.tree (frmI (.say a s z o) R C) = .iface 83 (.agg #[.iface t3 v3, .iface t4 v4, .int .u8 ((sgn (!a)).toNat : Int)]) := by
      show FmRead.tree (.gate (!a) (frmI z (outR a s R) (outC a s C)) (frmI o (inR a s R) (inC a s C))) = _
      simp only [FmRead.tree, FmRead.gateV, e3, e4]
    rw [hT]
    rw [e3] at hZ
    rw [e4] at hO
    obtain ⟨t1, v1, e1⟩ := Read.tree_iface z
    obtain ⟨t2, v2, e2⟩ := Read.tree_iface o
    show Calls _ _ #[.iface 77 (.agg #[.int .u8 ((whoB a).toNat : Int), .int .i64 (s : Int), Read.tree z, Read.tree o]), rect R C] _ _
    rw [e1] at hZ ⊢
    rw [e2] at hO ⊢
    have HZ := Lib.hid hZ
    have HO := Lib.hid hO
    have HPo := Lib.hid (hPo t1 t2 v1 v2)
    have HPi := Lib.hid (hPi t1 t2 v1 v2)
    generalize outR a s R = oR at *
    generalize outC a s C = oC at *
    generalize inR a s R = iR at *
    generalize inC a s C = iC at *
    generalize ((whoB a).toNat : Int) = wh at *
    generalize ((sgn (!a)).toNat : Int) = sg at *
    clear hT e1 e2 e3 e4 ihz iho hZ hO hPo hPi h1 h2 h3 h4 hR hC
    have has := as_say0
    have has2 := as_say
    obtain ⟨X, hX⟩ : ∃ X, w.heap.size = X := ⟨_, rfl⟩
    obtain ⟨W2, hW2⟩ : ∃ W2, (w.alloc (.cells #[.int .i64 (R : Int), .int .i64 (C : Int)] 33)).alloc (.cells #[.int .u8 wh, .int .i64 (s : Int), .iface t1 v1, .iface t2 v2] 77) = W2 := ⟨_, rfl⟩
    have b2 : Below w.heap.size w W2 := by rw [← hW2]; exact ((Below.refl w.heap.size w).alloc (Nat.le_refl _) _).alloc (by simp) _
    have e1 : W2.heap[X]? = some (.cells #[.int .i64 (R : Int), .int .i64 (C : Int)] 33 (0, 0)) := by
      rw [← hW2, ← hX, Below.heap_alloc _ _ _ (by simp)]; exact heap_alloc_new w _
    have e2 : W2.heap[X + 1]? = some (.cells #[.int .u8 wh, .int .i64 (s : Int), .iface t1 v1, .iface t2 v2] 77 (0, 0)) := by
      have h := heap_alloc_new (w.alloc (.cells #[.int .i64 (R : Int), .int .i64 (C : Int)] 33)) (.cells #[.int .u8 wh, .int .i64 (s : Int), .iface t1 v1, .iface t2 v2] 77)
      rw [World.size_alloc] at h
      rw [← hW2, ← hX]; exact h
    have HRX : Hid (∀ wx : World, Below W2.heap.size W2 wx → wx.heap[X]? = some (.cells #[.int .i64 (R : Int), .int .i64 (C : Int)] 33 (0, 0))) := fun wx h => (h.block _ (Array.getElem?_eq_some_iff.1 e1).1).trans e1
    have HSX : Hid (∀ wx : World, Below W2.heap.size W2 wx → wx.heap[X + 1]? = some (.cells #[.int .u8 wh, .int .i64 (s : Int), .iface t1 v1, .iface t2 v2] 77 (0, 0))) := fun wx h => (h.block _ (Array.getElem?_eq_some_iff.1 e2).1).trans e2
    have HBW : Hid (Below w.heap.size w W2) := b2
    clear b2 e1 e2
    go_enter Tryd.func30, Tryd.ntmps30
    go_wp2_with fail
    try rw [hW2]
    try rw [hX]
    refine wp_region_below (fun | 0 => .pointer (some ⟨X + 1, 2, none⟩) | 1 => .pointer (some ⟨X + 1, 2, none⟩) | 2 => .iface t1 v1 | 3 => .agg #[.int .u8 wh, .int .i64 (s : Int), .iface t1 v1, .iface t2 v2] | 4 => rect R C | 5 => rect oR oC | 6 => .iface t3 v3 | 7 => .pointer (some ⟨X + 1, 2, none⟩) | 8 => .pointer (some ⟨X + 1, 3, none⟩) | 9 => .iface t2 v2 | 10 => .agg #[.int .u8 wh, .int .i64 (s : Int), .iface t1 v1, .iface t2 v2] | 11 => rect R C | 12 => rect iR iC | 13 => .iface t4 v4 | 14 => .iface t3 v3 | 15 => .iface t4 v4 | _ => undef) (by kernel_rfl) (by kernel_rfl) rfl ?con8 ?en8
    case con8 =>
      intro i o ho a wx hb hf
      match i, ho with
      | 0, ho =>
        obtain rfl := Option.some.inj ho
        have b8 : a.tmps[8]?.getD undef = .pointer (some ⟨X + 1, 0, none⟩) := hf.2 8 (by kernel_rfl)
        exact wp_value (.pointer (some ⟨X + 1, 2, none⟩)) (by unfold execOp; go_simp) ⟨rfl, Below.refl _ _⟩
      | 1, ho =>
        obtain rfl := Option.some.inj ho
        have e26 : a.tmps[26]?.getD undef = .pointer (some ⟨X + 1, 2, none⟩) := hf.1 ⟨0, .data⟩ (by simp) rfl _ 26 rfl rfl
        exact wp_value (.pointer (some ⟨X + 1, 2, none⟩)) (by unfold execOp; go_simp) ⟨rfl, Below.refl _ _⟩
      | 2, ho =>
        obtain rfl := Option.some.inj ho
        have e27 : a.tmps[27]?.getD undef = .pointer (some ⟨X + 1, 2, none⟩) := hf.1 ⟨1, .data⟩ (by simp) rfl _ 27 rfl rfl
        obtain ⟨c0, c1, c2, c3⟩ := cells4 (HSX.out _ hb)
        exact wp_value (.iface t1 v1) (by unfold execOp; go_simp) ⟨rfl, Below.refl _ _⟩
      | 3, ho =>
        obtain rfl := Option.some.inj ho
        have b8 : a.tmps[8]?.getD undef = .pointer (some ⟨X + 1, 0, none⟩) := hf.2 8 (by kernel_rfl)
        exact wp_load_row 77 (.tmp 8) rfl (X + 1) (eval_get b8) 77 _ (0, 0) _ (HSX.out _ hb) Tryd.underlying77 rfl (info_say _ _ _ _ _ _) ⟨rfl, Below.refl _ _⟩
      | 4, ho =>
        obtain rfl := Option.some.inj ho
        have b3 : a.tmps[3]?.getD undef = .pointer (some ⟨X, 0, none⟩) := hf.2 3 (by kernel_rfl)
        exact wp_load_row 33 (.tmp 3) rfl X (eval_get b3) 33 _ (0, 0) _ (HRX.out _ hb) Tryd.underlying33 rfl (info_rect _ _) ⟨rfl, Below.refl _ _⟩
      | 5, ho =>
        obtain rfl := Option.some.inj ho
        have e29 : a.tmps[29]?.getD undef = .agg #[.int .u8 wh, .int .i64 (s : Int), .iface t1 v1, .iface t2 v2] := hf.1 ⟨3, .data⟩ (by simp) rfl _ 29 rfl rfl
        have e30 : a.tmps[30]?.getD undef = rect R C := hf.1 ⟨4, .data⟩ (by simp) rfl _ 30 rfl rfl
        exact wp_enter 50 #[.agg #[.int .u8 wh, .int .i64 (s : Int), .iface t1 v1, .iface t2 v2], rect R C, .int .i64 0] (rect oR oC) _ (by unfold execOp; go_simp) (HPo.out wx) (fun w' h => ⟨rfl, h⟩)
      | 6, ho =>
        obtain rfl := Option.some.inj ho
        have e28 : a.tmps[28]?.getD undef = .iface t1 v1 := hf.1 ⟨2, .data⟩ (by simp) rfl _ 28 rfl rfl
        have e31 : a.tmps[31]?.getD undef = rect oR oC := hf.1 ⟨5, .data⟩ (by simp) rfl _ 31 rfl rfl
        exact wp_enter 30 #[.iface t1 v1, rect oR oC] (.iface t3 v3) _ (by unfold execOp; go_simp) (HZ.out wx) (fun w' h => ⟨rfl, h⟩)
      | 7, ho =>
        obtain rfl := Option.some.inj ho
        have b8 : a.tmps[8]?.getD undef = .pointer (some ⟨X + 1, 0, none⟩) := hf.2 8 (by kernel_rfl)
        exact wp_value (.pointer (some ⟨X + 1, 2, none⟩)) (by unfold execOp; go_simp) ⟨rfl, Below.refl _ _⟩
      | 8, ho =>
        obtain rfl := Option.some.inj ho
        have e33 : a.tmps[33]?.getD undef = .pointer (some ⟨X + 1, 2, none⟩) := hf.1 ⟨7, .data⟩ (by simp) rfl _ 33 rfl rfl
        exact wp_value (.pointer (some ⟨X + 1, 3, none⟩)) (by unfold execOp; go_simp) ⟨rfl, Below.refl _ _⟩
      | 9, ho =>
        obtain rfl := Option.some.inj ho
        have e34 : a.tmps[34]?.getD undef = .pointer (some ⟨X + 1, 3, none⟩) := hf.1 ⟨8, .data⟩ (by simp) rfl _ 34 rfl rfl
        obtain ⟨c0, c1, c2, c3⟩ := cells4 (HSX.out _ hb)
        exact wp_value (.iface t2 v2) (by unfold execOp; go_simp) ⟨rfl, Below.refl _ _⟩
      | 10, ho =>
        obtain rfl := Option.some.inj ho
        have b8 : a.tmps[8]?.getD undef = .pointer (some ⟨X + 1, 0, none⟩) := hf.2 8 (by kernel_rfl)
        exact wp_load_row 77 (.tmp 8) rfl (X + 1) (eval_get b8) 77 _ (0, 0) _ (HSX.out _ hb) Tryd.underlying77 rfl (info_say _ _ _ _ _ _) ⟨rfl, Below.refl _ _⟩
      | 11, ho =>
        obtain rfl := Option.some.inj ho
        have b3 : a.tmps[3]?.getD undef = .pointer (some ⟨X, 0, none⟩) := hf.2 3 (by kernel_rfl)
        exact wp_load_row 33 (.tmp 3) rfl X (eval_get b3) 33 _ (0, 0) _ (HRX.out _ hb) Tryd.underlying33 rfl (info_rect _ _) ⟨rfl, Below.refl _ _⟩
      | 12, ho =>
        obtain rfl := Option.some.inj ho
        have e36 : a.tmps[36]?.getD undef = .agg #[.int .u8 wh, .int .i64 (s : Int), .iface t1 v1, .iface t2 v2] := hf.1 ⟨10, .data⟩ (by simp) rfl _ 36 rfl rfl
        have e37 : a.tmps[37]?.getD undef = rect R C := hf.1 ⟨11, .data⟩ (by simp) rfl _ 37 rfl rfl
        exact wp_enter 50 #[.agg #[.int .u8 wh, .int .i64 (s : Int), .iface t1 v1, .iface t2 v2], rect R C, .int .i64 1] (rect iR iC) _ (by unfold execOp; go_simp) (HPi.out wx) (fun w' h => ⟨rfl, h⟩)
      | 13, ho =>
        obtain rfl := Option.some.inj ho
        have e35 : a.tmps[35]?.getD undef = .iface t2 v2 := hf.1 ⟨9, .data⟩ (by simp) rfl _ 35 rfl rfl
        have e38 : a.tmps[38]?.getD undef = rect iR iC := hf.1 ⟨12, .data⟩ (by simp) rfl _ 38 rfl rfl
        exact wp_enter 30 #[.iface t2 v2, rect iR iC] (.iface t4 v4) _ (by unfold execOp; go_simp) (HO.out wx) (fun w' h => ⟨rfl, h⟩)
      | 14, ho =>
        obtain rfl := Option.some.inj ho
        have e32 : a.tmps[32]?.getD undef = .iface t3 v3 := hf.1 ⟨6, .data⟩ (by simp) rfl _ 32 rfl rfl
        exact wp_value (.iface t3 v3) (by unfold execOp; go_simp) ⟨rfl, Below.refl _ _⟩
      | 15, ho =>
        obtain rfl := Option.some.inj ho
        have e39 : a.tmps[39]?.getD undef = .iface t4 v4 := hf.1 ⟨13, .data⟩ (by simp) rfl _ 39 rfl rfl
        exact wp_value (.iface t4 v4) (by unfold execOp; go_simp) ⟨rfl, Below.refl _ _⟩
      | q + 16, ho => simp at ho
    case en8 =>
      intro w3 hb3
      have HB3 : Hid (Below w.heap.size w w3) := HBW.out.trans (hb3.mono HBW.out.size)
      obtain ⟨d0, d1, d2, d3⟩ := cells4 (HSX.out w3 hb3)
      clear hb3
      simp only [fill, Act.put]
      go_simp
      go_wp2_with fail
      refine (HSO.out _).mono ?_
      rintro e w4 ⟨rfl, rfl⟩
      go_wp2_with fail
      go_ret
      exact ⟨rfl, by first | exact HB3.out | (have h := HB3.out; rw [hX] at h; exact h)⟩

theorem ones_zero {R : Nat} (h : R < 256) : someB (R : Int) (R : Int) = decide (R ≠ 0) := by
  unfold someB
  by_cases h0 : R = 0
  · subst h0; rfl
  · rw [decide_eq_true (by omega), decide_eq_true h0]; rfl
theorem some_both {R C : Nat} (hR : R < 256) (hC : C < 256) : someB (R : Int) (C : Int) = (decide (R ≠ 0) && decide (C ≠ 0)) := by
  unfold someB
  have e : ∀ {n : Nat}, n < 256 → decide (1 ≤ (n : Int) ∧ (n : Int) ≤ 255) = decide (n ≠ 0) := fun {n} h => by
    by_cases h0 : n = 0
    · subst h0; rfl
    · rw [decide_eq_true (by omega), decide_eq_true h0]
  rw [e hR, e hC]
/-- what both GameFormula answer: whether there is a formula -/
def gfOk (t : T) (s : ByteArray) : Bool := Wid.tabV s && (decide (onesN s ≠ 0) && decide (zerosN s ≠ 0)) && playB t (onesN s) (zerosN s)
def gfV (t : T) (s : ByteArray) : Value := if gfOk t s then .tuple #[.string (str (Fm.text (frmS t (onesN s) (zerosN s)))), .bool true] else .tuple #[.string (str []), .bool false]
end Go.Proofs.YtbccachkkflceaaDoor.GfI
