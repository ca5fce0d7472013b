/-
  Texts of one seat, joined: GfI, GameFormulaWalk.
-/
import Derived.Test.YtbccachkkflceaaGreatDoorJn1
import Derived.Test.YtbccachkkflceaaGreatDoorJn39
import Derived.Test.YtbccachkkflceaaGreatDoorJn31
import Derived.Test.YtbccachkkflceaaGreatDoorJn33
import Derived.Test.YtbccachkkflceaaGreatDoorJn30
import Derived.Test.YtbccachkkflceaaGreatDoorJn16
import Derived.Test.YtbccachkkflceaaGreatDoorJn20
import Derived.Test.YtbccachkkflceaaGreatDoorJn40
/-
  The program's formula of a protocol that plays a game.
-/
namespace Go.Proofs.YtbccachkkflceaaGreatDoor.GfI
open Go.RowKit Go.Shelf Go.Proofs.YtbccachkkflceaaGreatDoor.Plain Go.Proofs.YtbccachkkflceaaGreatDoor.Pat Go.Proofs.YtbccachkkflceaaGreatDoor.Tree Go.Proofs.YtbccachkkflceaaGreatDoor.TrimT Go.Proofs.YtbccachkkflceaaGreatDoor.PartC Go.Proofs.YtbccachkkflceaaGreatDoor.PlM Go.Proofs.YtbccachkkflceaaGreatDoor.PlI Go.Proofs.YtbccachkkflceaaGreatDoor.PlN Go.Proofs.YtbccachkkflceaaGreatDoor.GfM Go.Proofs.YtbccachkkflceaaGreatDoor.FreeL Go.Proofs.YtbccachkkflceaaGreatDoor.Rect
open Go.Proofs.YtbccachkkflceaaGreatDoor.Fm (F val sgn)
open Go.Proofs.YtbccachkkflceaaGreatDoor.Count (cells4)
open Go.Proofs.YtbccachkkflceaaGreatDoor.FmMeth (cells2)
open Go.Proofs.YtbccachkkflceaaGreatDoor.TrimI (TrimC trim_to)
open Go.Proofs.YtbccachkkflceaaGreatDoor.Free (fill wp_value wp_enter wp_load_row freeB)
set_option linter.unusedVariables false
set_option linter.unusedSimpArgs false

theorem eval_get {a : Act} {d : Tmp} {v : Value} (h : a.tmps[d]?.getD undef = v) : a.eval (.tmp d) = v := by
  rw [← h]
  show a.tmps.getD d undef = _
  simp [Array.getD_eq_getD_getElem?]
theorem info_say (a b : Int) (t1 t2 : TypeId) (x y : Value) : (Tryz.prog.info? 72).map (·.size) = some (#[.int .u8 a, .int .i64 b, .iface t1 x, .iface t2 y] : Array Value).size := by kernel_rfl
theorem as_end (v : Value) (w : World) : (Instr.typeAssert (.iface 65 v) 34 65 true).run Tryz.prog w = .ok (.tuple #[v, .bool true]) w := by kernel_rfl
theorem as_say0 (v : Value) (w : World) : (Instr.typeAssert (.iface 72 v) 34 65 true).run Tryz.prog w = .ok (.tuple #[.int .i64 0, .bool false]) w := by kernel_rfl
theorem as_say (v : Value) (w : World) : (Instr.typeAssert (.iface 72 v) 34 72 true).run Tryz.prog w = .ok (.tuple #[v, .bool true]) w := by kernel_rfl
set_option maxHeartbeats 400000 in
theorem sign_of (a : Bool) (w : World) : Calls Tryz.prog 64 #[.int .u8 ((whoB a).toNat : Int)] w fun e w' => e = .returned (.int .u8 ((sgn (!a)).toNat : Int)) ∧ w = w' := by
  cases a
  · show Calls _ _ #[.int .u8 66] _ fun e w' => e = .returned (.int .u8 38) ∧ _
    go_enter Tryz.func64, Tryz.ntmps64
    go_wp2_with fail
    go_ret
    exact ⟨rfl, rfl⟩
  · show Calls _ _ #[.int .u8 65] _ fun e w' => e = .returned (.int .u8 124) ∧ _
    go_enter Tryz.func64, Tryz.ntmps64
    go_wp2_with fail
    go_ret
    exact ⟨rfl, rfl⟩

set_option maxHeartbeats 8000000 in
set_option maxRecDepth 100000 in
theorem formula_from (t : T) : ∀ (R C : Nat), R < 256 → C < 256 → ∀ w : World, Calls Tryz.prog 35 #[Read.tree t, rect R C] w fun e w' => e = .returned (FmRead.tree (frmI t R C)) ∧ Below w.heap.size w w' := by
  induction t with
  | leaf b =>
    intro R C hR hC w
    have HPA := Lib.hid (parting (gN b) R C (gN_lt b) hR hC)
    have hres : ∃ L1 L2 ok, partV (gN b) R C = .tuple #[.agg #[.int .i64 L1, .int .i64 L2], .bool ok] ∧ FmRead.tree (frmI (.leaf b) R C) = .iface 64 (.agg #[.int .i64 L1, .int .i64 L2]) := by
      unfold partV frmI
      cases partL (gN b) R C with
      | none => exact ⟨0, 0, false, rfl, rfl⟩
      | some v => exact ⟨(gN b : Int), bitI v, true, rfl, rfl⟩
    obtain ⟨L1, L2, ok, e1, e2⟩ := hres
    rw [e1] at HPA
    rw [e2]
    show Calls _ _ #[.iface 65 (.int .i64 (gN b : Int)), rect R C] _ _
    generalize gN b = k at *
    clear e1 e2 hR hC
    have has := as_end
    have hb0 := (Below.refl w.heap.size w).alloc (Nat.le_refl _) (.cells #[.int .i64 (R : Int), .int .i64 (C : Int)] 51)
    have HB0 := Lib.hid hb0
    clear hb0
    go_enter Tryz.func35, Tryz.ntmps35
    go_wp2_with fail
    refine (HPA.out _).mono ?_
    rintro e w2 ⟨rfl, hb⟩
    have HB := Lib.hid (HB0.out.trans (hb.mono HB0.out.size))
    have HB2 := Lib.hid (HB.out.alloc HB.out.size (.cells #[.int .i64 L1, .int .i64 L2] 64))
    clear hb HB HB0
    go_wp2_with fail
    go_ret
    exact ⟨rfl, HB2.out⟩
  | say a s z o ihz iho =>
    intro R C hR hC w
    obtain ⟨h1, h2, h3, h4⟩ := parts_lt a s hR hC
    have hZ := ihz (outR a s R) (outC a s C) h1 h2
    have hO := iho (inR a s R) (inC a s C) h3 h4
    have hPo := fun t1 t2 v1 v2 W => part_out a s R C hR hC t1 t2 v1 v2 W
    have hPi := fun t1 t2 v1 v2 W => part_in a s R C hR hC t1 t2 v1 v2 W
    have HSO := Lib.hid (sign_of a)
    obtain ⟨t3, v3, e3⟩ := FmRead.tree_iface (frmI z (outR a s R) (outC a s C))
    obtain ⟨t4, v4, e4⟩ := FmRead.tree_iface (frmI o (inR a s R) (inC a s C))
    have hT : FmRead.tree (frmI (.say a s z o) R C) = .iface 69 (.agg #[.iface t3 v3, .iface t4 v4, .int .u8 ((sgn (!a)).toNat : Int)]) := by
      show FmRead.tree (.gate (!a) (frmI z (outR a s R) (outC a s C)) (frmI o (inR a s R) (inC a s C))) = _
      simp only [FmRead.tree, FmRead.gateV, e3, e4]
    rw [hT]
    rw [e3] at hZ
    rw [e4] at hO
    obtain ⟨t1, v1, e1⟩ := Read.tree_iface z
    obtain ⟨t2, v2, e2⟩ := Read.tree_iface o
    show Calls _ _ #[.iface 72 (.agg #[.int .u8 ((whoB a).toNat : Int), .int .i64 (s : Int), Read.tree z, Read.tree o]), rect R C] _ _
    rw [e1] at hZ ⊢
    rw [e2] at hO ⊢
    have HZ := Lib.hid hZ
    have HO := Lib.hid hO
    have HPo := Lib.hid (hPo t1 t2 v1 v2)
    have HPi := Lib.hid (hPi t1 t2 v1 v2)
    generalize outR a s R = oR at *
    generalize outC a s C = oC at *
    generalize inR a s R = iR at *
    generalize inC a s C = iC at *
    generalize ((whoB a).toNat : Int) = wh at *
    generalize ((sgn (!a)).toNat : Int) = sg at *
    clear hT e1 e2 e3 e4 ihz iho hZ hO hPo hPi h1 h2 h3 h4 hR hC
    have has := as_say0
    have has2 := as_say
    obtain ⟨X, hX⟩ : ∃ X, w.heap.size = X := ⟨_, rfl⟩
    obtain ⟨W2, hW2⟩ : ∃ W2, (w.alloc (.cells #[.int .i64 (R : Int), .int .i64 (C : Int)] 51)).alloc (.cells #[.int .u8 wh, .int .i64 (s : Int), .iface t1 v1, .iface t2 v2] 72) = W2 := ⟨_, rfl⟩
    have b2 : Below w.heap.size w W2 := by rw [← hW2]; exact ((Below.refl w.heap.size w).alloc (Nat.le_refl _) _).alloc (by simp) _
    have e1 : W2.heap[X]? = some (.cells #[.int .i64 (R : Int), .int .i64 (C : Int)] 51 (0, 0)) := by
      rw [← hW2, ← hX, Below.heap_alloc _ _ _ (by simp)]; exact heap_alloc_new w _
    have e2 : W2.heap[X + 1]? = some (.cells #[.int .u8 wh, .int .i64 (s : Int), .iface t1 v1, .iface t2 v2] 72 (0, 0)) := by
      have h := heap_alloc_new (w.alloc (.cells #[.int .i64 (R : Int), .int .i64 (C : Int)] 51)) (.cells #[.int .u8 wh, .int .i64 (s : Int), .iface t1 v1, .iface t2 v2] 72)
      rw [World.size_alloc] at h
      rw [← hW2, ← hX]; exact h
    have HRX : Hid (∀ wx : World, Below W2.heap.size W2 wx → wx.heap[X]? = some (.cells #[.int .i64 (R : Int), .int .i64 (C : Int)] 51 (0, 0))) := fun wx h => (h.block _ (Array.getElem?_eq_some_iff.1 e1).1).trans e1
    have HSX : Hid (∀ wx : World, Below W2.heap.size W2 wx → wx.heap[X + 1]? = some (.cells #[.int .u8 wh, .int .i64 (s : Int), .iface t1 v1, .iface t2 v2] 72 (0, 0))) := fun wx h => (h.block _ (Array.getElem?_eq_some_iff.1 e2).1).trans e2
    have HBW : Hid (Below w.heap.size w W2) := b2
    clear b2 e1 e2
    go_enter Tryz.func35, Tryz.ntmps35
    go_wp2_with fail
    try rw [hW2]
    try rw [hX]
    refine wp_region_below (fun | 0 => .pointer (some ⟨X + 1, 2, none⟩) | 1 => .pointer (some ⟨X + 1, 2, none⟩) | 2 => .iface t1 v1 | 3 => .agg #[.int .u8 wh, .int .i64 (s : Int), .iface t1 v1, .iface t2 v2] | 4 => rect R C | 5 => rect oR oC | 6 => .iface t3 v3 | 7 => .pointer (some ⟨X + 1, 2, none⟩) | 8 => .pointer (some ⟨X + 1, 3, none⟩) | 9 => .iface t2 v2 | 10 => .agg #[.int .u8 wh, .int .i64 (s : Int), .iface t1 v1, .iface t2 v2] | 11 => rect R C | 12 => rect iR iC | 13 => .iface t4 v4 | 14 => .iface t3 v3 | 15 => .iface t4 v4 | _ => undef) (by kernel_rfl) (by kernel_rfl) rfl ?con8 ?en8
    case con8 =>
      intro i o ho a wx hb hf
      match i, ho with
      | 0, ho =>
        obtain rfl := Option.some.inj ho
        have b8 : a.tmps[8]?.getD undef = .pointer (some ⟨X + 1, 0, none⟩) := hf.2 8 (by kernel_rfl)
        exact wp_value (.pointer (some ⟨X + 1, 2, none⟩)) (by unfold execOp; go_simp) ⟨rfl, Below.refl _ _⟩
      | 1, ho =>
        obtain rfl := Option.some.inj ho
        have e26 : a.tmps[26]?.getD undef = .pointer (some ⟨X + 1, 2, none⟩) := hf.1 ⟨0, .data⟩ (by simp) rfl _ 26 rfl rfl
        exact wp_value (.pointer (some ⟨X + 1, 2, none⟩)) (by unfold execOp; go_simp) ⟨rfl, Below.refl _ _⟩
      | 2, ho =>
        obtain rfl := Option.some.inj ho
        have e27 : a.tmps[27]?.getD undef = .pointer (some ⟨X + 1, 2, none⟩) := hf.1 ⟨1, .data⟩ (by simp) rfl _ 27 rfl rfl
        obtain ⟨c0, c1, c2, c3⟩ := cells4 (HSX.out _ hb)
        exact wp_value (.iface t1 v1) (by unfold execOp; go_simp) ⟨rfl, Below.refl _ _⟩
      | 3, ho =>
        obtain rfl := Option.some.inj ho
        have b8 : a.tmps[8]?.getD undef = .pointer (some ⟨X + 1, 0, none⟩) := hf.2 8 (by kernel_rfl)
        exact wp_load_row 72 (.tmp 8) rfl (X + 1) (eval_get b8) 72 _ (0, 0) _ (HSX.out _ hb) Tryz.underlying72 rfl (info_say _ _ _ _ _ _) ⟨rfl, Below.refl _ _⟩
      | 4, ho =>
        obtain rfl := Option.some.inj ho
        have b3 : a.tmps[3]?.getD undef = .pointer (some ⟨X, 0, none⟩) := hf.2 3 (by kernel_rfl)
        exact wp_load_row 51 (.tmp 3) rfl X (eval_get b3) 51 _ (0, 0) _ (HRX.out _ hb) Tryz.underlying51 rfl (info_rect _ _) ⟨rfl, Below.refl _ _⟩
      | 5, ho =>
        obtain rfl := Option.some.inj ho
        have e29 : a.tmps[29]?.getD undef = .agg #[.int .u8 wh, .int .i64 (s : Int), .iface t1 v1, .iface t2 v2] := hf.1 ⟨3, .data⟩ (by simp) rfl _ 29 rfl rfl
        have e30 : a.tmps[30]?.getD undef = rect R C := hf.1 ⟨4, .data⟩ (by simp) rfl _ 30 rfl rfl
        exact wp_enter 63 #[.agg #[.int .u8 wh, .int .i64 (s : Int), .iface t1 v1, .iface t2 v2], rect R C, .int .i64 0] (rect oR oC) _ (by unfold execOp; go_simp) (HPo.out wx) (fun w' h => ⟨rfl, h⟩)
      | 6, ho =>
        obtain rfl := Option.some.inj ho
        have e28 : a.tmps[28]?.getD undef = .iface t1 v1 := hf.1 ⟨2, .data⟩ (by simp) rfl _ 28 rfl rfl
        have e31 : a.tmps[31]?.getD undef = rect oR oC := hf.1 ⟨5, .data⟩ (by simp) rfl _ 31 rfl rfl
        exact wp_enter 35 #[.iface t1 v1, rect oR oC] (.iface t3 v3) _ (by unfold execOp; go_simp) (HZ.out wx) (fun w' h => ⟨rfl, h⟩)
      | 7, ho =>
        obtain rfl := Option.some.inj ho
        have b8 : a.tmps[8]?.getD undef = .pointer (some ⟨X + 1, 0, none⟩) := hf.2 8 (by kernel_rfl)
        exact wp_value (.pointer (some ⟨X + 1, 2, none⟩)) (by unfold execOp; go_simp) ⟨rfl, Below.refl _ _⟩
      | 8, ho =>
        obtain rfl := Option.some.inj ho
        have e33 : a.tmps[33]?.getD undef = .pointer (some ⟨X + 1, 2, none⟩) := hf.1 ⟨7, .data⟩ (by simp) rfl _ 33 rfl rfl
        exact wp_value (.pointer (some ⟨X + 1, 3, none⟩)) (by unfold execOp; go_simp) ⟨rfl, Below.refl _ _⟩
      | 9, ho =>
        obtain rfl := Option.some.inj ho
        have e34 : a.tmps[34]?.getD undef = .pointer (some ⟨X + 1, 3, none⟩) := hf.1 ⟨8, .data⟩ (by simp) rfl _ 34 rfl rfl
        obtain ⟨c0, c1, c2, c3⟩ := cells4 (HSX.out _ hb)
        exact wp_value (.iface t2 v2) (by unfold execOp; go_simp) ⟨rfl, Below.refl _ _⟩
      | 10, ho =>
        obtain rfl := Option.some.inj ho
        have b8 : a.tmps[8]?.getD undef = .pointer (some ⟨X + 1, 0, none⟩) := hf.2 8 (by kernel_rfl)
        exact wp_load_row 72 (.tmp 8) rfl (X + 1) (eval_get b8) 72 _ (0, 0) _ (HSX.out _ hb) Tryz.underlying72 rfl (info_say _ _ _ _ _ _) ⟨rfl, Below.refl _ _⟩
      | 11, ho =>
        obtain rfl := Option.some.inj ho
        have b3 : a.tmps[3]?.getD undef = .pointer (some ⟨X, 0, none⟩) := hf.2 3 (by kernel_rfl)
        exact wp_load_row 51 (.tmp 3) rfl X (eval_get b3) 51 _ (0, 0) _ (HRX.out _ hb) Tryz.underlying51 rfl (info_rect _ _) ⟨rfl, Below.refl _ _⟩
      | 12, ho =>
        obtain rfl := Option.some.inj ho
        have e36 : a.tmps[36]?.getD undef = .agg #[.int .u8 wh, .int .i64 (s : Int), .iface t1 v1, .iface t2 v2] := hf.1 ⟨10, .data⟩ (by simp) rfl _ 36 rfl rfl
        have e37 : a.tmps[37]?.getD undef = rect R C := hf.1 ⟨11, .data⟩ (by simp) rfl _ 37 rfl rfl
        exact wp_enter 63 #[.agg #[.int .u8 wh, .int .i64 (s : Int), .iface t1 v1, .iface t2 v2], rect R C, .int .i64 1] (rect iR iC) _ (by unfold execOp; go_simp) (HPi.out wx) (fun w' h => ⟨rfl, h⟩)
      | 13, ho =>
        obtain rfl := Option.some.inj ho
        have e35 : a.tmps[35]?.getD undef = .iface t2 v2 := hf.1 ⟨9, .data⟩ (by simp) rfl _ 35 rfl rfl
        have e38 : a.tmps[38]?.getD undef = rect iR iC := hf.1 ⟨12, .data⟩ (by simp) rfl _ 38 rfl rfl
        exact wp_enter 35 #[.iface t2 v2, rect iR iC] (.iface t4 v4) _ (by unfold execOp; go_simp) (HO.out wx) (fun w' h => ⟨rfl, h⟩)
      | 14, ho =>
        obtain rfl := Option.some.inj ho
        have e32 : a.tmps[32]?.getD undef = .iface t3 v3 := hf.1 ⟨6, .data⟩ (by simp) rfl _ 32 rfl rfl
        exact wp_value (.iface t3 v3) (by unfold execOp; go_simp) ⟨rfl, Below.refl _ _⟩
      | 15, ho =>
        obtain rfl := Option.some.inj ho
        have e39 : a.tmps[39]?.getD undef = .iface t4 v4 := hf.1 ⟨13, .data⟩ (by simp) rfl _ 39 rfl rfl
        exact wp_value (.iface t4 v4) (by unfold execOp; go_simp) ⟨rfl, Below.refl _ _⟩
      | q + 16, ho => simp at ho
    case en8 =>
      intro w3 hb3
      have HB3 : Hid (Below w.heap.size w w3) := HBW.out.trans (hb3.mono HBW.out.size)
      obtain ⟨d0, d1, d2, d3⟩ := cells4 (HSX.out w3 hb3)
      clear hb3
      simp only [fill, Act.put]
      go_simp
      go_wp2_with fail
      refine (HSO.out _).mono ?_
      rintro e w4 ⟨rfl, rfl⟩
      go_wp2_with fail
      go_ret
      exact ⟨rfl, by first | exact HB3.out | (have h := HB3.out; rw [hX] at h; exact h)⟩

theorem ones_zero {R : Nat} (h : R < 256) : someB (R : Int) (R : Int) = decide (R ≠ 0) := by
  unfold someB
  by_cases h0 : R = 0
  · subst h0; rfl
  · rw [decide_eq_true (by omega), decide_eq_true h0]; rfl
theorem some_both {R C : Nat} (hR : R < 256) (hC : C < 256) : someB (R : Int) (C : Int) = (decide (R ≠ 0) && decide (C ≠ 0)) := by
  unfold someB
  have e : ∀ {n : Nat}, n < 256 → decide (1 ≤ (n : Int) ∧ (n : Int) ≤ 255) = decide (n ≠ 0) := fun {n} h => by
    by_cases h0 : n = 0
    · subst h0; rfl
    · rw [decide_eq_true (by omega), decide_eq_true h0]
  rw [e hR, e hC]
/-- what both GameFormula answer: whether there is a formula -/
def gfOk (t : T) (s : ByteArray) : Bool := Wid.tabV s && (decide (onesN s ≠ 0) && decide (zerosN s ≠ 0)) && playB t (onesN s) (zerosN s)
def gfV (t : T) (s : ByteArray) : Value := if gfOk t s then .tuple #[.string (str (Fm.text (frmS t (onesN s) (zerosN s)))), .bool true] else .tuple #[.string (str []), .bool false]
end Go.Proofs.YtbccachkkflceaaGreatDoor.GfI

/-
  The walk of the law on GameFormula.
-/
namespace Go.Proofs.YtbccachkkflceaaGreatDoor.fnExactGameFormula
open Go.RowKit Go.Shelf Go.Proofs.YtbccachkkflceaaGreatDoor.Plain Go.Proofs.YtbccachkkflceaaGreatDoor.Base Go.Proofs.YtbccachkkflceaaGreatDoor.Pat Go.Proofs.YtbccachkkflceaaGreatDoor.Tree Go.Proofs.YtbccachkkflceaaGreatDoor.Read Go.Proofs.YtbccachkkflceaaGreatDoor.TreeOf Go.Proofs.YtbccachkkflceaaGreatDoor.TrimT Go.Proofs.YtbccachkkflceaaGreatDoor.PlM Go.Proofs.YtbccachkkflceaaGreatDoor.PlN Go.Proofs.YtbccachkkflceaaGreatDoor.PlS Go.Proofs.YtbccachkkflceaaGreatDoor.PlI Go.Proofs.YtbccachkkflceaaGreatDoor.GfM Go.Proofs.YtbccachkkflceaaGreatDoor.GfI Go.Proofs.YtbccachkkflceaaGreatDoor.GfS Go.Proofs.YtbccachkkflceaaGreatDoor.Wid Go.Proofs.YtbccachkkflceaaGreatDoor.Rect Go.Proofs.YtbccachkkflceaaGreatDoor.FreeL
open Go.Proofs.YtbccachkkflceaaGreatDoor.TrimI (TrimC trim_to)
open Go.Proofs.YtbccachkkflceaaGreatDoor.FmText (text_of)
open Go.Proofs.YtbccachkkflceaaGreatDoor.Free (fill wp_value wp_enter wp_load_row freeB)
set_option linter.unusedVariables false
set_option linter.unusedSimpArgs false

def noneV : Value := .tuple #[.string (str []), .bool false]
/-- the formula's text is short -/
theorem short (t : T) (s : ByteArray) (h8 : s.size ≤ 8) (h1 : onesN s ≠ 0) (h2 : zerosN s ≠ 0) : (Fm.text (frmS t (onesN s) (zerosN s))).length ≤ 200 := by
  have e1 := Fm.text_size (frmS t (onesN s) (zerosN s))
  have k1 := frm_size t (onesN s) (zerosN s) (ones_lt s h8) (zeros_lt s h8) h1 h2
  have k2 : cnt (onesN s) + cnt (zerosN s) ≤ 8 := cnt_both (onB s) s.size h8
  have k3 : cnt (onesN s) * cnt (zerosN s) ≤ 8 * 8 := Nat.mul_le_mul (by omega) (by omega)
  omega
theorem pos_iff (n : Nat) : (1 ≤ n) = (n ≠ 0) := by simp [Nat.one_le_iff_ne_zero]

set_option maxHeartbeats 4000000 in
set_option maxRecDepth 100000 in
theorem spec_yes (p : ByteArray) (t : T) (hw : wf t) (h : p.data.toList = text t) (hp : p.size ≤ 2000) (s : ByteArray) (hs : s.size ≤ 1048576) (w : World) :
    Calls Tryz.prog 17 #[.string p, .string s] w fun e w' => e = .returned (gfV t s) ∧ Below w.heap.size w w' := by
  have HVS := Lib.hid (valid_said p t hw h hp)
  have HBO := Lib.hid (both_w s hs)
  have HSD := Lib.hid (fun W => sides_any s hs W)
  have htab := tab_size s
  have hl : (text t).length ≤ 2000 := by rw [← h]; simpa using hp
  have hpe : p = str (text t) := eq_str h
  have hgv : gfV t s = if (bothB s && playB t (onesN s) (zerosN s)) = true then .tuple #[.string (str (Fm.text (frmS t (onesN s) (zerosN s)))), .bool true] else .tuple #[.string (str []), .bool false] := by unfold gfV gfOk bothB; rfl
  rw [hgv]
  cases hbo : bothB s
  · rw [hbo] at HBO
    simp only [Bool.false_and, Bool.false_eq_true, if_false]
    clear h hpe htab hbo hw hl hgv HSD
    go_enter Tryz.func17, Tryz.ntmps17
    go_wp2_with fail
    refine (HVS.out _).mono ?_
    rintro e w1 ⟨rfl, rfl⟩
    go_wp2_with fail
    refine (HBO.out _).mono ?_
    rintro e w2 ⟨rfl, hb⟩
    have HB := Lib.hid hb
    clear hb
    go_wp2_with fail
    go_returns
    exact ⟨rfl, HB.out⟩
  have hbb : tabV s = true ∧ onesN s ≠ 0 ∧ zerosN s ≠ 0 := by
    unfold bothB at hbo
    rw [Bool.and_eq_true, Bool.and_eq_true, decide_eq_true_iff, decide_eq_true_iff] at hbo
    exact hbo
  obtain ⟨g0, g00, g01⟩ := hbb
  obtain ⟨b, g1, g2, g3, g4, g5, g6⟩ := htab g0
  have HSP := Lib.hid (spec_plays t hw hl s b g3 g6 g4 g5 g2)
  rw [← plays_same t s b g3 g6, ← hpe] at HSP
  have hfo := fun W => form_said t hw hl (onesN s) (zerosN s) (ones_lt s g6) (zeros_lt s g6) g00 g01 W
  rw [← hpe] at hfo
  have HFO := Lib.hid hfo
  have hsh := short t s g6 g00 g01
  have HSX : Hid (∀ x y : Int, (s.size ≤ 8 → x = (onesN s : Int) ∧ y = (zerosN s : Int)) → x = (onesN s : Int) ∧ y = (zerosN s : Int)) := fun x y h => h g6
  have hsz2 : (str (Fm.text (frmS t (onesN s) (zerosN s)))).size ≤ 200 := by rw [str_size]; exact hsh
  rw [hbo] at HBO
  simp only [Bool.true_and]
  generalize str (Fm.text (frmS t (onesN s) (zerosN s))) = q at *
  generalize playB t (onesN s) (zerosN s) = pl at *
  generalize onesN s = on at *
  generalize zerosN s = ze at *
  clear h hpe htab hbo hw hl hgv g0 g00 g01 g1 g2 g3 g4 g5 hfo hsh
  cases pl
  · simp only [Bool.false_eq_true, if_false]
    clear HSD HFO HSX
    go_enter Tryz.func17, Tryz.ntmps17
    go_wp2_with fail
    refine (HVS.out _).mono ?_
    rintro e w1 ⟨rfl, rfl⟩
    go_wp2_with fail
    refine (HBO.out _).mono ?_
    rintro e w2 ⟨rfl, hb⟩
    have HB := Lib.hid hb
    clear hb
    go_wp2_with fail
    refine (HSP.out _).mono ?_
    rintro e w3 ⟨rfl, hb⟩
    have HB3 := Lib.hid (HB.out.trans (hb.mono HB.out.size))
    clear hb
    go_wp2_with fail
    go_returns
    exact ⟨rfl, HB3.out⟩
  · simp only [if_true]
    have hq : ¬ (200 : Int) < (q.size : Int) := by omega
    go_enter Tryz.func17, Tryz.ntmps17
    go_wp2_with fail
    refine (HVS.out _).mono ?_
    rintro e w1 ⟨rfl, rfl⟩
    go_wp2_with fail
    refine (HBO.out _).mono ?_
    rintro e w2 ⟨rfl, hb⟩
    have HB := Lib.hid hb
    clear hb
    go_wp2_with fail
    refine (HSP.out _).mono ?_
    rintro e w3 ⟨rfl, hb⟩
    have HB3 := Lib.hid (HB.out.trans (hb.mono HB.out.size))
    clear hb
    go_wp2_with fail
    refine (HSD.out _).mono ?_
    rintro e w4 ⟨x, y, rfl, hxy, hb⟩
    obtain ⟨rfl, rfl⟩ := HSX.out x y hxy
    have HB4 := Lib.hid (HB3.out.trans (hb.mono HB3.out.size))
    clear hb hxy
    go_wp2_with fail
    refine (HFO.out _).mono ?_
    rintro e w5 ⟨rfl, hb⟩
    have HB5 := Lib.hid (HB4.out.trans (hb.mono HB4.out.size))
    clear hb
    go_wp2_with fail
    go_returns
    exact ⟨rfl, HB5.out⟩
set_option maxHeartbeats 1000000 in
theorem spec_no (p : ByteArray) (h : ¬ Ok p) (hp : p.size ≤ 1048576) (s : ByteArray) (w : World) :
    Calls Tryz.prog 17 #[.string p, .string s] w fun e w' => e = .returned noneV ∧ Below w.heap.size w w' := by
  have HVS := Lib.hid (valid_no p h hp)
  clear h
  go_enter Tryz.func17, Tryz.ntmps17
  go_wp2_with fail
  refine (HVS.out _).mono ?_
  rintro e w1 ⟨rfl, rfl⟩
  go_wp2_with fail
  go_returns
  exact ⟨rfl, Below.refl _ _⟩

set_option maxHeartbeats 1000000 in
theorem impl_no (p : ByteArray) (h : ¬ Ok p) (hp : p.size ≤ 1048576) (s : ByteArray) (hs : s.size ≤ 1048576) (w : World) :
    Calls Tryz.prog 16 #[.string p, .string s] w fun e w' => e = .returned noneV ∧ Below w.heap.size w w' := by
  have HTR := Lib.hid (tree_no p h hp)
  have hnum := fun W => numbers s (by unfold maxLen; omega) W
  obtain ⟨on, ze, hnv⟩ : ∃ on ze : Nat, numV s = rect on ze := by
    unfold numV
    cases tabV s
    · exact ⟨0, 0, rfl⟩
    · exact ⟨_, _, rfl⟩
  rw [hnv] at hnum
  have HNU := Lib.hid hnum
  clear h hnum hnv
  go_enter Tryz.func16, Tryz.ntmps16
  go_wp2_with fail
  refine (HTR.out _).mono ?_
  rintro e w1 ⟨rfl, hb1⟩
  have HB1 := Lib.hid hb1
  clear hb1
  go_wp2_with fail
  refine (HNU.out _).mono ?_
  rintro e w2 ⟨rfl, hb2⟩
  have HB2 := Lib.hid (HB1.out.trans (hb2.mono HB1.out.size))
  have HB3 := Lib.hid (HB2.out.alloc HB2.out.size (.cells #[.int .i64 (on : Int), .int .i64 (ze : Int)] 51))
  clear hb2
  go_wp2_with fail
  go_returns
  exact ⟨rfl, HB3.out⟩

set_option maxHeartbeats 8000000 in
set_option maxRecDepth 100000 in
theorem impl_yes (p : ByteArray) (t : T) (hw : wf t) (h : p.data.toList = text t) (hp : p.size ≤ 2000) (s : ByteArray) (hs : s.size ≤ 1048576) (w : World) :
    Calls Tryz.prog 16 #[.string p, .string s] w fun e w' => e = .returned (gfV t s) ∧ Below w.heap.size w w' := by
  have HTR := Lib.hid (tree_yes p t hw h hp)
  have hnum := fun W => numbers s (by unfold maxLen; omega) W
  have htab := tab_size s
  have hl : (text t).length ≤ 2000 := by rw [← h]; simpa using hp
  obtain ⟨on, ze, hnv, hon, hze, hval⟩ : ∃ on ze : Nat, numV s = rect on ze ∧ on < 256 ∧ ze < 256 ∧ gfV t s = if ((decide (on ≠ 0) && decide (ze ≠ 0)) && playB t on ze) = true then .tuple #[.string (str (Fm.text (frmS t on ze))), .bool true] else .tuple #[.string (str []), .bool false] := by
    unfold numV gfV gfOk
    cases htv : tabV s
    · exact ⟨0, 0, rfl, by omega, by omega, by simp⟩
    · obtain ⟨b, _, _, _, _, _, g6⟩ := htab htv
      exact ⟨_, _, rfl, ones_lt s g6, zeros_lt s g6, by simp only [Bool.true_and]⟩
  rw [hnv] at hnum
  rw [hval]
  have HNU := Lib.hid hnum
  have HIS := Lib.hid (fun W => rect_any (on : Int) (ze : Int) W)
  have hsb := some_both hon hze
  rw [hsb] at HIS
  have HPL := Lib.hid (plays_w t hl on ze hon hze)
  have HSM : Hid (on ≠ 0 → ze ≠ 0 → playB t on ze = true → frmI (trimT t on ze) on ze = frmS t on ze) := fun a1 a2 a3 => frm_same t on ze hon hze a1 a2 a3
  have hFF := fun W => formula_from (trimT t on ze) on ze hon hze W
  have hTR := trim_to t
  have hsz : on ≠ 0 → ze ≠ 0 → (Fm.text (frmS t on ze)).length ≤ 1000 := fun a1 a2 => by
    have e1 := Fm.text_size (frmS t on ze)
    have k1 := frm_size t on ze hon hze a1 a2
    have m : ∀ n, cnt n ≤ 8 := fun n => by unfold cnt; exact Nat.le_trans (List.countP_le_length) (by simp)
    have q1 : cnt on * cnt ze ≤ 8 * 8 := Nat.mul_le_mul (m _) (m _)
    omega
  have hFT := fun (g : Fm.F) (hg : Fm.wf 3 g) (hlg : (Fm.text g).length ≤ 8000000) W => text_of g hg hlg W
  obtain ⟨ty, v, ev⟩ := tree_iface t
  clear hnum hval hnv htab hsb h hw
  cases hg : (decide (on ≠ 0) && decide (ze ≠ 0))
  · rw [hg] at HIS
    simp only [Bool.false_and, Bool.false_eq_true, if_false]
    rw [ev] at HTR
    clear hg ev hTR hFF HPL HSM hsz hFT
    go_enter Tryz.func16, Tryz.ntmps16
    go_wp2_with fail
    refine (HTR.out _).mono ?_
    rintro e w1 ⟨rfl, hb1⟩
    have HB1 := Lib.hid hb1
    clear hb1
    go_wp2_with fail
    refine (HNU.out _).mono ?_
    rintro e w2 ⟨rfl, hb2⟩
    have HB2 := Lib.hid (HB1.out.trans (hb2.mono HB1.out.size))
    have HB3 := Lib.hid (HB2.out.alloc HB2.out.size (.cells #[.int .i64 (on : Int), .int .i64 (ze : Int)] 51))
    clear hb2
    go_wp2_with fail
    refine (HIS.out _).mono ?_
    rintro e w3 ⟨rfl, hb3⟩
    have HB4 := Lib.hid (HB3.out.trans (hb3.mono HB3.out.size))
    clear hb3
    go_wp2_with fail
    go_returns
    exact ⟨rfl, HB4.out⟩
  rw [hg] at HIS
  obtain ⟨a1, a2⟩ : on ≠ 0 ∧ ze ≠ 0 := by rw [Bool.and_eq_true, decide_eq_true_iff, decide_eq_true_iff] at hg; exact hg
  simp only [Bool.true_and]
  cases hpl : playB t on ze
  · rw [hpl] at HPL
    simp only [Bool.false_eq_true, if_false]
    rw [ev] at HTR HPL
    clear hg ev hTR hFF HSM hsz hpl a1 a2 hFT
    go_enter Tryz.func16, Tryz.ntmps16
    go_wp2_with fail
    refine (HTR.out _).mono ?_
    rintro e w1 ⟨rfl, hb1⟩
    have HB1 := Lib.hid hb1
    clear hb1
    go_wp2_with fail
    refine (HNU.out _).mono ?_
    rintro e w2 ⟨rfl, hb2⟩
    have HB2 := Lib.hid (HB1.out.trans (hb2.mono HB1.out.size))
    have HB3 := Lib.hid (HB2.out.alloc HB2.out.size (.cells #[.int .i64 (on : Int), .int .i64 (ze : Int)] 51))
    have hrow := heap_alloc_new w2 (.cells #[.int .i64 (on : Int), .int .i64 (ze : Int)] 51)
    have HR3 := Lib.hid hrow
    clear hb2 hrow
    go_wp2_with fail
    refine (HIS.out _).mono ?_
    rintro e w3 ⟨rfl, hb3⟩
    have HB4 := Lib.hid (HB3.out.trans (hb3.mono HB3.out.size))
    have HR4 : Hid (w3.heap[w2.heap.size]? = some (.cells #[.int .i64 (on : Int), .int .i64 (ze : Int)] 51 (0, 0))) := (hb3.block _ (by simp)).trans HR3.out
    obtain ⟨c0, c1, _, _⟩ := cells2 HR4.out
    clear hb3
    go_wp2_with fail
    refine (HPL.out _).mono ?_
    rintro e w4 ⟨rfl, hb4⟩
    have HB5 := Lib.hid (HB4.out.trans (hb4.mono HB4.out.size))
    clear hb4
    go_wp2_with fail
    go_returns
    exact ⟨rfl, HB5.out⟩
  rw [hpl] at HPL
  simp only [if_true]
  rw [HSM.out a1 a2 hpl] at hFF
  have hFT2 := hFT (frmS t on ze) (frmS_wf t on ze) (by have := hsz a1 a2; omega)
  obtain ⟨t3, v3, e3⟩ := FmRead.tree_iface (frmS t on ze)
  obtain ⟨t4, v4, e4⟩ := tree_iface (trimT t on ze)
  rw [e3] at hFF hFT2
  rw [e4] at hFF
  unfold TrimC Go.Proofs.YtbccachkkflceaaGreatDoor.Count.Node at hTR
  have hTR2 : (∃ V, tree t = .iface 65 V ∧ ∀ W : World, Calls Tryz.prog 140 #[V, rect on ze] W fun e w' => e = .returned (.iface t4 v4) ∧ Below W.heap.size W w') ∨ (∃ V, tree t = .iface 72 V ∧ ∀ W : World, Calls Tryz.prog 153 #[V, rect on ze] W fun e w' => e = .returned (.iface t4 v4) ∧ Below W.heap.size W w') := by
    rcases hTR with ⟨V, q, k⟩ | ⟨V, q, k⟩
    · exact .inl ⟨V, q, fun W => by have := k on ze W hon hze (by omega) (by omega); rw [e4] at this; exact this⟩
    · exact .inr ⟨V, q, fun W => by have := k on ze W hon hze (by omega) (by omega); rw [e4] at this; exact this⟩
  generalize str (Fm.text (frmS t on ze)) = q at *
  have HFF := Lib.hid hFF
  have HFT := Lib.hid hFT2
  clear hTR hFF hFT2 hFT hsz hpl a1 a2 hg e3 e4 HSM ev hon hze hl
  rcases hTR2 with ⟨V, ev, hT⟩ | ⟨V, ev, hT⟩
  · rw [ev] at HTR HPL
    have HTM := Lib.hid hT
    clear ev hT
    go_enter Tryz.func16, Tryz.ntmps16
    go_wp2_with fail
    refine (HTR.out _).mono ?_
    rintro e w1 ⟨rfl, hb1⟩
    have HB1 := Lib.hid hb1
    clear hb1
    go_wp2_with fail
    refine (HNU.out _).mono ?_
    rintro e w2 ⟨rfl, hb2⟩
    have HB2 := Lib.hid (HB1.out.trans (hb2.mono HB1.out.size))
    have HB3 := Lib.hid (HB2.out.alloc HB2.out.size (.cells #[.int .i64 (on : Int), .int .i64 (ze : Int)] 51))
    have hrow := heap_alloc_new w2 (.cells #[.int .i64 (on : Int), .int .i64 (ze : Int)] 51)
    have HR3 := Lib.hid hrow
    clear hb2 hrow
    go_wp2_with fail
    refine (HIS.out _).mono ?_
    rintro e w3 ⟨rfl, hb3⟩
    have HB4 := Lib.hid (HB3.out.trans (hb3.mono HB3.out.size))
    have HR4 : Hid (w3.heap[w2.heap.size]? = some (.cells #[.int .i64 (on : Int), .int .i64 (ze : Int)] 51 (0, 0))) := (hb3.block _ (by simp)).trans HR3.out
    obtain ⟨c0, c1, _, _⟩ := cells2 HR4.out
    clear hb3
    go_wp2_with fail
    refine (HPL.out _).mono ?_
    rintro e w4 ⟨rfl, hb4⟩
    have HB5 := Lib.hid (HB4.out.trans (hb4.mono HB4.out.size))
    obtain ⟨X, hX⟩ : ∃ X, w2.heap.size = X := ⟨_, rfl⟩
    have hr4 := HR4.out
    rw [hX] at hr4
    have hr5 : w4.heap[X]? = some (.cells #[.int .i64 (on : Int), .int .i64 (ze : Int)] 51 (0, 0)) := (hb4.block _ (Array.getElem?_eq_some_iff.1 hr4).1).trans hr4
    have HXR : Hid (∀ wx : World, Below w4.heap.size w4 wx → wx.heap[X]? = some (.cells #[.int .i64 (on : Int), .int .i64 (ze : Int)] 51 (0, 0))) := fun wx h => (h.block _ (Array.getElem?_eq_some_iff.1 hr5).1).trans hr5
    clear hb4 c0 c1 hr4 hr5 HR4 HR3
    go_wp2_with fail
    try rw [hX]
    refine wp_region_below (fun | 0 => .iface 65 V | 1 => rect on ze | 2 => .iface t4 v4 | 3 => rect on ze | 4 => .iface t3 v3 | 5 => .string q | 6 => .string q | 7 => .bool true | _ => undef) (by kernel_rfl) (by kernel_rfl) rfl ?conRA ?enRA
    case conRA =>
      intro i o ho a wx hb hf
      match i, ho with
      | 0, ho =>
        obtain rfl := Option.some.inj ho
        have b6 : a.tmps[6]?.getD undef = .iface 65 V := hf.2 6 (by kernel_rfl)
        exact wp_value (.iface 65 V) (by unfold execOp; go_simp) ⟨rfl, Below.refl _ _⟩
      | 1, ho =>
        obtain rfl := Option.some.inj ho
        have b7 : a.tmps[7]?.getD undef = .pointer (some ⟨X, 0, none⟩) := hf.2 7 (by kernel_rfl)
        exact wp_load_row 51 (.tmp 7) rfl X (GfS.eval_get b7) 51 _ (0, 0) _ (HXR.out _ hb) Tryz.underlying51 rfl (info_rect _ _) ⟨rfl, Below.refl _ _⟩
      | 2, ho =>
        obtain rfl := Option.some.inj ho
        have e25 : a.tmps[25]?.getD undef = .iface 65 V := hf.1 ⟨0, .data⟩ (by simp) rfl _ 25 rfl rfl
        have e26 : a.tmps[26]?.getD undef = rect on ze := hf.1 ⟨1, .data⟩ (by simp) rfl _ 26 rfl rfl
        exact wp_enter 140 #[V, rect on ze] (.iface t4 v4) _ (by unfold execOp; go_simp; go_invoke; rfl) (HTM.out wx) (fun w' h => ⟨rfl, h⟩)
      | 3, ho =>
        obtain rfl := Option.some.inj ho
        have b7 : a.tmps[7]?.getD undef = .pointer (some ⟨X, 0, none⟩) := hf.2 7 (by kernel_rfl)
        exact wp_load_row 51 (.tmp 7) rfl X (GfS.eval_get b7) 51 _ (0, 0) _ (HXR.out _ hb) Tryz.underlying51 rfl (info_rect _ _) ⟨rfl, Below.refl _ _⟩
      | 4, ho =>
        obtain rfl := Option.some.inj ho
        have e27 : a.tmps[27]?.getD undef = .iface t4 v4 := hf.1 ⟨2, .data⟩ (by simp) rfl _ 27 rfl rfl
        have e28 : a.tmps[28]?.getD undef = rect on ze := hf.1 ⟨3, .data⟩ (by simp) rfl _ 28 rfl rfl
        exact wp_enter 35 #[.iface t4 v4, rect on ze] (.iface t3 v3) _ (by unfold execOp; go_simp) (HFF.out wx) (fun w' h => ⟨rfl, h⟩)
      | 5, ho =>
        obtain rfl := Option.some.inj ho
        have e29 : a.tmps[29]?.getD undef = .iface t3 v3 := hf.1 ⟨4, .data⟩ (by simp) rfl _ 29 rfl rfl
        exact wp_enter 27 #[.iface t3 v3] (.string q) _ (by unfold execOp; go_simp) (HFT.out wx) (fun w' h => ⟨rfl, h⟩)
      | 6, ho =>
        obtain rfl := Option.some.inj ho
        have e30 : a.tmps[30]?.getD undef = .string q := hf.1 ⟨5, .data⟩ (by simp) rfl _ 30 rfl rfl
        exact wp_value (.string q) (by unfold execOp; go_simp) ⟨rfl, Below.refl _ _⟩
      | 7, ho =>
        obtain rfl := Option.some.inj ho
        exact wp_value (.bool true) (by unfold execOp; go_simp) ⟨rfl, Below.refl _ _⟩
      | q + 8, ho => simp at ho
    case enRA =>
      intro w5 hb5
      have HB6 : Hid (Below w.heap.size w w5) := HB5.out.trans (hb5.mono HB5.out.size)
      clear hb5
      simp only [fill, Act.put]
      go_simp
      go_wp2_with fail
      go_returns
      exact ⟨rfl, HB6.out⟩
  · rw [ev] at HTR HPL
    have HTM := Lib.hid hT
    clear ev hT
    go_enter Tryz.func16, Tryz.ntmps16
    go_wp2_with fail
    refine (HTR.out _).mono ?_
    rintro e w1 ⟨rfl, hb1⟩
    have HB1 := Lib.hid hb1
    clear hb1
    go_wp2_with fail
    refine (HNU.out _).mono ?_
    rintro e w2 ⟨rfl, hb2⟩
    have HB2 := Lib.hid (HB1.out.trans (hb2.mono HB1.out.size))
    have HB3 := Lib.hid (HB2.out.alloc HB2.out.size (.cells #[.int .i64 (on : Int), .int .i64 (ze : Int)] 51))
    have hrow := heap_alloc_new w2 (.cells #[.int .i64 (on : Int), .int .i64 (ze : Int)] 51)
    have HR3 := Lib.hid hrow
    clear hb2 hrow
    go_wp2_with fail
    refine (HIS.out _).mono ?_
    rintro e w3 ⟨rfl, hb3⟩
    have HB4 := Lib.hid (HB3.out.trans (hb3.mono HB3.out.size))
    have HR4 : Hid (w3.heap[w2.heap.size]? = some (.cells #[.int .i64 (on : Int), .int .i64 (ze : Int)] 51 (0, 0))) := (hb3.block _ (by simp)).trans HR3.out
    obtain ⟨c0, c1, _, _⟩ := cells2 HR4.out
    clear hb3
    go_wp2_with fail
    refine (HPL.out _).mono ?_
    rintro e w4 ⟨rfl, hb4⟩
    have HB5 := Lib.hid (HB4.out.trans (hb4.mono HB4.out.size))
    obtain ⟨X, hX⟩ : ∃ X, w2.heap.size = X := ⟨_, rfl⟩
    have hr4 := HR4.out
    rw [hX] at hr4
    have hr5 : w4.heap[X]? = some (.cells #[.int .i64 (on : Int), .int .i64 (ze : Int)] 51 (0, 0)) := (hb4.block _ (Array.getElem?_eq_some_iff.1 hr4).1).trans hr4
    have HXR : Hid (∀ wx : World, Below w4.heap.size w4 wx → wx.heap[X]? = some (.cells #[.int .i64 (on : Int), .int .i64 (ze : Int)] 51 (0, 0))) := fun wx h => (h.block _ (Array.getElem?_eq_some_iff.1 hr5).1).trans hr5
    clear hb4 c0 c1 hr4 hr5 HR4 HR3
    go_wp2_with fail
    try rw [hX]
    refine wp_region_below (fun | 0 => .iface 72 V | 1 => rect on ze | 2 => .iface t4 v4 | 3 => rect on ze | 4 => .iface t3 v3 | 5 => .string q | 6 => .string q | 7 => .bool true | _ => undef) (by kernel_rfl) (by kernel_rfl) rfl ?conRB ?enRB
    case conRB =>
      intro i o ho a wx hb hf
      match i, ho with
      | 0, ho =>
        obtain rfl := Option.some.inj ho
        have b6 : a.tmps[6]?.getD undef = .iface 72 V := hf.2 6 (by kernel_rfl)
        exact wp_value (.iface 72 V) (by unfold execOp; go_simp) ⟨rfl, Below.refl _ _⟩
      | 1, ho =>
        obtain rfl := Option.some.inj ho
        have b7 : a.tmps[7]?.getD undef = .pointer (some ⟨X, 0, none⟩) := hf.2 7 (by kernel_rfl)
        exact wp_load_row 51 (.tmp 7) rfl X (GfS.eval_get b7) 51 _ (0, 0) _ (HXR.out _ hb) Tryz.underlying51 rfl (info_rect _ _) ⟨rfl, Below.refl _ _⟩
      | 2, ho =>
        obtain rfl := Option.some.inj ho
        have e25 : a.tmps[25]?.getD undef = .iface 72 V := hf.1 ⟨0, .data⟩ (by simp) rfl _ 25 rfl rfl
        have e26 : a.tmps[26]?.getD undef = rect on ze := hf.1 ⟨1, .data⟩ (by simp) rfl _ 26 rfl rfl
        exact wp_enter 153 #[V, rect on ze] (.iface t4 v4) _ (by unfold execOp; go_simp; go_invoke; rfl) (HTM.out wx) (fun w' h => ⟨rfl, h⟩)
      | 3, ho =>
        obtain rfl := Option.some.inj ho
        have b7 : a.tmps[7]?.getD undef = .pointer (some ⟨X, 0, none⟩) := hf.2 7 (by kernel_rfl)
        exact wp_load_row 51 (.tmp 7) rfl X (GfS.eval_get b7) 51 _ (0, 0) _ (HXR.out _ hb) Tryz.underlying51 rfl (info_rect _ _) ⟨rfl, Below.refl _ _⟩
      | 4, ho =>
        obtain rfl := Option.some.inj ho
        have e27 : a.tmps[27]?.getD undef = .iface t4 v4 := hf.1 ⟨2, .data⟩ (by simp) rfl _ 27 rfl rfl
        have e28 : a.tmps[28]?.getD undef = rect on ze := hf.1 ⟨3, .data⟩ (by simp) rfl _ 28 rfl rfl
        exact wp_enter 35 #[.iface t4 v4, rect on ze] (.iface t3 v3) _ (by unfold execOp; go_simp) (HFF.out wx) (fun w' h => ⟨rfl, h⟩)
      | 5, ho =>
        obtain rfl := Option.some.inj ho
        have e29 : a.tmps[29]?.getD undef = .iface t3 v3 := hf.1 ⟨4, .data⟩ (by simp) rfl _ 29 rfl rfl
        exact wp_enter 27 #[.iface t3 v3] (.string q) _ (by unfold execOp; go_simp) (HFT.out wx) (fun w' h => ⟨rfl, h⟩)
      | 6, ho =>
        obtain rfl := Option.some.inj ho
        have e30 : a.tmps[30]?.getD undef = .string q := hf.1 ⟨5, .data⟩ (by simp) rfl _ 30 rfl rfl
        exact wp_value (.string q) (by unfold execOp; go_simp) ⟨rfl, Below.refl _ _⟩
      | 7, ho =>
        obtain rfl := Option.some.inj ho
        exact wp_value (.bool true) (by unfold execOp; go_simp) ⟨rfl, Below.refl _ _⟩
      | q + 8, ho => simp at ho
    case enRB =>
      intro w5 hb5
      have HB6 : Hid (Below w.heap.size w w5) := HB5.out.trans (hb5.mono HB5.out.size)
      clear hb5
      simp only [fill, Act.put]
      go_simp
      go_wp2_with fail
      go_returns
      exact ⟨rfl, HB6.out⟩
theorem both (p : ByteArray) (hp : p.size ≤ 1048576) (s : ByteArray) (hs : s.size ≤ 1048576) : ∃ (q : ByteArray) (b : Bool),
    (∀ w, Calls Tryz.prog 17 #[.string p, .string s] w fun e w' => e = .returned (.tuple #[.string q, .bool b]) ∧ Below w.heap.size w w') ∧
    (∀ w, Calls Tryz.prog 16 #[.string p, .string s] w fun e w' => e = .returned (.tuple #[.string q, .bool b]) ∧ Below w.heap.size w w') := by
  rcases ok_or p with ⟨t, h1, h2, h3⟩ | h
  · have e1 := fun W => spec_yes p t h1 h2 h3 s hs W
    have e2 := fun W => impl_yes p t h1 h2 h3 s hs W
    unfold gfV at e1 e2
    cases hg : gfOk t s
    · rw [hg] at e1 e2
      exact ⟨_, _, e1, e2⟩
    · rw [hg] at e1 e2
      exact ⟨_, _, e1, e2⟩
  · exact ⟨_, _, fun W => spec_no p h hp s W, fun W => impl_no p h hp s hs W⟩

end Go.Proofs.YtbccachkkflceaaGreatDoor.fnExactGameFormula

