/-
  The walk of the law on GameFormula.
-/
import Derived.Test.YtbccachkkflceaaDoorGfS
import Derived.Test.YtbccachkkflceaaDoorGfI
import Derived.Test.YtbccachkkflceaaDoorPlS
namespace Go.Proofs.YtbccachkkflceaaDoor.fnExactGameFormula
open Go.RowKit Go.Shelf Go.Proofs.YtbccachkkflceaaDoor.Plain Go.Proofs.YtbccachkkflceaaDoor.Base Go.Proofs.YtbccachkkflceaaDoor.Pat Go.Proofs.YtbccachkkflceaaDoor.Tree Go.Proofs.YtbccachkkflceaaDoor.Read Go.Proofs.YtbccachkkflceaaDoor.TreeOf Go.Proofs.YtbccachkkflceaaDoor.TrimT Go.Proofs.YtbccachkkflceaaDoor.PlM Go.Proofs.YtbccachkkflceaaDoor.PlN Go.Proofs.YtbccachkkflceaaDoor.PlS Go.Proofs.YtbccachkkflceaaDoor.PlI Go.Proofs.YtbccachkkflceaaDoor.GfM Go.Proofs.YtbccachkkflceaaDoor.GfI Go.Proofs.YtbccachkkflceaaDoor.GfS Go.Proofs.YtbccachkkflceaaDoor.Wid Go.Proofs.YtbccachkkflceaaDoor.Rect Go.Proofs.YtbccachkkflceaaDoor.FreeL
open Go.Proofs.YtbccachkkflceaaDoor.TrimI (TrimC trim_to)
open Go.Proofs.YtbccachkkflceaaDoor.FmText (text_of)
open Go.Proofs.YtbccachkkflceaaDoor.Free (fill wp_value wp_enter wp_load_row freeB)
set_option linter.unusedVariables false
set_option linter.unusedSimpArgs false

def noneV : Value := .tuple #[.string (str []), .bool false]
/-- the formula's text is short -/
theorem short (t : T) (s : ByteArray) (h8 : s.size ≤ 8) (h1 : onesN s ≠ 0) (h2 : zerosN s ≠ 0) : (Fm.text (frmS t (onesN s) (zerosN s))).length ≤ 200 := by
  have e1 := Fm.text_size (frmS t (onesN s) (zerosN s))
  have k1 := frm_size t (onesN s) (zerosN s) (ones_lt s h8) (zeros_lt s h8) h1 h2
  have k2 : cnt (onesN s) + cnt (zerosN s) ≤ 8 := cnt_both (onB s) s.size h8
  have k3 : cnt (onesN s) * cnt (zerosN s) ≤ 8 * 8 := Nat.mul_le_mul (by omega) (by omega)
  omega
theorem pos_iff (n : Nat) : (1 ≤ n) = (n ≠ 0) := by simp [Nat.one_le_iff_ne_zero]

set_option maxHeartbeats 4000000 in
set_option maxRecDepth 100000 in
theorem spec_yes (p : ByteArray) (t : T) (hw : wf t) (h : p.data.toList = text t) (hp : p.size ≤ 2000) (s : ByteArray) (hs : s.size ≤ 1048576) (w : World) :
    Calls Tryd.prog 10 #[.string p, .string s] w fun e w' => e = .returned (gfV t s) ∧ Below w.heap.size w w' := by
  have HVS := Lib.hid (valid_said p t hw h hp)
  have HBO := Lib.hid (both_w s hs)
  have HSD := Lib.hid (fun W => sides_any s hs W)
  have htab := tab_size s
  have hl : (text t).length ≤ 2000 := by rw [← h]; simpa using hp
  have hpe : p = str (text t) := eq_str h
  have hgv : gfV t s = if (bothB s && playB t (onesN s) (zerosN s)) = true then .tuple #[.string (str (Fm.text (frmS t (onesN s) (zerosN s)))), .bool true] else .tuple #[.string (str []), .bool false] := by unfold gfV gfOk bothB; rfl
  rw [hgv]
  cases hbo : bothB s
  · rw [hbo] at HBO
    simp only [Bool.false_and, Bool.false_eq_true, if_false]
    clear h hpe htab hbo hw hl hgv HSD
    go_enter Tryd.func10, Tryd.ntmps10
    go_wp2_with fail
    refine (HVS.out _).mono ?_
    rintro e w1 ⟨rfl, rfl⟩
    go_wp2_with fail
    refine (HBO.out _).mono ?_
    rintro e w2 ⟨rfl, hb⟩
    have HB := Lib.hid hb
    clear hb
    go_wp2_with fail
    go_returns
    exact ⟨rfl, HB.out⟩
  have hbb : tabV s = true ∧ onesN s ≠ 0 ∧ zerosN s ≠ 0 := by
    unfold bothB at hbo
    rw [Bool.and_eq_true, Bool.and_eq_true, decide_eq_true_iff, decide_eq_true_iff] at hbo
    exact hbo
  obtain ⟨g0, g00, g01⟩ := hbb
  obtain ⟨b, g1, g2, g3, g4, g5, g6⟩ := htab g0
  have HSP := Lib.hid (spec_plays t hw hl s b g3 g6 g4 g5 g2)
  rw [← plays_same t s b g3 g6, ← hpe] at HSP
  have hfo := fun W => form_said t hw hl (onesN s) (zerosN s) (ones_lt s g6) (zeros_lt s g6) g00 g01 W
  rw [← hpe] at hfo
  have HFO := Lib.hid hfo
  have hsh := short t s g6 g00 g01
  have HSX : Hid (∀ x y : Int, (s.size ≤ 8 → x = (onesN s : Int) ∧ y = (zerosN s : Int)) → x = (onesN s : Int) ∧ y = (zerosN s : Int)) := fun x y h => h g6
  have hsz2 : (str (Fm.text (frmS t (onesN s) (zerosN s)))).size ≤ 200 := by rw [str_size]; exact hsh
  rw [hbo] at HBO
  simp only [Bool.true_and]
  generalize str (Fm.text (frmS t (onesN s) (zerosN s))) = q at *
  generalize playB t (onesN s) (zerosN s) = pl at *
  generalize onesN s = on at *
  generalize zerosN s = ze at *
  clear h hpe htab hbo hw hl hgv g0 g00 g01 g1 g2 g3 g4 g5 hfo hsh
  cases pl
  · simp only [Bool.false_eq_true, if_false]
    clear HSD HFO HSX
    go_enter Tryd.func10, Tryd.ntmps10
    go_wp2_with fail
    refine (HVS.out _).mono ?_
    rintro e w1 ⟨rfl, rfl⟩
    go_wp2_with fail
    refine (HBO.out _).mono ?_
    rintro e w2 ⟨rfl, hb⟩
    have HB := Lib.hid hb
    clear hb
    go_wp2_with fail
    refine (HSP.out _).mono ?_
    rintro e w3 ⟨rfl, hb⟩
    have HB3 := Lib.hid (HB.out.trans (hb.mono HB.out.size))
    clear hb
    go_wp2_with fail
    go_returns
    exact ⟨rfl, HB3.out⟩
  · simp only [if_true]
    have hq : ¬ (200 : Int) < (q.size : Int) := by omega
    go_enter Tryd.func10, Tryd.ntmps10
    go_wp2_with fail
    refine (HVS.out _).mono ?_
    rintro e w1 ⟨rfl, rfl⟩
    go_wp2_with fail
    refine (HBO.out _).mono ?_
    rintro e w2 ⟨rfl, hb⟩
    have HB := Lib.hid hb
    clear hb
    go_wp2_with fail
    refine (HSP.out _).mono ?_
    rintro e w3 ⟨rfl, hb⟩
    have HB3 := Lib.hid (HB.out.trans (hb.mono HB.out.size))
    clear hb
    go_wp2_with fail
    refine (HSD.out _).mono ?_
    rintro e w4 ⟨x, y, rfl, hxy, hb⟩
    obtain ⟨rfl, rfl⟩ := HSX.out x y hxy
    have HB4 := Lib.hid (HB3.out.trans (hb.mono HB3.out.size))
    clear hb hxy
    go_wp2_with fail
    refine (HFO.out _).mono ?_
    rintro e w5 ⟨rfl, hb⟩
    have HB5 := Lib.hid (HB4.out.trans (hb.mono HB4.out.size))
    clear hb
    go_wp2_with fail
    go_returns
    exact ⟨rfl, HB5.out⟩
set_option maxHeartbeats 1000000 in
theorem spec_no (p : ByteArray) (h : ¬ Ok p) (hp : p.size ≤ 1048576) (s : ByteArray) (w : World) :
    Calls Tryd.prog 10 #[.string p, .string s] w fun e w' => e = .returned noneV ∧ Below w.heap.size w w' := by
  have HVS := Lib.hid (valid_no p h hp)
  clear h
  go_enter Tryd.func10, Tryd.ntmps10
  go_wp2_with fail
  refine (HVS.out _).mono ?_
  rintro e w1 ⟨rfl, rfl⟩
  go_wp2_with fail
  go_returns
  exact ⟨rfl, Below.refl _ _⟩

set_option maxHeartbeats 1000000 in
theorem impl_no (p : ByteArray) (h : ¬ Ok p) (hp : p.size ≤ 1048576) (s : ByteArray) (hs : s.size ≤ 1048576) (w : World) :
    Calls Tryd.prog 11 #[.string p, .string s] w fun e w' => e = .returned noneV ∧ Below w.heap.size w w' := by
  have HTR := Lib.hid (tree_no p h hp)
  have hnum := fun W => numbers s (by unfold maxLen; omega) W
  obtain ⟨on, ze, hnv⟩ : ∃ on ze : Nat, numV s = rect on ze := by
    unfold numV
    cases tabV s
    · exact ⟨0, 0, rfl⟩
    · exact ⟨_, _, rfl⟩
  rw [hnv] at hnum
  have HNU := Lib.hid hnum
  clear h hnum hnv
  go_enter Tryd.func11, Tryd.ntmps11
  go_wp2_with fail
  refine (HTR.out _).mono ?_
  rintro e w1 ⟨rfl, hb1⟩
  have HB1 := Lib.hid hb1
  clear hb1
  go_wp2_with fail
  refine (HNU.out _).mono ?_
  rintro e w2 ⟨rfl, hb2⟩
  have HB2 := Lib.hid (HB1.out.trans (hb2.mono HB1.out.size))
  have HB3 := Lib.hid (HB2.out.alloc HB2.out.size (.cells #[.int .i64 (on : Int), .int .i64 (ze : Int)] 33))
  clear hb2
  go_wp2_with fail
  go_returns
  exact ⟨rfl, HB3.out⟩

set_option maxHeartbeats 8000000 in
set_option maxRecDepth 100000 in
theorem impl_yes (p : ByteArray) (t : T) (hw : wf t) (h : p.data.toList = text t) (hp : p.size ≤ 2000) (s : ByteArray) (hs : s.size ≤ 1048576) (w : World) :
    Calls Tryd.prog 11 #[.string p, .string s] w fun e w' => e = .returned (gfV t s) ∧ Below w.heap.size w w' := by
  have HTR := Lib.hid (tree_yes p t hw h hp)
  have hnum := fun W => numbers s (by unfold maxLen; omega) W
  have htab := tab_size s
  have hl : (text t).length ≤ 2000 := by rw [← h]; simpa using hp
  obtain ⟨on, ze, hnv, hon, hze, hval⟩ : ∃ on ze : Nat, numV s = rect on ze ∧ on < 256 ∧ ze < 256 ∧ gfV t s = if ((decide (on ≠ 0) && decide (ze ≠ 0)) && playB t on ze) = true then .tuple #[.string (str (Fm.text (frmS t on ze))), .bool true] else .tuple #[.string (str []), .bool false] := by
    unfold numV gfV gfOk
    cases htv : tabV s
    · exact ⟨0, 0, rfl, by omega, by omega, by simp⟩
    · obtain ⟨b, _, _, _, _, _, g6⟩ := htab htv
      exact ⟨_, _, rfl, ones_lt s g6, zeros_lt s g6, by simp only [Bool.true_and]⟩
  rw [hnv] at hnum
  rw [hval]
  have HNU := Lib.hid hnum
  have HIS := Lib.hid (fun W => rect_any (on : Int) (ze : Int) W)
  have hsb := some_both hon hze
  rw [hsb] at HIS
  have HPL := Lib.hid (plays_w t hl on ze hon hze)
  have HSM : Hid (on ≠ 0 → ze ≠ 0 → playB t on ze = true → frmI (trimT t on ze) on ze = frmS t on ze) := fun a1 a2 a3 => frm_same t on ze hon hze a1 a2 a3
  have hFF := fun W => formula_from (trimT t on ze) on ze hon hze W
  have hTR := trim_to t
  have hsz : on ≠ 0 → ze ≠ 0 → (Fm.text (frmS t on ze)).length ≤ 1000 := fun a1 a2 => by
    have e1 := Fm.text_size (frmS t on ze)
    have k1 := frm_size t on ze hon hze a1 a2
    have m : ∀ n, cnt n ≤ 8 := fun n => by unfold cnt; exact Nat.le_trans (List.countP_le_length) (by simp)
    have q1 : cnt on * cnt ze ≤ 8 * 8 := Nat.mul_le_mul (m _) (m _)
    omega
  have hFT := fun (g : Fm.F) (hg : Fm.wf 3 g) (hlg : (Fm.text g).length ≤ 8000000) W => text_of g hg hlg W
  obtain ⟨ty, v, ev⟩ := tree_iface t
  clear hnum hval hnv htab hsb h hw
  cases hg : (decide (on ≠ 0) && decide (ze ≠ 0))
  · rw [hg] at HIS
    simp only [Bool.false_and, Bool.false_eq_true, if_false]
    rw [ev] at HTR
    clear hg ev hTR hFF HPL HSM hsz hFT
    go_enter Tryd.func11, Tryd.ntmps11
    go_wp2_with fail
    refine (HTR.out _).mono ?_
    rintro e w1 ⟨rfl, hb1⟩
    have HB1 := Lib.hid hb1
    clear hb1
    go_wp2_with fail
    refine (HNU.out _).mono ?_
    rintro e w2 ⟨rfl, hb2⟩
    have HB2 := Lib.hid (HB1.out.trans (hb2.mono HB1.out.size))
    have HB3 := Lib.hid (HB2.out.alloc HB2.out.size (.cells #[.int .i64 (on : Int), .int .i64 (ze : Int)] 33))
    clear hb2
    go_wp2_with fail
    refine (HIS.out _).mono ?_
    rintro e w3 ⟨rfl, hb3⟩
    have HB4 := Lib.hid (HB3.out.trans (hb3.mono HB3.out.size))
    clear hb3
    go_wp2_with fail
    go_returns
    exact ⟨rfl, HB4.out⟩
  rw [hg] at HIS
  obtain ⟨a1, a2⟩ : on ≠ 0 ∧ ze ≠ 0 := by rw [Bool.and_eq_true, decide_eq_true_iff, decide_eq_true_iff] at hg; exact hg
  simp only [Bool.true_and]
  cases hpl : playB t on ze
  · rw [hpl] at HPL
    simp only [Bool.false_eq_true, if_false]
    rw [ev] at HTR HPL
    clear hg ev hTR hFF HSM hsz hpl a1 a2 hFT
    go_enter Tryd.func11, Tryd.ntmps11
    go_wp2_with fail
    refine (HTR.out _).mono ?_
    rintro e w1 ⟨rfl, hb1⟩
    have HB1 := Lib.hid hb1
    clear hb1
    go_wp2_with fail
    refine (HNU.out _).mono ?_
    rintro e w2 ⟨rfl, hb2⟩
    have HB2 := Lib.hid (HB1.out.trans (hb2.mono HB1.out.size))
    have HB3 := Lib.hid (HB2.out.alloc HB2.out.size (.cells #[.int .i64 (on : Int), .int .i64 (ze : Int)] 33))
    have hrow := heap_alloc_new w2 (.cells #[.int .i64 (on : Int), .int .i64 (ze : Int)] 33)
    have HR3 := Lib.hid hrow
    clear hb2 hrow
    go_wp2_with fail
    refine (HIS.out _).mono ?_
    rintro e w3 ⟨rfl, hb3⟩
    have HB4 := Lib.hid (HB3.out.trans (hb3.mono HB3.out.size))
    have HR4 : Hid (w3.heap[w2.heap.size]? = some (.cells #[.int .i64 (on : Int), .int .i64 (ze : Int)] 33 (0, 0))) := (hb3.block _ (by simp)).trans HR3.out
    obtain ⟨c0, c1, _, _⟩ := cells2 HR4.out
    clear hb3
    go_wp2_with fail
    refine (HPL.out _).mono ?_
    rintro e w4 ⟨rfl, hb4⟩
    have HB5 := Lib.hid (HB4.out.trans (hb4.mono HB4.out.size))
    clear hb4
    go_wp2_with fail
    go_returns
    exact ⟨rfl, HB5.out⟩
  rw [hpl] at HPL
  simp only [if_true]
  rw [HSM.out a1 a2 hpl] at hFF
  have hFT2 := hFT (frmS t on ze) (frmS_wf t on ze) (by have := hsz a1 a2; omega)
  obtain ⟨t3, v3, e3⟩ := FmRead.tree_iface (frmS t on ze)
  obtain ⟨t4, v4, e4⟩ := tree_iface (trimT t on ze)
  rw [e3] at hFF hFT2
  rw [e4] at hFF
  unfold TrimC Go.Proofs.YtbccachkkflceaaDoor.Count.Node at hTR
  have hTR2 : (∃ V, tree t = .iface 61 V ∧ ∀ W : World, Calls Tryd.prog 120 #[V, rect on ze] W fun e w' => e = .returned (.iface t4 v4) ∧ Below W.heap.size W w') ∨ (∃ V, tree t = .iface 77 V ∧ ∀ W : World, Calls Tryd.prog 130 #[V, rect on ze] W fun e w' => e = .returned (.iface t4 v4) ∧ Below W.heap.size W w') := by
    rcases hTR with ⟨V, q, k⟩ | ⟨V, q, k⟩
    · exact .inl ⟨V, q, fun W => by have := k on ze W hon hze (by omega) (by omega); rw [e4] at this; exact this⟩
    · exact .inr ⟨V, q, fun W => by have := k on ze W hon hze (by omega) (by omega); rw [e4] at this; exact this⟩
  generalize str (Fm.text (frmS t on ze)) = q at *
  have HFF := Lib.hid hFF
  have HFT := Lib.hid hFT2
  clear hTR hFF hFT2 hFT hsz hpl a1 a2 hg e3 e4 HSM ev hon hze hl
  rcases hTR2 with ⟨V, ev, hT⟩ | ⟨V, ev, hT⟩
  · rw [ev] at HTR HPL
    have HTM := Lib.hid hT
    clear ev hT
    go_enter Tryd.func11, Tryd.ntmps11
    go_wp2_with fail
    refine (HTR.out _).mono ?_
    rintro e w1 ⟨rfl, hb1⟩
    have HB1 := Lib.hid hb1
    clear hb1
    go_wp2_with fail
    refine (HNU.out _).mono ?_
    rintro e w2 ⟨rfl, hb2⟩
    have HB2 := Lib.hid (HB1.out.trans (hb2.mono HB1.out.size))
    have HB3 := Lib.hid (HB2.out.alloc HB2.out.size (.cells #[.int .i64 (on : Int), .int .i64 (ze : Int)] 33))
    have hrow := heap_alloc_new w2 (.cells #[.int .i64 (on : Int), .int .i64 (ze : Int)] 33)
    have HR3 := Lib.hid hrow
    clear hb2 hrow
    go_wp2_with fail
    refine (HIS.out _).mono ?_
    rintro e w3 ⟨rfl, hb3⟩
    have HB4 := Lib.hid (HB3.out.trans (hb3.mono HB3.out.size))
    have HR4 : Hid (w3.heap[w2.heap.size]? = some (.cells #[.int .i64 (on : Int), .int .i64 (ze : Int)] 33 (0, 0))) := (hb3.block _ (by simp)).trans HR3.out
    obtain ⟨c0, c1, _, _⟩ := cells2 HR4.out
    clear hb3
    go_wp2_with fail
    refine (HPL.out _).mono ?_
    rintro e w4 ⟨rfl, hb4⟩
    have HB5 := Lib.hid (HB4.out.trans (hb4.mono HB4.out.size))
    obtain ⟨X, hX⟩ : ∃ X, w2.heap.size = X := ⟨_, rfl⟩
    have hr4 := HR4.out
    rw [hX] at hr4
    have hr5 : w4.heap[X]? = some (.cells #[.int .i64 (on : Int), .int .i64 (ze : Int)] 33 (0, 0)) := (hb4.block _ (Array.getElem?_eq_some_iff.1 hr4).1).trans hr4
    have HXR : Hid (∀ wx : World, Below w4.heap.size w4 wx → wx.heap[X]? = some (.cells #[.int .i64 (on : Int), .int .i64 (ze : Int)] 33 (0, 0))) := fun wx h => (h.block _ (Array.getElem?_eq_some_iff.1 hr5).1).trans hr5
    clear hb4 c0 c1 hr4 hr5 HR4 HR3
    go_wp2_with fail
    try rw [hX]
    refine wp_region_below (fun | 0 => .iface 61 V | 1 => rect on ze | 2 => .iface t4 v4 | 3 => rect on ze | 4 => .iface t3 v3 | 5 => .string q | 6 => .string q | 7 => .bool true | _ => undef) (by kernel_rfl) (by kernel_rfl) rfl ?conRA ?enRA
    case conRA =>
      intro i o ho a wx hb hf
      match i, ho with
      | 0, ho =>
        obtain rfl := Option.some.inj ho
        have b6 : a.tmps[6]?.getD undef = .iface 61 V := hf.2 6 (by kernel_rfl)
        exact wp_value (.iface 61 V) (by unfold execOp; go_simp) ⟨rfl, Below.refl _ _⟩
      | 1, ho =>
        obtain rfl := Option.some.inj ho
        have b7 : a.tmps[7]?.getD undef = .pointer (some ⟨X, 0, none⟩) := hf.2 7 (by kernel_rfl)
        exact wp_load_row 33 (.tmp 7) rfl X (GfS.eval_get b7) 33 _ (0, 0) _ (HXR.out _ hb) Tryd.underlying33 rfl (info_rect _ _) ⟨rfl, Below.refl _ _⟩
      | 2, ho =>
        obtain rfl := Option.some.inj ho
        have e25 : a.tmps[25]?.getD undef = .iface 61 V := hf.1 ⟨0, .data⟩ (by simp) rfl _ 25 rfl rfl
        have e26 : a.tmps[26]?.getD undef = rect on ze := hf.1 ⟨1, .data⟩ (by simp) rfl _ 26 rfl rfl
        exact wp_enter 120 #[V, rect on ze] (.iface t4 v4) _ (by unfold execOp; go_simp; go_invoke; rfl) (HTM.out wx) (fun w' h => ⟨rfl, h⟩)
      | 3, ho =>
        obtain rfl := Option.some.inj ho
        have b7 : a.tmps[7]?.getD undef = .pointer (some ⟨X, 0, none⟩) := hf.2 7 (by kernel_rfl)
        exact wp_load_row 33 (.tmp 7) rfl X (GfS.eval_get b7) 33 _ (0, 0) _ (HXR.out _ hb) Tryd.underlying33 rfl (info_rect _ _) ⟨rfl, Below.refl _ _⟩
      | 4, ho =>
        obtain rfl := Option.some.inj ho
        have e27 : a.tmps[27]?.getD undef = .iface t4 v4 := hf.1 ⟨2, .data⟩ (by simp) rfl _ 27 rfl rfl
        have e28 : a.tmps[28]?.getD undef = rect on ze := hf.1 ⟨3, .data⟩ (by simp) rfl _ 28 rfl rfl
        exact wp_enter 30 #[.iface t4 v4, rect on ze] (.iface t3 v3) _ (by unfold execOp; go_simp) (HFF.out wx) (fun w' h => ⟨rfl, h⟩)
      | 5, ho =>
        obtain rfl := Option.some.inj ho
        have e29 : a.tmps[29]?.getD undef = .iface t3 v3 := hf.1 ⟨4, .data⟩ (by simp) rfl _ 29 rfl rfl
        exact wp_enter 29 #[.iface t3 v3] (.string q) _ (by unfold execOp; go_simp) (HFT.out wx) (fun w' h => ⟨rfl, h⟩)
      | 6, ho =>
        obtain rfl := Option.some.inj ho
        have e30 : a.tmps[30]?.getD undef = .string q := hf.1 ⟨5, .data⟩ (by simp) rfl _ 30 rfl rfl
        exact wp_value (.string q) (by unfold execOp; go_simp) ⟨rfl, Below.refl _ _⟩
      | 7, ho =>
        obtain rfl := Option.some.inj ho
        exact wp_value (.bool true) (by unfold execOp; go_simp) ⟨rfl, Below.refl _ _⟩
      | q + 8, ho => simp at ho
    case enRA =>
      intro w5 hb5
      have HB6 : Hid (Below w.heap.size w w5) := HB5.out.trans (hb5.mono HB5.out.size)
      clear hb5
      simp only [fill, Act.put]
      go_simp
      go_wp2_with fail
      go_returns
      exact ⟨rfl, HB6.out⟩
  · rw [ev] at HTR HPL
    have HTM := Lib.hid hT
    clear ev hT
    go_enter Tryd.func11, Tryd.ntmps11
    go_wp2_with fail
    refine (HTR.out _).mono ?_
    rintro e w1 ⟨rfl, hb1⟩
    have HB1 := Lib.hid hb1
    clear hb1
    go_wp2_with fail
    refine (HNU.out _).mono ?_
    rintro e w2 ⟨rfl, hb2⟩
    have HB2 := Lib.hid (HB1.out.trans (hb2.mono HB1.out.size))
    have HB3 := Lib.hid (HB2.out.alloc HB2.out.size (.cells #[.int .i64 (on : Int), .int .i64 (ze : Int)] 33))
    have hrow := heap_alloc_new w2 (.cells #[.int .i64 (on : Int), .int .i64 (ze : Int)] 33)
    have HR3 := Lib.hid hrow
    clear hb2 hrow
    go_wp2_with fail
    refine (HIS.out _).mono ?_
    rintro e w3 ⟨rfl, hb3⟩
    have HB4 := Lib.hid (HB3.out.trans (hb3.mono HB3.out.size))
    have HR4 : Hid (w3.heap[w2.heap.size]? = some (.cells #[.int .i64 (on : Int), .int .i64 (ze : Int)] 33 (0, 0))) := (hb3.block _ (by simp)).trans HR3.out
    obtain ⟨c0, c1, _, _⟩ := cells2 HR4.out
    clear hb3
    go_wp2_with fail
    refine (HPL.out _).mono ?_
    rintro e w4 ⟨rfl, hb4⟩
    have HB5 := Lib.hid (HB4.out.trans (hb4.mono HB4.out.size))
    obtain ⟨X, hX⟩ : ∃ X, w2.heap.size = X := ⟨_, rfl⟩
    have hr4 := HR4.out
    rw [hX] at hr4
    have hr5 : w4.heap[X]? = some (.cells #[.int .i64 (on : Int), .int .i64 (ze : Int)] 33 (0, 0)) := (hb4.block _ (Array.getElem?_eq_some_iff.1 hr4).1).trans hr4
    have HXR : Hid (∀ wx : World, Below w4.heap.size w4 wx → wx.heap[X]? = some (.cells #[.int .i64 (on : Int), .int .i64 (ze : Int)] 33 (0, 0))) := fun wx h => (h.block _ (Array.getElem?_eq_some_iff.1 hr5).1).trans hr5
    clear hb4 c0 c1 hr4 hr5 HR4 HR3
    go_wp2_with fail
    try rw [hX]
    refine wp_region_below (fun | 0 => .iface 77 V | 1 => rect on ze | 2 => .iface t4 v4 | 3 => rect on ze | 4 => .iface t3 v3 | 5 => .string q | 6 => .string q | 7 => .bool true | _ => undef) (by kernel_rfl) (by kernel_rfl) rfl ?conRB ?enRB
    case conRB =>
      intro i o ho a wx hb hf
      match i, ho with
      | 0, ho =>
        obtain rfl := Option.some.inj ho
        have b6 : a.tmps[6]?.getD undef = .iface 77 V := hf.2 6 (by kernel_rfl)
        exact wp_value (.iface 77 V) (by unfold execOp; go_simp) ⟨rfl, Below.refl _ _⟩
      | 1, ho =>
        obtain rfl := Option.some.inj ho
        have b7 : a.tmps[7]?.getD undef = .pointer (some ⟨X, 0, none⟩) := hf.2 7 (by kernel_rfl)
        exact wp_load_row 33 (.tmp 7) rfl X (GfS.eval_get b7) 33 _ (0, 0) _ (HXR.out _ hb) Tryd.underlying33 rfl (info_rect _ _) ⟨rfl, Below.refl _ _⟩
      | 2, ho =>
        obtain rfl := Option.some.inj ho
        have e25 : a.tmps[25]?.getD undef = .iface 77 V := hf.1 ⟨0, .data⟩ (by simp) rfl _ 25 rfl rfl
        have e26 : a.tmps[26]?.getD undef = rect on ze := hf.1 ⟨1, .data⟩ (by simp) rfl _ 26 rfl rfl
        exact wp_enter 130 #[V, rect on ze] (.iface t4 v4) _ (by unfold execOp; go_simp; go_invoke; rfl) (HTM.out wx) (fun w' h => ⟨rfl, h⟩)
      | 3, ho =>
        obtain rfl := Option.some.inj ho
        have b7 : a.tmps[7]?.getD undef = .pointer (some ⟨X, 0, none⟩) := hf.2 7 (by kernel_rfl)
        exact wp_load_row 33 (.tmp 7) rfl X (GfS.eval_get b7) 33 _ (0, 0) _ (HXR.out _ hb) Tryd.underlying33 rfl (info_rect _ _) ⟨rfl, Below.refl _ _⟩
      | 4, ho =>
        obtain rfl := Option.some.inj ho
        have e27 : a.tmps[27]?.getD undef = .iface t4 v4 := hf.1 ⟨2, .data⟩ (by simp) rfl _ 27 rfl rfl
        have e28 : a.tmps[28]?.getD undef = rect on ze := hf.1 ⟨3, .data⟩ (by simp) rfl _ 28 rfl rfl
        exact wp_enter 30 #[.iface t4 v4, rect on ze] (.iface t3 v3) _ (by unfold execOp; go_simp) (HFF.out wx) (fun w' h => ⟨rfl, h⟩)
      | 5, ho =>
        obtain rfl := Option.some.inj ho
        have e29 : a.tmps[29]?.getD undef = .iface t3 v3 := hf.1 ⟨4, .data⟩ (by simp) rfl _ 29 rfl rfl
        exact wp_enter 29 #[.iface t3 v3] (.string q) _ (by unfold execOp; go_simp) (HFT.out wx) (fun w' h => ⟨rfl, h⟩)
      | 6, ho =>
        obtain rfl := Option.some.inj ho
        have e30 : a.tmps[30]?.getD undef = .string q := hf.1 ⟨5, .data⟩ (by simp) rfl _ 30 rfl rfl
        exact wp_value (.string q) (by unfold execOp; go_simp) ⟨rfl, Below.refl _ _⟩
      | 7, ho =>
        obtain rfl := Option.some.inj ho
        exact wp_value (.bool true) (by unfold execOp; go_simp) ⟨rfl, Below.refl _ _⟩
      | q + 8, ho => simp at ho
    case enRB =>
      intro w5 hb5
      have HB6 : Hid (Below w.heap.size w w5) := HB5.out.trans (hb5.mono HB5.out.size)
      clear hb5
      simp only [fill, Act.put]
      go_simp
      go_wp2_with fail
      go_returns
      exact ⟨rfl, HB6.out⟩
theorem both (p : ByteArray) (hp : p.size ≤ 1048576) (s : ByteArray) (hs : s.size ≤ 1048576) : ∃ (q : ByteArray) (b : Bool),
    (∀ w, Calls Tryd.prog 10 #[.string p, .string s] w fun e w' => e = .returned (.tuple #[.string q, .bool b]) ∧ Below w.heap.size w w') ∧
    (∀ w, Calls Tryd.prog 11 #[.string p, .string s] w fun e w' => e = .returned (.tuple #[.string q, .bool b]) ∧ Below w.heap.size w w') := by
  rcases ok_or p with ⟨t, h1, h2, h3⟩ | h
  · have e1 := fun W => spec_yes p t h1 h2 h3 s hs W
    have e2 := fun W => impl_yes p t h1 h2 h3 s hs W
    unfold gfV at e1 e2
    cases hg : gfOk t s
    · rw [hg] at e1 e2
      exact ⟨_, _, e1, e2⟩
    · rw [hg] at e1 e2
      exact ⟨_, _, e1, e2⟩
  · exact ⟨_, _, fun W => spec_no p h hp s W, fun W => impl_no p h hp s hs W⟩

set_option maxHeartbeats 1000000 in
theorem walk (p : ByteArray) (hp : p.size ≤ maxLen) (s : ByteArray) (hs : s.size ≤ maxLen) (w : World) :
    Calls Tryd.prog 4 #[.string p, .string s] w fun e w' => e = .returned (.bool true) ∧ Below w.heap.size w w' := by
  unfold maxLen at hp hs
  by_cases hbig : 1048576 < p.size
  · go_enter Tryd.func4, Tryd.ntmps4
    go_wp2_with fail
    go_ret
    exact ⟨rfl, Below.refl _ _⟩
  replace hbig : p.size ≤ 1048576 := by omega
  by_cases hbig2 : 1048576 < s.size
  · go_enter Tryd.func4, Tryd.ntmps4
    go_wp2_with fail
    go_ret
    exact ⟨rfl, Below.refl _ _⟩
  replace hbig2 : s.size ≤ 1048576 := by omega
  obtain ⟨q, b, hS, hI⟩ := both p hbig s hbig2
  have HS := Lib.hid hS
  have HI := Lib.hid hI
  clear hS hI
  cases b
  all_goals
    go_enter Tryd.func4, Tryd.ntmps4
    go_wp2_with fail
    refine (HS.out _).mono ?_
    rintro e w1 ⟨rfl, hb1⟩
    go_wp2_with fail
    refine (HI.out _).mono ?_
    rintro e w2 ⟨rfl, hb2⟩
    have HB := Lib.hid (hb1.trans (hb2.mono hb1.size))
    clear hb1 hb2
    go_wp2_with fail
    go_ret
    exact ⟨rfl, HB.out⟩
end Go.Proofs.YtbccachkkflceaaDoor.fnExactGameFormula
