/-
  The drawing function DrawParseMatrix.
-/
import Derived.Test.YtalechngagkklaaDoorDrawT
import Derived.Test.YtalechngagkklaaDoorFreeP
import Derived.Test.YtalechngagkklaaDoorRd6
import Derived.Test.YtalechngagkklaaDoorFmt
import Derived.Test.YtalechngagkklaaDoorMTxt
namespace Go.Proofs.YtalechngagkklaaDoor.DrawPM
open Go.RowKit Go.Proofs.YtalechngagkklaaDoor.Plain Go.Proofs.YtalechngagkklaaDoor.Rd Go.Proofs.YtalechngagkklaaDoor.Rd2 Go.Proofs.YtalechngagkklaaDoor.Rd3 Go.Proofs.YtalechngagkklaaDoor.Rd5 Go.Proofs.YtalechngagkklaaDoor.Rd6 Go.Proofs.YtalechngagkklaaDoor.DrawT Go.Proofs.YtalechngagkklaaDoor.FreeP
open Go.Proofs.YtalechngagkklaaDoor.Fmt
open Go.Proofs.YtalechngagkklaaDoor.MTxt
open Go.Proofs.YtalechngagkklaaDoor.Free (fill wp_value freeB)
open Go.Proofs.YtalechngagkklaaDoor.FreeP (wp_enterP)
set_option linter.unusedVariables false

/-- what each operation yields -/
def YP (g : Nat) (s : ByteArray) (k : Nat) : Nat → Value → World → Prop
  | 0, v, _ => v = .string s
  | 1, v, _ => v = .int .i64 (k : Int)
  | 2, v, _ => v = .string (s.extract 0 k)
  | 3, v, _ => v = .pointer (some ⟨g, 0, none⟩)
  | 4, v, w => ∃ b, v = .slice (some ⟨b, 0, none⟩) 5 5 ∧ b ≠ g ∧ b < w.heap.size ∧ ∀ j (hj : j < ([⟨#[]⟩, ⟨#[48]⟩, ⟨#[49]⟩, ⟨#[47]⟩, ⟨#[50]⟩] : List ByteArray).length), w.cell? ⟨b, j, none⟩ = some (.string ([⟨#[]⟩, ⟨#[48]⟩, ⟨#[49]⟩, ⟨#[47]⟩, ⟨#[50]⟩] : List ByteArray)[j])
  | 5, v, _ => ∃ u : ByteArray, v = .string u ∧ u.size ≤ 1
  | 6, v, _ => ∃ u : ByteArray, v = .string u ∧ u.size ≤ s.size + 1
  | 7, v, _ => v = .string s
  | 8, v, _ => v = .int .i64 (k : Int)
  | 9, v, _ => v = .pointer (some ⟨g, 0, none⟩)
  | 10, v, _ => ∃ q : Nat, v = .int .i64 (q : Int) ∧ q ≤ 1
  | 11, v, _ => ∃ q : Nat, v = .int .i64 (q : Int) ∧ q ≤ k + 1
  | 12, v, _ => ∃ u : ByteArray, v = .string u ∧ u.size ≤ s.size
  | 13, v, _ => ∃ u : ByteArray, v = .string u ∧ u.size ≤ s.size + s.size + 1
  | 14, v, _ => ∃ u : ByteArray, v = .string u ∧ u.size ≤ s.size + s.size + 1
  | _, _, _ => True
theorem YP.on (g : Nat) (s : ByteArray) (k : Nat) (i : Nat) (v : Value) (w w' : World) (ha : Apt g w w') (h : YP g s k i v w) : YP g s k i v w' := by
  match i, h with
  | 4, h =>
    obtain ⟨b, rfl, hg, hb, hc⟩ := h
    exact ⟨b, rfl, hg, Nat.lt_of_lt_of_le hb ha.size, fun j hj => (ha.cell (p := ⟨b, j, none⟩) hb hg).trans (hc j hj)⟩
  | 0, h | 1, h | 2, h | 3, h | 5, h | 6, h | 7, h | 8, h | 9, h | 10, h | 11, h | 12, h | 13, h | 14, h => exact h
  | n + 15, _ => trivial
theorem strs_le (u : ByteArray) (h : u ∈ ([⟨#[]⟩, ⟨#[48]⟩, ⟨#[49]⟩, ⟨#[47]⟩, ⟨#[50]⟩] : List ByteArray)) : u.size ≤ 1 := by
  simp only [List.mem_cons, List.not_mem_nil, or_false] at h
  rcases h with rfl | rfl | rfl | rfl | rfl <;> decide
theorem cells_str (w : World) (T : TypeId) (xs : List ByteArray) (j : Nat) (hj : j < xs.length) : (w.alloc (.cells (xs.map fun x : ByteArray => Value.string x).toArray T)).cell? ⟨w.heap.size, j, none⟩ = some (.string xs[j]) :=
  (cell_of_row _ _ j _ _ _ (heap_alloc_new w _)).trans (by simp [hj])

theorem wp_made {P : Program} {o : Oper} {a : Act} {w : World} {K : Act → World → Prop} {Q : Exit → Act → World → Prop} (w' : World) (v : Value) (h : (execOp a.eval o).run P w = .ok (.value v) w') (hK : K (a.put o.dst v) w') : o.wp P a w K Q := by
  unfold Oper.wp
  rw [h]
  exact hK

set_option maxHeartbeats 4000000 in
set_option maxRecDepth 20000 in
theorem draw_any (v : Value) (n : Nat) (w : World) (h : ByteArg w v n) :
    Calls Tryd.prog 32 #[v] w fun e w' => ∃ t : ByteArray, e = .returned (.string t) ∧ t.size ≤ 200 ∧ Below w.heap.size w w' := by
  have HO := Lib.hid (open_any v n w h)
  clear h
  go_enter Tryd.func32, Tryd.ntmps32
  go_wp2_with fail
  refine HO.out.mono ?_
  rintro e w1 ⟨g, rfl, hr, hb, hg⟩
  have HB := Lib.hid hb
  have HM := Lib.hid (draw_matV g 0 (by omega) 4 (by omega) (by omega) w1 hr)
  clear hr hb HO
  go_wp2_with fail
  refine HM.out.mono ?_
  rintro e w2 ⟨a, b, t, p2, rfl, ha, hb, ht, hp1, hp2, hr, hap⟩
  have HB2 : Hid (Below w.heap.size w w2) := hap.below HB.out (by omega)
  obtain ⟨s, hs1, hs2, hf⟩ := fmt_draw a b t ht
  have HF := Lib.hid hf
  have HR3 := Lib.hid hr
  clear hr hap ht hf HM HB
  go_wp2_with fail
  refine (HF.out _).mono ?_
  rintro e w4 ⟨rfl, hb4⟩
  have HB4 : Hid (Below w.heap.size w w4) := HB2.out.trans (hb4.mono HB2.out.size)
  have hr4 := HR3.out.later hb4
  have HP := Lib.hid (pick_r g p2 (by omega) 2 w4 hr4)
  clear hb4 hr4 HF HR3 HB2 ha hb
  go_wp2_with fail
  refine HP.out.mono ?_
  rintro e w5 ⟨q, rfl, ⟨hq0, -⟩, hq1, hr, hap⟩
  have HB5 : Hid (Below w.heap.size w w5) := hap.below HB4.out (by omega)
  by_cases hq : q = 0
  · subst hq
    clear hr hap HP HB4
    go_wp2_with fail
    go_ret
    exact ⟨s, rfl, by omega, HB5.out⟩
  · obtain rfl : q = 1 := by omega
    have HQ := Lib.hid (pick_r g (p2 + 1) (by omega) (s.size : Int) w5 hr)
    clear hr hap HP HB4 hq hq0 hq1
    go_wp2_with fail
    refine HQ.out.mono ?_
    rintro e w6 ⟨k, rfl, ⟨hk0, -⟩, hk1, hr, hap⟩
    have HB6 : Hid (Below w.heap.size w w6) := hap.below HB5.out (by omega)
    obtain ⟨k, rfl⟩ := Int.eq_ofNat_of_zero_le hk0
    have hk : k < s.size := by omega
    have HR6 := Lib.hid hr
    clear hr hap HQ HB5 hk0 hk1
    go_wp2_with fail
    refine wp_region_draws g (p2 + 1 + 1) (YP g s k) (YP.on g s k) (by kernel_rfl) (by kernel_rfl) rfl HR6.out ?con ?en
    case con =>
      intro i o ho a wx p hp3 hp4 hax hrx hf
      have hp5 : p ≤ 100000 := Nat.le_trans hp4 (by show _ + 400 * 15 ≤ _; omega)
      match i, ho with
      | 0, ho =>
        obtain rfl := Option.some.inj ho
        have b4 : a.tmps[4]?.getD undef = .string s := hf.2 4 (by kernel_rfl)
        exact wp_value (.string s) (by unfold execOp; go_simp) ⟨_, p, rfl, rfl, Apt.refl _ _, hrx, Nat.le_refl _, by omega⟩
      | 1, ho =>
        obtain rfl := Option.some.inj ho
        have b5 : a.tmps[5]?.getD undef = .int .i64 (k : Int) := hf.2 5 (by kernel_rfl)
        exact wp_value (.int .i64 (k : Int)) (by unfold execOp; go_simp) ⟨_, p, rfl, rfl, Apt.refl _ _, hrx, Nat.le_refl _, by omega⟩
      | 2, ho =>
        obtain rfl := Option.some.inj ho
        have e19 : a.tmps[19]?.getD undef = .string s := hf.1 ⟨0, .data⟩ (by simp) rfl _ 19 rfl rfl
        have e20 : a.tmps[20]?.getD undef = .int .i64 (k : Int) := hf.1 ⟨1, .data⟩ (by simp) rfl _ 20 rfl rfl
        have hki : (k : Int) ≤ (s.size : Int) := by omega
        exact wp_value (.string (s.extract 0 k)) (by unfold execOp; go_simp) ⟨_, p, rfl, rfl, Apt.refl _ _, hrx, Nat.le_refl _, by omega⟩
      | 3, ho =>
        obtain rfl := Option.some.inj ho
        have b3 : a.tmps[3]?.getD undef = .pointer (some ⟨g, 0, none⟩) := hf.2 3 (by kernel_rfl)
        exact wp_value (.pointer (some ⟨g, 0, none⟩)) (by unfold execOp; go_simp) ⟨_, p, rfl, rfl, Apt.refl _ _, hrx, Nat.le_refl _, by omega⟩
      | 4, ho =>
        obtain rfl := Option.some.inj ho
        have hgl := hrx.lt
        have hb := (Below.refl wx.heap.size wx).alloc (Nat.le_refl _) (.cells (([⟨#[]⟩, ⟨#[48]⟩, ⟨#[49]⟩, ⟨#[47]⟩, ⟨#[50]⟩] : List ByteArray).map fun x : ByteArray => Value.string x).toArray 9)
        refine wp_made (wx.alloc (.cells (([⟨#[]⟩, ⟨#[48]⟩, ⟨#[49]⟩, ⟨#[47]⟩, ⟨#[50]⟩] : List ByteArray).map fun x : ByteArray => Value.string x).toArray 9)) (.slice (some ⟨wx.heap.size, 0, none⟩) 5 5) ?_ ⟨_, p, rfl, ⟨wx.heap.size, rfl, by omega, by simp, fun j hj => cells_str wx 9 [⟨#[]⟩, ⟨#[48]⟩, ⟨#[49]⟩, ⟨#[47]⟩, ⟨#[50]⟩] j hj⟩, Apt.of_below hb, hrx.later hb, Nat.le_refl _, by omega⟩
        unfold execOp
        go_simp
      | 5, ho =>
        obtain rfl := Option.some.inj ho
        have e22 : a.tmps[22]?.getD undef = .pointer (some ⟨g, 0, none⟩) := hf.1 ⟨3, .data⟩ (by simp) rfl _ 22 rfl rfl
        obtain ⟨b, e23, hbg, hbl, hbc⟩ : ∃ b, a.tmps[23]?.getD undef = .slice (some ⟨b, 0, none⟩) 5 5 ∧ b ≠ g ∧ b < wx.heap.size ∧ ∀ j (hj : j < ([⟨#[]⟩, ⟨#[48]⟩, ⟨#[49]⟩, ⟨#[47]⟩, ⟨#[50]⟩] : List ByteArray).length), wx.cell? ⟨b, j, none⟩ = some (.string ([⟨#[]⟩, ⟨#[48]⟩, ⟨#[49]⟩, ⟨#[47]⟩, ⟨#[50]⟩] : List ByteArray)[j]) := hf.1 ⟨4, .data⟩ (by simp) rfl _ 23 rfl rfl
        exact wp_enterP 86 #[.pointer (some ⟨g, 0, none⟩), .slice (some ⟨b, 0, none⟩) 5 5] (fun v w' => (∃ u : ByteArray, v = .string u ∧ u.size ≤ 1) ∧ Rdr w' g (p + 1) ∧ Apt g wx w') (by unfold execOp; go_simp)
          ((of_any g p (by omega) [⟨#[]⟩, ⟨#[48]⟩, ⟨#[49]⟩, ⟨#[47]⟩, ⟨#[50]⟩] (by decide) (by decide) b 5 hbg wx hrx hbl hbc).mono fun e w' h => by obtain ⟨x, he, hx, hr, ha⟩ := h; exact ⟨_, he, ⟨x, rfl, strs_le x hx⟩, hr, ha⟩)
          (fun v w' h => ⟨v, p + 1, rfl, h.1, h.2.2, h.2.1, by omega, by omega⟩)
      | 6, ho =>
        obtain rfl := Option.some.inj ho
        have e21 : a.tmps[21]?.getD undef = .string (s.extract 0 k) := hf.1 ⟨2, .data⟩ (by simp) rfl _ 21 rfl rfl
        obtain ⟨u, e24, hu⟩ : ∃ u : ByteArray, a.tmps[24]?.getD undef = .string u ∧ u.size ≤ 1 := hf.1 ⟨5, .data⟩ (by simp) rfl _ 24 rfl rfl
        have hex : (s.extract 0 k).size ≤ s.size := by rw [ByteArray.size_extract]; omega
        have hcat := run_string_add_sum (P := Tryd.prog) (w := wx) (s.extract 0 k) u (by omega)
        exact wp_value (.string (s.extract 0 k ++ u)) (by unfold execOp; go_simp) ⟨_, p, rfl, ⟨_, rfl, by rw [ByteArray.size_append]; omega⟩, Apt.refl _ _, hrx, Nat.le_refl _, by omega⟩
      | 7, ho =>
        obtain rfl := Option.some.inj ho
        have b4 : a.tmps[4]?.getD undef = .string s := hf.2 4 (by kernel_rfl)
        exact wp_value (.string s) (by unfold execOp; go_simp) ⟨_, p, rfl, rfl, Apt.refl _ _, hrx, Nat.le_refl _, by omega⟩
      | 8, ho =>
        obtain rfl := Option.some.inj ho
        have b5 : a.tmps[5]?.getD undef = .int .i64 (k : Int) := hf.2 5 (by kernel_rfl)
        exact wp_value (.int .i64 (k : Int)) (by unfold execOp; go_simp) ⟨_, p, rfl, rfl, Apt.refl _ _, hrx, Nat.le_refl _, by omega⟩
      | 9, ho =>
        obtain rfl := Option.some.inj ho
        have b3 : a.tmps[3]?.getD undef = .pointer (some ⟨g, 0, none⟩) := hf.2 3 (by kernel_rfl)
        exact wp_value (.pointer (some ⟨g, 0, none⟩)) (by unfold execOp; go_simp) ⟨_, p, rfl, rfl, Apt.refl _ _, hrx, Nat.le_refl _, by omega⟩
      | 10, ho =>
        obtain rfl := Option.some.inj ho
        have e28 : a.tmps[28]?.getD undef = .pointer (some ⟨g, 0, none⟩) := hf.1 ⟨9, .data⟩ (by simp) rfl _ 28 rfl rfl
        exact wp_enterP 85 #[.pointer (some ⟨g, 0, none⟩), .int .i64 2] (fun v w' => (∃ q : Nat, v = .int .i64 (q : Int) ∧ q ≤ 1) ∧ Rdr w' g (p + 1) ∧ Apt g wx w') (by unfold execOp; go_simp)
          ((pick_r g p (by omega) 2 wx hrx).mono fun e w' h => by obtain ⟨x, he, hx0, hx1, hr, ha⟩ := h; obtain ⟨q, rfl⟩ := Int.eq_ofNat_of_zero_le hx0.1; exact ⟨_, he, ⟨q, rfl, by omega⟩, hr, ha⟩)
          (fun v w' h => ⟨v, p + 1, rfl, h.1, h.2.2, h.2.1, by omega, by omega⟩)
      | 11, ho =>
        obtain rfl := Option.some.inj ho
        have e27 : a.tmps[27]?.getD undef = .int .i64 (k : Int) := hf.1 ⟨8, .data⟩ (by simp) rfl _ 27 rfl rfl
        obtain ⟨q, e29, hq⟩ : ∃ q : Nat, a.tmps[29]?.getD undef = .int .i64 (q : Int) ∧ q ≤ 1 := hf.1 ⟨10, .data⟩ (by simp) rfl _ 29 rfl rfl
        have hwr : IntKind.i64.wrap ((k : Int) + (q : Int)) = ((k + q : Nat) : Int) := by rw [IntWalk.i64_in _ ⟨by omega, by omega⟩]; omega
        exact wp_value (.int .i64 ((k + q : Nat) : Int)) (by unfold execOp; go_simp) ⟨_, p, rfl, ⟨k + q, rfl, by omega⟩, Apt.refl _ _, hrx, Nat.le_refl _, by omega⟩
      | 12, ho =>
        obtain rfl := Option.some.inj ho
        have e26 : a.tmps[26]?.getD undef = .string s := hf.1 ⟨7, .data⟩ (by simp) rfl _ 26 rfl rfl
        obtain ⟨q, e30, hq⟩ : ∃ q : Nat, a.tmps[30]?.getD undef = .int .i64 (q : Int) ∧ q ≤ k + 1 := hf.1 ⟨11, .data⟩ (by simp) rfl _ 30 rfl rfl
        have hqi : (q : Int) ≤ (s.size : Int) := by omega
        exact wp_value (.string (s.extract q s.size)) (by unfold execOp; go_simp) ⟨_, p, rfl, ⟨_, rfl, by rw [ByteArray.size_extract]; omega⟩, Apt.refl _ _, hrx, Nat.le_refl _, by omega⟩
      | 13, ho =>
        obtain rfl := Option.some.inj ho
        obtain ⟨u, e25, hu⟩ : ∃ u : ByteArray, a.tmps[25]?.getD undef = .string u ∧ u.size ≤ s.size + 1 := hf.1 ⟨6, .data⟩ (by simp) rfl _ 25 rfl rfl
        obtain ⟨u2, e31, hu2⟩ : ∃ u : ByteArray, a.tmps[31]?.getD undef = .string u ∧ u.size ≤ s.size := hf.1 ⟨12, .data⟩ (by simp) rfl _ 31 rfl rfl
        have hcat := run_string_add_sum (P := Tryd.prog) (w := wx) u u2 (by omega)
        exact wp_value (.string (u ++ u2)) (by unfold execOp; go_simp) ⟨_, p, rfl, ⟨_, rfl, by rw [ByteArray.size_append]; omega⟩, Apt.refl _ _, hrx, Nat.le_refl _, by omega⟩
      | 14, ho =>
        obtain rfl := Option.some.inj ho
        obtain ⟨u, e32, hu⟩ : ∃ u : ByteArray, a.tmps[32]?.getD undef = .string u ∧ u.size ≤ s.size + s.size + 1 := hf.1 ⟨13, .data⟩ (by simp) rfl _ 32 rfl rfl
        exact wp_value (.string u) (by unfold execOp; go_simp) ⟨_, p, rfl, ⟨_, rfl, hu⟩, Apt.refl _ _, hrx, Nat.le_refl _, by omega⟩
      | q + 15, ho => simp at ho
    case en =>
      intro vs wx p hp3 hp4 hax hrx hall
      obtain ⟨u, hu, hus⟩ : ∃ u : ByteArray, vs 14 = .string u ∧ u.size ≤ s.size + s.size + 1 := hall 14 _ rfl
      have HB7 : Hid (Below w.heap.size w wx) := hax.below HB6.out (by omega)
      clear hax hrx hall HR6 HB6
      simp only [fill, Act.put, hu]
      go_simp
      go_wp2_with fail
      go_ret
      exact ⟨u, rfl, by omega, HB7.out⟩
end Go.Proofs.YtalechngagkklaaDoor.DrawPM
