/-
  What comes of balancing a protocol, in the program.
-/
import Derived.Test.YtgfhahlkffagaaaCutI
namespace Go.Proofs.Ytgfhahlkffagaaa.BalI
open Go.RowKit Go.Shelf Go.Proofs.Ytgfhahlkffagaaa.Plain Go.Proofs.Ytgfhahlkffagaaa.Tree Go.Proofs.Ytgfhahlkffagaaa.Read Go.Proofs.Ytgfhahlkffagaaa.Rect Go.Proofs.Ytgfhahlkffagaaa.TurnC Go.Proofs.Ytgfhahlkffagaaa.FreeL Go.Proofs.Ytgfhahlkffagaaa.TrimT Go.Proofs.Ytgfhahlkffagaaa.CutT Go.Proofs.Ytgfhahlkffagaaa.CutI
open Go.Proofs.Ytgfhahlkffagaaa.NodeH (eval_get)
open Go.Proofs.Ytgfhahlkffagaaa.Count (cells4 count_ends)
open Go.Proofs.Ytgfhahlkffagaaa.TrimI (cells2 info_rect one_rect)
open Go.Proofs.Ytgfhahlkffagaaa.Free (fill wp_value wp_enter wp_load_row freeB)
set_option linter.unusedVariables false
set_option linter.unusedSimpArgs false

/-- the blocks of a call: the rectangle and the cut -/
structure Bl (w wr : World) (B D R C : Nat) (c0 c1 c2 c3 : Value) : Prop where
  rect : wr.heap[B]? = some (.cells #[.int .i64 (R : Int), .int .i64 (C : Int)] 23 (0, 0))
  cut : wr.heap[D]? = some (.cells #[c0, c1, c2, c3] 50 (0, 0))
  below : Below w.heap.size w wr
theorem Bl.later {w wr w2 : World} {B D R C : Nat} {c0 c1 c2 c3 : Value} (h : Bl w wr B D R C c0 c1 c2 c3) (hb : Below wr.heap.size wr w2) : Bl w w2 B D R C c0 c1 c2 c3 :=
  have k : ∀ {g : Nat} {o : Obj}, wr.heap[g]? = some o → w2.heap[g]? = some o := fun e => (hb.block _ (Array.getElem?_eq_some_iff.1 e).1).trans e
  ⟨k h.rect, k h.cut, h.below.trans (hb.mono h.below.size)⟩
theorem mid_rect (w : World) (D : Nat) (x y : Value) (a b : Int) (h : w.heap[D]? = some (.cells #[x, .int .i64 a, .int .i64 b, y] 50 (0, 0))) : (Instr.loadAt 23 (.pointer (some ⟨D, 1, none⟩))).run Try.prog w = .ok (rect a b) w := by
  obtain ⟨c0, c1, c2, c3⟩ := cells4 h
  go_simp

set_option maxHeartbeats 8000000 in
set_option maxRecDepth 100000 in
theorem bal_to : ∀ (k : Nat) (t : T) (R C : Nat) (w : World), ends t ≤ k → ends t ≤ 16 → R < 256 → C < 256 → 1 ≤ R → 1 ≤ C → Tight t R C →
    Calls Try.prog 32 #[tree t, rect R C] w fun e w' => e = .returned (tree (balI k t R C)) ∧ Below w.heap.size w w' := by
  intro k
  induction k with
  | zero =>
    intro t R C w h
    have := ends_pos t
    omega
  | succ k ih =>
    intro t R C w hk h16 hR hC hR1 hC1 ht
    have htl := text_ends t
    have hE := count_ends t (by omega)
    unfold Go.Proofs.Ytgfhahlkffagaaa.Count.Node Go.Proofs.Ytgfhahlkffagaaa.Count.EndsC at hE
    have e1 := cut_ends (ends t) t R C
    have hH : 3 ≤ ends t → ∀ W : World, Calls Try.prog 27 #[tree t, rect R C, .int .i64 (ends t : Int)] W fun e w' => e = .returned (cutV (cutT (ends t) t R C)) ∧ Below W.heap.size W w' := fun h3 W => heavy_to (ends t) (by omega) (by omega) t (by omega) R C W hR hC
    have hX : 3 ≤ ends t → (∀ W : World, Calls Try.prog 32 #[tree (cutT (ends t) t R C).rest, rect R C] W fun e w' => e = .returned (tree (balI k (cutT (ends t) t R C).rest R C)) ∧ Below W.heap.size W w') ∧
        (∀ W : World, Calls Try.prog 32 #[tree (cutT (ends t) t R C).part, rect (cutT (ends t) t R C).rows (cutT (ends t) t R C).cols] W fun e w' => e = .returned (tree (balI k (cutT (ends t) t R C).part (cutT (ends t) t R C).rows (cutT (ends t) t R C).cols)) ∧ Below W.heap.size W w') := by
      intro h3
      have e2 := cut_most (ends t) (by omega) t R C
      have e3 := cut_least (ends t) t R C (by omega)
      obtain ⟨g1, g2, g3, g4, g5, g6, g7, g8⟩ := cut_rect (ends t) t R C hR hC hR1 hC1 ht
      exact ⟨fun W => ih _ R C W (by omega) (by omega) hR hC hR1 hC1 g8, fun W => ih _ _ _ W (by omega) (by omega) g1 g2 g3 g4 g7⟩
    obtain ⟨res, hres⟩ : ∃ res, tree (balI (k + 1) t R C) = res := ⟨_, rfl⟩
    rw [hres]
    have HRS : Hid (res = tree (if ends t ≤ 2 then t else .say true (cutT (ends t) t R C).rows (balI k (cutT (ends t) t R C).rest R C) (.say false (cutT (ends t) t R C).cols (balI k (cutT (ends t) t R C).rest R C) (balI k (cutT (ends t) t R C).part (cutT (ends t) t R C).rows (cutT (ends t) t R C).cols)))) := by
      show _ = _
      rw [← hres]
      rfl
    generalize balI k (cutT (ends t) t R C).rest R C = X at *
    generalize balI k (cutT (ends t) t R C).part (cutT (ends t) t R C).rows (cutT (ends t) t R C).cols = Y at *
    generalize cutT (ends t) t R C = cu at *
    obtain ⟨pa, ra, ca, xa⟩ := cu
    unfold cutV at hH
    simp only at hH hX e1 HRS
    obtain ⟨tp, vp, ep⟩ := tree_iface pa
    obtain ⟨tx, vx, ex⟩ := tree_iface xa
    obtain ⟨tX, vX, eX⟩ := tree_iface X
    obtain ⟨tY, vY, eY⟩ := tree_iface Y
    rw [ep, ex] at hH
    rw [ep, ex, eX, eY] at hX
    have HXY := Lib.hid (And.intro eX eY)
    obtain ⟨E, hEE⟩ : ∃ E, ends t = E := ⟨_, rfl⟩
    rw [hEE] at hE hH hX h16 HRS
    have HTT := Lib.hid (rfl : tree t = tree t)
    obtain ⟨B, hB⟩ : ∃ B, w.heap.size = B := ⟨_, rfl⟩
    clear hres ih hk hR hC hR1 hC1 ht e1 hEE htl ep ex eX eY
    rcases hE with ⟨v1, et, hE⟩ | ⟨v1, et, hE⟩
    · by_cases h2 : E ≤ 2
      · have HR1 : Hid (res = .iface 67 v1) := by have h := HRS.out; rw [if_pos h2, et] at h; exact h
        have h2i : (E : Int) ≤ 2 := by omega
        rw [et]
        have HE := Lib.hid hE
        clear HRS hE hH hX HTT et
        go_enter Try.func32, Try.ntmps32
        go_wp2_with fail
        refine (HE.out _).mono ?_
        rintro e w1 ⟨rfl, hb1⟩
        have HB := Lib.hid (((Below.refl w.heap.size w).alloc (Nat.le_refl _) (.cells #[.int .i64 (R : Int), .int .i64 (C : Int)] 23)).trans (hb1.mono (by simp)))
        clear hb1
        go_wp2_with fail
        go_ret
        exact ⟨by rw [HR1.out]; rfl, HB.out⟩
      · have HR1 : Hid (res = tree (.say true ra X (.say false ca X Y))) := by have h := HRS.out; rw [if_neg h2] at h; exact h
        have h2i : ¬ (E : Int) ≤ 2 := by omega
        rw [et] at hH ⊢
        have HE := Lib.hid hE
        have HH := Lib.hid (hH (by omega))
        obtain ⟨hx, hy⟩ := hX (by omega)
        have HX := Lib.hid hx
        have HY := Lib.hid hy
        clear HRS hE hH hX HTT et hx hy
        go_enter Try.func32, Try.ntmps32
        go_wp2_with fail
        refine (HE.out _).mono ?_
        rintro e w1 ⟨rfl, hb1⟩
        have n0 := heap_alloc_new w (.cells #[.int .i64 (R : Int), .int .i64 (C : Int)] 23)
        have k0 := (hb1.block _ (Array.getElem?_eq_some_iff.1 n0).1).trans n0
        have HB1 := Lib.hid (((Below.refl w.heap.size w).alloc (Nat.le_refl _) (.cells #[.int .i64 (R : Int), .int .i64 (C : Int)] 23)).trans (hb1.mono (by simp)))
        rw [hB] at k0
        have HK0 := Lib.hid k0
        obtain ⟨r0, r1⟩ := cells2 k0
        clear hb1 n0 k0 HE hB
        go_wp2_with fail
        refine (HH.out _).mono ?_
        rintro e w2 ⟨rfl, hb2⟩
        obtain ⟨D, hD⟩ : ∃ D, w2.heap.size = D := ⟨_, rfl⟩
        have k1 := (hb2.block _ (Array.getElem?_eq_some_iff.1 HK0.out).1).trans HK0.out
        have n1 := heap_alloc_new w2 (.cells #[.iface tp vp, .int .i64 (ra : Int), .int .i64 (ca : Int), .iface tx vx] 50)
        rw [hD] at n1
        have HB2 := Lib.hid (HB1.out.trans (hb2.mono HB1.out.size))
        have HL : Hid (Bl w (w2.alloc (.cells #[.iface tp vp, .int .i64 (ra : Int), .int .i64 (ca : Int), .iface tx vx] 50)) B D R C (.iface tp vp) (.int .i64 (ra : Int)) (.int .i64 (ca : Int)) (.iface tx vx)) := ⟨(heap_alloc_old w2 _ (Array.getElem?_eq_some_iff.1 k1).1).trans k1, n1, HB2.out.alloc HB2.out.size _⟩
        clear hb2 k1 n1 HB2 HB1 HK0 r0 r1 HH
        go_wp2_with fail
        generalize w2.alloc (.cells #[.iface tp vp, .int .i64 (ra : Int), .int .i64 (ca : Int), .iface tx vx] 50) = w3 at *
        refine wp_region_below (fun | 0 => .pointer (some ⟨D, 3, none⟩) | 1 => .iface tx vx | 2 => rect R C | 3 => .iface tX vX | 4 => .pointer (some ⟨D, 0, none⟩) | 5 => .iface tp vp | 6 => .pointer (some ⟨D, 1, none⟩) | 7 => rect ra ca | 8 => .iface tY vY | 9 => .iface tX vX | 10 => .iface tY vY | _ => undef) (by kernel_rfl) (by kernel_rfl) rfl ?conE ?enE
        case conE =>
          intro i o ho a wx hb hf
          match i, ho with
          | 0, ho =>
            obtain rfl := Option.some.inj ho
            have b6 : a.tmps[6]?.getD undef = .pointer (some ⟨D, 0, none⟩) := hf.2 6 (by kernel_rfl)
            exact wp_value (.pointer (some ⟨D, 3, none⟩)) (by unfold execOp; go_simp) ⟨rfl, Below.refl _ _⟩
          | 1, ho =>
            obtain rfl := Option.some.inj ho
            have e19 : a.tmps[19]?.getD undef = .pointer (some ⟨D, 3, none⟩) := hf.1 ⟨0, .data⟩ (by simp) rfl _ 19 rfl rfl
            obtain ⟨c0, c1, c2, c3⟩ := cells4 ((HL.out.later hb).cut)
            exact wp_value (.iface tx vx) (by unfold execOp; go_simp) ⟨rfl, Below.refl _ _⟩
          | 2, ho =>
            obtain rfl := Option.some.inj ho
            have b3 : a.tmps[3]?.getD undef = .pointer (some ⟨B, 0, none⟩) := hf.2 3 (by kernel_rfl)
            exact wp_load_row 23 (.tmp 3) rfl B (eval_get b3) 23 _ (0, 0) _ ((HL.out.later hb).rect) Try.underlying23 rfl (info_rect _ _) ⟨rfl, Below.refl _ _⟩
          | 3, ho =>
            obtain rfl := Option.some.inj ho
            have e20 : a.tmps[20]?.getD undef = .iface tx vx := hf.1 ⟨1, .data⟩ (by simp) rfl _ 20 rfl rfl
            have e21 : a.tmps[21]?.getD undef = rect R C := hf.1 ⟨2, .data⟩ (by simp) rfl _ 21 rfl rfl
            exact wp_enter 32 #[.iface tx vx, rect R C] (.iface tX vX) _ (by unfold execOp; go_simp) (HX.out wx) (fun w' h => ⟨rfl, h⟩)
          | 4, ho =>
            obtain rfl := Option.some.inj ho
            have b6 : a.tmps[6]?.getD undef = .pointer (some ⟨D, 0, none⟩) := hf.2 6 (by kernel_rfl)
            exact wp_value (.pointer (some ⟨D, 0, none⟩)) (by unfold execOp; go_simp) ⟨rfl, Below.refl _ _⟩
          | 5, ho =>
            obtain rfl := Option.some.inj ho
            have e23 : a.tmps[23]?.getD undef = .pointer (some ⟨D, 0, none⟩) := hf.1 ⟨4, .data⟩ (by simp) rfl _ 23 rfl rfl
            obtain ⟨c0, c1, c2, c3⟩ := cells4 ((HL.out.later hb).cut)
            exact wp_value (.iface tp vp) (by unfold execOp; go_simp) ⟨rfl, Below.refl _ _⟩
          | 6, ho =>
            obtain rfl := Option.some.inj ho
            have b6 : a.tmps[6]?.getD undef = .pointer (some ⟨D, 0, none⟩) := hf.2 6 (by kernel_rfl)
            exact wp_value (.pointer (some ⟨D, 1, none⟩)) (by unfold execOp; go_simp) ⟨rfl, Below.refl _ _⟩
          | 7, ho =>
            obtain rfl := Option.some.inj ho
            have e25 : a.tmps[25]?.getD undef = .pointer (some ⟨D, 1, none⟩) := hf.1 ⟨6, .data⟩ (by simp) rfl _ 25 rfl rfl
            obtain ⟨c0, c1, c2, c3⟩ := cells4 ((HL.out.later hb).cut)
            exact wp_value (rect ra ca) (by unfold execOp; go_simp) ⟨rfl, Below.refl _ _⟩
          | 8, ho =>
            obtain rfl := Option.some.inj ho
            have e24 : a.tmps[24]?.getD undef = .iface tp vp := hf.1 ⟨5, .data⟩ (by simp) rfl _ 24 rfl rfl
            have e26 : a.tmps[26]?.getD undef = rect ra ca := hf.1 ⟨7, .data⟩ (by simp) rfl _ 26 rfl rfl
            exact wp_enter 32 #[.iface tp vp, rect ra ca] (.iface tY vY) _ (by unfold execOp; go_simp) (HY.out wx) (fun w' h => ⟨rfl, h⟩)
          | 9, ho =>
            obtain rfl := Option.some.inj ho
            have e22 : a.tmps[22]?.getD undef = .iface tX vX := hf.1 ⟨3, .data⟩ (by simp) rfl _ 22 rfl rfl
            exact wp_value (.iface tX vX) (by unfold execOp; go_simp) ⟨rfl, Below.refl _ _⟩
          | 10, ho =>
            obtain rfl := Option.some.inj ho
            have e27 : a.tmps[27]?.getD undef = .iface tY vY := hf.1 ⟨8, .data⟩ (by simp) rfl _ 27 rfl rfl
            exact wp_value (.iface tY vY) (by unfold execOp; go_simp) ⟨rfl, Below.refl _ _⟩
          | q + 11, ho => simp at ho
        case enE =>
          intro w4 hb4
          have HL4 := Lib.hid (HL.out.later hb4)
          clear hb4 HL HX HY
          simp only [fill, Act.put]
          go_simp
          obtain ⟨c0, c1, c2, c3⟩ := cells4 HL4.out.cut
          have hlt : D < w4.heap.size := (Array.getElem?_eq_some_iff.1 HL4.out.cut).1
          have hn1 : D ≠ w4.heap.size := by omega
          have hn2 : w4.heap.size ≠ D := by omega
          go_wp2_with fail
          go_ret
          exact ⟨by rw [HR1.out]; simp only [tree, sayV, HXY.out.1, HXY.out.2, whoB]; rfl, HL4.out.below.alloc HL4.out.below.size _⟩
    · by_cases h2 : E ≤ 2
      · have HR1 : Hid (res = .iface 78 v1) := by have h := HRS.out; rw [if_pos h2, et] at h; exact h
        have h2i : (E : Int) ≤ 2 := by omega
        rw [et]
        have HE := Lib.hid hE
        clear HRS hE hH hX HTT et
        go_enter Try.func32, Try.ntmps32
        go_wp2_with fail
        refine (HE.out _).mono ?_
        rintro e w1 ⟨rfl, hb1⟩
        have HB := Lib.hid (((Below.refl w.heap.size w).alloc (Nat.le_refl _) (.cells #[.int .i64 (R : Int), .int .i64 (C : Int)] 23)).trans (hb1.mono (by simp)))
        clear hb1
        go_wp2_with fail
        go_ret
        exact ⟨by rw [HR1.out]; rfl, HB.out⟩
      · have HR1 : Hid (res = tree (.say true ra X (.say false ca X Y))) := by have h := HRS.out; rw [if_neg h2] at h; exact h
        have h2i : ¬ (E : Int) ≤ 2 := by omega
        rw [et] at hH ⊢
        have HE := Lib.hid hE
        have HH := Lib.hid (hH (by omega))
        obtain ⟨hx, hy⟩ := hX (by omega)
        have HX := Lib.hid hx
        have HY := Lib.hid hy
        clear HRS hE hH hX HTT et hx hy
        go_enter Try.func32, Try.ntmps32
        go_wp2_with fail
        refine (HE.out _).mono ?_
        rintro e w1 ⟨rfl, hb1⟩
        have n0 := heap_alloc_new w (.cells #[.int .i64 (R : Int), .int .i64 (C : Int)] 23)
        have k0 := (hb1.block _ (Array.getElem?_eq_some_iff.1 n0).1).trans n0
        have HB1 := Lib.hid (((Below.refl w.heap.size w).alloc (Nat.le_refl _) (.cells #[.int .i64 (R : Int), .int .i64 (C : Int)] 23)).trans (hb1.mono (by simp)))
        rw [hB] at k0
        have HK0 := Lib.hid k0
        obtain ⟨r0, r1⟩ := cells2 k0
        clear hb1 n0 k0 HE hB
        go_wp2_with fail
        refine (HH.out _).mono ?_
        rintro e w2 ⟨rfl, hb2⟩
        obtain ⟨D, hD⟩ : ∃ D, w2.heap.size = D := ⟨_, rfl⟩
        have k1 := (hb2.block _ (Array.getElem?_eq_some_iff.1 HK0.out).1).trans HK0.out
        have n1 := heap_alloc_new w2 (.cells #[.iface tp vp, .int .i64 (ra : Int), .int .i64 (ca : Int), .iface tx vx] 50)
        rw [hD] at n1
        have HB2 := Lib.hid (HB1.out.trans (hb2.mono HB1.out.size))
        have HL : Hid (Bl w (w2.alloc (.cells #[.iface tp vp, .int .i64 (ra : Int), .int .i64 (ca : Int), .iface tx vx] 50)) B D R C (.iface tp vp) (.int .i64 (ra : Int)) (.int .i64 (ca : Int)) (.iface tx vx)) := ⟨(heap_alloc_old w2 _ (Array.getElem?_eq_some_iff.1 k1).1).trans k1, n1, HB2.out.alloc HB2.out.size _⟩
        clear hb2 k1 n1 HB2 HB1 HK0 r0 r1 HH
        go_wp2_with fail
        generalize w2.alloc (.cells #[.iface tp vp, .int .i64 (ra : Int), .int .i64 (ca : Int), .iface tx vx] 50) = w3 at *
        refine wp_region_below (fun | 0 => .pointer (some ⟨D, 3, none⟩) | 1 => .iface tx vx | 2 => rect R C | 3 => .iface tX vX | 4 => .pointer (some ⟨D, 0, none⟩) | 5 => .iface tp vp | 6 => .pointer (some ⟨D, 1, none⟩) | 7 => rect ra ca | 8 => .iface tY vY | 9 => .iface tX vX | 10 => .iface tY vY | _ => undef) (by kernel_rfl) (by kernel_rfl) rfl ?conS ?enS
        case conS =>
          intro i o ho a wx hb hf
          match i, ho with
          | 0, ho =>
            obtain rfl := Option.some.inj ho
            have b6 : a.tmps[6]?.getD undef = .pointer (some ⟨D, 0, none⟩) := hf.2 6 (by kernel_rfl)
            exact wp_value (.pointer (some ⟨D, 3, none⟩)) (by unfold execOp; go_simp) ⟨rfl, Below.refl _ _⟩
          | 1, ho =>
            obtain rfl := Option.some.inj ho
            have e19 : a.tmps[19]?.getD undef = .pointer (some ⟨D, 3, none⟩) := hf.1 ⟨0, .data⟩ (by simp) rfl _ 19 rfl rfl
            obtain ⟨c0, c1, c2, c3⟩ := cells4 ((HL.out.later hb).cut)
            exact wp_value (.iface tx vx) (by unfold execOp; go_simp) ⟨rfl, Below.refl _ _⟩
          | 2, ho =>
            obtain rfl := Option.some.inj ho
            have b3 : a.tmps[3]?.getD undef = .pointer (some ⟨B, 0, none⟩) := hf.2 3 (by kernel_rfl)
            exact wp_load_row 23 (.tmp 3) rfl B (eval_get b3) 23 _ (0, 0) _ ((HL.out.later hb).rect) Try.underlying23 rfl (info_rect _ _) ⟨rfl, Below.refl _ _⟩
          | 3, ho =>
            obtain rfl := Option.some.inj ho
            have e20 : a.tmps[20]?.getD undef = .iface tx vx := hf.1 ⟨1, .data⟩ (by simp) rfl _ 20 rfl rfl
            have e21 : a.tmps[21]?.getD undef = rect R C := hf.1 ⟨2, .data⟩ (by simp) rfl _ 21 rfl rfl
            exact wp_enter 32 #[.iface tx vx, rect R C] (.iface tX vX) _ (by unfold execOp; go_simp) (HX.out wx) (fun w' h => ⟨rfl, h⟩)
          | 4, ho =>
            obtain rfl := Option.some.inj ho
            have b6 : a.tmps[6]?.getD undef = .pointer (some ⟨D, 0, none⟩) := hf.2 6 (by kernel_rfl)
            exact wp_value (.pointer (some ⟨D, 0, none⟩)) (by unfold execOp; go_simp) ⟨rfl, Below.refl _ _⟩
          | 5, ho =>
            obtain rfl := Option.some.inj ho
            have e23 : a.tmps[23]?.getD undef = .pointer (some ⟨D, 0, none⟩) := hf.1 ⟨4, .data⟩ (by simp) rfl _ 23 rfl rfl
            obtain ⟨c0, c1, c2, c3⟩ := cells4 ((HL.out.later hb).cut)
            exact wp_value (.iface tp vp) (by unfold execOp; go_simp) ⟨rfl, Below.refl _ _⟩
          | 6, ho =>
            obtain rfl := Option.some.inj ho
            have b6 : a.tmps[6]?.getD undef = .pointer (some ⟨D, 0, none⟩) := hf.2 6 (by kernel_rfl)
            exact wp_value (.pointer (some ⟨D, 1, none⟩)) (by unfold execOp; go_simp) ⟨rfl, Below.refl _ _⟩
          | 7, ho =>
            obtain rfl := Option.some.inj ho
            have e25 : a.tmps[25]?.getD undef = .pointer (some ⟨D, 1, none⟩) := hf.1 ⟨6, .data⟩ (by simp) rfl _ 25 rfl rfl
            obtain ⟨c0, c1, c2, c3⟩ := cells4 ((HL.out.later hb).cut)
            exact wp_value (rect ra ca) (by unfold execOp; go_simp) ⟨rfl, Below.refl _ _⟩
          | 8, ho =>
            obtain rfl := Option.some.inj ho
            have e24 : a.tmps[24]?.getD undef = .iface tp vp := hf.1 ⟨5, .data⟩ (by simp) rfl _ 24 rfl rfl
            have e26 : a.tmps[26]?.getD undef = rect ra ca := hf.1 ⟨7, .data⟩ (by simp) rfl _ 26 rfl rfl
            exact wp_enter 32 #[.iface tp vp, rect ra ca] (.iface tY vY) _ (by unfold execOp; go_simp) (HY.out wx) (fun w' h => ⟨rfl, h⟩)
          | 9, ho =>
            obtain rfl := Option.some.inj ho
            have e22 : a.tmps[22]?.getD undef = .iface tX vX := hf.1 ⟨3, .data⟩ (by simp) rfl _ 22 rfl rfl
            exact wp_value (.iface tX vX) (by unfold execOp; go_simp) ⟨rfl, Below.refl _ _⟩
          | 10, ho =>
            obtain rfl := Option.some.inj ho
            have e27 : a.tmps[27]?.getD undef = .iface tY vY := hf.1 ⟨8, .data⟩ (by simp) rfl _ 27 rfl rfl
            exact wp_value (.iface tY vY) (by unfold execOp; go_simp) ⟨rfl, Below.refl _ _⟩
          | q + 11, ho => simp at ho
        case enS =>
          intro w4 hb4
          have HL4 := Lib.hid (HL.out.later hb4)
          clear hb4 HL HX HY
          simp only [fill, Act.put]
          go_simp
          obtain ⟨c0, c1, c2, c3⟩ := cells4 HL4.out.cut
          have hlt : D < w4.heap.size := (Array.getElem?_eq_some_iff.1 HL4.out.cut).1
          have hn1 : D ≠ w4.heap.size := by omega
          have hn2 : w4.heap.size ≠ D := by omega
          go_wp2_with fail
          go_ret
          exact ⟨by rw [HR1.out]; simp only [tree, sayV, HXY.out.1, HXY.out.2, whoB]; rfl, HL4.out.below.alloc HL4.out.below.size _⟩
end Go.Proofs.Ytgfhahlkffagaaa.BalI
