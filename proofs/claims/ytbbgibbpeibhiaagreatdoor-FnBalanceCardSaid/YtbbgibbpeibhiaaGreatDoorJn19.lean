/-
  Texts of one seat, joined: BalI, FreeC, AppendTo, TextOf.
-/
import Derived.Test.YtbbgibbpeibhiaaGreatDoorJn18
import Derived.Test.YtbbgibbpeibhiaaGreatDoorJn6
import Derived.Test.YtbbgibbpeibhiaaGreatDoorJn4
import Derived.Test.YtbbgibbpeibhiaaGreatDoorJn10
import Derived.Test.YtbbgibbpeibhiaaGreatDoorJn8
import Derived.Laws.IdiomStrings
/-
  What comes of balancing a protocol, in the program.
-/
namespace Go.Proofs.YtbbgibbpeibhiaaGreatDoor.BalI
open Go.RowKit Go.Shelf Go.Proofs.YtbbgibbpeibhiaaGreatDoor.Plain Go.Proofs.YtbbgibbpeibhiaaGreatDoor.Tree Go.Proofs.YtbbgibbpeibhiaaGreatDoor.Read Go.Proofs.YtbbgibbpeibhiaaGreatDoor.Rect Go.Proofs.YtbbgibbpeibhiaaGreatDoor.TurnC Go.Proofs.YtbbgibbpeibhiaaGreatDoor.FreeL Go.Proofs.YtbbgibbpeibhiaaGreatDoor.TrimT Go.Proofs.YtbbgibbpeibhiaaGreatDoor.CutT Go.Proofs.YtbbgibbpeibhiaaGreatDoor.CutI
open Go.Proofs.YtbbgibbpeibhiaaGreatDoor.NodeH (eval_get)
open Go.Proofs.YtbbgibbpeibhiaaGreatDoor.Count (cells4 count_ends)
open Go.Proofs.YtbbgibbpeibhiaaGreatDoor.TrimI (cells2 info_rect one_rect)
open Go.Proofs.YtbbgibbpeibhiaaGreatDoor.Free (fill wp_value wp_enter wp_load_row freeB)
set_option linter.unusedVariables false
set_option linter.unusedSimpArgs false

/-- the blocks of a call: the rectangle and the cut -/
structure Bl (w wr : World) (B D R C : Nat) (c0 c1 c2 c3 : Value) : Prop where
  rect : wr.heap[B]? = some (.cells #[.int .i64 (R : Int), .int .i64 (C : Int)] 45 (0, 0))
  cut : wr.heap[D]? = some (.cells #[c0, c1, c2, c3] 77 (0, 0))
  below : Below w.heap.size w wr
theorem Bl.later {w wr w2 : World} {B D R C : Nat} {c0 c1 c2 c3 : Value} (h : Bl w wr B D R C c0 c1 c2 c3) (hb : Below wr.heap.size wr w2) : Bl w w2 B D R C c0 c1 c2 c3 :=
  have k : ∀ {g : Nat} {o : Obj}, wr.heap[g]? = some o → w2.heap[g]? = some o := fun e => (hb.block _ (Array.getElem?_eq_some_iff.1 e).1).trans e
  ⟨k h.rect, k h.cut, h.below.trans (hb.mono h.below.size)⟩
theorem mid_rect (w : World) (D : Nat) (x y : Value) (a b : Int) (h : w.heap[D]? = some (.cells #[x, .int .i64 a, .int .i64 b, y] 77 (0, 0))) : (Instr.loadAt 45 (.pointer (some ⟨D, 1, none⟩))).run Tryz.prog w = .ok (rect a b) w := by
  obtain ⟨c0, c1, c2, c3⟩ := cells4 h
  go_simp

set_option maxHeartbeats 8000000 in
set_option maxRecDepth 100000 in
theorem bal_to : ∀ (k : Nat) (t : T) (R C : Nat) (w : World), ends t ≤ k → ends t ≤ 16 → R < 256 → C < 256 → 1 ≤ R → 1 ≤ C → Tight t R C →
    Calls Tryz.prog 19 #[tree t, rect R C] w fun e w' => e = .returned (tree (balI k t R C)) ∧ Below w.heap.size w w' := by
  intro k
  induction k with
  | zero =>
    intro t R C w h
    have := ends_pos t
    omega
  | succ k ih =>
    intro t R C w hk h16 hR hC hR1 hC1 ht
    have htl := text_ends t
    have hE := count_ends t (by omega)
    unfold Go.Proofs.YtbbgibbpeibhiaaGreatDoor.Count.Node Go.Proofs.YtbbgibbpeibhiaaGreatDoor.Count.EndsC at hE
    have e1 := cut_ends (ends t) t R C
    have hH : 3 ≤ ends t → ∀ W : World, Calls Tryz.prog 36 #[tree t, rect R C, .int .i64 (ends t : Int)] W fun e w' => e = .returned (cutV (cutT (ends t) t R C)) ∧ Below W.heap.size W w' := fun h3 W => heavy_to (ends t) (by omega) (by omega) t (by omega) R C W hR hC
    have hX : 3 ≤ ends t → (∀ W : World, Calls Tryz.prog 19 #[tree (cutT (ends t) t R C).rest, rect R C] W fun e w' => e = .returned (tree (balI k (cutT (ends t) t R C).rest R C)) ∧ Below W.heap.size W w') ∧
        (∀ W : World, Calls Tryz.prog 19 #[tree (cutT (ends t) t R C).part, rect (cutT (ends t) t R C).rows (cutT (ends t) t R C).cols] W fun e w' => e = .returned (tree (balI k (cutT (ends t) t R C).part (cutT (ends t) t R C).rows (cutT (ends t) t R C).cols)) ∧ Below W.heap.size W w') := by
      intro h3
      have e2 := cut_most (ends t) (by omega) t R C
      have e3 := cut_least (ends t) t R C (by omega)
      obtain ⟨g1, g2, g3, g4, g5, g6, g7, g8⟩ := cut_rect (ends t) t R C hR hC hR1 hC1 ht
      exact ⟨fun W => ih _ R C W (by omega) (by omega) hR hC hR1 hC1 g8, fun W => ih _ _ _ W (by omega) (by omega) g1 g2 g3 g4 g7⟩
    obtain ⟨res, hres⟩ : ∃ res, tree (balI (k + 1) t R C) = res := ⟨_, rfl⟩
    rw [hres]
    have HRS : Hid (res = tree (if ends t ≤ 2 then t else .say true (cutT (ends t) t R C).rows (balI k (cutT (ends t) t R C).rest R C) (.say false (cutT (ends t) t R C).cols (balI k (cutT (ends t) t R C).rest R C) (balI k (cutT (ends t) t R C).part (cutT (ends t) t R C).rows (cutT (ends t) t R C).cols)))) := by
      show _ = _
      rw [← hres]
      rfl
    generalize balI k (cutT (ends t) t R C).rest R C = X at *
    generalize balI k (cutT (ends t) t R C).part (cutT (ends t) t R C).rows (cutT (ends t) t R C).cols = Y at *
    generalize cutT (ends t) t R C = cu at *
    obtain ⟨pa, ra, ca, xa⟩ := cu
    unfold cutV at hH
    simp only at hH hX e1 HRS
    obtain ⟨tp, vp, ep⟩ := tree_iface pa
    obtain ⟨tx, vx, ex⟩ := tree_iface xa
    obtain ⟨tX, vX, eX⟩ := tree_iface X
    obtain ⟨tY, vY, eY⟩ := tree_iface Y
    rw [ep, ex] at hH
    rw [ep, ex, eX, eY] at hX
    have HXY := Lib.hid (And.intro eX eY)
    obtain ⟨E, hEE⟩ : ∃ E, ends t = E := ⟨_, rfl⟩
    rw [hEE] at hE hH hX h16 HRS
    have HTT := Lib.hid (rfl : tree t = tree t)
    obtain ⟨B, hB⟩ : ∃ B, w.heap.size = B := ⟨_, rfl⟩
    clear hres ih hk hR hC hR1 hC1 ht e1 hEE htl ep ex eX eY
    rcases hE with ⟨v1, et, hE⟩ | ⟨v1, et, hE⟩
    · by_cases h2 : E ≤ 2
      · have HR1 : Hid (res = .iface 61 v1) := by have h := HRS.out; rw [if_pos h2, et] at h; exact h
        have h2i : (E : Int) ≤ 2 := by omega
        rw [et]
        have HE := Lib.hid hE
        clear HRS hE hH hX HTT et
        go_enter Tryz.func19, Tryz.ntmps19
        go_wp2_with fail
        refine (HE.out _).mono ?_
        rintro e w1 ⟨rfl, hb1⟩
        have HB := Lib.hid (((Below.refl w.heap.size w).alloc (Nat.le_refl _) (.cells #[.int .i64 (R : Int), .int .i64 (C : Int)] 45)).trans (hb1.mono (by simp)))
        clear hb1
        go_wp2_with fail
        go_ret
        exact ⟨by rw [HR1.out]; rfl, HB.out⟩
      · have HR1 : Hid (res = tree (.say true ra X (.say false ca X Y))) := by have h := HRS.out; rw [if_neg h2] at h; exact h
        have h2i : ¬ (E : Int) ≤ 2 := by omega
        rw [et] at hH ⊢
        have HE := Lib.hid hE
        have HH := Lib.hid (hH (by omega))
        obtain ⟨hx, hy⟩ := hX (by omega)
        have HX := Lib.hid hx
        have HY := Lib.hid hy
        clear HRS hE hH hX HTT et hx hy
        go_enter Tryz.func19, Tryz.ntmps19
        go_wp2_with fail
        refine (HE.out _).mono ?_
        rintro e w1 ⟨rfl, hb1⟩
        have n0 := heap_alloc_new w (.cells #[.int .i64 (R : Int), .int .i64 (C : Int)] 45)
        have k0 := (hb1.block _ (Array.getElem?_eq_some_iff.1 n0).1).trans n0
        have HB1 := Lib.hid (((Below.refl w.heap.size w).alloc (Nat.le_refl _) (.cells #[.int .i64 (R : Int), .int .i64 (C : Int)] 45)).trans (hb1.mono (by simp)))
        rw [hB] at k0
        have HK0 := Lib.hid k0
        obtain ⟨r0, r1⟩ := cells2 k0
        clear hb1 n0 k0 HE hB
        go_wp2_with fail
        refine (HH.out _).mono ?_
        rintro e w2 ⟨rfl, hb2⟩
        obtain ⟨D, hD⟩ : ∃ D, w2.heap.size = D := ⟨_, rfl⟩
        have k1 := (hb2.block _ (Array.getElem?_eq_some_iff.1 HK0.out).1).trans HK0.out
        have n1 := heap_alloc_new w2 (.cells #[.iface tp vp, .int .i64 (ra : Int), .int .i64 (ca : Int), .iface tx vx] 77)
        rw [hD] at n1
        have HB2 := Lib.hid (HB1.out.trans (hb2.mono HB1.out.size))
        have HL : Hid (Bl w (w2.alloc (.cells #[.iface tp vp, .int .i64 (ra : Int), .int .i64 (ca : Int), .iface tx vx] 77)) B D R C (.iface tp vp) (.int .i64 (ra : Int)) (.int .i64 (ca : Int)) (.iface tx vx)) := ⟨(heap_alloc_old w2 _ (Array.getElem?_eq_some_iff.1 k1).1).trans k1, n1, HB2.out.alloc HB2.out.size _⟩
        clear hb2 k1 n1 HB2 HB1 HK0 r0 r1 HH
        go_wp2_with fail
        generalize w2.alloc (.cells #[.iface tp vp, .int .i64 (ra : Int), .int .i64 (ca : Int), .iface tx vx] 77) = w3 at *
        refine wp_region_below (fun | 0 => .pointer (some ⟨D, 3, none⟩) | 1 => .iface tx vx | 2 => rect R C | 3 => .iface tX vX | 4 => .pointer (some ⟨D, 0, none⟩) | 5 => .iface tp vp | 6 => .pointer (some ⟨D, 1, none⟩) | 7 => rect ra ca | 8 => .iface tY vY | 9 => .iface tX vX | 10 => .iface tY vY | _ => undef) (by kernel_rfl) (by kernel_rfl) rfl ?conE ?enE
        case conE =>
          intro i o ho a wx hb hf
          match i, ho with
          | 0, ho =>
            obtain rfl := Option.some.inj ho
            have b6 : a.tmps[6]?.getD undef = .pointer (some ⟨D, 0, none⟩) := hf.2 6 (by kernel_rfl)
            exact wp_value (.pointer (some ⟨D, 3, none⟩)) (by unfold execOp; go_simp) ⟨rfl, Below.refl _ _⟩
          | 1, ho =>
            obtain rfl := Option.some.inj ho
            have e19 : a.tmps[19]?.getD undef = .pointer (some ⟨D, 3, none⟩) := hf.1 ⟨0, .data⟩ (by simp) rfl _ 19 rfl rfl
            obtain ⟨c0, c1, c2, c3⟩ := cells4 ((HL.out.later hb).cut)
            exact wp_value (.iface tx vx) (by unfold execOp; go_simp) ⟨rfl, Below.refl _ _⟩
          | 2, ho =>
            obtain rfl := Option.some.inj ho
            have b3 : a.tmps[3]?.getD undef = .pointer (some ⟨B, 0, none⟩) := hf.2 3 (by kernel_rfl)
            exact wp_load_row 45 (.tmp 3) rfl B (eval_get b3) 45 _ (0, 0) _ ((HL.out.later hb).rect) Tryz.underlying45 rfl (info_rect _ _) ⟨rfl, Below.refl _ _⟩
          | 3, ho =>
            obtain rfl := Option.some.inj ho
            have e20 : a.tmps[20]?.getD undef = .iface tx vx := hf.1 ⟨1, .data⟩ (by simp) rfl _ 20 rfl rfl
            have e21 : a.tmps[21]?.getD undef = rect R C := hf.1 ⟨2, .data⟩ (by simp) rfl _ 21 rfl rfl
            exact wp_enter 19 #[.iface tx vx, rect R C] (.iface tX vX) _ (by unfold execOp; go_simp) (HX.out wx) (fun w' h => ⟨rfl, h⟩)
          | 4, ho =>
            obtain rfl := Option.some.inj ho
            have b6 : a.tmps[6]?.getD undef = .pointer (some ⟨D, 0, none⟩) := hf.2 6 (by kernel_rfl)
            exact wp_value (.pointer (some ⟨D, 0, none⟩)) (by unfold execOp; go_simp) ⟨rfl, Below.refl _ _⟩
          | 5, ho =>
            obtain rfl := Option.some.inj ho
            have e23 : a.tmps[23]?.getD undef = .pointer (some ⟨D, 0, none⟩) := hf.1 ⟨4, .data⟩ (by simp) rfl _ 23 rfl rfl
            obtain ⟨c0, c1, c2, c3⟩ := cells4 ((HL.out.later hb).cut)
            exact wp_value (.iface tp vp) (by unfold execOp; go_simp) ⟨rfl, Below.refl _ _⟩
          | 6, ho =>
            obtain rfl := Option.some.inj ho
            have b6 : a.tmps[6]?.getD undef = .pointer (some ⟨D, 0, none⟩) := hf.2 6 (by kernel_rfl)
            exact wp_value (.pointer (some ⟨D, 1, none⟩)) (by unfold execOp; go_simp) ⟨rfl, Below.refl _ _⟩
          | 7, ho =>
            obtain rfl := Option.some.inj ho
            have e25 : a.tmps[25]?.getD undef = .pointer (some ⟨D, 1, none⟩) := hf.1 ⟨6, .data⟩ (by simp) rfl _ 25 rfl rfl
            obtain ⟨c0, c1, c2, c3⟩ := cells4 ((HL.out.later hb).cut)
            exact wp_value (rect ra ca) (by unfold execOp; go_simp) ⟨rfl, Below.refl _ _⟩
          | 8, ho =>
            obtain rfl := Option.some.inj ho
            have e24 : a.tmps[24]?.getD undef = .iface tp vp := hf.1 ⟨5, .data⟩ (by simp) rfl _ 24 rfl rfl
            have e26 : a.tmps[26]?.getD undef = rect ra ca := hf.1 ⟨7, .data⟩ (by simp) rfl _ 26 rfl rfl
            exact wp_enter 19 #[.iface tp vp, rect ra ca] (.iface tY vY) _ (by unfold execOp; go_simp) (HY.out wx) (fun w' h => ⟨rfl, h⟩)
          | 9, ho =>
            obtain rfl := Option.some.inj ho
            have e22 : a.tmps[22]?.getD undef = .iface tX vX := hf.1 ⟨3, .data⟩ (by simp) rfl _ 22 rfl rfl
            exact wp_value (.iface tX vX) (by unfold execOp; go_simp) ⟨rfl, Below.refl _ _⟩
          | 10, ho =>
            obtain rfl := Option.some.inj ho
            have e27 : a.tmps[27]?.getD undef = .iface tY vY := hf.1 ⟨8, .data⟩ (by simp) rfl _ 27 rfl rfl
            exact wp_value (.iface tY vY) (by unfold execOp; go_simp) ⟨rfl, Below.refl _ _⟩
          | q + 11, ho => simp at ho
        case enE =>
          intro w4 hb4
          have HL4 := Lib.hid (HL.out.later hb4)
          clear hb4 HL HX HY
          simp only [fill, Act.put]
          go_simp
          obtain ⟨c0, c1, c2, c3⟩ := cells4 HL4.out.cut
          have hlt : D < w4.heap.size := (Array.getElem?_eq_some_iff.1 HL4.out.cut).1
          have hn1 : D ≠ w4.heap.size := by omega
          have hn2 : w4.heap.size ≠ D := by omega
          go_wp2_with fail
          go_ret
          exact ⟨by rw [HR1.out]; simp only [tree, sayV, HXY.out.1, HXY.out.2, whoB]; rfl, HL4.out.below.alloc HL4.out.below.size _⟩
    · by_cases h2 : E ≤ 2
      · have HR1 : Hid (res = .iface 81 v1) := by have h := HRS.out; rw [if_pos h2, et] at h; exact h
        have h2i : (E : Int) ≤ 2 := by omega
        rw [et]
        have HE := Lib.hid hE
        clear HRS hE hH hX HTT et
        go_enter Tryz.func19, Tryz.ntmps19
        go_wp2_with fail
        refine (HE.out _).mono ?_
        rintro e w1 ⟨rfl, hb1⟩
        have HB := Lib.hid (((Below.refl w.heap.size w).alloc (Nat.le_refl _) (.cells #[.int .i64 (R : Int), .int .i64 (C : Int)] 45)).trans (hb1.mono (by simp)))
        clear hb1
        go_wp2_with fail
        go_ret
        exact ⟨by rw [HR1.out]; rfl, HB.out⟩
      · have HR1 : Hid (res = tree (.say true ra X (.say false ca X Y))) := by have h := HRS.out; rw [if_neg h2] at h; exact h
        have h2i : ¬ (E : Int) ≤ 2 := by omega
        rw [et] at hH ⊢
        have HE := Lib.hid hE
        have HH := Lib.hid (hH (by omega))
        obtain ⟨hx, hy⟩ := hX (by omega)
        have HX := Lib.hid hx
        have HY := Lib.hid hy
        clear HRS hE hH hX HTT et hx hy
        go_enter Tryz.func19, Tryz.ntmps19
        go_wp2_with fail
        refine (HE.out _).mono ?_
        rintro e w1 ⟨rfl, hb1⟩
        have n0 := heap_alloc_new w (.cells #[.int .i64 (R : Int), .int .i64 (C : Int)] 45)
        have k0 := (hb1.block _ (Array.getElem?_eq_some_iff.1 n0).1).trans n0
        have HB1 := Lib.hid (((Below.refl w.heap.size w).alloc (Nat.le_refl _) (.cells #[.int .i64 (R : Int), .int .i64 (C : Int)] 45)).trans (hb1.mono (by simp)))
        rw [hB] at k0
        have HK0 := Lib.hid k0
        obtain ⟨r0, r1⟩ := cells2 k0
        clear hb1 n0 k0 HE hB
        go_wp2_with fail
        refine (HH.out _).mono ?_
        rintro e w2 ⟨rfl, hb2⟩
        obtain ⟨D, hD⟩ : ∃ D, w2.heap.size = D := ⟨_, rfl⟩
        have k1 := (hb2.block _ (Array.getElem?_eq_some_iff.1 HK0.out).1).trans HK0.out
        have n1 := heap_alloc_new w2 (.cells #[.iface tp vp, .int .i64 (ra : Int), .int .i64 (ca : Int), .iface tx vx] 77)
        rw [hD] at n1
        have HB2 := Lib.hid (HB1.out.trans (hb2.mono HB1.out.size))
        have HL : Hid (Bl w (w2.alloc (.cells #[.iface tp vp, .int .i64 (ra : Int), .int .i64 (ca : Int), .iface tx vx] 77)) B D R C (.iface tp vp) (.int .i64 (ra : Int)) (.int .i64 (ca : Int)) (.iface tx vx)) := ⟨(heap_alloc_old w2 _ (Array.getElem?_eq_some_iff.1 k1).1).trans k1, n1, HB2.out.alloc HB2.out.size _⟩
        clear hb2 k1 n1 HB2 HB1 HK0 r0 r1 HH
        go_wp2_with fail
        generalize w2.alloc (.cells #[.iface tp vp, .int .i64 (ra : Int), .int .i64 (ca : Int), .iface tx vx] 77) = w3 at *
        refine wp_region_below (fun | 0 => .pointer (some ⟨D, 3, none⟩) | 1 => .iface tx vx | 2 => rect R C | 3 => .iface tX vX | 4 => .pointer (some ⟨D, 0, none⟩) | 5 => .iface tp vp | 6 => .pointer (some ⟨D, 1, none⟩) | 7 => rect ra ca | 8 => .iface tY vY | 9 => .iface tX vX | 10 => .iface tY vY | _ => undef) (by kernel_rfl) (by kernel_rfl) rfl ?conS ?enS
        case conS =>
          intro i o ho a wx hb hf
          match i, ho with
          | 0, ho =>
            obtain rfl := Option.some.inj ho
            have b6 : a.tmps[6]?.getD undef = .pointer (some ⟨D, 0, none⟩) := hf.2 6 (by kernel_rfl)
            exact wp_value (.pointer (some ⟨D, 3, none⟩)) (by unfold execOp; go_simp) ⟨rfl, Below.refl _ _⟩
          | 1, ho =>
            obtain rfl := Option.some.inj ho
            have e19 : a.tmps[19]?.getD undef = .pointer (some ⟨D, 3, none⟩) := hf.1 ⟨0, .data⟩ (by simp) rfl _ 19 rfl rfl
            obtain ⟨c0, c1, c2, c3⟩ := cells4 ((HL.out.later hb).cut)
            exact wp_value (.iface tx vx) (by unfold execOp; go_simp) ⟨rfl, Below.refl _ _⟩
          | 2, ho =>
            obtain rfl := Option.some.inj ho
            have b3 : a.tmps[3]?.getD undef = .pointer (some ⟨B, 0, none⟩) := hf.2 3 (by kernel_rfl)
            exact wp_load_row 45 (.tmp 3) rfl B (eval_get b3) 45 _ (0, 0) _ ((HL.out.later hb).rect) Tryz.underlying45 rfl (info_rect _ _) ⟨rfl, Below.refl _ _⟩
          | 3, ho =>
            obtain rfl := Option.some.inj ho
            have e20 : a.tmps[20]?.getD undef = .iface tx vx := hf.1 ⟨1, .data⟩ (by simp) rfl _ 20 rfl rfl
            have e21 : a.tmps[21]?.getD undef = rect R C := hf.1 ⟨2, .data⟩ (by simp) rfl _ 21 rfl rfl
            exact wp_enter 19 #[.iface tx vx, rect R C] (.iface tX vX) _ (by unfold execOp; go_simp) (HX.out wx) (fun w' h => ⟨rfl, h⟩)
          | 4, ho =>
            obtain rfl := Option.some.inj ho
            have b6 : a.tmps[6]?.getD undef = .pointer (some ⟨D, 0, none⟩) := hf.2 6 (by kernel_rfl)
            exact wp_value (.pointer (some ⟨D, 0, none⟩)) (by unfold execOp; go_simp) ⟨rfl, Below.refl _ _⟩
          | 5, ho =>
            obtain rfl := Option.some.inj ho
            have e23 : a.tmps[23]?.getD undef = .pointer (some ⟨D, 0, none⟩) := hf.1 ⟨4, .data⟩ (by simp) rfl _ 23 rfl rfl
            obtain ⟨c0, c1, c2, c3⟩ := cells4 ((HL.out.later hb).cut)
            exact wp_value (.iface tp vp) (by unfold execOp; go_simp) ⟨rfl, Below.refl _ _⟩
          | 6, ho =>
            obtain rfl := Option.some.inj ho
            have b6 : a.tmps[6]?.getD undef = .pointer (some ⟨D, 0, none⟩) := hf.2 6 (by kernel_rfl)
            exact wp_value (.pointer (some ⟨D, 1, none⟩)) (by unfold execOp; go_simp) ⟨rfl, Below.refl _ _⟩
          | 7, ho =>
            obtain rfl := Option.some.inj ho
            have e25 : a.tmps[25]?.getD undef = .pointer (some ⟨D, 1, none⟩) := hf.1 ⟨6, .data⟩ (by simp) rfl _ 25 rfl rfl
            obtain ⟨c0, c1, c2, c3⟩ := cells4 ((HL.out.later hb).cut)
            exact wp_value (rect ra ca) (by unfold execOp; go_simp) ⟨rfl, Below.refl _ _⟩
          | 8, ho =>
            obtain rfl := Option.some.inj ho
            have e24 : a.tmps[24]?.getD undef = .iface tp vp := hf.1 ⟨5, .data⟩ (by simp) rfl _ 24 rfl rfl
            have e26 : a.tmps[26]?.getD undef = rect ra ca := hf.1 ⟨7, .data⟩ (by simp) rfl _ 26 rfl rfl
            exact wp_enter 19 #[.iface tp vp, rect ra ca] (.iface tY vY) _ (by unfold execOp; go_simp) (HY.out wx) (fun w' h => ⟨rfl, h⟩)
          | 9, ho =>
            obtain rfl := Option.some.inj ho
            have e22 : a.tmps[22]?.getD undef = .iface tX vX := hf.1 ⟨3, .data⟩ (by simp) rfl _ 22 rfl rfl
            exact wp_value (.iface tX vX) (by unfold execOp; go_simp) ⟨rfl, Below.refl _ _⟩
          | 10, ho =>
            obtain rfl := Option.some.inj ho
            have e27 : a.tmps[27]?.getD undef = .iface tY vY := hf.1 ⟨8, .data⟩ (by simp) rfl _ 27 rfl rfl
            exact wp_value (.iface tY vY) (by unfold execOp; go_simp) ⟨rfl, Below.refl _ _⟩
          | q + 11, ho => simp at ho
        case enS =>
          intro w4 hb4
          have HL4 := Lib.hid (HL.out.later hb4)
          clear hb4 HL HX HY
          simp only [fill, Act.put]
          go_simp
          obtain ⟨c0, c1, c2, c3⟩ := cells4 HL4.out.cut
          have hlt : D < w4.heap.size := (Array.getElem?_eq_some_iff.1 HL4.out.cut).1
          have hn1 : D ≠ w4.heap.size := by omega
          have hn2 : w4.heap.size ≠ D := by omega
          go_wp2_with fail
          go_ret
          exact ⟨by rw [HR1.out]; simp only [tree, sayV, HXY.out.1, HXY.out.2, whoB]; rfl, HL4.out.below.alloc HL4.out.below.size _⟩
end Go.Proofs.YtbbgibbpeibhiaaGreatDoor.BalI

/-
  A region that draws its order, with three operations that turn the world and come one after another (each takes what the one before gives), and others that only read: each walked once.
-/
namespace Go.Proofs.YtbbgibbpeibhiaaGreatDoor.FreeC
open Go Go.RowKit Go.Proofs.YtbbgibbpeibhiaaGreatDoor.Free Go.Proofs.YtbbgibbpeibhiaaGreatDoor.FreeT Go.Proofs.YtbbgibbpeibhiaaGreatDoor.FreeW
set_option linter.unusedVariables false

section
variable {P : Program} {ops : Array Oper}

set_option maxHeartbeats 1000000 in
theorem wp_region_chain3 {id n : Nat} {a0 : Act} {w0 : World} {Q : Exit → Act → World → Prop} (con : Nat → Value) (kn : Nat → Bool) (s1 s2 s3 d1 d2 d3 : Nat) (o1 o2 o3 : Oper)
    (I0 : World → Prop) (I1 : Value → World → Prop) (I2 : Value → Value → World → Prop) (I3 : Value → Value → Value → World → Prop) (J : World → Prop)
    (hm : P.follows .mixedOrders = true) (hB : freeB ops n = true) (hn : a0.tmps.size = n)
    (hs1 : ops[s1]? = some o1) (hd1 : o1.dst = some d1) (hs2 : ops[s2]? = some o2) (hd2 : o2.dst = some d2) (hs3 : ops[s3]? = some o3) (hd3 : o3.dst = some d3)
    (hk : kn = fun i => !(i == s1) && !(i == s2) && !(i == s3)) (hne : [s1, s2, s3].Nodup) (hdd : [d1, d2, d3].Nodup)
    (hdep12 : ∃ e ∈ o2.after, Region.binds .any e = true ∧ e.on = s1) (hdep23 : ∃ e ∈ o3.after, Region.binds .any e = true ∧ e.on = s2)
    (hoth : ∀ (i : Nat) (o : Oper), ops[i]? = some o → kn i = true → o.dst ≠ some d1 ∧ o.dst ≠ some d2 ∧ o.dst ≠ some d3)
    (h0 : I0 { w0 with drawn := w0.drawn + 1 })
    (J0 : ∀ w, I0 w → J w) (J1 : ∀ v w, I1 v w → J w) (J2 : ∀ v u w, I2 v u w → J w) (J3 : ∀ v u t w, I3 v u t w → J w)
    (hcon : ∀ (i : Nat) (o : Oper), ops[i]? = some o → kn i = true → ∀ (a : Act) (w : World), J w → FactsA ops a0 con kn o a → ((∃ e ∈ o3.after, Region.binds .any e = true ∧ e.on = i) → a.tmps[d3]?.getD undef = a0.tmps[d3]?.getD undef) →
      o.wp P a w (fun a' w' => a' = a.put o.dst (con i) ∧ w' = w) Q)
    (h1 : ∀ (a : Act) (w : World), I0 w → FactsA ops a0 con kn o1 a → o1.wp P a w (fun a' w' => ∃ v, a' = a.put o1.dst v ∧ I1 v w') Q)
    (h2 : ∀ (a : Act) (w : World) (v : Value), I1 v w → a.tmps[d1]? = some v → FactsA ops a0 con kn o2 a → o2.wp P a w (fun a' w' => ∃ u, a' = a.put o2.dst u ∧ I2 v u w') Q)
    (h3 : ∀ (a : Act) (w : World) (v u : Value), I2 v u w → a.tmps[d1]? = some v → a.tmps[d2]? = some u → FactsA ops a0 con kn o3 a → o3.wp P a w (fun a' w' => ∃ t, a' = a.put o3.dst t ∧ I3 v u t w') Q)
    (hend : ∀ (v u t : Value) (w : World), I3 v u t w → Q .normal (fill ops.toList (fun i => if i = s1 then v else if i = s2 then u else if i = s3 then t else con i) 0 a0) w) : (Code.region id ops true).wp P Q a0 w0 := by
  have hB2 := hB
  simp only [freeB, Bool.and_eq_true, decide_eq_true_eq] at hB2
  obtain ⟨⟨q1, q2⟩, _⟩ := hB2
  have hdn : ∀ (o : Oper) (k : Tmp), o ∈ ops.toList → o.dst = some k → k < n := fun o k ho hk => by
    have := List.all_eq_true.1 q1 o ho
    simp only [Bool.and_eq_true, hk] at this
    simpa using this.2
  have hd1n : d1 < n := hdn o1 d1 (by simpa using Array.mem_of_getElem? hs1) hd1
  have hd2n : d2 < n := hdn o2 d2 (by simpa using Array.mem_of_getElem? hs2) hd2
  have hd3n : d3 < n := hdn o3 d3 (by simpa using Array.mem_of_getElem? hs3) hd3
  obtain ⟨n12, n13, n23⟩ : s1 ≠ s2 ∧ s1 ≠ s3 ∧ s2 ≠ s3 := by
    simp only [List.nodup_cons, List.mem_cons, List.not_mem_nil, or_false, not_or] at hne
    exact ⟨hne.1.1, hne.1.2, hne.2.1⟩
  obtain ⟨m12, m13, m23⟩ : d1 ≠ d2 ∧ d1 ≠ d3 ∧ d2 ≠ d3 := by
    simp only [List.nodup_cons, List.mem_cons, List.not_mem_nil, or_false, not_or] at hdd
    exact ⟨hdd.1.1, hdd.1.2, hdd.2.1⟩
  have hkt : ∀ i, kn i = true ↔ i ≠ s1 ∧ i ≠ s2 ∧ i ≠ s3 := fun i => by
    rw [hk]; simp [and_assoc]
  let Y : Nat → Value → Act → World → Prop := fun i v a w => kn i = true → v = con i
  let S : (Nat → Bool) → Act → World → Prop := fun g a w =>
    (g s3 = false → a.tmps[d3]? = a0.tmps[d3]?) ∧ (
    (g s1 = false ∧ g s2 = false ∧ g s3 = false ∧ I0 w) ∨
    (g s1 = true ∧ g s2 = false ∧ g s3 = false ∧ ∃ v, a.tmps[d1]? = some v ∧ I1 v w) ∨
    (g s1 = true ∧ g s2 = true ∧ g s3 = false ∧ ∃ v u, a.tmps[d1]? = some v ∧ a.tmps[d2]? = some u ∧ I2 v u w) ∨
    (g s1 = true ∧ g s2 = true ∧ g s3 = true ∧ ∃ v u t, a.tmps[d1]? = some v ∧ a.tmps[d2]? = some u ∧ a.tmps[d3]? = some t ∧ I3 v u t w))
  have facts : ∀ (listed : Array Bool) (o : Oper) (a : Act) (w : World), MidA ops a0 Y S listed a w → (∀ e ∈ o.after, Region.binds .any e = true → listed.getD e.on false = true) → FactsA ops a0 con kn o a := by
    intro listed o a w hM hdl
    refine ⟨fun e he hb oj dj hoj hdj hkn => ?_, fun k hk => ?_⟩
    · obtain ⟨v, hv, hvd⟩ := hM.new e.on oj hoj (hdl e he hb)
      rw [hvd dj hdj, ← hv hkn]
      rfl
    · rw [hM.old k fun i o' ho' hd' => ?_]
      have := List.all_eq_true.1 hk o' (by simpa using Array.mem_of_getElem? ho')
      simp [hd'] at this
  refine wp_region_freeA (Y := Y) (S := S) hm hB hn ⟨fun _ => rfl, .inl ⟨rfl, rfl, rfl, h0⟩⟩ ?_ ?_
  · intro i o ho listed a w hM hu hdl
    have hF := facts listed o a w hM hdl
    obtain ⟨hOld, hW⟩ := hM.world
    have hsz : a.tmps.size = n := hM.size.trans hn
    have hput : ∀ (d : Nat) (v : Value), d < n → (a.put (some d) v).tmps[d]? = some v := fun d v hd => by simp [Act.put, hsz, hd]
    by_cases e1 : i = s1
    · subst e1
      obtain rfl : o = o1 := Option.some.inj (ho.symm.trans hs1)
      rcases hW with ⟨l1, l2, l3, hI⟩ | ⟨l1, _⟩ | ⟨l1, _⟩ | ⟨l1, _⟩
      · refine Oper.wp_mono ?_ (h1 a w hI hF)
        rintro a' w' ⟨v, rfl, hv⟩
        refine ⟨v, rfl, fun h => absurd rfl ((hkt _).1 h).1, ⟨fun _ => ?_, .inr (.inl ⟨by simp, ?_, ?_, v, by rw [hd1]; exact hput d1 v hd1n, hv⟩)⟩, fun j u _ _ hY => hY⟩
        · rw [put_other (by rw [hd1]; simp; omega)]; exact hOld l3
        · show (if s2 = i then true else listed.getD s2 false) = false
          rw [if_neg (Ne.symm n12)]; exact l2
        · show (if s3 = i then true else listed.getD s3 false) = false
          rw [if_neg (Ne.symm n13)]; exact l3
      all_goals
        have l1' : listed.getD i false = true := l1
        rw [hu] at l1'
        cases l1'
    by_cases e2 : i = s2
    · subst e2
      obtain rfl : o = o2 := Option.some.inj (ho.symm.trans hs2)
      obtain ⟨e, he, hb, heq⟩ := hdep12
      have hl1 := hdl e he hb
      rw [heq] at hl1
      rcases hW with ⟨l1, l2, l3, hI⟩ | ⟨l1, l2, l3, v, hv, hI⟩ | ⟨l1, l2, _⟩ | ⟨l1, l2, _⟩
      · have l1' : listed.getD s1 false = false := l1
        rw [hl1] at l1'
        cases l1'
      · refine Oper.wp_mono ?_ (h2 a w v hI hv hF)
        rintro a' w' ⟨u, rfl, hu'⟩
        refine ⟨u, rfl, fun h => absurd rfl ((hkt _).1 h).2.1, ⟨fun _ => ?_, .inr (.inr (.inl ⟨?_, by simp, ?_, v, u, ?_, by rw [hd2]; exact hput d2 u hd2n, hu'⟩))⟩, fun j u _ _ hY => hY⟩
        · rw [put_other (by rw [hd2]; simp; omega)]; exact hOld l3
        · show (if s1 = i then true else listed.getD s1 false) = true
          rw [if_neg n12]; exact hl1
        · show (if s3 = i then true else listed.getD s3 false) = false
          rw [if_neg (Ne.symm n23)]; exact l3
        · rw [put_other (by rw [hd2]; simp; omega)]; exact hv
      all_goals
        have l2' : listed.getD i false = true := l2
        rw [hu] at l2'
        cases l2'
    by_cases e3 : i = s3
    · subst e3
      obtain rfl : o = o3 := Option.some.inj (ho.symm.trans hs3)
      obtain ⟨e, he, hb, heq⟩ := hdep23
      have hl2 := hdl e he hb
      rw [heq] at hl2
      rcases hW with ⟨l1, l2, l3, hI⟩ | ⟨l1, l2, l3, v, hv, hI⟩ | ⟨l1, l2, l3, v, u, hv, hu2, hI⟩ | ⟨l1, l2, l3, _⟩
      · have l2' : listed.getD s2 false = false := l2
        rw [hl2] at l2'
        cases l2'
      · have l2' : listed.getD s2 false = false := l2
        rw [hl2] at l2'
        cases l2'
      · refine Oper.wp_mono ?_ (h3 a w v u hI hv hu2 hF)
        rintro a' w' ⟨t, rfl, ht⟩
        refine ⟨t, rfl, fun h => absurd rfl ((hkt _).1 h).2.2, ⟨fun h => ?_, .inr (.inr (.inr ⟨?_, ?_, by simp, v, u, t, ?_, ?_, by rw [hd3]; exact hput d3 t hd3n, ht⟩))⟩, fun j u _ _ hY => hY⟩
        · simp at h
        · show (if s1 = i then true else listed.getD s1 false) = true
          rw [if_neg n13]; exact l1
        · show (if s2 = i then true else listed.getD s2 false) = true
          rw [if_neg n23]; exact hl2
        · rw [put_other (by rw [hd3]; simp; omega)]; exact hv
        · rw [put_other (by rw [hd3]; simp; omega)]; exact hu2
      · have l3' : listed.getD i false = true := l3
        rw [hu] at l3'
        cases l3'
    have hki : kn i = true := (hkt i).2 ⟨e1, e2, e3⟩
    obtain ⟨x1, x2, x3⟩ := hoth i o ho hki
    have hJ : J w := by
      rcases hW with ⟨_, _, _, hI⟩ | ⟨_, _, _, v, _, hI⟩ | ⟨_, _, _, v, u, _, _, hI⟩ | ⟨_, _, _, v, u, t, _, _, _, hI⟩
      · exact J0 w hI
      · exact J1 v w hI
      · exact J2 v u w hI
      · exact J3 v u t w hI
    have hKeep : (∃ e ∈ o3.after, Region.binds .any e = true ∧ e.on = i) → a.tmps[d3]?.getD undef = a0.tmps[d3]?.getD undef := by
      rintro ⟨e, he, hb, heq⟩
      have hl3 : listed.getD s3 false = false := by
        cases hl : listed.getD s3 false with
        | false => rfl
        | true =>
          exfalso
          have := hM.closed s3 o3 hs3 hl e he hb
          rw [heq, hu] at this
          cases this
      rw [hOld hl3]
    refine Oper.wp_mono ?_ (hcon i o ho hki a w hJ hF hKeep)
    rintro a' w' ⟨rfl, rfl⟩
    refine ⟨con i, rfl, fun _ => rfl, ?_, fun j u _ _ hY => hY⟩
    have g1 : (if s1 = i then true else listed.getD s1 false) = listed.getD s1 false := if_neg (Ne.symm e1)
    have g2 : (if s2 = i then true else listed.getD s2 false) = listed.getD s2 false := if_neg (Ne.symm e2)
    have g3 : (if s3 = i then true else listed.getD s3 false) = listed.getD s3 false := if_neg (Ne.symm e3)
    show ((if s3 = i then true else listed.getD s3 false) = false → (a.put o.dst (con i)).tmps[d3]? = a0.tmps[d3]?) ∧ (((if s1 = i then true else listed.getD s1 false) = false ∧ (if s2 = i then true else listed.getD s2 false) = false ∧ (if s3 = i then true else listed.getD s3 false) = false ∧ I0 w') ∨
      ((if s1 = i then true else listed.getD s1 false) = true ∧ (if s2 = i then true else listed.getD s2 false) = false ∧ (if s3 = i then true else listed.getD s3 false) = false ∧ ∃ v, (a.put o.dst (con i)).tmps[d1]? = some v ∧ I1 v w') ∨
      ((if s1 = i then true else listed.getD s1 false) = true ∧ (if s2 = i then true else listed.getD s2 false) = true ∧ (if s3 = i then true else listed.getD s3 false) = false ∧ ∃ v u, (a.put o.dst (con i)).tmps[d1]? = some v ∧ (a.put o.dst (con i)).tmps[d2]? = some u ∧ I2 v u w') ∨
      ((if s1 = i then true else listed.getD s1 false) = true ∧ (if s2 = i then true else listed.getD s2 false) = true ∧ (if s3 = i then true else listed.getD s3 false) = true ∧ ∃ v u t, (a.put o.dst (con i)).tmps[d1]? = some v ∧ (a.put o.dst (con i)).tmps[d2]? = some u ∧ (a.put o.dst (con i)).tmps[d3]? = some t ∧ I3 v u t w'))
    rw [g1, g2, g3, put_other x1, put_other x2, put_other x3]
    exact ⟨hOld, hW⟩
  · intro vs w hS hall
    have hlt : ∀ (s : Nat) (o : Oper), ops[s]? = some o → decide (s < ops.size) = true := fun s o h => decide_eq_true (Array.getElem?_eq_some_iff.1 h).1
    have f1 : (fill ops.toList vs 0 a0).tmps[d1]? = some (vs s1) := by rw [fill_at d1 ops.toList vs 0 a0 s1 o1 (by simpa using hs1) hd1 q2 (by rw [hn]; exact hd1n), Nat.zero_add]
    have f2 : (fill ops.toList vs 0 a0).tmps[d2]? = some (vs s2) := by rw [fill_at d2 ops.toList vs 0 a0 s2 o2 (by simpa using hs2) hd2 q2 (by rw [hn]; exact hd2n), Nat.zero_add]
    have f3 : (fill ops.toList vs 0 a0).tmps[d3]? = some (vs s3) := by rw [fill_at d3 ops.toList vs 0 a0 s3 o3 (by simpa using hs3) hd3 q2 (by rw [hn]; exact hd3n), Nat.zero_add]
    rcases hS.2 with ⟨l1, _⟩ | ⟨_, l2, _⟩ | ⟨_, _, l3, _⟩ | ⟨_, _, _, v, u, t, hv, hu, ht, hI⟩
    · have l1' : decide (s1 < ops.size) = false := l1
      rw [hlt s1 o1 hs1] at l1'
      cases l1'
    · have l2' : decide (s2 < ops.size) = false := l2
      rw [hlt s2 o2 hs2] at l2'
      cases l2'
    · have l3' : decide (s3 < ops.size) = false := l3
      rw [hlt s3 o3 hs3] at l3'
      cases l3'
    · rw [f1] at hv
      rw [f2] at hu
      rw [f3] at ht
      obtain rfl := Option.some.inj hv
      obtain rfl := Option.some.inj hu
      obtain rfl := Option.some.inj ht
      have hc := hend (vs s1) (vs s2) (vs s3) w hI
      rw [fill_congr ops.toList vs (fun i => if i = s1 then vs s1 else if i = s2 then vs s2 else if i = s3 then vs s3 else con i) 0 a0 (fun i hi => ?_)]
      · exact hc
      · rw [Nat.zero_add]
        show vs i = if i = s1 then vs s1 else if i = s2 then vs s2 else if i = s3 then vs s3 else con i
        by_cases e1 : i = s1
        · rw [if_pos e1, e1]
        by_cases e2 : i = s2
        · rw [if_neg e1, if_pos e2, e2]
        by_cases e3 : i = s3
        · rw [if_neg e1, if_neg e2, if_pos e3, e3]
        rw [if_neg e1, if_neg e2, if_neg e3]
        have hi' : i < ops.size := by simpa using hi
        exact hall i ops[i] (by simp [hi']) ((hkt i).2 ⟨e1, e2, e3⟩)
end
end Go.Proofs.YtbbgibbpeibhiaaGreatDoor.FreeC

/-
  The text of the program's trees: each method appends to a slice that grows.
-/
namespace Go.Proofs.YtbbgibbpeibhiaaGreatDoor.AppendTo
open Go.RowKit Go.Shelf Go.Proofs.YtbbgibbpeibhiaaGreatDoor.Plain Go.Proofs.YtbbgibbpeibhiaaGreatDoor.Tree Go.Proofs.YtbbgibbpeibhiaaGreatDoor.Hex Go.Proofs.YtbbgibbpeibhiaaGreatDoor.Read Go.Proofs.YtbbgibbpeibhiaaGreatDoor.App
open Go.Proofs.YtbbgibbpeibhiaaGreatDoor.Count (Node cells4)
open Go.Proofs.YtbbgibbpeibhiaaGreatDoor.Wq (drew_at)
open Go.Proofs.YtbbgibbpeibhiaaGreatDoor.Free (fill wp_value wp_enter wp_load_row freeB)
open Go.Proofs.YtbbgibbpeibhiaaGreatDoor.FreeC Go.Proofs.YtbbgibbpeibhiaaGreatDoor.FreeW
set_option linter.unusedVariables false
set_option linter.unusedSimpArgs false

/-- bytes as cells -/
def cellsU (l : List UInt8) : List Value := l.map fun u => .int .u8 (u.toNat : Int)
theorem cellsU_append (l m : List UInt8) : cellsU (l ++ m) = cellsU l ++ cellsU m := by simp [cellsU]
/-- blocks that are no rows of bytes stay as they are -/
def KeepsU (w w' : World) : Prop := w.heap.size ≤ w'.heap.size ∧ ∀ k, k < w.heap.size → (∀ cur fr, w.heap[k]? ≠ some (.cells cur 5 fr)) → w'.heap[k]? = w.heap[k]?
theorem KeepsU.refl (w : World) : KeepsU w w := ⟨Nat.le_refl _, fun _ _ _ => rfl⟩
theorem KeepsU.trans {a b c : World} (h : KeepsU a b) (g : KeepsU b c) : KeepsU a c :=
  ⟨Nat.le_trans h.1 g.1, fun k hk hn => (g.2 k (Nat.lt_of_lt_of_le hk h.1) (by rw [h.2 k hk hn]; exact hn)).trans (h.2 k hk hn)⟩
theorem KeepsU.of_below {w w' : World} (h : Below w.heap.size w w') : KeepsU w w' := ⟨h.size, fun k hk _ => h.block k hk⟩
theorem KeepsU.of_grown {w w' : World} {v : Value} {base n : Nat} {xs : List Value} (ho : w.ownsRow base 5 1 v n xs) (h : w.grownBy w' v.ownBlock) : KeepsU w w' := by
  refine ⟨h.size, fun k hk hn => h.block k hk fun e => ?_⟩
  rcases ho.2 with ⟨rfl, _⟩ | ⟨g, cap, cur, rfl, _, h2, _⟩
  · simp [Value.ownBlock] at e
  · simp [Value.ownBlock] at e
    subst e
    exact hn _ _ h2
/-- a block of a node stays -/
theorem KeepsU.row {w w' : World} (h : KeepsU w w') {B : Nat} {cs : Array Value} (hB : w.heap[B]? = some (.cells cs 81 (0, 0))) : w'.heap[B]? = some (.cells cs 81 (0, 0)) := by
  rw [h.2 B (Array.getElem?_eq_some_iff.1 hB).1 (fun cur fr e => by rw [hB] at e; cases e)]
  exact hB
theorem wp_enterR {o : Oper} {a : Act} {w : World} {K : Act → World → Prop} {Q : Exit → Act → World → Prop} {R : Value → World → Prop} (f : FuncId) (args : Array Value) (h : (execOp a.eval o).run Tryz.prog w = .ok (.enter f args) w)
    (hc : Calls Tryz.prog f args w fun e w' => ∃ v, e = .returned v ∧ R v w') (hK : ∀ v w', R v w' → K (a.put o.dst v) w') : o.wp Tryz.prog a w K Q := by
  unfold Oper.wp
  rw [h]
  refine Calls.mono hc ?_
  rintro e w' ⟨v, rfl, hR⟩
  exact hK v w' hR
theorem get_some {a : Act} {d : Tmp} {v : Value} (h : a.tmps[d]? = some v) : a.tmps[d]?.getD undef = v := by rw [h]; rfl
theorem wp_valueW {o : Oper} {a : Act} {w : World} {K : Act → World → Prop} {Q : Exit → Act → World → Prop} (v : Value) (w' : World) (h : (execOp a.eval o).run Tryz.prog w = .ok (.value v) w') (hK : K (a.put o.dst v) w') : o.wp Tryz.prog a w K Q := by
  unfold Oper.wp
  rw [h]
  exact hK
theorem eval_get {a : Act} {d : Tmp} {v : Value} (h : a.tmps[d]?.getD undef = v) : a.eval (.tmp d) = v := by
  rw [← h]
  show a.tmps.getD d undef = _
  simp [Array.getD_eq_getD_getElem?]
theorem eval_some {a : Act} {d : Tmp} {v : Value} (h : a.tmps[d]? = some v) : a.eval (.tmp d) = v := eval_get (by rw [h]; rfl)
def AppC (t : T) (f : FuncId) (V : Value) : Prop := ∀ (w0 W : World) (v : Value) (n : Nat) (xs : List Value), Own w0 W 5 1 v n xs → n + (text t).length ≤ 8000000 →
  Calls Tryz.prog f #[V, v] W fun e w' => ∃ v', e = .returned v' ∧ Own w0 w' 5 1 v' (n + (text t).length) (xs ++ cellsU (text t)) ∧ KeepsU W w'

theorem cells_list {w : World} (cs : List Value) (ty : TypeId) : ∀ j u, cs[j]? = some u → (w.alloc (.cells cs.toArray ty)).cell? ((⟨w.heap.size, 0, none⟩ : Addr).add j) = some u := by
  intro j u hj
  have h := cell_of_row (w.alloc (.cells cs.toArray ty)) w.heap.size j cs.toArray ty (0, 0) (heap_alloc_new w _)
  have e : ((⟨w.heap.size, 0, none⟩ : Addr).add j) = ⟨w.heap.size, j, none⟩ := by
    simp [Addr.add]
    try exact fun h => h.symm
  rw [e, h]
  simpa using hj
set_option maxRecDepth 100000 in
theorem info_u8 : ∃ i, Tryz.prog.info? 5 = some i ∧ i.zero = some (.int .u8 0) ∧ i.size = 1 ∧ i.bytes = 1 := ⟨_, rfl, rfl, rfl, rfl⟩
theorem Own.drew {w0 w : World} {e : TypeId} {k n : Nat} {v : Value} {xs : List Value} (h : Own w0 w e k v n xs) : Own w0 w.drew e k v n xs := h.later (drew_at w)

set_option maxHeartbeats 2000000 in
set_option maxRecDepth 100000 in
theorem end_app_false : AppC (.leaf false) 113 (.int .i64 (bitI false)) := by
  intro w0 W v n xs hO hn
  have hn2 : n ≤ 8000000 := by omega
  obtain ⟨i0, hi, hz0, hz1, hz2⟩ := info_u8
  have HO := Lib.hid hO
  clear hn hO
  rw [show bitI false = 0 from rfl]
  go_enter Tryz.func113, Tryz.ntmps113
  go_wp2_with (at_builtin; have HH := HO.out; refine wpList_append_own _ rfl (.tmp 5) (.tmp 9) 22 rfl w0.heap.size 5 i0 (.int .u8 0) 1 1 Tryz.underlying22 hi hz0 hz1 hz2 rfl (by decide) _ _ _ rfl (HH.row.alloc _) ⟨W.heap.size, 0, none⟩ 1 1 [.int .u8 48] rfl rfl ?c1 ?c2 ?c3 ?c4 ?c5 ?c6; go_must (case c1 => exact (cells_list [.int .u8 48] _)); go_must (case c2 => simp [Value.oneCell']); go_must (case c3 => (unfold maxLen; omega)); go_must (case c4 => omega); go_must (case c5 => (have := HH.below.size; simp at this ⊢; omega)); go_must (clear HH; intro v3 w3 hown3 hgrow3 _; have HK := Lib.hid ((KeepsU.of_below ((Below.refl _ _).alloc (Nat.le_refl _) _)).trans (KeepsU.of_grown (HO.out.row.alloc _) hgrow3)); have H3 := Lib.hid (Own.next HO.out _ hown3 hgrow3); clear HO hown3 hgrow3))
  go_wp2_with fail
  go_ret
  exact ⟨v3, rfl, H3.out, HK.out⟩
set_option maxHeartbeats 2000000 in
set_option maxRecDepth 100000 in
theorem end_app_true : AppC (.leaf true) 113 (.int .i64 (bitI true)) := by
  intro w0 W v n xs hO hn
  have hn2 : n ≤ 8000000 := by omega
  obtain ⟨i0, hi, hz0, hz1, hz2⟩ := info_u8
  have HO := Lib.hid hO
  clear hn hO
  rw [show bitI true = 1 from rfl]
  go_enter Tryz.func113, Tryz.ntmps113
  go_wp2_with (at_builtin; have HH := HO.out; refine wpList_append_own _ rfl (.tmp 5) (.tmp 9) 22 rfl w0.heap.size 5 i0 (.int .u8 0) 1 1 Tryz.underlying22 hi hz0 hz1 hz2 rfl (by decide) _ _ _ rfl (HH.row.alloc _) ⟨W.heap.size, 0, none⟩ 1 1 [.int .u8 49] rfl rfl ?c1 ?c2 ?c3 ?c4 ?c5 ?c6; go_must (case c1 => exact (cells_list [.int .u8 49] _)); go_must (case c2 => simp [Value.oneCell']); go_must (case c3 => (unfold maxLen; omega)); go_must (case c4 => omega); go_must (case c5 => (have := HH.below.size; simp at this ⊢; omega)); go_must (clear HH; intro v3 w3 hown3 hgrow3 _; have HK := Lib.hid ((KeepsU.of_below ((Below.refl _ _).alloc (Nat.le_refl _) _)).trans (KeepsU.of_grown (HO.out.row.alloc _) hgrow3)); have H3 := Lib.hid (Own.next HO.out _ hown3 hgrow3); clear HO hown3 hgrow3))
  go_wp2_with fail
  go_ret
  exact ⟨v3, rfl, H3.out, HK.out⟩

theorem end_app (b : Bool) : AppC (.leaf b) 113 (.int .i64 (bitI b)) := by
  cases b
  · exact end_app_false
  · exact end_app_true

/-- a digit of 16 values, as the program looks it up -/
theorem hex_at (d : Nat) (h : d < 16) (h2 : d < (⟨#[48, 49, 50, 51, 52, 53, 54, 55, 56, 57, 97, 98, 99, 100, 101, 102]⟩ : ByteArray).size) : ((⟨#[48, 49, 50, 51, 52, 53, 54, 55, 56, 57, 97, 98, 99, 100, 101, 102]⟩ : ByteArray)[d]'h2).toNat = (hexD d).toNat := by
  have e : ∀ k : Fin 16, ((⟨#[48, 49, 50, 51, 52, 53, 54, 55, 56, 57, 97, 98, 99, 100, 101, 102]⟩ : ByteArray)[k.1]'(by have := k.2; exact this)).toNat = (hexD k.1).toNat := by decide
  exact e ⟨d, h⟩
set_option maxHeartbeats 4000000 in
set_option maxRecDepth 100000 in
theorem say_app (a : Bool) (s : Nat) (hs : s < 256) (z o : T) (hZ : Go.Proofs.YtbbgibbpeibhiaaGreatDoor.Count.Node 113 122 z (AppC z)) (hO : Go.Proofs.YtbbgibbpeibhiaaGreatDoor.Count.Node 113 122 o (AppC o)) :
    AppC (.say a s z o) 122 (.agg #[.int .u8 ((whoB a).toNat : Int), .int .i64 (s : Int), tree z, tree o]) := by
  intro w0 W v n xs hO0 hn
  have hlz : (text (.say a s z o)).length = (text z).length + (text o).length + 3 := by simp [text]
  have hz3 : cellsU (text (.say a s z o)) = [.int .u8 ((whoB a).toNat : Int), .int .u8 ((hexD (s / 16)).toNat : Int), .int .u8 ((hexD (s % 16)).toNat : Int)] ++ cellsU (text z) ++ cellsU (text o) := by simp [text, cellsU]
  have H3C := Lib.hid hz3
  have HLN := Lib.hid hlz
  have hn2 : n ≤ 8000000 := by omega
  have hn3 : n + 3 ≤ 8000000 := by omega
  have hn4 : n + 3 + (text z).length ≤ 8000000 := by omega
  have hn5 : n + 3 + (text z).length + (text o).length ≤ 8000000 := by omega
  obtain ⟨i0, hi, hz0, hz1, hz2⟩ := info_u8
  obtain ⟨d1, hd1⟩ : ∃ d, s / 16 = d := ⟨_, rfl⟩
  obtain ⟨d2, hd2⟩ : ∃ d, s % 16 = d := ⟨_, rfl⟩
  have g1 : d1 < 16 := by omega
  have g2 : d2 < 16 := by omega
  rw [hd1, hd2] at H3C
  have hq : IntKind.i64.wrap ((s : Int) / 16) = (d1 : Int) := by simp only [IntKind.wrap_i64]; omega
  have hm : (s : Int).tmod 16 = (d2 : Int) := by rw [Int.tmod_eq_emod_of_nonneg (by omega)]; omega
  have hx1 := hex_at d1 g1 g1
  have hx2 := hex_at d2 g2 g2
  generalize hexD d1 = D1 at *
  generalize hexD d2 = D2 at *
  have HO0 := Lib.hid hO0
  obtain ⟨wh, hwh⟩ : ∃ wh, ((whoB a).toNat : Int) = wh := ⟨_, rfl⟩
  rw [hwh] at H3C ⊢
  unfold AppC at hZ hO
  generalize (text z).length = lz at *
  generalize (text o).length = lo at *
  generalize cellsU (text z) = cz at *
  generalize cellsU (text o) = co at *
  generalize (text (.say a s z o)).length = ls at *
  generalize cellsU (text (.say a s z o)) = cs at *
  clear hn hO0 hz3 hlz hwh hd1 hd2
  obtain ⟨B, hB⟩ : ∃ B, W.heap.size = B := ⟨_, rfl⟩
  have HBB := Lib.hid hB
  rcases hZ with ⟨V, ez, hz⟩ | ⟨V, ez, hz⟩ <;> rcases hO with ⟨U, eo, ho⟩ | ⟨U, eo, ho⟩
  · have HZ := Lib.hid hz
    have HO := Lib.hid ho
    rw [ez, eo]
    clear ez eo hz ho
    go_enter Tryz.func122, Tryz.ntmps122
    go_wp2_with fail
    obtain ⟨W1, hW1⟩ : ∃ W1, W.alloc (.cells #[.int .u8 wh, .int .i64 (s : Int), .iface 61 V, .iface 61 U] 81) = W1 := ⟨_, rfl⟩
    rw [hW1]
    have HM0 : Hid (W1.heap[B]? = some (.cells #[.int .u8 wh, .int .i64 (s : Int), .iface 61 V, .iface 61 U] 81 (0, 0))) := by show _ = _; rw [← hW1, ← HBB.out]; exact heap_alloc_new W _
    have HO1 : Hid (Own w0 W1 5 1 v n xs) := by show Own _ _ _ _ _ _ _; rw [← hW1]; exact HO0.out.later ((Below.refl _ _).alloc (Nat.le_refl _) _)
    have HKW0 : Hid (KeepsU W W1) := by show KeepsU _ _; rw [← hW1]; exact KeepsU.of_below ((Below.refl _ _).alloc (Nat.le_refl _) _)
    clear hW1 HO0
    obtain ⟨c0, c1, c2, c3⟩ := cells4 HM0.out
    clear c0 c1 c2 c3
    have HKW : Hid (KeepsU W W1) := HKW0
    have hcell := fun (w2 : World) (h : w2.heap[B]? = some (.cells #[.int .u8 wh, .int .i64 (s : Int), .iface 61 V, .iface 61 U] 81 (0, 0))) => cells4 h
    refine wp_region_chain3 (fun | 0 => v | 1 => .pointer (some ⟨B, 0, none⟩) | 2 => .int .u8 wh | 3 => .pointer (some ⟨B, 1, none⟩) | 4 => .int .i64 (s : Int) | 5 => .int .i64 (d1 : Int) | 6 => .int .u8 (D1.toNat : Int) | 7 => .pointer (some ⟨B, 1, none⟩) | 8 => .int .i64 (s : Int) | 9 => .int .i64 (d2 : Int) | 10 => .int .u8 (D2.toNat : Int) | _ => undef) (fun i => !(i == 11) && !(i == 12) && !(i == 13)) 11 12 13 16 17 1 _ _ _
      (fun w => w.heap[B]? = some (.cells #[.int .u8 wh, .int .i64 (s : Int), .iface 61 V, .iface 61 U] 81 (0, 0)) ∧ KeepsU W1 w ∧ Own w0 w 5 1 v n xs) (fun x w => ∃ g, x = .slice (some ⟨g, 0, none⟩) 3 3 ∧ w.heap[B]? = some (.cells #[.int .u8 wh, .int .i64 (s : Int), .iface 61 V, .iface 61 U] 81 (0, 0)) ∧ KeepsU W1 w ∧ Own w0 w 5 1 v n xs ∧ ∀ j u, ([.int .u8 wh, .int .u8 (D1.toNat : Int), .int .u8 (D2.toNat : Int)] : List Value)[j]? = some u → w.cell? ((⟨g, 0, none⟩ : Addr).add j) = some u) (fun _ y w => w.heap[B]? = some (.cells #[.int .u8 wh, .int .i64 (s : Int), .iface 61 V, .iface 61 U] 81 (0, 0)) ∧ KeepsU W1 w ∧ Own w0 w 5 1 y (n + 3) (xs ++ [.int .u8 wh, .int .u8 (D1.toNat : Int), .int .u8 (D2.toNat : Int)])) (fun _ y z w => z = y ∧ w.heap[B]? = some (.cells #[.int .u8 wh, .int .i64 (s : Int), .iface 61 V, .iface 61 U] 81 (0, 0)) ∧ KeepsU W1 w ∧ Own w0 w 5 1 y (n + 3) (xs ++ [.int .u8 wh, .int .u8 (D1.toNat : Int), .int .u8 (D2.toNat : Int)])) (fun w => w.heap[B]? = some (.cells #[.int .u8 wh, .int .i64 (s : Int), .iface 61 V, .iface 61 U] 81 (0, 0)))
      (by kernel_rfl) (by kernel_rfl) rfl rfl rfl rfl rfl rfl rfl rfl (by decide) (by decide) ⟨⟨11, .data⟩, (by simp), rfl, rfl⟩ ⟨⟨12, .data⟩, (by simp), rfl, rfl⟩ ?otAee ?h0Aee ?j0Aee ?j1Aee ?j2Aee ?j3Aee ?conAee ?saAee ?sbAee ?scAee ?enAee
    case otAee =>
      intro i o ho hki
      match i, ho with
      | 0, ho =>
        obtain rfl := Option.some.inj ho
        exact ⟨by decide, by decide, by decide⟩
      | 1, ho =>
        obtain rfl := Option.some.inj ho
        exact ⟨by decide, by decide, by decide⟩
      | 2, ho =>
        obtain rfl := Option.some.inj ho
        exact ⟨by decide, by decide, by decide⟩
      | 3, ho =>
        obtain rfl := Option.some.inj ho
        exact ⟨by decide, by decide, by decide⟩
      | 4, ho =>
        obtain rfl := Option.some.inj ho
        exact ⟨by decide, by decide, by decide⟩
      | 5, ho =>
        obtain rfl := Option.some.inj ho
        exact ⟨by decide, by decide, by decide⟩
      | 6, ho =>
        obtain rfl := Option.some.inj ho
        exact ⟨by decide, by decide, by decide⟩
      | 7, ho =>
        obtain rfl := Option.some.inj ho
        exact ⟨by decide, by decide, by decide⟩
      | 8, ho =>
        obtain rfl := Option.some.inj ho
        exact ⟨by decide, by decide, by decide⟩
      | 9, ho =>
        obtain rfl := Option.some.inj ho
        exact ⟨by decide, by decide, by decide⟩
      | 10, ho =>
        obtain rfl := Option.some.inj ho
        exact ⟨by decide, by decide, by decide⟩
      | 11, ho => exact absurd hki (by decide)
      | 12, ho => exact absurd hki (by decide)
      | 13, ho => exact absurd hki (by decide)
      | q + 14, ho => simp at ho
    case h0Aee => exact ⟨HM0.out, KeepsU.of_below (drew_at W1), HO1.out.later (drew_at W1)⟩
    case j0Aee => exact fun w h => h.1
    case j1Aee => exact fun x w h => (by obtain ⟨g, _, h2, _⟩ := h; exact h2)
    case j2Aee => exact fun x y w h => h.1
    case j3Aee => exact fun x y z w h => h.2.1
    case conAee =>
      intro i o ho hki a w2 hJ hf hold
      match i, ho with
      | 0, ho =>
        obtain rfl := Option.some.inj ho
        have b1 : a.tmps[1]?.getD undef = v := hold ⟨⟨0, .phase⟩, (by simp), rfl, rfl⟩
        exact wp_value (v) (by unfold execOp; go_simp) ⟨rfl, rfl⟩
      | 1, ho =>
        obtain rfl := Option.some.inj ho
        have b2 : a.tmps[2]?.getD undef = .pointer (some ⟨B, 0, none⟩) := hf.2 2 (by kernel_rfl)
        exact wp_value (.pointer (some ⟨B, 0, none⟩)) (by unfold execOp; go_simp) ⟨rfl, rfl⟩
      | 2, ho =>
        obtain rfl := Option.some.inj ho
        have e6 : a.tmps[6]?.getD undef = .pointer (some ⟨B, 0, none⟩) := hf.1 ⟨1, .data⟩ (by simp) rfl _ 6 rfl rfl (by decide)
        obtain ⟨c0, c1, c2, c3⟩ := hcell _ hJ
        exact wp_value (.int .u8 wh) (by unfold execOp; go_simp) ⟨rfl, rfl⟩
      | 3, ho =>
        obtain rfl := Option.some.inj ho
        have b2 : a.tmps[2]?.getD undef = .pointer (some ⟨B, 0, none⟩) := hf.2 2 (by kernel_rfl)
        exact wp_value (.pointer (some ⟨B, 1, none⟩)) (by unfold execOp; go_simp) ⟨rfl, rfl⟩
      | 4, ho =>
        obtain rfl := Option.some.inj ho
        have e8 : a.tmps[8]?.getD undef = .pointer (some ⟨B, 1, none⟩) := hf.1 ⟨3, .data⟩ (by simp) rfl _ 8 rfl rfl (by decide)
        obtain ⟨c0, c1, c2, c3⟩ := hcell _ hJ
        exact wp_value (.int .i64 (s : Int)) (by unfold execOp; go_simp) ⟨rfl, rfl⟩
      | 5, ho =>
        obtain rfl := Option.some.inj ho
        have e9 : a.tmps[9]?.getD undef = .int .i64 (s : Int) := hf.1 ⟨4, .data⟩ (by simp) rfl _ 9 rfl rfl (by decide)
        exact wp_value (.int .i64 (d1 : Int)) (by unfold execOp; go_simp) ⟨rfl, rfl⟩
      | 6, ho =>
        obtain rfl := Option.some.inj ho
        have e10 : a.tmps[10]?.getD undef = .int .i64 (d1 : Int) := hf.1 ⟨5, .data⟩ (by simp) rfl _ 10 rfl rfl (by decide)
        exact wp_value (.int .u8 (D1.toNat : Int)) (by unfold execOp; go_simp; intro hge; exact absurd hge (by omega)) ⟨rfl, rfl⟩
      | 7, ho =>
        obtain rfl := Option.some.inj ho
        have b2 : a.tmps[2]?.getD undef = .pointer (some ⟨B, 0, none⟩) := hf.2 2 (by kernel_rfl)
        exact wp_value (.pointer (some ⟨B, 1, none⟩)) (by unfold execOp; go_simp) ⟨rfl, rfl⟩
      | 8, ho =>
        obtain rfl := Option.some.inj ho
        have e12 : a.tmps[12]?.getD undef = .pointer (some ⟨B, 1, none⟩) := hf.1 ⟨7, .data⟩ (by simp) rfl _ 12 rfl rfl (by decide)
        obtain ⟨c0, c1, c2, c3⟩ := hcell _ hJ
        exact wp_value (.int .i64 (s : Int)) (by unfold execOp; go_simp) ⟨rfl, rfl⟩
      | 9, ho =>
        obtain rfl := Option.some.inj ho
        have e13 : a.tmps[13]?.getD undef = .int .i64 (s : Int) := hf.1 ⟨8, .data⟩ (by simp) rfl _ 13 rfl rfl (by decide)
        exact wp_value (.int .i64 (d2 : Int)) (by unfold execOp; go_simp) ⟨rfl, rfl⟩
      | 10, ho =>
        obtain rfl := Option.some.inj ho
        have e14 : a.tmps[14]?.getD undef = .int .i64 (d2 : Int) := hf.1 ⟨9, .data⟩ (by simp) rfl _ 14 rfl rfl (by decide)
        exact wp_value (.int .u8 (D2.toNat : Int)) (by unfold execOp; go_simp; intro hge; exact absurd hge (by omega)) ⟨rfl, rfl⟩
      | 11, ho => exact absurd hki (by decide)
      | 12, ho => exact absurd hki (by decide)
      | 13, ho => exact absurd hki (by decide)
      | q + 14, ho => simp at ho
    case saAee =>
      intro a w2 hI hf
      have e7 : a.tmps[7]?.getD undef = .int .u8 wh := hf.1 ⟨2, .data⟩ (by simp) rfl _ 7 rfl rfl (by decide)
      have e11 : a.tmps[11]?.getD undef = .int .u8 (D1.toNat : Int) := hf.1 ⟨6, .data⟩ (by simp) rfl _ 11 rfl rfl (by decide)
      have e15 : a.tmps[15]?.getD undef = .int .u8 (D2.toNat : Int) := hf.1 ⟨10, .data⟩ (by simp) rfl _ 15 rfl rfl (by decide)
      obtain ⟨hr, hk, ho⟩ := hI
      have hbl : Below w2.heap.size w2 (w2.alloc (.cells ([.int .u8 wh, .int .u8 (D1.toNat : Int), .int .u8 (D2.toNat : Int)] : List Value).toArray 5)) := (Below.refl _ _).alloc (Nat.le_refl _) _
      exact wp_valueW (.slice (some ⟨w2.heap.size, 0, none⟩) 3 3) (w2.alloc (.cells ([.int .u8 wh, .int .u8 (D1.toNat : Int), .int .u8 (D2.toNat : Int)] : List Value).toArray 5)) (by unfold execOp; go_simp) ⟨_, rfl, w2.heap.size, rfl, (hbl.block B (Array.getElem?_eq_some_iff.1 hr).1).trans hr, hk.trans (KeepsU.of_below hbl), ho.later hbl, cells_list _ _⟩
    case sbAee =>
      intro a w2 x hI hv hf
      have e5 : a.tmps[5]?.getD undef = v := hf.1 ⟨0, .data⟩ (by simp) rfl _ 5 rfl rfl (by decide)
      obtain ⟨g, rfl, hr, hk, ho, hc⟩ := hI
      refine wp_append_own w2 (.tmp 5) (.tmp 16) 22 rfl w0.heap.size 5 i0 (.int .u8 0) 1 1 Tryz.underlying22 hi hz0 hz1 hz2 rfl (by decide) v n xs (eval_get e5) ho.row ⟨g, 0, none⟩ 3 3 [.int .u8 wh, .int .u8 (D1.toNat : Int), .int .u8 (D2.toNat : Int)] (eval_some hv) rfl hc (by simp [Value.oneCell']) (by unfold maxLen; omega) (by omega) ho.below.size ?_
      intro v3 w3 hown3 hgrow3 _
      have hk3 := KeepsU.of_grown ho.row hgrow3
      exact ⟨v3, rfl, hk3.row hr, hk.trans hk3, ⟨hown3, ho.below.grown hgrow3 ho.below.size fun j hj => (ho.row.lt j hj).1⟩⟩
    case scAee =>
      intro a w2 x y hI hv hu hf
      obtain ⟨hr, hk, ho⟩ := hI
      have e17 := get_some hu
      exact wp_value y (by unfold execOp; go_simp) ⟨y, rfl, rfl, hr, hk, ho⟩
    intro x y zz w2 hI
    obtain ⟨rfl, hr, hk, ho⟩ := hI
    have HR2 := Lib.hid hr
    have HK2 := Lib.hid (HKW.out.trans hk)
    have HO2 := Lib.hid ho
    clear hr hk ho HM0 HO1 HKW
    simp only [fill, Act.put]
    go_simp
    go_wp2_with fail
    refine wp_region_chain3 (fun | 0 => .pointer (some ⟨B, 2, none⟩) | 1 => .pointer (some ⟨B, 3, none⟩) | 2 => .iface 61 U | 3 => .pointer (some ⟨B, 2, none⟩) | 4 => .pointer (some ⟨B, 2, none⟩) | 5 => .iface 61 V | 6 => zz | 8 => .iface 61 U | 9 => .iface 61 U | _ => undef) (fun i => !(i == 7) && !(i == 10) && !(i == 11)) 7 10 11 25 28 4 _ _ _
      (fun w => KeepsU w2 w ∧ Own w0 w 5 1 zz (n + 3) (xs ++ [.int .u8 wh, .int .u8 (D1.toNat : Int), .int .u8 (D2.toNat : Int)])) (fun x w => KeepsU w2 w ∧ Own w0 w 5 1 x (n + 3 + lz) (xs ++ [.int .u8 wh, .int .u8 (D1.toNat : Int), .int .u8 (D2.toNat : Int)] ++ cz)) (fun _ u w => KeepsU w2 w ∧ Own w0 w 5 1 u (n + 3 + lz + lo) (xs ++ [.int .u8 wh, .int .u8 (D1.toNat : Int), .int .u8 (D2.toNat : Int)] ++ cz ++ co)) (fun _ u z w => z = u ∧ KeepsU w2 w ∧ Own w0 w 5 1 u (n + 3 + lz + lo) (xs ++ [.int .u8 wh, .int .u8 (D1.toNat : Int), .int .u8 (D2.toNat : Int)] ++ cz ++ co)) (fun w => w.heap[B]? = some (.cells #[.int .u8 wh, .int .i64 (s : Int), .iface 61 V, .iface 61 U] 81 (0, 0)))
      (by kernel_rfl) (by kernel_rfl) rfl rfl rfl rfl rfl rfl rfl rfl (by decide) (by decide) ⟨⟨7, .data⟩, (by simp), rfl, rfl⟩ ⟨⟨10, .data⟩, (by simp), rfl, rfl⟩ ?otBee ?h0Bee ?j0Bee ?j1Bee ?j2Bee ?j3Bee ?conBee ?saBee ?sbBee ?scBee ?enBee
    case otBee =>
      intro i o ho hki
      match i, ho with
      | 0, ho =>
        obtain rfl := Option.some.inj ho
        exact ⟨by decide, by decide, by decide⟩
      | 1, ho =>
        obtain rfl := Option.some.inj ho
        exact ⟨by decide, by decide, by decide⟩
      | 2, ho =>
        obtain rfl := Option.some.inj ho
        exact ⟨by decide, by decide, by decide⟩
      | 3, ho =>
        obtain rfl := Option.some.inj ho
        exact ⟨by decide, by decide, by decide⟩
      | 4, ho =>
        obtain rfl := Option.some.inj ho
        exact ⟨by decide, by decide, by decide⟩
      | 5, ho =>
        obtain rfl := Option.some.inj ho
        exact ⟨by decide, by decide, by decide⟩
      | 6, ho =>
        obtain rfl := Option.some.inj ho
        exact ⟨by decide, by decide, by decide⟩
      | 7, ho => exact absurd hki (by decide)
      | 8, ho =>
        obtain rfl := Option.some.inj ho
        exact ⟨by decide, by decide, by decide⟩
      | 9, ho =>
        obtain rfl := Option.some.inj ho
        exact ⟨by decide, by decide, by decide⟩
      | 10, ho => exact absurd hki (by decide)
      | 11, ho => exact absurd hki (by decide)
      | q + 12, ho => simp at ho
    case h0Bee => exact ⟨KeepsU.of_below (drew_at w2), HO2.out.later (drew_at w2)⟩
    case j0Bee => exact fun w h => h.1.row HR2.out
    case j1Bee => exact fun x w h => h.1.row HR2.out
    case j2Bee => exact fun x u w h => h.1.row HR2.out
    case j3Bee => exact fun x u z w h => h.2.1.row HR2.out
    case conBee =>
      intro i o ho hki a a_w hJ hf hold
      match i, ho with
      | 0, ho =>
        obtain rfl := Option.some.inj ho
        have b2 : a.tmps[2]?.getD undef = .pointer (some ⟨B, 0, none⟩) := hf.2 2 (by kernel_rfl)
        exact wp_value (.pointer (some ⟨B, 2, none⟩)) (by unfold execOp; go_simp) ⟨rfl, rfl⟩
      | 1, ho =>
        obtain rfl := Option.some.inj ho
        have e18 : a.tmps[18]?.getD undef = .pointer (some ⟨B, 2, none⟩) := hf.1 ⟨0, .data⟩ (by simp) rfl _ 18 rfl rfl (by decide)
        exact wp_value (.pointer (some ⟨B, 3, none⟩)) (by unfold execOp; go_simp) ⟨rfl, rfl⟩
      | 2, ho =>
        obtain rfl := Option.some.inj ho
        have e19 : a.tmps[19]?.getD undef = .pointer (some ⟨B, 3, none⟩) := hf.1 ⟨1, .data⟩ (by simp) rfl _ 19 rfl rfl (by decide)
        obtain ⟨c0, c1, c2, c3⟩ := hcell _ hJ
        exact wp_value (.iface 61 U) (by unfold execOp; go_simp) ⟨rfl, rfl⟩
      | 3, ho =>
        obtain rfl := Option.some.inj ho
        have b2 : a.tmps[2]?.getD undef = .pointer (some ⟨B, 0, none⟩) := hf.2 2 (by kernel_rfl)
        exact wp_value (.pointer (some ⟨B, 2, none⟩)) (by unfold execOp; go_simp) ⟨rfl, rfl⟩
      | 4, ho =>
        obtain rfl := Option.some.inj ho
        have e21 : a.tmps[21]?.getD undef = .pointer (some ⟨B, 2, none⟩) := hf.1 ⟨3, .data⟩ (by simp) rfl _ 21 rfl rfl (by decide)
        exact wp_value (.pointer (some ⟨B, 2, none⟩)) (by unfold execOp; go_simp) ⟨rfl, rfl⟩
      | 5, ho =>
        obtain rfl := Option.some.inj ho
        have e22 : a.tmps[22]?.getD undef = .pointer (some ⟨B, 2, none⟩) := hf.1 ⟨4, .data⟩ (by simp) rfl _ 22 rfl rfl (by decide)
        obtain ⟨c0, c1, c2, c3⟩ := hcell _ hJ
        exact wp_value (.iface 61 V) (by unfold execOp; go_simp) ⟨rfl, rfl⟩
      | 6, ho =>
        obtain rfl := Option.some.inj ho
        have b1 : a.tmps[1]?.getD undef = zz := hf.2 1 (by kernel_rfl)
        exact wp_value (zz) (by unfold execOp; go_simp) ⟨rfl, rfl⟩
      | 7, ho => exact absurd hki (by decide)
      | 8, ho =>
        obtain rfl := Option.some.inj ho
        have e20 : a.tmps[20]?.getD undef = .iface 61 U := hf.1 ⟨2, .data⟩ (by simp) rfl _ 20 rfl rfl (by decide)
        exact wp_value (.iface 61 U) (by unfold execOp; go_simp) ⟨rfl, rfl⟩
      | 9, ho =>
        obtain rfl := Option.some.inj ho
        have e20 : a.tmps[20]?.getD undef = .iface 61 U := hf.1 ⟨2, .data⟩ (by simp) rfl _ 20 rfl rfl (by decide)
        exact wp_value (.iface 61 U) (by unfold execOp; go_simp) ⟨rfl, rfl⟩
      | 10, ho => exact absurd hki (by decide)
      | 11, ho => exact absurd hki (by decide)
      | q + 12, ho => simp at ho
    case saBee =>
      intro a a_w hI hf
      have e23 : a.tmps[23]?.getD undef = .iface 61 V := hf.1 ⟨5, .data⟩ (by simp) rfl _ 23 rfl rfl (by decide)
      have e24 : a.tmps[24]?.getD undef = zz := hf.1 ⟨6, .data⟩ (by simp) rfl _ 24 rfl rfl (by decide)
      obtain ⟨hk, ho⟩ := hI
      refine wp_enterR 113 #[V, zz] (by unfold execOp; go_simp; go_invoke; rfl) (HZ.out w0 a_w zz (n + 3) _ ho (by omega)) ?_
      rintro v' w' ⟨h1, h2⟩
      exact ⟨v', rfl, hk.trans h2, h1⟩
    case sbBee =>
      intro a a_w x hI hv hf
      have e27 : a.tmps[27]?.getD undef = .iface 61 U := hf.1 ⟨9, .data⟩ (by simp) rfl _ 27 rfl rfl (by decide)
      obtain ⟨hk, ho⟩ := hI
      have e25 := get_some hv
      refine wp_enterR 113 #[U, x] (by unfold execOp; go_simp; go_invoke; rfl) (HO.out w0 a_w x (n + 3 + lz) _ ho (by omega)) ?_
      rintro v' w' ⟨h1, h2⟩
      exact ⟨v', rfl, hk.trans h2, h1⟩
    case scBee =>
      intro a a_w x y' hI hv hu hf
      obtain ⟨hk, ho⟩ := hI
      have e28 := get_some hu
      exact wp_value y' (by unfold execOp; go_simp) ⟨y', rfl, rfl, hk, ho⟩
    intro x u zz2 w5 hI
    obtain ⟨rfl, hk, ho⟩ := hI
    have HK3 := Lib.hid (HK2.out.trans hk)
    have HO3 := Lib.hid ho
    clear hk ho
    simp only [fill, Act.put]
    go_simp
    go_wp2_with fail
    go_ret
    exact ⟨zz2, rfl, by rw [HLN.out, H3C.out, show n + (lz + lo + 3) = n + 3 + lz + lo by omega]; have h := HO3.out; simp only [List.append_assoc] at h ⊢; exact h, HK3.out⟩
  · have HZ := Lib.hid hz
    have HO := Lib.hid ho
    rw [ez, eo]
    clear ez eo hz ho
    go_enter Tryz.func122, Tryz.ntmps122
    go_wp2_with fail
    obtain ⟨W1, hW1⟩ : ∃ W1, W.alloc (.cells #[.int .u8 wh, .int .i64 (s : Int), .iface 61 V, .iface 81 U] 81) = W1 := ⟨_, rfl⟩
    rw [hW1]
    have HM0 : Hid (W1.heap[B]? = some (.cells #[.int .u8 wh, .int .i64 (s : Int), .iface 61 V, .iface 81 U] 81 (0, 0))) := by show _ = _; rw [← hW1, ← HBB.out]; exact heap_alloc_new W _
    have HO1 : Hid (Own w0 W1 5 1 v n xs) := by show Own _ _ _ _ _ _ _; rw [← hW1]; exact HO0.out.later ((Below.refl _ _).alloc (Nat.le_refl _) _)
    have HKW0 : Hid (KeepsU W W1) := by show KeepsU _ _; rw [← hW1]; exact KeepsU.of_below ((Below.refl _ _).alloc (Nat.le_refl _) _)
    clear hW1 HO0
    obtain ⟨c0, c1, c2, c3⟩ := cells4 HM0.out
    clear c0 c1 c2 c3
    have HKW : Hid (KeepsU W W1) := HKW0
    have hcell := fun (w2 : World) (h : w2.heap[B]? = some (.cells #[.int .u8 wh, .int .i64 (s : Int), .iface 61 V, .iface 81 U] 81 (0, 0))) => cells4 h
    refine wp_region_chain3 (fun | 0 => v | 1 => .pointer (some ⟨B, 0, none⟩) | 2 => .int .u8 wh | 3 => .pointer (some ⟨B, 1, none⟩) | 4 => .int .i64 (s : Int) | 5 => .int .i64 (d1 : Int) | 6 => .int .u8 (D1.toNat : Int) | 7 => .pointer (some ⟨B, 1, none⟩) | 8 => .int .i64 (s : Int) | 9 => .int .i64 (d2 : Int) | 10 => .int .u8 (D2.toNat : Int) | _ => undef) (fun i => !(i == 11) && !(i == 12) && !(i == 13)) 11 12 13 16 17 1 _ _ _
      (fun w => w.heap[B]? = some (.cells #[.int .u8 wh, .int .i64 (s : Int), .iface 61 V, .iface 81 U] 81 (0, 0)) ∧ KeepsU W1 w ∧ Own w0 w 5 1 v n xs) (fun x w => ∃ g, x = .slice (some ⟨g, 0, none⟩) 3 3 ∧ w.heap[B]? = some (.cells #[.int .u8 wh, .int .i64 (s : Int), .iface 61 V, .iface 81 U] 81 (0, 0)) ∧ KeepsU W1 w ∧ Own w0 w 5 1 v n xs ∧ ∀ j u, ([.int .u8 wh, .int .u8 (D1.toNat : Int), .int .u8 (D2.toNat : Int)] : List Value)[j]? = some u → w.cell? ((⟨g, 0, none⟩ : Addr).add j) = some u) (fun _ y w => w.heap[B]? = some (.cells #[.int .u8 wh, .int .i64 (s : Int), .iface 61 V, .iface 81 U] 81 (0, 0)) ∧ KeepsU W1 w ∧ Own w0 w 5 1 y (n + 3) (xs ++ [.int .u8 wh, .int .u8 (D1.toNat : Int), .int .u8 (D2.toNat : Int)])) (fun _ y z w => z = y ∧ w.heap[B]? = some (.cells #[.int .u8 wh, .int .i64 (s : Int), .iface 61 V, .iface 81 U] 81 (0, 0)) ∧ KeepsU W1 w ∧ Own w0 w 5 1 y (n + 3) (xs ++ [.int .u8 wh, .int .u8 (D1.toNat : Int), .int .u8 (D2.toNat : Int)])) (fun w => w.heap[B]? = some (.cells #[.int .u8 wh, .int .i64 (s : Int), .iface 61 V, .iface 81 U] 81 (0, 0)))
      (by kernel_rfl) (by kernel_rfl) rfl rfl rfl rfl rfl rfl rfl rfl (by decide) (by decide) ⟨⟨11, .data⟩, (by simp), rfl, rfl⟩ ⟨⟨12, .data⟩, (by simp), rfl, rfl⟩ ?otAes ?h0Aes ?j0Aes ?j1Aes ?j2Aes ?j3Aes ?conAes ?saAes ?sbAes ?scAes ?enAes
    case otAes =>
      intro i o ho hki
      match i, ho with
      | 0, ho =>
        obtain rfl := Option.some.inj ho
        exact ⟨by decide, by decide, by decide⟩
      | 1, ho =>
        obtain rfl := Option.some.inj ho
        exact ⟨by decide, by decide, by decide⟩
      | 2, ho =>
        obtain rfl := Option.some.inj ho
        exact ⟨by decide, by decide, by decide⟩
      | 3, ho =>
        obtain rfl := Option.some.inj ho
        exact ⟨by decide, by decide, by decide⟩
      | 4, ho =>
        obtain rfl := Option.some.inj ho
        exact ⟨by decide, by decide, by decide⟩
      | 5, ho =>
        obtain rfl := Option.some.inj ho
        exact ⟨by decide, by decide, by decide⟩
      | 6, ho =>
        obtain rfl := Option.some.inj ho
        exact ⟨by decide, by decide, by decide⟩
      | 7, ho =>
        obtain rfl := Option.some.inj ho
        exact ⟨by decide, by decide, by decide⟩
      | 8, ho =>
        obtain rfl := Option.some.inj ho
        exact ⟨by decide, by decide, by decide⟩
      | 9, ho =>
        obtain rfl := Option.some.inj ho
        exact ⟨by decide, by decide, by decide⟩
      | 10, ho =>
        obtain rfl := Option.some.inj ho
        exact ⟨by decide, by decide, by decide⟩
      | 11, ho => exact absurd hki (by decide)
      | 12, ho => exact absurd hki (by decide)
      | 13, ho => exact absurd hki (by decide)
      | q + 14, ho => simp at ho
    case h0Aes => exact ⟨HM0.out, KeepsU.of_below (drew_at W1), HO1.out.later (drew_at W1)⟩
    case j0Aes => exact fun w h => h.1
    case j1Aes => exact fun x w h => (by obtain ⟨g, _, h2, _⟩ := h; exact h2)
    case j2Aes => exact fun x y w h => h.1
    case j3Aes => exact fun x y z w h => h.2.1
    case conAes =>
      intro i o ho hki a w2 hJ hf hold
      match i, ho with
      | 0, ho =>
        obtain rfl := Option.some.inj ho
        have b1 : a.tmps[1]?.getD undef = v := hold ⟨⟨0, .phase⟩, (by simp), rfl, rfl⟩
        exact wp_value (v) (by unfold execOp; go_simp) ⟨rfl, rfl⟩
      | 1, ho =>
        obtain rfl := Option.some.inj ho
        have b2 : a.tmps[2]?.getD undef = .pointer (some ⟨B, 0, none⟩) := hf.2 2 (by kernel_rfl)
        exact wp_value (.pointer (some ⟨B, 0, none⟩)) (by unfold execOp; go_simp) ⟨rfl, rfl⟩
      | 2, ho =>
        obtain rfl := Option.some.inj ho
        have e6 : a.tmps[6]?.getD undef = .pointer (some ⟨B, 0, none⟩) := hf.1 ⟨1, .data⟩ (by simp) rfl _ 6 rfl rfl (by decide)
        obtain ⟨c0, c1, c2, c3⟩ := hcell _ hJ
        exact wp_value (.int .u8 wh) (by unfold execOp; go_simp) ⟨rfl, rfl⟩
      | 3, ho =>
        obtain rfl := Option.some.inj ho
        have b2 : a.tmps[2]?.getD undef = .pointer (some ⟨B, 0, none⟩) := hf.2 2 (by kernel_rfl)
        exact wp_value (.pointer (some ⟨B, 1, none⟩)) (by unfold execOp; go_simp) ⟨rfl, rfl⟩
      | 4, ho =>
        obtain rfl := Option.some.inj ho
        have e8 : a.tmps[8]?.getD undef = .pointer (some ⟨B, 1, none⟩) := hf.1 ⟨3, .data⟩ (by simp) rfl _ 8 rfl rfl (by decide)
        obtain ⟨c0, c1, c2, c3⟩ := hcell _ hJ
        exact wp_value (.int .i64 (s : Int)) (by unfold execOp; go_simp) ⟨rfl, rfl⟩
      | 5, ho =>
        obtain rfl := Option.some.inj ho
        have e9 : a.tmps[9]?.getD undef = .int .i64 (s : Int) := hf.1 ⟨4, .data⟩ (by simp) rfl _ 9 rfl rfl (by decide)
        exact wp_value (.int .i64 (d1 : Int)) (by unfold execOp; go_simp) ⟨rfl, rfl⟩
      | 6, ho =>
        obtain rfl := Option.some.inj ho
        have e10 : a.tmps[10]?.getD undef = .int .i64 (d1 : Int) := hf.1 ⟨5, .data⟩ (by simp) rfl _ 10 rfl rfl (by decide)
        exact wp_value (.int .u8 (D1.toNat : Int)) (by unfold execOp; go_simp; intro hge; exact absurd hge (by omega)) ⟨rfl, rfl⟩
      | 7, ho =>
        obtain rfl := Option.some.inj ho
        have b2 : a.tmps[2]?.getD undef = .pointer (some ⟨B, 0, none⟩) := hf.2 2 (by kernel_rfl)
        exact wp_value (.pointer (some ⟨B, 1, none⟩)) (by unfold execOp; go_simp) ⟨rfl, rfl⟩
      | 8, ho =>
        obtain rfl := Option.some.inj ho
        have e12 : a.tmps[12]?.getD undef = .pointer (some ⟨B, 1, none⟩) := hf.1 ⟨7, .data⟩ (by simp) rfl _ 12 rfl rfl (by decide)
        obtain ⟨c0, c1, c2, c3⟩ := hcell _ hJ
        exact wp_value (.int .i64 (s : Int)) (by unfold execOp; go_simp) ⟨rfl, rfl⟩
      | 9, ho =>
        obtain rfl := Option.some.inj ho
        have e13 : a.tmps[13]?.getD undef = .int .i64 (s : Int) := hf.1 ⟨8, .data⟩ (by simp) rfl _ 13 rfl rfl (by decide)
        exact wp_value (.int .i64 (d2 : Int)) (by unfold execOp; go_simp) ⟨rfl, rfl⟩
      | 10, ho =>
        obtain rfl := Option.some.inj ho
        have e14 : a.tmps[14]?.getD undef = .int .i64 (d2 : Int) := hf.1 ⟨9, .data⟩ (by simp) rfl _ 14 rfl rfl (by decide)
        exact wp_value (.int .u8 (D2.toNat : Int)) (by unfold execOp; go_simp; intro hge; exact absurd hge (by omega)) ⟨rfl, rfl⟩
      | 11, ho => exact absurd hki (by decide)
      | 12, ho => exact absurd hki (by decide)
      | 13, ho => exact absurd hki (by decide)
      | q + 14, ho => simp at ho
    case saAes =>
      intro a w2 hI hf
      have e7 : a.tmps[7]?.getD undef = .int .u8 wh := hf.1 ⟨2, .data⟩ (by simp) rfl _ 7 rfl rfl (by decide)
      have e11 : a.tmps[11]?.getD undef = .int .u8 (D1.toNat : Int) := hf.1 ⟨6, .data⟩ (by simp) rfl _ 11 rfl rfl (by decide)
      have e15 : a.tmps[15]?.getD undef = .int .u8 (D2.toNat : Int) := hf.1 ⟨10, .data⟩ (by simp) rfl _ 15 rfl rfl (by decide)
      obtain ⟨hr, hk, ho⟩ := hI
      have hbl : Below w2.heap.size w2 (w2.alloc (.cells ([.int .u8 wh, .int .u8 (D1.toNat : Int), .int .u8 (D2.toNat : Int)] : List Value).toArray 5)) := (Below.refl _ _).alloc (Nat.le_refl _) _
      exact wp_valueW (.slice (some ⟨w2.heap.size, 0, none⟩) 3 3) (w2.alloc (.cells ([.int .u8 wh, .int .u8 (D1.toNat : Int), .int .u8 (D2.toNat : Int)] : List Value).toArray 5)) (by unfold execOp; go_simp) ⟨_, rfl, w2.heap.size, rfl, (hbl.block B (Array.getElem?_eq_some_iff.1 hr).1).trans hr, hk.trans (KeepsU.of_below hbl), ho.later hbl, cells_list _ _⟩
    case sbAes =>
      intro a w2 x hI hv hf
      have e5 : a.tmps[5]?.getD undef = v := hf.1 ⟨0, .data⟩ (by simp) rfl _ 5 rfl rfl (by decide)
      obtain ⟨g, rfl, hr, hk, ho, hc⟩ := hI
      refine wp_append_own w2 (.tmp 5) (.tmp 16) 22 rfl w0.heap.size 5 i0 (.int .u8 0) 1 1 Tryz.underlying22 hi hz0 hz1 hz2 rfl (by decide) v n xs (eval_get e5) ho.row ⟨g, 0, none⟩ 3 3 [.int .u8 wh, .int .u8 (D1.toNat : Int), .int .u8 (D2.toNat : Int)] (eval_some hv) rfl hc (by simp [Value.oneCell']) (by unfold maxLen; omega) (by omega) ho.below.size ?_
      intro v3 w3 hown3 hgrow3 _
      have hk3 := KeepsU.of_grown ho.row hgrow3
      exact ⟨v3, rfl, hk3.row hr, hk.trans hk3, ⟨hown3, ho.below.grown hgrow3 ho.below.size fun j hj => (ho.row.lt j hj).1⟩⟩
    case scAes =>
      intro a w2 x y hI hv hu hf
      obtain ⟨hr, hk, ho⟩ := hI
      have e17 := get_some hu
      exact wp_value y (by unfold execOp; go_simp) ⟨y, rfl, rfl, hr, hk, ho⟩
    intro x y zz w2 hI
    obtain ⟨rfl, hr, hk, ho⟩ := hI
    have HR2 := Lib.hid hr
    have HK2 := Lib.hid (HKW.out.trans hk)
    have HO2 := Lib.hid ho
    clear hr hk ho HM0 HO1 HKW
    simp only [fill, Act.put]
    go_simp
    go_wp2_with fail
    refine wp_region_chain3 (fun | 0 => .pointer (some ⟨B, 2, none⟩) | 1 => .pointer (some ⟨B, 3, none⟩) | 2 => .iface 81 U | 3 => .pointer (some ⟨B, 2, none⟩) | 4 => .pointer (some ⟨B, 2, none⟩) | 5 => .iface 61 V | 6 => zz | 8 => .iface 81 U | 9 => .iface 81 U | _ => undef) (fun i => !(i == 7) && !(i == 10) && !(i == 11)) 7 10 11 25 28 4 _ _ _
      (fun w => KeepsU w2 w ∧ Own w0 w 5 1 zz (n + 3) (xs ++ [.int .u8 wh, .int .u8 (D1.toNat : Int), .int .u8 (D2.toNat : Int)])) (fun x w => KeepsU w2 w ∧ Own w0 w 5 1 x (n + 3 + lz) (xs ++ [.int .u8 wh, .int .u8 (D1.toNat : Int), .int .u8 (D2.toNat : Int)] ++ cz)) (fun _ u w => KeepsU w2 w ∧ Own w0 w 5 1 u (n + 3 + lz + lo) (xs ++ [.int .u8 wh, .int .u8 (D1.toNat : Int), .int .u8 (D2.toNat : Int)] ++ cz ++ co)) (fun _ u z w => z = u ∧ KeepsU w2 w ∧ Own w0 w 5 1 u (n + 3 + lz + lo) (xs ++ [.int .u8 wh, .int .u8 (D1.toNat : Int), .int .u8 (D2.toNat : Int)] ++ cz ++ co)) (fun w => w.heap[B]? = some (.cells #[.int .u8 wh, .int .i64 (s : Int), .iface 61 V, .iface 81 U] 81 (0, 0)))
      (by kernel_rfl) (by kernel_rfl) rfl rfl rfl rfl rfl rfl rfl rfl (by decide) (by decide) ⟨⟨7, .data⟩, (by simp), rfl, rfl⟩ ⟨⟨10, .data⟩, (by simp), rfl, rfl⟩ ?otBes ?h0Bes ?j0Bes ?j1Bes ?j2Bes ?j3Bes ?conBes ?saBes ?sbBes ?scBes ?enBes
    case otBes =>
      intro i o ho hki
      match i, ho with
      | 0, ho =>
        obtain rfl := Option.some.inj ho
        exact ⟨by decide, by decide, by decide⟩
      | 1, ho =>
        obtain rfl := Option.some.inj ho
        exact ⟨by decide, by decide, by decide⟩
      | 2, ho =>
        obtain rfl := Option.some.inj ho
        exact ⟨by decide, by decide, by decide⟩
      | 3, ho =>
        obtain rfl := Option.some.inj ho
        exact ⟨by decide, by decide, by decide⟩
      | 4, ho =>
        obtain rfl := Option.some.inj ho
        exact ⟨by decide, by decide, by decide⟩
      | 5, ho =>
        obtain rfl := Option.some.inj ho
        exact ⟨by decide, by decide, by decide⟩
      | 6, ho =>
        obtain rfl := Option.some.inj ho
        exact ⟨by decide, by decide, by decide⟩
      | 7, ho => exact absurd hki (by decide)
      | 8, ho =>
        obtain rfl := Option.some.inj ho
        exact ⟨by decide, by decide, by decide⟩
      | 9, ho =>
        obtain rfl := Option.some.inj ho
        exact ⟨by decide, by decide, by decide⟩
      | 10, ho => exact absurd hki (by decide)
      | 11, ho => exact absurd hki (by decide)
      | q + 12, ho => simp at ho
    case h0Bes => exact ⟨KeepsU.of_below (drew_at w2), HO2.out.later (drew_at w2)⟩
    case j0Bes => exact fun w h => h.1.row HR2.out
    case j1Bes => exact fun x w h => h.1.row HR2.out
    case j2Bes => exact fun x u w h => h.1.row HR2.out
    case j3Bes => exact fun x u z w h => h.2.1.row HR2.out
    case conBes =>
      intro i o ho hki a a_w hJ hf hold
      match i, ho with
      | 0, ho =>
        obtain rfl := Option.some.inj ho
        have b2 : a.tmps[2]?.getD undef = .pointer (some ⟨B, 0, none⟩) := hf.2 2 (by kernel_rfl)
        exact wp_value (.pointer (some ⟨B, 2, none⟩)) (by unfold execOp; go_simp) ⟨rfl, rfl⟩
      | 1, ho =>
        obtain rfl := Option.some.inj ho
        have e18 : a.tmps[18]?.getD undef = .pointer (some ⟨B, 2, none⟩) := hf.1 ⟨0, .data⟩ (by simp) rfl _ 18 rfl rfl (by decide)
        exact wp_value (.pointer (some ⟨B, 3, none⟩)) (by unfold execOp; go_simp) ⟨rfl, rfl⟩
      | 2, ho =>
        obtain rfl := Option.some.inj ho
        have e19 : a.tmps[19]?.getD undef = .pointer (some ⟨B, 3, none⟩) := hf.1 ⟨1, .data⟩ (by simp) rfl _ 19 rfl rfl (by decide)
        obtain ⟨c0, c1, c2, c3⟩ := hcell _ hJ
        exact wp_value (.iface 81 U) (by unfold execOp; go_simp) ⟨rfl, rfl⟩
      | 3, ho =>
        obtain rfl := Option.some.inj ho
        have b2 : a.tmps[2]?.getD undef = .pointer (some ⟨B, 0, none⟩) := hf.2 2 (by kernel_rfl)
        exact wp_value (.pointer (some ⟨B, 2, none⟩)) (by unfold execOp; go_simp) ⟨rfl, rfl⟩
      | 4, ho =>
        obtain rfl := Option.some.inj ho
        have e21 : a.tmps[21]?.getD undef = .pointer (some ⟨B, 2, none⟩) := hf.1 ⟨3, .data⟩ (by simp) rfl _ 21 rfl rfl (by decide)
        exact wp_value (.pointer (some ⟨B, 2, none⟩)) (by unfold execOp; go_simp) ⟨rfl, rfl⟩
      | 5, ho =>
        obtain rfl := Option.some.inj ho
        have e22 : a.tmps[22]?.getD undef = .pointer (some ⟨B, 2, none⟩) := hf.1 ⟨4, .data⟩ (by simp) rfl _ 22 rfl rfl (by decide)
        obtain ⟨c0, c1, c2, c3⟩ := hcell _ hJ
        exact wp_value (.iface 61 V) (by unfold execOp; go_simp) ⟨rfl, rfl⟩
      | 6, ho =>
        obtain rfl := Option.some.inj ho
        have b1 : a.tmps[1]?.getD undef = zz := hf.2 1 (by kernel_rfl)
        exact wp_value (zz) (by unfold execOp; go_simp) ⟨rfl, rfl⟩
      | 7, ho => exact absurd hki (by decide)
      | 8, ho =>
        obtain rfl := Option.some.inj ho
        have e20 : a.tmps[20]?.getD undef = .iface 81 U := hf.1 ⟨2, .data⟩ (by simp) rfl _ 20 rfl rfl (by decide)
        exact wp_value (.iface 81 U) (by unfold execOp; go_simp) ⟨rfl, rfl⟩
      | 9, ho =>
        obtain rfl := Option.some.inj ho
        have e20 : a.tmps[20]?.getD undef = .iface 81 U := hf.1 ⟨2, .data⟩ (by simp) rfl _ 20 rfl rfl (by decide)
        exact wp_value (.iface 81 U) (by unfold execOp; go_simp) ⟨rfl, rfl⟩
      | 10, ho => exact absurd hki (by decide)
      | 11, ho => exact absurd hki (by decide)
      | q + 12, ho => simp at ho
    case saBes =>
      intro a a_w hI hf
      have e23 : a.tmps[23]?.getD undef = .iface 61 V := hf.1 ⟨5, .data⟩ (by simp) rfl _ 23 rfl rfl (by decide)
      have e24 : a.tmps[24]?.getD undef = zz := hf.1 ⟨6, .data⟩ (by simp) rfl _ 24 rfl rfl (by decide)
      obtain ⟨hk, ho⟩ := hI
      refine wp_enterR 113 #[V, zz] (by unfold execOp; go_simp; go_invoke; rfl) (HZ.out w0 a_w zz (n + 3) _ ho (by omega)) ?_
      rintro v' w' ⟨h1, h2⟩
      exact ⟨v', rfl, hk.trans h2, h1⟩
    case sbBes =>
      intro a a_w x hI hv hf
      have e27 : a.tmps[27]?.getD undef = .iface 81 U := hf.1 ⟨9, .data⟩ (by simp) rfl _ 27 rfl rfl (by decide)
      obtain ⟨hk, ho⟩ := hI
      have e25 := get_some hv
      refine wp_enterR 122 #[U, x] (by unfold execOp; go_simp; go_invoke; rfl) (HO.out w0 a_w x (n + 3 + lz) _ ho (by omega)) ?_
      rintro v' w' ⟨h1, h2⟩
      exact ⟨v', rfl, hk.trans h2, h1⟩
    case scBes =>
      intro a a_w x y' hI hv hu hf
      obtain ⟨hk, ho⟩ := hI
      have e28 := get_some hu
      exact wp_value y' (by unfold execOp; go_simp) ⟨y', rfl, rfl, hk, ho⟩
    intro x u zz2 w5 hI
    obtain ⟨rfl, hk, ho⟩ := hI
    have HK3 := Lib.hid (HK2.out.trans hk)
    have HO3 := Lib.hid ho
    clear hk ho
    simp only [fill, Act.put]
    go_simp
    go_wp2_with fail
    go_ret
    exact ⟨zz2, rfl, by rw [HLN.out, H3C.out, show n + (lz + lo + 3) = n + 3 + lz + lo by omega]; have h := HO3.out; simp only [List.append_assoc] at h ⊢; exact h, HK3.out⟩
  · have HZ := Lib.hid hz
    have HO := Lib.hid ho
    rw [ez, eo]
    clear ez eo hz ho
    go_enter Tryz.func122, Tryz.ntmps122
    go_wp2_with fail
    obtain ⟨W1, hW1⟩ : ∃ W1, W.alloc (.cells #[.int .u8 wh, .int .i64 (s : Int), .iface 81 V, .iface 61 U] 81) = W1 := ⟨_, rfl⟩
    rw [hW1]
    have HM0 : Hid (W1.heap[B]? = some (.cells #[.int .u8 wh, .int .i64 (s : Int), .iface 81 V, .iface 61 U] 81 (0, 0))) := by show _ = _; rw [← hW1, ← HBB.out]; exact heap_alloc_new W _
    have HO1 : Hid (Own w0 W1 5 1 v n xs) := by show Own _ _ _ _ _ _ _; rw [← hW1]; exact HO0.out.later ((Below.refl _ _).alloc (Nat.le_refl _) _)
    have HKW0 : Hid (KeepsU W W1) := by show KeepsU _ _; rw [← hW1]; exact KeepsU.of_below ((Below.refl _ _).alloc (Nat.le_refl _) _)
    clear hW1 HO0
    obtain ⟨c0, c1, c2, c3⟩ := cells4 HM0.out
    clear c0 c1 c2 c3
    have HKW : Hid (KeepsU W W1) := HKW0
    have hcell := fun (w2 : World) (h : w2.heap[B]? = some (.cells #[.int .u8 wh, .int .i64 (s : Int), .iface 81 V, .iface 61 U] 81 (0, 0))) => cells4 h
    refine wp_region_chain3 (fun | 0 => v | 1 => .pointer (some ⟨B, 0, none⟩) | 2 => .int .u8 wh | 3 => .pointer (some ⟨B, 1, none⟩) | 4 => .int .i64 (s : Int) | 5 => .int .i64 (d1 : Int) | 6 => .int .u8 (D1.toNat : Int) | 7 => .pointer (some ⟨B, 1, none⟩) | 8 => .int .i64 (s : Int) | 9 => .int .i64 (d2 : Int) | 10 => .int .u8 (D2.toNat : Int) | _ => undef) (fun i => !(i == 11) && !(i == 12) && !(i == 13)) 11 12 13 16 17 1 _ _ _
      (fun w => w.heap[B]? = some (.cells #[.int .u8 wh, .int .i64 (s : Int), .iface 81 V, .iface 61 U] 81 (0, 0)) ∧ KeepsU W1 w ∧ Own w0 w 5 1 v n xs) (fun x w => ∃ g, x = .slice (some ⟨g, 0, none⟩) 3 3 ∧ w.heap[B]? = some (.cells #[.int .u8 wh, .int .i64 (s : Int), .iface 81 V, .iface 61 U] 81 (0, 0)) ∧ KeepsU W1 w ∧ Own w0 w 5 1 v n xs ∧ ∀ j u, ([.int .u8 wh, .int .u8 (D1.toNat : Int), .int .u8 (D2.toNat : Int)] : List Value)[j]? = some u → w.cell? ((⟨g, 0, none⟩ : Addr).add j) = some u) (fun _ y w => w.heap[B]? = some (.cells #[.int .u8 wh, .int .i64 (s : Int), .iface 81 V, .iface 61 U] 81 (0, 0)) ∧ KeepsU W1 w ∧ Own w0 w 5 1 y (n + 3) (xs ++ [.int .u8 wh, .int .u8 (D1.toNat : Int), .int .u8 (D2.toNat : Int)])) (fun _ y z w => z = y ∧ w.heap[B]? = some (.cells #[.int .u8 wh, .int .i64 (s : Int), .iface 81 V, .iface 61 U] 81 (0, 0)) ∧ KeepsU W1 w ∧ Own w0 w 5 1 y (n + 3) (xs ++ [.int .u8 wh, .int .u8 (D1.toNat : Int), .int .u8 (D2.toNat : Int)])) (fun w => w.heap[B]? = some (.cells #[.int .u8 wh, .int .i64 (s : Int), .iface 81 V, .iface 61 U] 81 (0, 0)))
      (by kernel_rfl) (by kernel_rfl) rfl rfl rfl rfl rfl rfl rfl rfl (by decide) (by decide) ⟨⟨11, .data⟩, (by simp), rfl, rfl⟩ ⟨⟨12, .data⟩, (by simp), rfl, rfl⟩ ?otAse ?h0Ase ?j0Ase ?j1Ase ?j2Ase ?j3Ase ?conAse ?saAse ?sbAse ?scAse ?enAse
    case otAse =>
      intro i o ho hki
      match i, ho with
      | 0, ho =>
        obtain rfl := Option.some.inj ho
        exact ⟨by decide, by decide, by decide⟩
      | 1, ho =>
        obtain rfl := Option.some.inj ho
        exact ⟨by decide, by decide, by decide⟩
      | 2, ho =>
        obtain rfl := Option.some.inj ho
        exact ⟨by decide, by decide, by decide⟩
      | 3, ho =>
        obtain rfl := Option.some.inj ho
        exact ⟨by decide, by decide, by decide⟩
      | 4, ho =>
        obtain rfl := Option.some.inj ho
        exact ⟨by decide, by decide, by decide⟩
      | 5, ho =>
        obtain rfl := Option.some.inj ho
        exact ⟨by decide, by decide, by decide⟩
      | 6, ho =>
        obtain rfl := Option.some.inj ho
        exact ⟨by decide, by decide, by decide⟩
      | 7, ho =>
        obtain rfl := Option.some.inj ho
        exact ⟨by decide, by decide, by decide⟩
      | 8, ho =>
        obtain rfl := Option.some.inj ho
        exact ⟨by decide, by decide, by decide⟩
      | 9, ho =>
        obtain rfl := Option.some.inj ho
        exact ⟨by decide, by decide, by decide⟩
      | 10, ho =>
        obtain rfl := Option.some.inj ho
        exact ⟨by decide, by decide, by decide⟩
      | 11, ho => exact absurd hki (by decide)
      | 12, ho => exact absurd hki (by decide)
      | 13, ho => exact absurd hki (by decide)
      | q + 14, ho => simp at ho
    case h0Ase => exact ⟨HM0.out, KeepsU.of_below (drew_at W1), HO1.out.later (drew_at W1)⟩
    case j0Ase => exact fun w h => h.1
    case j1Ase => exact fun x w h => (by obtain ⟨g, _, h2, _⟩ := h; exact h2)
    case j2Ase => exact fun x y w h => h.1
    case j3Ase => exact fun x y z w h => h.2.1
    case conAse =>
      intro i o ho hki a w2 hJ hf hold
      match i, ho with
      | 0, ho =>
        obtain rfl := Option.some.inj ho
        have b1 : a.tmps[1]?.getD undef = v := hold ⟨⟨0, .phase⟩, (by simp), rfl, rfl⟩
        exact wp_value (v) (by unfold execOp; go_simp) ⟨rfl, rfl⟩
      | 1, ho =>
        obtain rfl := Option.some.inj ho
        have b2 : a.tmps[2]?.getD undef = .pointer (some ⟨B, 0, none⟩) := hf.2 2 (by kernel_rfl)
        exact wp_value (.pointer (some ⟨B, 0, none⟩)) (by unfold execOp; go_simp) ⟨rfl, rfl⟩
      | 2, ho =>
        obtain rfl := Option.some.inj ho
        have e6 : a.tmps[6]?.getD undef = .pointer (some ⟨B, 0, none⟩) := hf.1 ⟨1, .data⟩ (by simp) rfl _ 6 rfl rfl (by decide)
        obtain ⟨c0, c1, c2, c3⟩ := hcell _ hJ
        exact wp_value (.int .u8 wh) (by unfold execOp; go_simp) ⟨rfl, rfl⟩
      | 3, ho =>
        obtain rfl := Option.some.inj ho
        have b2 : a.tmps[2]?.getD undef = .pointer (some ⟨B, 0, none⟩) := hf.2 2 (by kernel_rfl)
        exact wp_value (.pointer (some ⟨B, 1, none⟩)) (by unfold execOp; go_simp) ⟨rfl, rfl⟩
      | 4, ho =>
        obtain rfl := Option.some.inj ho
        have e8 : a.tmps[8]?.getD undef = .pointer (some ⟨B, 1, none⟩) := hf.1 ⟨3, .data⟩ (by simp) rfl _ 8 rfl rfl (by decide)
        obtain ⟨c0, c1, c2, c3⟩ := hcell _ hJ
        exact wp_value (.int .i64 (s : Int)) (by unfold execOp; go_simp) ⟨rfl, rfl⟩
      | 5, ho =>
        obtain rfl := Option.some.inj ho
        have e9 : a.tmps[9]?.getD undef = .int .i64 (s : Int) := hf.1 ⟨4, .data⟩ (by simp) rfl _ 9 rfl rfl (by decide)
        exact wp_value (.int .i64 (d1 : Int)) (by unfold execOp; go_simp) ⟨rfl, rfl⟩
      | 6, ho =>
        obtain rfl := Option.some.inj ho
        have e10 : a.tmps[10]?.getD undef = .int .i64 (d1 : Int) := hf.1 ⟨5, .data⟩ (by simp) rfl _ 10 rfl rfl (by decide)
        exact wp_value (.int .u8 (D1.toNat : Int)) (by unfold execOp; go_simp; intro hge; exact absurd hge (by omega)) ⟨rfl, rfl⟩
      | 7, ho =>
        obtain rfl := Option.some.inj ho
        have b2 : a.tmps[2]?.getD undef = .pointer (some ⟨B, 0, none⟩) := hf.2 2 (by kernel_rfl)
        exact wp_value (.pointer (some ⟨B, 1, none⟩)) (by unfold execOp; go_simp) ⟨rfl, rfl⟩
      | 8, ho =>
        obtain rfl := Option.some.inj ho
        have e12 : a.tmps[12]?.getD undef = .pointer (some ⟨B, 1, none⟩) := hf.1 ⟨7, .data⟩ (by simp) rfl _ 12 rfl rfl (by decide)
        obtain ⟨c0, c1, c2, c3⟩ := hcell _ hJ
        exact wp_value (.int .i64 (s : Int)) (by unfold execOp; go_simp) ⟨rfl, rfl⟩
      | 9, ho =>
        obtain rfl := Option.some.inj ho
        have e13 : a.tmps[13]?.getD undef = .int .i64 (s : Int) := hf.1 ⟨8, .data⟩ (by simp) rfl _ 13 rfl rfl (by decide)
        exact wp_value (.int .i64 (d2 : Int)) (by unfold execOp; go_simp) ⟨rfl, rfl⟩
      | 10, ho =>
        obtain rfl := Option.some.inj ho
        have e14 : a.tmps[14]?.getD undef = .int .i64 (d2 : Int) := hf.1 ⟨9, .data⟩ (by simp) rfl _ 14 rfl rfl (by decide)
        exact wp_value (.int .u8 (D2.toNat : Int)) (by unfold execOp; go_simp; intro hge; exact absurd hge (by omega)) ⟨rfl, rfl⟩
      | 11, ho => exact absurd hki (by decide)
      | 12, ho => exact absurd hki (by decide)
      | 13, ho => exact absurd hki (by decide)
      | q + 14, ho => simp at ho
    case saAse =>
      intro a w2 hI hf
      have e7 : a.tmps[7]?.getD undef = .int .u8 wh := hf.1 ⟨2, .data⟩ (by simp) rfl _ 7 rfl rfl (by decide)
      have e11 : a.tmps[11]?.getD undef = .int .u8 (D1.toNat : Int) := hf.1 ⟨6, .data⟩ (by simp) rfl _ 11 rfl rfl (by decide)
      have e15 : a.tmps[15]?.getD undef = .int .u8 (D2.toNat : Int) := hf.1 ⟨10, .data⟩ (by simp) rfl _ 15 rfl rfl (by decide)
      obtain ⟨hr, hk, ho⟩ := hI
      have hbl : Below w2.heap.size w2 (w2.alloc (.cells ([.int .u8 wh, .int .u8 (D1.toNat : Int), .int .u8 (D2.toNat : Int)] : List Value).toArray 5)) := (Below.refl _ _).alloc (Nat.le_refl _) _
      exact wp_valueW (.slice (some ⟨w2.heap.size, 0, none⟩) 3 3) (w2.alloc (.cells ([.int .u8 wh, .int .u8 (D1.toNat : Int), .int .u8 (D2.toNat : Int)] : List Value).toArray 5)) (by unfold execOp; go_simp) ⟨_, rfl, w2.heap.size, rfl, (hbl.block B (Array.getElem?_eq_some_iff.1 hr).1).trans hr, hk.trans (KeepsU.of_below hbl), ho.later hbl, cells_list _ _⟩
    case sbAse =>
      intro a w2 x hI hv hf
      have e5 : a.tmps[5]?.getD undef = v := hf.1 ⟨0, .data⟩ (by simp) rfl _ 5 rfl rfl (by decide)
      obtain ⟨g, rfl, hr, hk, ho, hc⟩ := hI
      refine wp_append_own w2 (.tmp 5) (.tmp 16) 22 rfl w0.heap.size 5 i0 (.int .u8 0) 1 1 Tryz.underlying22 hi hz0 hz1 hz2 rfl (by decide) v n xs (eval_get e5) ho.row ⟨g, 0, none⟩ 3 3 [.int .u8 wh, .int .u8 (D1.toNat : Int), .int .u8 (D2.toNat : Int)] (eval_some hv) rfl hc (by simp [Value.oneCell']) (by unfold maxLen; omega) (by omega) ho.below.size ?_
      intro v3 w3 hown3 hgrow3 _
      have hk3 := KeepsU.of_grown ho.row hgrow3
      exact ⟨v3, rfl, hk3.row hr, hk.trans hk3, ⟨hown3, ho.below.grown hgrow3 ho.below.size fun j hj => (ho.row.lt j hj).1⟩⟩
    case scAse =>
      intro a w2 x y hI hv hu hf
      obtain ⟨hr, hk, ho⟩ := hI
      have e17 := get_some hu
      exact wp_value y (by unfold execOp; go_simp) ⟨y, rfl, rfl, hr, hk, ho⟩
    intro x y zz w2 hI
    obtain ⟨rfl, hr, hk, ho⟩ := hI
    have HR2 := Lib.hid hr
    have HK2 := Lib.hid (HKW.out.trans hk)
    have HO2 := Lib.hid ho
    clear hr hk ho HM0 HO1 HKW
    simp only [fill, Act.put]
    go_simp
    go_wp2_with fail
    refine wp_region_chain3 (fun | 0 => .pointer (some ⟨B, 2, none⟩) | 1 => .pointer (some ⟨B, 3, none⟩) | 2 => .iface 61 U | 3 => .pointer (some ⟨B, 2, none⟩) | 4 => .pointer (some ⟨B, 2, none⟩) | 5 => .iface 81 V | 6 => zz | 8 => .iface 61 U | 9 => .iface 61 U | _ => undef) (fun i => !(i == 7) && !(i == 10) && !(i == 11)) 7 10 11 25 28 4 _ _ _
      (fun w => KeepsU w2 w ∧ Own w0 w 5 1 zz (n + 3) (xs ++ [.int .u8 wh, .int .u8 (D1.toNat : Int), .int .u8 (D2.toNat : Int)])) (fun x w => KeepsU w2 w ∧ Own w0 w 5 1 x (n + 3 + lz) (xs ++ [.int .u8 wh, .int .u8 (D1.toNat : Int), .int .u8 (D2.toNat : Int)] ++ cz)) (fun _ u w => KeepsU w2 w ∧ Own w0 w 5 1 u (n + 3 + lz + lo) (xs ++ [.int .u8 wh, .int .u8 (D1.toNat : Int), .int .u8 (D2.toNat : Int)] ++ cz ++ co)) (fun _ u z w => z = u ∧ KeepsU w2 w ∧ Own w0 w 5 1 u (n + 3 + lz + lo) (xs ++ [.int .u8 wh, .int .u8 (D1.toNat : Int), .int .u8 (D2.toNat : Int)] ++ cz ++ co)) (fun w => w.heap[B]? = some (.cells #[.int .u8 wh, .int .i64 (s : Int), .iface 81 V, .iface 61 U] 81 (0, 0)))
      (by kernel_rfl) (by kernel_rfl) rfl rfl rfl rfl rfl rfl rfl rfl (by decide) (by decide) ⟨⟨7, .data⟩, (by simp), rfl, rfl⟩ ⟨⟨10, .data⟩, (by simp), rfl, rfl⟩ ?otBse ?h0Bse ?j0Bse ?j1Bse ?j2Bse ?j3Bse ?conBse ?saBse ?sbBse ?scBse ?enBse
    case otBse =>
      intro i o ho hki
      match i, ho with
      | 0, ho =>
        obtain rfl := Option.some.inj ho
        exact ⟨by decide, by decide, by decide⟩
      | 1, ho =>
        obtain rfl := Option.some.inj ho
        exact ⟨by decide, by decide, by decide⟩
      | 2, ho =>
        obtain rfl := Option.some.inj ho
        exact ⟨by decide, by decide, by decide⟩
      | 3, ho =>
        obtain rfl := Option.some.inj ho
        exact ⟨by decide, by decide, by decide⟩
      | 4, ho =>
        obtain rfl := Option.some.inj ho
        exact ⟨by decide, by decide, by decide⟩
      | 5, ho =>
        obtain rfl := Option.some.inj ho
        exact ⟨by decide, by decide, by decide⟩
      | 6, ho =>
        obtain rfl := Option.some.inj ho
        exact ⟨by decide, by decide, by decide⟩
      | 7, ho => exact absurd hki (by decide)
      | 8, ho =>
        obtain rfl := Option.some.inj ho
        exact ⟨by decide, by decide, by decide⟩
      | 9, ho =>
        obtain rfl := Option.some.inj ho
        exact ⟨by decide, by decide, by decide⟩
      | 10, ho => exact absurd hki (by decide)
      | 11, ho => exact absurd hki (by decide)
      | q + 12, ho => simp at ho
    case h0Bse => exact ⟨KeepsU.of_below (drew_at w2), HO2.out.later (drew_at w2)⟩
    case j0Bse => exact fun w h => h.1.row HR2.out
    case j1Bse => exact fun x w h => h.1.row HR2.out
    case j2Bse => exact fun x u w h => h.1.row HR2.out
    case j3Bse => exact fun x u z w h => h.2.1.row HR2.out
    case conBse =>
      intro i o ho hki a a_w hJ hf hold
      match i, ho with
      | 0, ho =>
        obtain rfl := Option.some.inj ho
        have b2 : a.tmps[2]?.getD undef = .pointer (some ⟨B, 0, none⟩) := hf.2 2 (by kernel_rfl)
        exact wp_value (.pointer (some ⟨B, 2, none⟩)) (by unfold execOp; go_simp) ⟨rfl, rfl⟩
      | 1, ho =>
        obtain rfl := Option.some.inj ho
        have e18 : a.tmps[18]?.getD undef = .pointer (some ⟨B, 2, none⟩) := hf.1 ⟨0, .data⟩ (by simp) rfl _ 18 rfl rfl (by decide)
        exact wp_value (.pointer (some ⟨B, 3, none⟩)) (by unfold execOp; go_simp) ⟨rfl, rfl⟩
      | 2, ho =>
        obtain rfl := Option.some.inj ho
        have e19 : a.tmps[19]?.getD undef = .pointer (some ⟨B, 3, none⟩) := hf.1 ⟨1, .data⟩ (by simp) rfl _ 19 rfl rfl (by decide)
        obtain ⟨c0, c1, c2, c3⟩ := hcell _ hJ
        exact wp_value (.iface 61 U) (by unfold execOp; go_simp) ⟨rfl, rfl⟩
      | 3, ho =>
        obtain rfl := Option.some.inj ho
        have b2 : a.tmps[2]?.getD undef = .pointer (some ⟨B, 0, none⟩) := hf.2 2 (by kernel_rfl)
        exact wp_value (.pointer (some ⟨B, 2, none⟩)) (by unfold execOp; go_simp) ⟨rfl, rfl⟩
      | 4, ho =>
        obtain rfl := Option.some.inj ho
        have e21 : a.tmps[21]?.getD undef = .pointer (some ⟨B, 2, none⟩) := hf.1 ⟨3, .data⟩ (by simp) rfl _ 21 rfl rfl (by decide)
        exact wp_value (.pointer (some ⟨B, 2, none⟩)) (by unfold execOp; go_simp) ⟨rfl, rfl⟩
      | 5, ho =>
        obtain rfl := Option.some.inj ho
        have e22 : a.tmps[22]?.getD undef = .pointer (some ⟨B, 2, none⟩) := hf.1 ⟨4, .data⟩ (by simp) rfl _ 22 rfl rfl (by decide)
        obtain ⟨c0, c1, c2, c3⟩ := hcell _ hJ
        exact wp_value (.iface 81 V) (by unfold execOp; go_simp) ⟨rfl, rfl⟩
      | 6, ho =>
        obtain rfl := Option.some.inj ho
        have b1 : a.tmps[1]?.getD undef = zz := hf.2 1 (by kernel_rfl)
        exact wp_value (zz) (by unfold execOp; go_simp) ⟨rfl, rfl⟩
      | 7, ho => exact absurd hki (by decide)
      | 8, ho =>
        obtain rfl := Option.some.inj ho
        have e20 : a.tmps[20]?.getD undef = .iface 61 U := hf.1 ⟨2, .data⟩ (by simp) rfl _ 20 rfl rfl (by decide)
        exact wp_value (.iface 61 U) (by unfold execOp; go_simp) ⟨rfl, rfl⟩
      | 9, ho =>
        obtain rfl := Option.some.inj ho
        have e20 : a.tmps[20]?.getD undef = .iface 61 U := hf.1 ⟨2, .data⟩ (by simp) rfl _ 20 rfl rfl (by decide)
        exact wp_value (.iface 61 U) (by unfold execOp; go_simp) ⟨rfl, rfl⟩
      | 10, ho => exact absurd hki (by decide)
      | 11, ho => exact absurd hki (by decide)
      | q + 12, ho => simp at ho
    case saBse =>
      intro a a_w hI hf
      have e23 : a.tmps[23]?.getD undef = .iface 81 V := hf.1 ⟨5, .data⟩ (by simp) rfl _ 23 rfl rfl (by decide)
      have e24 : a.tmps[24]?.getD undef = zz := hf.1 ⟨6, .data⟩ (by simp) rfl _ 24 rfl rfl (by decide)
      obtain ⟨hk, ho⟩ := hI
      refine wp_enterR 122 #[V, zz] (by unfold execOp; go_simp; go_invoke; rfl) (HZ.out w0 a_w zz (n + 3) _ ho (by omega)) ?_
      rintro v' w' ⟨h1, h2⟩
      exact ⟨v', rfl, hk.trans h2, h1⟩
    case sbBse =>
      intro a a_w x hI hv hf
      have e27 : a.tmps[27]?.getD undef = .iface 61 U := hf.1 ⟨9, .data⟩ (by simp) rfl _ 27 rfl rfl (by decide)
      obtain ⟨hk, ho⟩ := hI
      have e25 := get_some hv
      refine wp_enterR 113 #[U, x] (by unfold execOp; go_simp; go_invoke; rfl) (HO.out w0 a_w x (n + 3 + lz) _ ho (by omega)) ?_
      rintro v' w' ⟨h1, h2⟩
      exact ⟨v', rfl, hk.trans h2, h1⟩
    case scBse =>
      intro a a_w x y' hI hv hu hf
      obtain ⟨hk, ho⟩ := hI
      have e28 := get_some hu
      exact wp_value y' (by unfold execOp; go_simp) ⟨y', rfl, rfl, hk, ho⟩
    intro x u zz2 w5 hI
    obtain ⟨rfl, hk, ho⟩ := hI
    have HK3 := Lib.hid (HK2.out.trans hk)
    have HO3 := Lib.hid ho
    clear hk ho
    simp only [fill, Act.put]
    go_simp
    go_wp2_with fail
    go_ret
    exact ⟨zz2, rfl, by rw [HLN.out, H3C.out, show n + (lz + lo + 3) = n + 3 + lz + lo by omega]; have h := HO3.out; simp only [List.append_assoc] at h ⊢; exact h, HK3.out⟩
  · have HZ := Lib.hid hz
    have HO := Lib.hid ho
    rw [ez, eo]
    clear ez eo hz ho
    go_enter Tryz.func122, Tryz.ntmps122
    go_wp2_with fail
    obtain ⟨W1, hW1⟩ : ∃ W1, W.alloc (.cells #[.int .u8 wh, .int .i64 (s : Int), .iface 81 V, .iface 81 U] 81) = W1 := ⟨_, rfl⟩
    rw [hW1]
    have HM0 : Hid (W1.heap[B]? = some (.cells #[.int .u8 wh, .int .i64 (s : Int), .iface 81 V, .iface 81 U] 81 (0, 0))) := by show _ = _; rw [← hW1, ← HBB.out]; exact heap_alloc_new W _
    have HO1 : Hid (Own w0 W1 5 1 v n xs) := by show Own _ _ _ _ _ _ _; rw [← hW1]; exact HO0.out.later ((Below.refl _ _).alloc (Nat.le_refl _) _)
    have HKW0 : Hid (KeepsU W W1) := by show KeepsU _ _; rw [← hW1]; exact KeepsU.of_below ((Below.refl _ _).alloc (Nat.le_refl _) _)
    clear hW1 HO0
    obtain ⟨c0, c1, c2, c3⟩ := cells4 HM0.out
    clear c0 c1 c2 c3
    have HKW : Hid (KeepsU W W1) := HKW0
    have hcell := fun (w2 : World) (h : w2.heap[B]? = some (.cells #[.int .u8 wh, .int .i64 (s : Int), .iface 81 V, .iface 81 U] 81 (0, 0))) => cells4 h
    refine wp_region_chain3 (fun | 0 => v | 1 => .pointer (some ⟨B, 0, none⟩) | 2 => .int .u8 wh | 3 => .pointer (some ⟨B, 1, none⟩) | 4 => .int .i64 (s : Int) | 5 => .int .i64 (d1 : Int) | 6 => .int .u8 (D1.toNat : Int) | 7 => .pointer (some ⟨B, 1, none⟩) | 8 => .int .i64 (s : Int) | 9 => .int .i64 (d2 : Int) | 10 => .int .u8 (D2.toNat : Int) | _ => undef) (fun i => !(i == 11) && !(i == 12) && !(i == 13)) 11 12 13 16 17 1 _ _ _
      (fun w => w.heap[B]? = some (.cells #[.int .u8 wh, .int .i64 (s : Int), .iface 81 V, .iface 81 U] 81 (0, 0)) ∧ KeepsU W1 w ∧ Own w0 w 5 1 v n xs) (fun x w => ∃ g, x = .slice (some ⟨g, 0, none⟩) 3 3 ∧ w.heap[B]? = some (.cells #[.int .u8 wh, .int .i64 (s : Int), .iface 81 V, .iface 81 U] 81 (0, 0)) ∧ KeepsU W1 w ∧ Own w0 w 5 1 v n xs ∧ ∀ j u, ([.int .u8 wh, .int .u8 (D1.toNat : Int), .int .u8 (D2.toNat : Int)] : List Value)[j]? = some u → w.cell? ((⟨g, 0, none⟩ : Addr).add j) = some u) (fun _ y w => w.heap[B]? = some (.cells #[.int .u8 wh, .int .i64 (s : Int), .iface 81 V, .iface 81 U] 81 (0, 0)) ∧ KeepsU W1 w ∧ Own w0 w 5 1 y (n + 3) (xs ++ [.int .u8 wh, .int .u8 (D1.toNat : Int), .int .u8 (D2.toNat : Int)])) (fun _ y z w => z = y ∧ w.heap[B]? = some (.cells #[.int .u8 wh, .int .i64 (s : Int), .iface 81 V, .iface 81 U] 81 (0, 0)) ∧ KeepsU W1 w ∧ Own w0 w 5 1 y (n + 3) (xs ++ [.int .u8 wh, .int .u8 (D1.toNat : Int), .int .u8 (D2.toNat : Int)])) (fun w => w.heap[B]? = some (.cells #[.int .u8 wh, .int .i64 (s : Int), .iface 81 V, .iface 81 U] 81 (0, 0)))
      (by kernel_rfl) (by kernel_rfl) rfl rfl rfl rfl rfl rfl rfl rfl (by decide) (by decide) ⟨⟨11, .data⟩, (by simp), rfl, rfl⟩ ⟨⟨12, .data⟩, (by simp), rfl, rfl⟩ ?otAss ?h0Ass ?j0Ass ?j1Ass ?j2Ass ?j3Ass ?conAss ?saAss ?sbAss ?scAss ?enAss
    case otAss =>
      intro i o ho hki
      match i, ho with
      | 0, ho =>
        obtain rfl := Option.some.inj ho
        exact ⟨by decide, by decide, by decide⟩
      | 1, ho =>
        obtain rfl := Option.some.inj ho
        exact ⟨by decide, by decide, by decide⟩
      | 2, ho =>
        obtain rfl := Option.some.inj ho
        exact ⟨by decide, by decide, by decide⟩
      | 3, ho =>
        obtain rfl := Option.some.inj ho
        exact ⟨by decide, by decide, by decide⟩
      | 4, ho =>
        obtain rfl := Option.some.inj ho
        exact ⟨by decide, by decide, by decide⟩
      | 5, ho =>
        obtain rfl := Option.some.inj ho
        exact ⟨by decide, by decide, by decide⟩
      | 6, ho =>
        obtain rfl := Option.some.inj ho
        exact ⟨by decide, by decide, by decide⟩
      | 7, ho =>
        obtain rfl := Option.some.inj ho
        exact ⟨by decide, by decide, by decide⟩
      | 8, ho =>
        obtain rfl := Option.some.inj ho
        exact ⟨by decide, by decide, by decide⟩
      | 9, ho =>
        obtain rfl := Option.some.inj ho
        exact ⟨by decide, by decide, by decide⟩
      | 10, ho =>
        obtain rfl := Option.some.inj ho
        exact ⟨by decide, by decide, by decide⟩
      | 11, ho => exact absurd hki (by decide)
      | 12, ho => exact absurd hki (by decide)
      | 13, ho => exact absurd hki (by decide)
      | q + 14, ho => simp at ho
    case h0Ass => exact ⟨HM0.out, KeepsU.of_below (drew_at W1), HO1.out.later (drew_at W1)⟩
    case j0Ass => exact fun w h => h.1
    case j1Ass => exact fun x w h => (by obtain ⟨g, _, h2, _⟩ := h; exact h2)
    case j2Ass => exact fun x y w h => h.1
    case j3Ass => exact fun x y z w h => h.2.1
    case conAss =>
      intro i o ho hki a w2 hJ hf hold
      match i, ho with
      | 0, ho =>
        obtain rfl := Option.some.inj ho
        have b1 : a.tmps[1]?.getD undef = v := hold ⟨⟨0, .phase⟩, (by simp), rfl, rfl⟩
        exact wp_value (v) (by unfold execOp; go_simp) ⟨rfl, rfl⟩
      | 1, ho =>
        obtain rfl := Option.some.inj ho
        have b2 : a.tmps[2]?.getD undef = .pointer (some ⟨B, 0, none⟩) := hf.2 2 (by kernel_rfl)
        exact wp_value (.pointer (some ⟨B, 0, none⟩)) (by unfold execOp; go_simp) ⟨rfl, rfl⟩
      | 2, ho =>
        obtain rfl := Option.some.inj ho
        have e6 : a.tmps[6]?.getD undef = .pointer (some ⟨B, 0, none⟩) := hf.1 ⟨1, .data⟩ (by simp) rfl _ 6 rfl rfl (by decide)
        obtain ⟨c0, c1, c2, c3⟩ := hcell _ hJ
        exact wp_value (.int .u8 wh) (by unfold execOp; go_simp) ⟨rfl, rfl⟩
      | 3, ho =>
        obtain rfl := Option.some.inj ho
        have b2 : a.tmps[2]?.getD undef = .pointer (some ⟨B, 0, none⟩) := hf.2 2 (by kernel_rfl)
        exact wp_value (.pointer (some ⟨B, 1, none⟩)) (by unfold execOp; go_simp) ⟨rfl, rfl⟩
      | 4, ho =>
        obtain rfl := Option.some.inj ho
        have e8 : a.tmps[8]?.getD undef = .pointer (some ⟨B, 1, none⟩) := hf.1 ⟨3, .data⟩ (by simp) rfl _ 8 rfl rfl (by decide)
        obtain ⟨c0, c1, c2, c3⟩ := hcell _ hJ
        exact wp_value (.int .i64 (s : Int)) (by unfold execOp; go_simp) ⟨rfl, rfl⟩
      | 5, ho =>
        obtain rfl := Option.some.inj ho
        have e9 : a.tmps[9]?.getD undef = .int .i64 (s : Int) := hf.1 ⟨4, .data⟩ (by simp) rfl _ 9 rfl rfl (by decide)
        exact wp_value (.int .i64 (d1 : Int)) (by unfold execOp; go_simp) ⟨rfl, rfl⟩
      | 6, ho =>
        obtain rfl := Option.some.inj ho
        have e10 : a.tmps[10]?.getD undef = .int .i64 (d1 : Int) := hf.1 ⟨5, .data⟩ (by simp) rfl _ 10 rfl rfl (by decide)
        exact wp_value (.int .u8 (D1.toNat : Int)) (by unfold execOp; go_simp; intro hge; exact absurd hge (by omega)) ⟨rfl, rfl⟩
      | 7, ho =>
        obtain rfl := Option.some.inj ho
        have b2 : a.tmps[2]?.getD undef = .pointer (some ⟨B, 0, none⟩) := hf.2 2 (by kernel_rfl)
        exact wp_value (.pointer (some ⟨B, 1, none⟩)) (by unfold execOp; go_simp) ⟨rfl, rfl⟩
      | 8, ho =>
        obtain rfl := Option.some.inj ho
        have e12 : a.tmps[12]?.getD undef = .pointer (some ⟨B, 1, none⟩) := hf.1 ⟨7, .data⟩ (by simp) rfl _ 12 rfl rfl (by decide)
        obtain ⟨c0, c1, c2, c3⟩ := hcell _ hJ
        exact wp_value (.int .i64 (s : Int)) (by unfold execOp; go_simp) ⟨rfl, rfl⟩
      | 9, ho =>
        obtain rfl := Option.some.inj ho
        have e13 : a.tmps[13]?.getD undef = .int .i64 (s : Int) := hf.1 ⟨8, .data⟩ (by simp) rfl _ 13 rfl rfl (by decide)
        exact wp_value (.int .i64 (d2 : Int)) (by unfold execOp; go_simp) ⟨rfl, rfl⟩
      | 10, ho =>
        obtain rfl := Option.some.inj ho
        have e14 : a.tmps[14]?.getD undef = .int .i64 (d2 : Int) := hf.1 ⟨9, .data⟩ (by simp) rfl _ 14 rfl rfl (by decide)
        exact wp_value (.int .u8 (D2.toNat : Int)) (by unfold execOp; go_simp; intro hge; exact absurd hge (by omega)) ⟨rfl, rfl⟩
      | 11, ho => exact absurd hki (by decide)
      | 12, ho => exact absurd hki (by decide)
      | 13, ho => exact absurd hki (by decide)
      | q + 14, ho => simp at ho
    case saAss =>
      intro a w2 hI hf
      have e7 : a.tmps[7]?.getD undef = .int .u8 wh := hf.1 ⟨2, .data⟩ (by simp) rfl _ 7 rfl rfl (by decide)
      have e11 : a.tmps[11]?.getD undef = .int .u8 (D1.toNat : Int) := hf.1 ⟨6, .data⟩ (by simp) rfl _ 11 rfl rfl (by decide)
      have e15 : a.tmps[15]?.getD undef = .int .u8 (D2.toNat : Int) := hf.1 ⟨10, .data⟩ (by simp) rfl _ 15 rfl rfl (by decide)
      obtain ⟨hr, hk, ho⟩ := hI
      have hbl : Below w2.heap.size w2 (w2.alloc (.cells ([.int .u8 wh, .int .u8 (D1.toNat : Int), .int .u8 (D2.toNat : Int)] : List Value).toArray 5)) := (Below.refl _ _).alloc (Nat.le_refl _) _
      exact wp_valueW (.slice (some ⟨w2.heap.size, 0, none⟩) 3 3) (w2.alloc (.cells ([.int .u8 wh, .int .u8 (D1.toNat : Int), .int .u8 (D2.toNat : Int)] : List Value).toArray 5)) (by unfold execOp; go_simp) ⟨_, rfl, w2.heap.size, rfl, (hbl.block B (Array.getElem?_eq_some_iff.1 hr).1).trans hr, hk.trans (KeepsU.of_below hbl), ho.later hbl, cells_list _ _⟩
    case sbAss =>
      intro a w2 x hI hv hf
      have e5 : a.tmps[5]?.getD undef = v := hf.1 ⟨0, .data⟩ (by simp) rfl _ 5 rfl rfl (by decide)
      obtain ⟨g, rfl, hr, hk, ho, hc⟩ := hI
      refine wp_append_own w2 (.tmp 5) (.tmp 16) 22 rfl w0.heap.size 5 i0 (.int .u8 0) 1 1 Tryz.underlying22 hi hz0 hz1 hz2 rfl (by decide) v n xs (eval_get e5) ho.row ⟨g, 0, none⟩ 3 3 [.int .u8 wh, .int .u8 (D1.toNat : Int), .int .u8 (D2.toNat : Int)] (eval_some hv) rfl hc (by simp [Value.oneCell']) (by unfold maxLen; omega) (by omega) ho.below.size ?_
      intro v3 w3 hown3 hgrow3 _
      have hk3 := KeepsU.of_grown ho.row hgrow3
      exact ⟨v3, rfl, hk3.row hr, hk.trans hk3, ⟨hown3, ho.below.grown hgrow3 ho.below.size fun j hj => (ho.row.lt j hj).1⟩⟩
    case scAss =>
      intro a w2 x y hI hv hu hf
      obtain ⟨hr, hk, ho⟩ := hI
      have e17 := get_some hu
      exact wp_value y (by unfold execOp; go_simp) ⟨y, rfl, rfl, hr, hk, ho⟩
    intro x y zz w2 hI
    obtain ⟨rfl, hr, hk, ho⟩ := hI
    have HR2 := Lib.hid hr
    have HK2 := Lib.hid (HKW.out.trans hk)
    have HO2 := Lib.hid ho
    clear hr hk ho HM0 HO1 HKW
    simp only [fill, Act.put]
    go_simp
    go_wp2_with fail
    refine wp_region_chain3 (fun | 0 => .pointer (some ⟨B, 2, none⟩) | 1 => .pointer (some ⟨B, 3, none⟩) | 2 => .iface 81 U | 3 => .pointer (some ⟨B, 2, none⟩) | 4 => .pointer (some ⟨B, 2, none⟩) | 5 => .iface 81 V | 6 => zz | 8 => .iface 81 U | 9 => .iface 81 U | _ => undef) (fun i => !(i == 7) && !(i == 10) && !(i == 11)) 7 10 11 25 28 4 _ _ _
      (fun w => KeepsU w2 w ∧ Own w0 w 5 1 zz (n + 3) (xs ++ [.int .u8 wh, .int .u8 (D1.toNat : Int), .int .u8 (D2.toNat : Int)])) (fun x w => KeepsU w2 w ∧ Own w0 w 5 1 x (n + 3 + lz) (xs ++ [.int .u8 wh, .int .u8 (D1.toNat : Int), .int .u8 (D2.toNat : Int)] ++ cz)) (fun _ u w => KeepsU w2 w ∧ Own w0 w 5 1 u (n + 3 + lz + lo) (xs ++ [.int .u8 wh, .int .u8 (D1.toNat : Int), .int .u8 (D2.toNat : Int)] ++ cz ++ co)) (fun _ u z w => z = u ∧ KeepsU w2 w ∧ Own w0 w 5 1 u (n + 3 + lz + lo) (xs ++ [.int .u8 wh, .int .u8 (D1.toNat : Int), .int .u8 (D2.toNat : Int)] ++ cz ++ co)) (fun w => w.heap[B]? = some (.cells #[.int .u8 wh, .int .i64 (s : Int), .iface 81 V, .iface 81 U] 81 (0, 0)))
      (by kernel_rfl) (by kernel_rfl) rfl rfl rfl rfl rfl rfl rfl rfl (by decide) (by decide) ⟨⟨7, .data⟩, (by simp), rfl, rfl⟩ ⟨⟨10, .data⟩, (by simp), rfl, rfl⟩ ?otBss ?h0Bss ?j0Bss ?j1Bss ?j2Bss ?j3Bss ?conBss ?saBss ?sbBss ?scBss ?enBss
    case otBss =>
      intro i o ho hki
      match i, ho with
      | 0, ho =>
        obtain rfl := Option.some.inj ho
        exact ⟨by decide, by decide, by decide⟩
      | 1, ho =>
        obtain rfl := Option.some.inj ho
        exact ⟨by decide, by decide, by decide⟩
      | 2, ho =>
        obtain rfl := Option.some.inj ho
        exact ⟨by decide, by decide, by decide⟩
      | 3, ho =>
        obtain rfl := Option.some.inj ho
        exact ⟨by decide, by decide, by decide⟩
      | 4, ho =>
        obtain rfl := Option.some.inj ho
        exact ⟨by decide, by decide, by decide⟩
      | 5, ho =>
        obtain rfl := Option.some.inj ho
        exact ⟨by decide, by decide, by decide⟩
      | 6, ho =>
        obtain rfl := Option.some.inj ho
        exact ⟨by decide, by decide, by decide⟩
      | 7, ho => exact absurd hki (by decide)
      | 8, ho =>
        obtain rfl := Option.some.inj ho
        exact ⟨by decide, by decide, by decide⟩
      | 9, ho =>
        obtain rfl := Option.some.inj ho
        exact ⟨by decide, by decide, by decide⟩
      | 10, ho => exact absurd hki (by decide)
      | 11, ho => exact absurd hki (by decide)
      | q + 12, ho => simp at ho
    case h0Bss => exact ⟨KeepsU.of_below (drew_at w2), HO2.out.later (drew_at w2)⟩
    case j0Bss => exact fun w h => h.1.row HR2.out
    case j1Bss => exact fun x w h => h.1.row HR2.out
    case j2Bss => exact fun x u w h => h.1.row HR2.out
    case j3Bss => exact fun x u z w h => h.2.1.row HR2.out
    case conBss =>
      intro i o ho hki a a_w hJ hf hold
      match i, ho with
      | 0, ho =>
        obtain rfl := Option.some.inj ho
        have b2 : a.tmps[2]?.getD undef = .pointer (some ⟨B, 0, none⟩) := hf.2 2 (by kernel_rfl)
        exact wp_value (.pointer (some ⟨B, 2, none⟩)) (by unfold execOp; go_simp) ⟨rfl, rfl⟩
      | 1, ho =>
        obtain rfl := Option.some.inj ho
        have e18 : a.tmps[18]?.getD undef = .pointer (some ⟨B, 2, none⟩) := hf.1 ⟨0, .data⟩ (by simp) rfl _ 18 rfl rfl (by decide)
        exact wp_value (.pointer (some ⟨B, 3, none⟩)) (by unfold execOp; go_simp) ⟨rfl, rfl⟩
      | 2, ho =>
        obtain rfl := Option.some.inj ho
        have e19 : a.tmps[19]?.getD undef = .pointer (some ⟨B, 3, none⟩) := hf.1 ⟨1, .data⟩ (by simp) rfl _ 19 rfl rfl (by decide)
        obtain ⟨c0, c1, c2, c3⟩ := hcell _ hJ
        exact wp_value (.iface 81 U) (by unfold execOp; go_simp) ⟨rfl, rfl⟩
      | 3, ho =>
        obtain rfl := Option.some.inj ho
        have b2 : a.tmps[2]?.getD undef = .pointer (some ⟨B, 0, none⟩) := hf.2 2 (by kernel_rfl)
        exact wp_value (.pointer (some ⟨B, 2, none⟩)) (by unfold execOp; go_simp) ⟨rfl, rfl⟩
      | 4, ho =>
        obtain rfl := Option.some.inj ho
        have e21 : a.tmps[21]?.getD undef = .pointer (some ⟨B, 2, none⟩) := hf.1 ⟨3, .data⟩ (by simp) rfl _ 21 rfl rfl (by decide)
        exact wp_value (.pointer (some ⟨B, 2, none⟩)) (by unfold execOp; go_simp) ⟨rfl, rfl⟩
      | 5, ho =>
        obtain rfl := Option.some.inj ho
        have e22 : a.tmps[22]?.getD undef = .pointer (some ⟨B, 2, none⟩) := hf.1 ⟨4, .data⟩ (by simp) rfl _ 22 rfl rfl (by decide)
        obtain ⟨c0, c1, c2, c3⟩ := hcell _ hJ
        exact wp_value (.iface 81 V) (by unfold execOp; go_simp) ⟨rfl, rfl⟩
      | 6, ho =>
        obtain rfl := Option.some.inj ho
        have b1 : a.tmps[1]?.getD undef = zz := hf.2 1 (by kernel_rfl)
        exact wp_value (zz) (by unfold execOp; go_simp) ⟨rfl, rfl⟩
      | 7, ho => exact absurd hki (by decide)
      | 8, ho =>
        obtain rfl := Option.some.inj ho
        have e20 : a.tmps[20]?.getD undef = .iface 81 U := hf.1 ⟨2, .data⟩ (by simp) rfl _ 20 rfl rfl (by decide)
        exact wp_value (.iface 81 U) (by unfold execOp; go_simp) ⟨rfl, rfl⟩
      | 9, ho =>
        obtain rfl := Option.some.inj ho
        have e20 : a.tmps[20]?.getD undef = .iface 81 U := hf.1 ⟨2, .data⟩ (by simp) rfl _ 20 rfl rfl (by decide)
        exact wp_value (.iface 81 U) (by unfold execOp; go_simp) ⟨rfl, rfl⟩
      | 10, ho => exact absurd hki (by decide)
      | 11, ho => exact absurd hki (by decide)
      | q + 12, ho => simp at ho
    case saBss =>
      intro a a_w hI hf
      have e23 : a.tmps[23]?.getD undef = .iface 81 V := hf.1 ⟨5, .data⟩ (by simp) rfl _ 23 rfl rfl (by decide)
      have e24 : a.tmps[24]?.getD undef = zz := hf.1 ⟨6, .data⟩ (by simp) rfl _ 24 rfl rfl (by decide)
      obtain ⟨hk, ho⟩ := hI
      refine wp_enterR 122 #[V, zz] (by unfold execOp; go_simp; go_invoke; rfl) (HZ.out w0 a_w zz (n + 3) _ ho (by omega)) ?_
      rintro v' w' ⟨h1, h2⟩
      exact ⟨v', rfl, hk.trans h2, h1⟩
    case sbBss =>
      intro a a_w x hI hv hf
      have e27 : a.tmps[27]?.getD undef = .iface 81 U := hf.1 ⟨9, .data⟩ (by simp) rfl _ 27 rfl rfl (by decide)
      obtain ⟨hk, ho⟩ := hI
      have e25 := get_some hv
      refine wp_enterR 122 #[U, x] (by unfold execOp; go_simp; go_invoke; rfl) (HO.out w0 a_w x (n + 3 + lz) _ ho (by omega)) ?_
      rintro v' w' ⟨h1, h2⟩
      exact ⟨v', rfl, hk.trans h2, h1⟩
    case scBss =>
      intro a a_w x y' hI hv hu hf
      obtain ⟨hk, ho⟩ := hI
      have e28 := get_some hu
      exact wp_value y' (by unfold execOp; go_simp) ⟨y', rfl, rfl, hk, ho⟩
    intro x u zz2 w5 hI
    obtain ⟨rfl, hk, ho⟩ := hI
    have HK3 := Lib.hid (HK2.out.trans hk)
    have HO3 := Lib.hid ho
    clear hk ho
    simp only [fill, Act.put]
    go_simp
    go_wp2_with fail
    go_ret
    exact ⟨zz2, rfl, by rw [HLN.out, H3C.out, show n + (lz + lo + 3) = n + 3 + lz + lo by omega]; have h := HO3.out; simp only [List.append_assoc] at h ⊢; exact h, HK3.out⟩

theorem app_to (t : T) (hw : wf t) : Go.Proofs.YtbbgibbpeibhiaaGreatDoor.Count.Node 113 122 t (AppC t) := by
  induction t with
  | leaf b => exact .inl ⟨_, rfl, end_app b⟩
  | say a s z o ihz iho => exact .inr ⟨_, rfl, say_app a s hw.1 z o (ihz hw.2.1) (iho hw.2.2)⟩
end Go.Proofs.YtbbgibbpeibhiaaGreatDoor.AppendTo

/-
  The text of the program's tree, where it is not too long.
-/
namespace Go.Proofs.YtbbgibbpeibhiaaGreatDoor.TextOf
open Go.RowKit Go.Shelf Go.Proofs.YtbbgibbpeibhiaaGreatDoor.Plain Go.Proofs.YtbbgibbpeibhiaaGreatDoor.Tree Go.Proofs.YtbbgibbpeibhiaaGreatDoor.Read Go.Proofs.YtbbgibbpeibhiaaGreatDoor.App Go.Proofs.YtbbgibbpeibhiaaGreatDoor.AppendTo
set_option linter.unusedVariables false
set_option linter.unusedSimpArgs false

/-- what textOf answers -/
def textV (t : T) : Value := if (text t).length ≤ 2000 then .tuple #[.string (str (text t)), .bool true] else .tuple #[.string (str []), .bool false]

theorem conv_text {w0 w : World} {p : Option Addr} {n c : Nat} {l : List UInt8} (h : Own w0 w 5 1 (.slice p n c) n (cellsU l)) (hl : l.length = n) (hn : 0 < n) :
    (convert 22 9 (.slice p n c)).run Tryz.prog w = .ok (.string (str l)) w := by
  obtain ⟨g, rfl, hg1, hg2, hc0⟩ := h.cell 0 (by omega)
  have h2 := run_convert_bytes_back (P := Tryz.prog) w 22 9 5 ⟨g, 0, none⟩ c l Tryz.underlying22 Tryz.underlying5 Tryz.underlying9 (fun j hj => by
    obtain ⟨g', hg', _, _, hc⟩ := h.cell j (by omega)
    simp only [Option.some.injEq, Addr.mk.injEq, and_true] at hg'
    subst hg'
    have e : ((⟨g, 0, none⟩ : Addr).add j) = ⟨g, j, none⟩ := by
      simp [Addr.add]
      try exact fun h => h.symm
    rw [e, hc, cellsU, List.getElem?_map, List.getElem?_eq_getElem hj]
    simp)
  rw [hl] at h2
  exact h2

set_option maxHeartbeats 1000000 in
set_option maxRecDepth 100000 in
theorem text_of (t : T) (hw : wf t) (hl : (text t).length ≤ 8000000) (w : World) :
    Calls Tryz.prog 18 #[tree t] w fun e w' => e = .returned (textV t) ∧ Below w.heap.size w w' := by
  have hA := app_to t hw
  have hp := text_pos t
  unfold textV
  have hO0 := Lib.hid (Own.none w 5 1)
  rcases hA with ⟨V, ev, hv⟩ | ⟨V, ev, hv⟩
  all_goals
    rw [ev]
    have HC := Lib.hid (hv w w (.slice none 0 0) 0 [] hO0.out (by omega))
    clear ev hv
    by_cases h2 : (text t).length ≤ 2000
    · rw [if_pos h2]
      go_enter Tryz.func18, Tryz.ntmps18
      go_wp2_with fail
      refine HC.out.mono ?_
      rintro e w1 ⟨v', rfl, hO, _⟩
      rw [Nat.zero_add, List.nil_append] at hO
      obtain ⟨p, c, rfl⟩ := hO.slice
      have hcv := conv_text hO rfl hp
      have HB := Lib.hid hO.below
      obtain ⟨q, hq⟩ : ∃ q, str (text t) = q := ⟨_, rfl⟩
      rw [hq] at hcv
      have HQ := Lib.hid hq
      clear hq
      generalize (text t).length = n at *
      clear hO
      go_wp2_with fail
      go_returns
      exact ⟨by rw [HQ.out]; rfl, HB.out⟩
    · rw [if_neg h2]
      go_enter Tryz.func18, Tryz.ntmps18
      go_wp2_with fail
      refine HC.out.mono ?_
      rintro e w1 ⟨v', rfl, hO, _⟩
      rw [Nat.zero_add, List.nil_append] at hO
      obtain ⟨p, c, rfl⟩ := hO.slice
      have HB := Lib.hid hO.below
      have h3 : 2000 < (text t).length := by omega
      generalize (text t).length = n at *
      clear hO h2
      go_wp2_with fail
      go_returns
      exact ⟨rfl, HB.out⟩
end Go.Proofs.YtbbgibbpeibhiaaGreatDoor.TextOf

