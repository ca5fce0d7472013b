/-
  What comes of balancing a protocol, in the reference.
-/
import Derived.Test.YtgfhahlkffagaaaSaidCut
import Derived.Test.YtgfhahlkffagaaaSaidTrim
namespace Go.Proofs.Ytgfhahlkffagaaa.SaidBal
open Go.RowKit Go.Shelf Go.Proofs.Ytgfhahlkffagaaa.Plain Go.Proofs.Ytgfhahlkffagaaa.Tree Go.Proofs.Ytgfhahlkffagaaa.Read Go.Proofs.Ytgfhahlkffagaaa.Parts Go.Proofs.Ytgfhahlkffagaaa.SetW Go.Proofs.Ytgfhahlkffagaaa.TrimT Go.Proofs.Ytgfhahlkffagaaa.Rect Go.Proofs.Ytgfhahlkffagaaa.FreeL Go.Proofs.Ytgfhahlkffagaaa.CutT Go.Proofs.Ytgfhahlkffagaaa.SaidCut Go.Proofs.Ytgfhahlkffagaaa.SaidTrim
open Go.Proofs.Ytgfhahlkffagaaa.Split (cells2 info_rect eval_get)
open Go.Proofs.Ytgfhahlkffagaaa.Free (fill wp_value wp_enter wp_load_row freeB)
set_option linter.unusedVariables false
set_option linter.unusedSimpArgs false

theorem node_text (a : Bool) (S : Nat) (X Y : T) : str [whoB a] ++ str [hexD (S / 16)] ++ str [hexD (S % 16)] ++ str (text X) ++ str (text Y) = str (text (.say a S X Y)) := by
  rw [str_append, str_append, str_append, str_append]
  rfl
/-- a protocol's text that begins with a bit -/
theorem said_node (a : Bool) (S : Nat) (hS : S < 256) (X Y : T) (hX : (text X).length ≤ 8000000) (hY : (text Y).length ≤ 8000000) (w : World) :
    Calls Try.prog 50 #[.string (str [whoB a]), .int .i64 (S : Int), .string (str (text X)), .string (str (text Y))] w fun e w' => e = .returned (.string (str (text (.say a S X Y)))) ∧ Below w.heap.size w w' := by
  rw [← node_text]
  exact node_said (str [whoB a]) (str (text X)) (str (text Y)) S hS (by rw [str_size]; show 1 ≤ 2000; omega) (by rw [str_size]; omega) (by rw [str_size]; omega) w
/-- the blocks of a call: the rectangle and the part's -/
structure Sb (w wr : World) (B D R C x y : Nat) : Prop where
  rect : wr.heap[B]? = some (.cells #[.int .i64 (R : Int), .int .i64 (C : Int)] 23 (0, 0))
  part : wr.heap[D]? = some (.cells #[.int .i64 (x : Int), .int .i64 (y : Int)] 23 (0, 0))
  below : Below w.heap.size w wr
theorem Sb.later {w wr w2 : World} {B D R C x y : Nat} (h : Sb w wr B D R C x y) (hb : Below wr.heap.size wr w2) : Sb w w2 B D R C x y :=
  have k : ∀ {g : Nat} {o : Obj}, wr.heap[g]? = some o → w2.heap[g]? = some o := fun e => (hb.block _ (Array.getElem?_eq_some_iff.1 e).1).trans e
  ⟨k h.rect, k h.part, h.below.trans (hb.mono h.below.size)⟩
theorem eqn {a b : Nat} (h : a = b) : ((a : Int) == (b : Int)) = true := by subst h; simp
theorem nen {a b : Nat} (h : a ≠ b) : ((a : Int) == (b : Int)) = false := beq_false_of_ne (by omega)

set_option maxHeartbeats 8000000 in
set_option maxRecDepth 100000 in
theorem said_bal : ∀ (k : Nat) (t : T), wf t → (text t).length ≤ 2000 → ∀ (R C : Nat) (w : World), R < 256 → C < 256 → 1 ≤ R → 1 ≤ C → ends (trimT t R C) ≤ k → ends (trimT t R C) ≤ 16 →
    Calls Try.prog 30 #[.string (str (text t)), rect R C] w fun e w' => e = .returned (.string (str (text (balS k (trimT t R C) R C)))) ∧ Below w.heap.size w w' := by
  intro k
  induction k with
  | zero =>
    intro t hw hl R C w hR hC hR1 hC1 hk
    have := ends_pos (trimT t R C)
    omega
  | succ k ih =>
    intro t hw hl R C w hR hC hR1 hC1 hk h16
    have HTr := Lib.hid fun W => said_trim t hw hl R C W hR hC hR1 hC1
    have hwu := trim_wf t R C hR hC hw
    have hlu := trim_length t R C
    have htu := trim_tight t R C hR hC hR1 hC1
    obtain ⟨st, hst⟩ : ∃ q, str (text t) = q := ⟨_, rfl⟩
    rw [hst] at HTr ⊢
    generalize trimT t R C = u at *
    have HL := Lib.hid (said_ends u hwu (by omega))
    have hle := text_ends u
    have hep := ends_pos u
    have e1 := cut_ends (ends u) u R C
    obtain ⟨w1, w2⟩ := cut_wf (ends u) u R C hwu
    obtain ⟨g1, g2, g3, g4, g5, g6, g7, g8⟩ := cut_rect (ends u) u R C hR hC hR1 hC1 htu
    have hC0 : 3 ≤ ends u → ∀ W : World, Calls Try.prog 24 #[.string (str (text u)), rect R C, .int .i64 (ends u : Int), .string ⟨#[48]⟩] W fun e w' => e = .returned (.tuple #[.string (str (text (cutT (ends u) u R C).part)), rect (cutT (ends u) u R C).rows (cutT (ends u) u R C).cols, .string (str (text (cutT (ends u) u R C).rest))]) ∧ Below W.heap.size W w' :=
      fun h3 W => said_cut (ends u) (by omega) (by omega) u hwu (by omega) R C W hR hC
    have hX : 3 ≤ ends u → (∀ W : World, Calls Try.prog 30 #[.string (str (text (cutT (ends u) u R C).part)), rect (cutT (ends u) u R C).rows (cutT (ends u) u R C).cols] W fun e w' => e = .returned (.string (str (text (balS k (cutT (ends u) u R C).part (cutT (ends u) u R C).rows (cutT (ends u) u R C).cols)))) ∧ Below W.heap.size W w') ∧
        (∀ W : World, Calls Try.prog 30 #[.string (str (text (cutT (ends u) u R C).rest)), rect R C] W fun e w' => e = .returned (.string (str (text (balS k (cutT (ends u) u R C).rest R C)))) ∧ Below W.heap.size W w') ∧
        ends (cutT (ends u) u R C).part ≤ 16 ∧ ends (cutT (ends u) u R C).rest ≤ 16 := by
      intro h3
      have e2 := cut_most (ends u) (by omega) u R C
      have e3 := cut_least (ends u) u R C (by omega)
      have l1 := text_ends (cutT (ends u) u R C).part
      have l2 := text_ends (cutT (ends u) u R C).rest
      have y1 := tight_trim _ _ _ g7
      have y2 := tight_trim _ _ _ g8
      refine ⟨fun W => ?_, fun W => ?_, by omega, by omega⟩
      · have h := ih (cutT (ends u) u R C).part w1 (by omega) (cutT (ends u) u R C).rows (cutT (ends u) u R C).cols W g1 g2 g3 g4 (by rw [y1]; omega) (by rw [y1]; omega)
        rw [y1] at h
        exact h
      · have h := ih (cutT (ends u) u R C).rest w2 (by omega) R C W hR hC hR1 hC1 (by rw [y2]; omega) (by rw [y2]; omega)
        rw [y2] at h
        exact h
    have sX := fun h => balS_ends k (cutT (ends u) u R C).rest R C h
    have sY := fun h => balS_ends k (cutT (ends u) u R C).part (cutT (ends u) u R C).rows (cutT (ends u) u R C).cols h
    have HRS : Hid (balS (k + 1) u R C = if ends u ≤ 2 then u else
      if (cutT (ends u) u R C).cols = C then
        .say true (cutT (ends u) u R C).rows (balS k (cutT (ends u) u R C).rest R C) (balS k (cutT (ends u) u R C).part (cutT (ends u) u R C).rows (cutT (ends u) u R C).cols)
      else if (cutT (ends u) u R C).rows = R then
        .say false (cutT (ends u) u R C).cols (balS k (cutT (ends u) u R C).rest R C) (balS k (cutT (ends u) u R C).part (cutT (ends u) u R C).rows (cutT (ends u) u R C).cols)
      else
        .say true (cutT (ends u) u R C).rows (balS k (cutT (ends u) u R C).rest R C)
          (.say false (cutT (ends u) u R C).cols (balS k (cutT (ends u) u R C).rest R C) (balS k (cutT (ends u) u R C).part (cutT (ends u) u R C).rows (cutT (ends u) u R C).cols))) := rfl
    obtain ⟨res, hres⟩ : ∃ res, balS (k + 1) u R C = res := ⟨_, rfl⟩
    rw [hres] at HRS ⊢
    clear hres
    generalize balS k (cutT (ends u) u R C).rest R C = X at *
    generalize balS k (cutT (ends u) u R C).part (cutT (ends u) u R C).rows (cutT (ends u) u R C).cols = Y at *
    generalize cutT (ends u) u R C = cu at *
    obtain ⟨pa, ra, ca, xa⟩ := cu
    simp only at hC0 hX e1 HRS g1 g2 sX sY
    have HNX := fun (h3 : 3 ≤ ends u) => (show (text X).length ≤ 2000 ∧ (text Y).length ≤ 2000 from by
      obtain ⟨_, _, a1, a2⟩ := hX h3
      have m1 := sX a2
      have m2 := sY a1
      have m3 := most_le ⟨ends xa, by omega⟩
      have m4 := most_le ⟨ends pa, by omega⟩
      have l1 := text_ends X
      have l2 := text_ends Y
      simp only at m3 m4
      omega)
    obtain ⟨E, hEE⟩ : ∃ E, ends u = E := ⟨_, rfl⟩
    rw [hEE] at HL hC0 hX h16 HRS HNX
    obtain ⟨B, hB⟩ : ∃ B, w.heap.size = B := ⟨_, rfl⟩
    clear ih hk hw hl hst hwu hlu htu hep hle e1 w1 w2 g3 g4 g5 g6 g7 g8 sX sY hR hC hR1 hC1 hEE
    by_cases h2 : E ≤ 2
    · have HR1 : Hid (res = u) := by have h := HRS.out; rw [if_pos h2] at h; exact h
      have h2i : (E : Int) ≤ 2 := by omega
      rw [HR1.out]
      clear HRS hC0 hX HNX HR1
      generalize str (text u) = su at *
      go_enter Try.func30, Try.ntmps30
      go_wp2_with fail
      refine (HTr.out _).mono ?_
      rintro e w1 ⟨rfl, hb1⟩
      have HB1 := Lib.hid (((Below.refl w.heap.size w).alloc (Nat.le_refl _) (.cells #[.int .i64 (R : Int), .int .i64 (C : Int)] 23)).trans (hb1.mono (by simp)))
      clear hb1
      go_wp2_with fail
      refine (HL.out _).mono ?_
      rintro e w2 ⟨rfl, hb2⟩
      have HB2 := Lib.hid (HB1.out.trans (hb2.mono HB1.out.size))
      clear hb2 HB1
      go_wp2_with fail
      go_ret
      exact ⟨rfl, HB2.out⟩
    have h2i : ¬ (E : Int) ≤ 2 := by omega
    have HRS2 : Hid (res = if ca = C then .say true ra X Y else if ra = R then .say false ca X Y else .say true ra X (.say false ca X Y)) := by have h := HRS.out; rw [if_neg h2] at h; exact h
    obtain ⟨lX, lY⟩ := HNX (by omega)
    obtain ⟨hy, hx, _, _⟩ := hX (by omega)
    have HC := Lib.hid (hC0 (by omega))
    have HX := Lib.hid hx
    have HY := Lib.hid hy
    have hlZ : (text (.say false ca X Y)).length ≤ 8000000 := by simp only [text, List.length_cons, List.length_append]; omega
    have HN1 : Hid (∀ W : World, Calls Try.prog 50 #[.string ⟨#[65]⟩, .int .i64 (ra : Int), .string (str (text X)), .string (str (text Y))] W fun e w' => e = .returned (.string (str (text (.say true ra X Y)))) ∧ Below W.heap.size W w') := fun W => said_node true ra g1 X Y (by omega) (by omega) W
    have HN2 : Hid (∀ W : World, Calls Try.prog 50 #[.string ⟨#[66]⟩, .int .i64 (ca : Int), .string (str (text X)), .string (str (text Y))] W fun e w' => e = .returned (.string (str (text (.say false ca X Y)))) ∧ Below W.heap.size W w') := fun W => said_node false ca g2 X Y (by omega) (by omega) W
    have HN3 : Hid (∀ W : World, Calls Try.prog 50 #[.string ⟨#[65]⟩, .int .i64 (ra : Int), .string (str (text X)), .string (str (text (.say false ca X Y)))] W fun e w' => e = .returned (.string (str (text (.say true ra X (.say false ca X Y))))) ∧ Below W.heap.size W w') := fun W => said_node true ra g1 X _ (by omega) hlZ W
    clear HRS hC0 hX HNX hx hy lX lY hlZ
    have HRW : Hid (∃ sr, str (text res) = sr) := ⟨_, rfl⟩
    generalize str (text u) = su at *
    generalize str (text pa) = sp at *
    generalize str (text xa) = sx at *
    go_enter Try.func30, Try.ntmps30
    go_wp2_with fail
    refine (HTr.out _).mono ?_
    rintro e w1 ⟨rfl, hb1⟩
    have n0 := heap_alloc_new w (.cells #[.int .i64 (R : Int), .int .i64 (C : Int)] 23)
    have k0 := (hb1.block _ (Array.getElem?_eq_some_iff.1 n0).1).trans n0
    have HB1 := Lib.hid (((Below.refl w.heap.size w).alloc (Nat.le_refl _) (.cells #[.int .i64 (R : Int), .int .i64 (C : Int)] 23)).trans (hb1.mono (by simp)))
    rw [hB] at k0
    have HK0 := Lib.hid k0
    clear hb1 n0 k0 HTr hB
    go_wp2_with fail
    refine (HL.out _).mono ?_
    rintro e w2 ⟨rfl, hb2⟩
    have HK1 := Lib.hid ((hb2.block _ (Array.getElem?_eq_some_iff.1 HK0.out).1).trans HK0.out)
    have HB2 := Lib.hid (HB1.out.trans (hb2.mono HB1.out.size))
    clear hb2 HK0 HB1 HL
    obtain ⟨r0, r1, _, _⟩ := cells2 HK1.out
    go_wp2_with fail
    refine (HC.out _).mono ?_
    rintro e w3 ⟨rfl, hb3⟩
    obtain ⟨D, hD⟩ : ∃ D, w3.heap.size = D := ⟨_, rfl⟩
    have k1 := (hb3.block _ (Array.getElem?_eq_some_iff.1 HK1.out).1).trans HK1.out
    have n1 := heap_alloc_new w3 (.cells #[.int .i64 (ra : Int), .int .i64 (ca : Int)] 23)
    rw [hD] at n1
    have HB3 := Lib.hid (HB2.out.trans (hb3.mono HB2.out.size))
    have HS := Lib.hid (Sb.mk ((heap_alloc_old w3 _ (Array.getElem?_eq_some_iff.1 k1).1).trans k1) n1 (HB3.out.alloc HB3.out.size _) : Sb w (w3.alloc (.cells #[.int .i64 (ra : Int), .int .i64 (ca : Int)] 23)) B D R C ra ca)
    clear hb3 k1 n1 HB3 HB2 HK1 HC r0 r1
    go_wp2_with fail
    generalize w3.alloc (.cells #[.int .i64 (ra : Int), .int .i64 (ca : Int)] 23) = w4 at *
    refine (HY.out _).mono ?_
    rintro e w5 ⟨rfl, hb5⟩
    have HS5 := Lib.hid (HS.out.later hb5)
    clear hb5 HS HY hD
    obtain ⟨r0, r1, _, _⟩ := cells2 HS5.out.rect
    go_wp2_with fail
    refine (HX.out _).mono ?_
    rintro e w6 ⟨rfl, hb6⟩
    have HS6 := Lib.hid (HS5.out.later hb6)
    clear hb6 HS5 HX r0 r1
    obtain ⟨r0, r1, _, _⟩ := cells2 HS6.out.rect
    obtain ⟨d0, d1, _, _⟩ := cells2 HS6.out.part
    by_cases hc : ca = C
    · have hc2 := eqn hc
      have HR1 : Hid (res = .say true ra X Y) := by have h := HRS2.out; rw [if_pos hc] at h; exact h
      clear HRS2 hc HN2 HN3
      go_wp2_with fail
      refine (HN1.out _).mono ?_
      rintro e w7 ⟨rfl, hb7⟩
      have HB := Lib.hid (HS6.out.below.trans (hb7.mono HS6.out.below.size))
      clear hb7
      go_wp2_with fail
      go_ret
      exact ⟨by rw [HR1.out]; rfl, HB.out⟩
    have hc2 := nen hc
    by_cases hr : ra = R
    · have hr2 := eqn hr
      have HR1 : Hid (res = .say false ca X Y) := by have h := HRS2.out; rw [if_neg hc, if_pos hr] at h; exact h
      clear HRS2 hc hr HN1 HN3
      go_wp2_with fail
      refine (HN2.out _).mono ?_
      rintro e w7 ⟨rfl, hb7⟩
      have HB := Lib.hid (HS6.out.below.trans (hb7.mono HS6.out.below.size))
      clear hb7
      go_wp2_with fail
      go_ret
      exact ⟨by rw [HR1.out]; rfl, HB.out⟩
    have hr2 := nen hr
    have HR1 : Hid (res = .say true ra X (.say false ca X Y)) := by have h := HRS2.out; rw [if_neg hc, if_neg hr] at h; exact h
    obtain ⟨s3, hs3⟩ : ∃ q, str (text (.say true ra X (.say false ca X Y))) = q := ⟨_, rfl⟩
    have HQ : Hid (str (text res) = s3) := by show _ = _; rw [HR1.out]; exact hs3
    rw [hs3] at HN3
    clear HRS2 HR1 hc hr HN1 hs3
    generalize str (text (.say false ca X Y)) = s2 at *
    generalize str (text X) = sX at *
    generalize str (text Y) = sY at *
    go_wp2_with fail
    refine wp_region_below (fun | 0 => .pointer (some ⟨D, 0, none⟩) | 1 => .int .i64 (ra : Int) | 2 => .string sX | 3 => .pointer (some ⟨D, 1, none⟩) | 4 => .int .i64 (ca : Int) | 5 => .string sX | 6 => .string sY | 7 => .string s2 | 8 => .string s3 | 9 => .string s3 | _ => undef) (by kernel_rfl) (by kernel_rfl) rfl ?conZ ?enZ
    case conZ =>
      intro i o ho a wx hb hf
      match i, ho with
      | 0, ho =>
        obtain rfl := Option.some.inj ho
        have b8 : a.tmps[8]?.getD undef = .pointer (some ⟨D, 0, none⟩) := hf.2 8 (by kernel_rfl)
        exact wp_value (.pointer (some ⟨D, 0, none⟩)) (by unfold execOp; go_simp) ⟨rfl, Below.refl _ _⟩
      | 1, ho =>
        obtain rfl := Option.some.inj ho
        have e54 : a.tmps[54]?.getD undef = .pointer (some ⟨D, 0, none⟩) := hf.1 ⟨0, .data⟩ (by simp) rfl _ 54 rfl rfl
        obtain ⟨c0, c1, _, _⟩ := cells2 ((HS6.out.later hb).part)
        exact wp_value (.int .i64 (ra : Int)) (by unfold execOp; go_simp) ⟨rfl, Below.refl _ _⟩
      | 2, ho =>
        obtain rfl := Option.some.inj ho
        have b11 : a.tmps[11]?.getD undef = .string sX := hf.2 11 (by kernel_rfl)
        exact wp_value (.string sX) (by unfold execOp; go_simp) ⟨rfl, Below.refl _ _⟩
      | 3, ho =>
        obtain rfl := Option.some.inj ho
        have b8 : a.tmps[8]?.getD undef = .pointer (some ⟨D, 0, none⟩) := hf.2 8 (by kernel_rfl)
        exact wp_value (.pointer (some ⟨D, 1, none⟩)) (by unfold execOp; go_simp) ⟨rfl, Below.refl _ _⟩
      | 4, ho =>
        obtain rfl := Option.some.inj ho
        have e57 : a.tmps[57]?.getD undef = .pointer (some ⟨D, 1, none⟩) := hf.1 ⟨3, .data⟩ (by simp) rfl _ 57 rfl rfl
        obtain ⟨c0, c1, _, _⟩ := cells2 ((HS6.out.later hb).part)
        exact wp_value (.int .i64 (ca : Int)) (by unfold execOp; go_simp) ⟨rfl, Below.refl _ _⟩
      | 5, ho =>
        obtain rfl := Option.some.inj ho
        have b11 : a.tmps[11]?.getD undef = .string sX := hf.2 11 (by kernel_rfl)
        exact wp_value (.string sX) (by unfold execOp; go_simp) ⟨rfl, Below.refl _ _⟩
      | 6, ho =>
        obtain rfl := Option.some.inj ho
        have b10 : a.tmps[10]?.getD undef = .string sY := hf.2 10 (by kernel_rfl)
        exact wp_value (.string sY) (by unfold execOp; go_simp) ⟨rfl, Below.refl _ _⟩
      | 7, ho =>
        obtain rfl := Option.some.inj ho
        have e58 : a.tmps[58]?.getD undef = .int .i64 (ca : Int) := hf.1 ⟨4, .data⟩ (by simp) rfl _ 58 rfl rfl
        have e59 : a.tmps[59]?.getD undef = .string sX := hf.1 ⟨5, .data⟩ (by simp) rfl _ 59 rfl rfl
        have e60 : a.tmps[60]?.getD undef = .string sY := hf.1 ⟨6, .data⟩ (by simp) rfl _ 60 rfl rfl
        exact wp_enter 50 #[.string ⟨#[66]⟩, .int .i64 (ca : Int), .string sX, .string sY] (.string s2) _ (by unfold execOp; go_simp) (HN2.out wx) (fun w' h => ⟨rfl, h⟩)
      | 8, ho =>
        obtain rfl := Option.some.inj ho
        have e55 : a.tmps[55]?.getD undef = .int .i64 (ra : Int) := hf.1 ⟨1, .data⟩ (by simp) rfl _ 55 rfl rfl
        have e56 : a.tmps[56]?.getD undef = .string sX := hf.1 ⟨2, .data⟩ (by simp) rfl _ 56 rfl rfl
        have e61 : a.tmps[61]?.getD undef = .string s2 := hf.1 ⟨7, .data⟩ (by simp) rfl _ 61 rfl rfl
        exact wp_enter 50 #[.string ⟨#[65]⟩, .int .i64 (ra : Int), .string sX, .string s2] (.string s3) _ (by unfold execOp; go_simp) (HN3.out wx) (fun w' h => ⟨rfl, h⟩)
      | 9, ho =>
        obtain rfl := Option.some.inj ho
        have e62 : a.tmps[62]?.getD undef = .string s3 := hf.1 ⟨8, .data⟩ (by simp) rfl _ 62 rfl rfl
        exact wp_value (.string s3) (by unfold execOp; go_simp) ⟨rfl, Below.refl _ _⟩
      | q + 10, ho => simp at ho
    case enZ =>
      intro w7 hb7
      have HB := Lib.hid (HS6.out.below.trans (hb7.mono HS6.out.below.size))
      clear hb7
      simp only [fill, Act.put]
      go_simp
      go_wp2_with fail
      go_ret
      exact ⟨by rw [HQ.out]; rfl, HB.out⟩
end Go.Proofs.Ytgfhahlkffagaaa.SaidBal
