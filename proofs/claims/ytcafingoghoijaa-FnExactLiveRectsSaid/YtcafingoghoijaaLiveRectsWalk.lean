/-
  The walk of the law on LiveRects.
-/
import Derived.Test.YtcafingoghoijaaLiveS
import Derived.Test.YtcafingoghoijaaMarkB
import Derived.Test.YtcafingoghoijaaFreeS
namespace Go.Proofs.Ytcafingoghoijaa.fnExactLiveRects
open Go.RowKit Go.Proofs.Ytcafingoghoijaa.Plain Go.Proofs.Ytcafingoghoijaa.Rect Go.Proofs.Ytcafingoghoijaa.Rects Go.Proofs.Ytcafingoghoijaa.RectsQ Go.Proofs.Ytcafingoghoijaa.Things Go.Proofs.Ytcafingoghoijaa.LiveI Go.Proofs.Ytcafingoghoijaa.Live Go.Proofs.Ytcafingoghoijaa.LiveS Go.Proofs.Ytcafingoghoijaa.MarkB Go.Proofs.Ytcafingoghoijaa.FreeS
open Go.Proofs.Ytcafingoghoijaa.Marks (flat rv_own nums held nums_len)
open Go.Proofs.Ytcafingoghoijaa.Free (fill wp_value wp_enter wp_load_row freeB)
set_option linter.unusedVariables false

theorem linfo2 : (Try.prog.info? 31).map (·.size) = some 2 := by kernel_rfl

/-- both sides' lists are one -/
theorem both (xs : List (Int × Int)) (hlen : xs.length ≤ 1048576) (x y : Int) (cols : Bool) : ∃ ts : List (Int × Int), ts.length ≤ 1048576 ∧
    (∀ w v, RV w w.heap.size v xs → Calls Try.prog 22 #[v, rect x y, .bool cols] w fun e w' => ∃ v', e = .returned v' ∧ w'.ownsRow w.heap.size 33 2 v' ts.length (flat ts) ∧ Below w.heap.size w w') ∧
    (∀ w v, RV w w.heap.size v xs → Calls Try.prog 24 #[v, rect x y, .bool cols] w fun e w' => ∃ v', e = .returned v' ∧ w'.ownsRow w.heap.size 33 2 v' ts.length (flat ts) ∧ Below w.heap.size w w') := by
  cases h : someB x y && allR xs with
  | true =>
    rw [Bool.and_eq_true] at h
    exact ⟨live xs (x, y) cols, Nat.le_trans (kept_len xs _) hlen, fun w v hv => spec_yes xs hlen v x y cols h.1 h.2 w hv, fun w v hv => impl_yes xs hlen v x y cols h.1 h.2 w hv⟩
  | false =>
    refine ⟨[], by simp, fun w v hv => spec_no xs hlen v x y cols h w hv, fun w v hv => (impl_no xs hlen v x y cols h w hv).mono ?_⟩
    rintro e w' ⟨rfl, hb⟩
    exact ⟨_, rfl, World.ownsRow_nil _ _ _ _, hb⟩

/-- what lies all the time: the list, the rectangle's box -/
structure PS (w : World) (v : Value) (xs : List (Int × Int)) (x y : Int) (W : World) : Prop where
  list : RV W w.heap.size v xs
  box : W.heap[w.heap.size]? = some (.cells #[.int .i64 x, .int .i64 y] 31 (0, 0))
  below : Below w.heap.size w W
  size : w.heap.size + 1 ≤ W.heap.size
theorem PS.later {w W W' : World} {v : Value} {xs : List (Int × Int)} {x y : Int} (h : PS w v xs x y W) (hb : Below W.heap.size W W') : PS w v xs x y W' :=
  ⟨h.list.later (by have := h.size; omega) hb, (hb.block _ (by have := h.size; omega)).trans h.box, h.below.trans (hb.mono (by have := h.size; omega)), Nat.le_trans h.size hb.size⟩
theorem PS.mark {w W W' : World} {v : Value} {xs : List (Int × Int)} {x y : Int} {g : Nat} (h : PS w v xs x y W) (hg : W.grownBy W' (some g)) (hl : w.heap.size + 1 ≤ g) : PS w v xs x y W' :=
  ⟨rv_grown h.list hg (by omega) (by have := h.size; omega), (hg.block _ (by have := h.size; omega) (by intro e; injection e with e; omega)).trans h.box, below_grown h.below hg (by omega) (by have := h.size; omega), Nat.le_trans h.size hg.size⟩

set_option maxRecDepth 100000 in
set_option maxHeartbeats 8000000 in
theorem walk (v : Value) (xs : List (Int × Int)) (x y : Int) (wx : (Lit.int .i64 x).wf = true) (wy : (Lit.int .i64 y).wf = true) (cols : Bool) (w : World) (hv : RV w w.heap.size v xs) :
    Calls Try.prog 6 #[v, rect x y, .bool cols] w fun e w' => e = .returned (.bool true) ∧ Below w.heap.size w w' := by
  obtain ⟨p, k, rfl⟩ := hv.slice
  have hl := hv.1
  have HSZ := Lib.hid (fun W => sz_rects p xs.length k 1048576 (by omega) (by omega) hl W)
  obtain ⟨left, hleft⟩ : ∃ left : Int, (1048576 : Int) - (xs.length : Int) = left := ⟨_, rfl⟩
  have hb0 : Below w.heap.size w (w.alloc (.cells #[.int .i64 x, .int .i64 y] 31)) := (Below.refl _ _).alloc (Nat.le_refl _) _
  have HP0 : Hid (PS w (.slice p xs.length k) xs x y (w.alloc (.cells #[.int .i64 x, .int .i64 y] 31))) := ⟨hv.later (Nat.le_refl _) hb0, heap_alloc_new w _, hb0, by simp⟩
  clear hv hb0
  by_cases hfit : (xs.length : Int) ≤ 1048576
  · have hlen : xs.length ≤ 1048576 := by omega
    have hl0 : ¬ left < 0 := by omega
    rw [if_pos hfit, hleft] at HSZ
    obtain ⟨ts, htl, hspec, himpl⟩ := both xs hlen x y cols
    have HS := Lib.hid hspec
    have HI := Lib.hid himpl
    clear hl hfit hleft hspec himpl wx wy
    go_enter Try.func6, Try.ntmps6
    go_wp2_with fail
    refine (HSZ.out _).mono ?_
    rintro e w' ⟨rfl, rfl⟩
    clear HSZ
    go_wp2_with fail
    obtain ⟨w1, hw1⟩ : ∃ w1, w.alloc (.cells #[.int .i64 x, .int .i64 y] 31) = w1 := ⟨_, rfl⟩
    rw [hw1] at HP0 ⊢
    clear hw1
    have HP := HP0
    clear HP0
    have hq1 := HP.out.size
    refine wp_region_rels (fun | 0 => fun v _ => v = .slice p xs.length k | 1 => fun v wx => RV wx wx.heap.size v xs | 2 => fun v _ => v = rect x y | 3 => fun v _ => v = rect x y | 4 => fun v _ => v = .bool cols | 5 => fun v wx => wx.ownsRow w1.heap.size 33 2 v ts.length (flat ts) | 6 => fun v wx => wx.ownsRow w1.heap.size 33 2 v ts.length (flat ts) | _ => fun _ _ => True) ?hRA (by kernel_rfl) (by kernel_rfl) rfl ?conA ?enA
    case hRA =>
      intro i v wa wb ho h
      match i, h with
      | 0, h => exact h
      | 1, h => exact (h.later (Nat.le_refl _) ho).mono ho.size
      | 2, h => exact h
      | 3, h => exact h
      | 4, h => exact h
      | 5, h => exact own_below h ho
      | 6, h => exact own_below h ho
      | q + 7, h => trivial
    case conA =>
      intro i oo ho a wx hb2 hf
      match i, ho with
      | 0, ho =>
        obtain rfl := Option.some.inj ho
        have b0 : a.tmps[0]?.getD undef = .slice p xs.length k := hf.2 0 (by kernel_rfl)
        exact wp_value (.slice p xs.length k) (by unfold execOp; go_simp) ⟨_, rfl, rfl, Below.refl _ _⟩
      | 1, ho =>
        obtain rfl := Option.some.inj ho
        have e20 : a.tmps[20]?.getD undef = .slice p xs.length k := hf.1 ⟨0, .data⟩ (by simp) rfl _ 20 rfl rfl
        exact wp_enterE 15 #[.slice p xs.length k] (fun v w' => RV w' w'.heap.size v xs ∧ Below wx.heap.size wx w') (by unfold execOp; go_simp) (to_rects xs _ hlen wx ((HP.out.list.later (by omega) hb2).mono (by have := hb2.size; omega))) (fun v w' h => ⟨_, rfl, h.1, h.2⟩)
      | 2, ho =>
        obtain rfl := Option.some.inj ho
        have b4 : a.tmps[4]?.getD undef = .pointer (some ⟨w.heap.size, 0, none⟩) := hf.2 4 (by kernel_rfl)
        exact wp_load_row 31 (.tmp 4) rfl w.heap.size (eval_get b4 trivial) 31 _ (0, 0) _ ((hb2.block _ (by have := HP.out.size; omega)).trans HP.out.box) Try.underlying31 rfl linfo2 ⟨_, rfl, rfl, Below.refl _ _⟩
      | 3, ho =>
        obtain rfl := Option.some.inj ho
        have e22 : a.tmps[22]?.getD undef = rect x y := hf.1 ⟨2, .data⟩ (by simp) rfl _ 22 rfl rfl
        exact wp_enter 23 #[rect x y] (rect x y) _ (by unfold execOp; go_simp) (to_rect x y wx) (fun w' h => ⟨_, rfl, rfl, h⟩)
      | 4, ho =>
        obtain rfl := Option.some.inj ho
        have b2 : a.tmps[2]?.getD undef = .bool cols := hf.2 2 (by kernel_rfl)
        exact wp_value (.bool cols) (by unfold execOp; go_simp) ⟨_, rfl, rfl, Below.refl _ _⟩
      | 5, ho =>
        obtain rfl := Option.some.inj ho
        have hrv : RV wx wx.heap.size (a.tmps[21]?.getD undef) xs := hf.1 ⟨1, .data⟩ (by simp) rfl _ 21 rfl rfl
        obtain ⟨V, hV⟩ : ∃ V, a.tmps[21]?.getD undef = V := ⟨_, rfl⟩
        rw [hV] at hrv
        have e23 : a.tmps[23]?.getD undef = rect x y := hf.1 ⟨3, .data⟩ (by simp) rfl _ 23 rfl rfl
        have e24 : a.tmps[24]?.getD undef = .bool cols := hf.1 ⟨4, .data⟩ (by simp) rfl _ 24 rfl rfl
        exact wp_enterE 22 #[V, rect x y, .bool cols] (fun v w' => w'.ownsRow wx.heap.size 33 2 v ts.length (flat ts) ∧ Below wx.heap.size wx w') (by unfold execOp; go_simp) (HS.out wx V hrv) (fun v w' h => ⟨_, rfl, own_lower h.1 hb2.size, h.2⟩)
      | 6, ho =>
        obtain rfl := Option.some.inj ho
        have hrv : wx.ownsRow w1.heap.size 33 2 (a.tmps[25]?.getD undef) ts.length (flat ts) := hf.1 ⟨5, .data⟩ (by simp) rfl _ 25 rfl rfl
        obtain ⟨V, hV⟩ : ∃ V, a.tmps[25]?.getD undef = V := ⟨_, rfl⟩
        rw [hV] at hrv
        exact wp_value V (by unfold execOp; go_simp) ⟨_, rfl, hrv, Below.refl _ _⟩
      | q + 7, ho => simp at ho
    case enA =>
      intro vs w2 hb2 hall
      have hrow2 : w2.ownsRow w1.heap.size 33 2 (vs 6) ts.length (flat ts) := hall 6 _ rfl
      obtain ⟨v8, hv8⟩ : ∃ v8, vs 6 = v8 := ⟨_, rfl⟩
      have HW2 : Hid (RV w2 w2.heap.size v8 ts) := by rw [← hv8]; exact rv_own hrow2 htl
      have HP2 := Lib.hid (HP.out.later hb2)
      have hq2 := HP2.out.size
      simp only [fill, Act.put]
      rw [hv8]
      clear hall hrow2 hb2 HP HS hv8
      go_simp
      go_wp2_with fail
      refine (to_own xs _ hlen _ (HP2.out.list.mono (by omega))).mono ?_
      rintro e w3 ⟨rfl, ho3⟩
      have HO3 := Lib.hid ho3
      have HP3 := Lib.hid (HP2.out.later ho3.below)
      have HW3 := Lib.hid (HW2.out.later (Nat.le_refl _) ho3.below)
      have hs3 : w2.heap.size + 1 ≤ w3.heap.size := ho3.hi
      have c0 : w3.cell? ⟨w.heap.size, 0, none⟩ = some (.int .i64 x) := cell_of_row _ _ 0 _ _ _ HP3.out.box
      have c1 : w3.cell? ⟨w.heap.size, 1, none⟩ = some (.int .i64 y) := cell_of_row _ _ 1 _ _ _ HP3.out.box
      clear ho3 HW2 HP2
      go_wp2_with fail
      refine (to_rect x y _).mono ?_
      rintro e w4 ⟨rfl, hb4⟩
      have HO4 := Lib.hid (HO3.out.later hb4)
      have HP4 := Lib.hid (HP3.out.later hb4)
      have HW4 := Lib.hid (HW3.out.later (by omega) hb4)
      have hs4 : w3.heap.size ≤ w4.heap.size := hb4.size
      clear hb4 c0 c1 HO3 HP3 HW3
      go_wp2_with fail
      refine (HI.out _ _ (rv_out hlen HO4.out)).mono ?_
      rintro e w5 ⟨v5, rfl, hrow5, hb5⟩
      have HG5 := Lib.hid hrow5
      have HO5 := Lib.hid (HO4.out.later hb5)
      have HP5 := Lib.hid (HP4.out.later hb5)
      have HW5 := Lib.hid (HW4.out.later (by omega) hb5)
      have hs5 : w4.heap.size ≤ w5.heap.size := hb5.size
      clear hb5 hrow5 HO4 HP4 HW4
      go_wp2_with fail
      refine (eq_rects ts _ _ _ (rv_own HG5.out htl) (HW5.out.mono (by omega))).mono ?_
      rintro e w6 ⟨rfl, hb6⟩
      have HG6 := Lib.hid (own_below HG5.out hb6)
      have HO6 := Lib.hid (HO5.out.later hb6)
      have HP6 := Lib.hid (HP5.out.later hb6)
      have HW6 := Lib.hid (HW5.out.later (by omega) hb6)
      have hs6 : w5.heap.size ≤ w6.heap.size := hb6.size
      clear hb6 HG5 HO5 HP5 HW5
      go_wp2_with fail
      refine (to_rects xs _ hlen _ (HP6.out.list.mono (by have := HP6.out.size; omega))).mono ?_
      rintro e w7 ⟨v7, rfl, hr7, hb7⟩
      have HR7 := Lib.hid hr7
      have HG7 := Lib.hid (own_below HG6.out hb7)
      have HO7 := Lib.hid (HO6.out.later hb7)
      have HP7 := Lib.hid (HP6.out.later hb7)
      have HW7 := Lib.hid (HW6.out.later (by omega) hb7)
      have hs7 : w6.heap.size ≤ w7.heap.size := hb7.size
      clear hb7 hr7 HG6 HO6 HP6 HW6
      go_wp2_with fail
      refine (eq_rects xs _ _ _ (rv_out hlen HO7.out) HR7.out).mono ?_
      rintro e w8 ⟨rfl, hb8⟩
      have HG8 := Lib.hid (own_below HG7.out hb8)
      have HO8 := Lib.hid (HO7.out.later hb8)
      have HP8 := Lib.hid (HP7.out.later hb8)
      have HW8 := Lib.hid (HW7.out.later (by omega) hb8)
      have hs8 : w7.heap.size ≤ w8.heap.size := hb8.size
      clear hb8 HR7 HG7 HO7 HP7 HW7
      go_wp2_with fail
      refine (mark_any w2.heap.size xs.length xs.length hlen _ HO8.out.there).mono ?_
      rintro e w9 ⟨rfl, hm9⟩
      have HG9 : Hid (w9.ownsRow w4.heap.size 33 2 v5 ts.length (flat ts)) := HG8.out.kept hm9.grown (by
        cases hvb : v5.ownBlock with
        | none => exact .inl rfl
        | some q => exact .inr (by intro e; injection e with e; have := (HG8.out.lt q hvb).1; omega))
      have HP9 := Lib.hid (HP8.out.mark hm9.grown (by omega))
      have HW9 := Lib.hid (rv_grown HW8.out hm9.grown (Nat.le_refl _) (by omega))
      have hs9 : w8.heap.size ≤ w9.heap.size := hm9.grown.size
      obtain ⟨K, hK⟩ : ∃ K : Nat, 1 + 2 * xs.length = K := ⟨_, rfl⟩
      have hK0 : ¬ ((K : Int) < 0) := by omega
      rw [hK]
      clear hm9 hK HG8 HO8 HP8 HW8
      go_wp2_with fail
      refine (eq_rects ts _ _ _ (rv_own HG9.out htl) (HW9.out.mono (by omega))).mono ?_
      rintro e w10 ⟨rfl, hb10⟩
      have HG10 := Lib.hid (own_below HG9.out hb10)
      have HP10 := Lib.hid (HP9.out.later hb10)
      have HW10 := Lib.hid (HW9.out.later (by omega) hb10)
      have hs10 : w9.heap.size ≤ w10.heap.size := hb10.size
      clear hb10 HG9 HP9 HW9
      go_wp2_with fail
      refine (mark_own w4.heap.size _ _ ts htl HG10.out (by omega)).mono ?_
      rintro e w11 ⟨rfl, hr11, g11, hg11, hgr11⟩
      have HR11 := Lib.hid hr11
      have HP11 := Lib.hid (HP10.out.mark hgr11 (by omega))
      have HW11 := Lib.hid (rv_grown HW10.out hgr11 (by omega) (by omega))
      have hs11 : w10.heap.size ≤ w11.heap.size := hgr11.size
      obtain ⟨M, hM⟩ : ∃ M : Nat, 1 + 2 * ts.length = M := ⟨_, rfl⟩
      have hM0 : ¬ ((M : Int) < 0) := by omega
      have HM := Lib.hid hM
      rw [hM]
      clear hr11 hg11 hgr11 hM HG10 HP10 HW10
      go_wp2_with fail
      refine (held _ ts.length htl _ HR11.out).mono ?_
      rintro e w' ⟨rfl, rfl⟩
      rw [HM.out]
      go_wp2_with fail
      have HP := HP11
      clear HP11
      have hq11 := HP.out.size
      refine wp_region_rels (fun | 0 => fun v _ => v = .slice p xs.length k | 1 => fun v wx => RV wx wx.heap.size v xs | 2 => fun v _ => v = rect x y | 3 => fun v _ => v = rect x y | 4 => fun v _ => v = .bool cols | 5 => fun v wx => wx.ownsRow w11.heap.size 33 2 v ts.length (flat ts) | 6 => fun v wx => wx.ownsRow w11.heap.size 33 2 v ts.length (flat ts) | _ => fun _ _ => True) ?hRB (by kernel_rfl) (by kernel_rfl) rfl ?conB ?enB
      case hRB =>
        intro i v wa wb ho h
        match i, h with
        | 0, h => exact h
        | 1, h => exact (h.later (Nat.le_refl _) ho).mono ho.size
        | 2, h => exact h
        | 3, h => exact h
        | 4, h => exact h
        | 5, h => exact own_below h ho
        | 6, h => exact own_below h ho
        | q + 7, h => trivial
      case conB =>
        intro i oo ho a wx hb2 hf
        match i, ho with
        | 0, ho =>
          obtain rfl := Option.some.inj ho
          have b0 : a.tmps[0]?.getD undef = .slice p xs.length k := hf.2 0 (by kernel_rfl)
          exact wp_value (.slice p xs.length k) (by unfold execOp; go_simp) ⟨_, rfl, rfl, Below.refl _ _⟩
        | 1, ho =>
          obtain rfl := Option.some.inj ho
          have e64 : a.tmps[64]?.getD undef = .slice p xs.length k := hf.1 ⟨0, .data⟩ (by simp) rfl _ 64 rfl rfl
          exact wp_enterE 15 #[.slice p xs.length k] (fun v w' => RV w' w'.heap.size v xs ∧ Below wx.heap.size wx w') (by unfold execOp; go_simp) (to_rects xs _ hlen wx ((HP.out.list.later (by omega) hb2).mono (by have := hb2.size; omega))) (fun v w' h => ⟨_, rfl, h.1, h.2⟩)
        | 2, ho =>
          obtain rfl := Option.some.inj ho
          have b4 : a.tmps[4]?.getD undef = .pointer (some ⟨w.heap.size, 0, none⟩) := hf.2 4 (by kernel_rfl)
          exact wp_load_row 31 (.tmp 4) rfl w.heap.size (eval_get b4 trivial) 31 _ (0, 0) _ ((hb2.block _ (by have := HP.out.size; omega)).trans HP.out.box) Try.underlying31 rfl linfo2 ⟨_, rfl, rfl, Below.refl _ _⟩
        | 3, ho =>
          obtain rfl := Option.some.inj ho
          have e66 : a.tmps[66]?.getD undef = rect x y := hf.1 ⟨2, .data⟩ (by simp) rfl _ 66 rfl rfl
          exact wp_enter 23 #[rect x y] (rect x y) _ (by unfold execOp; go_simp) (to_rect x y wx) (fun w' h => ⟨_, rfl, rfl, h⟩)
        | 4, ho =>
          obtain rfl := Option.some.inj ho
          have b2 : a.tmps[2]?.getD undef = .bool cols := hf.2 2 (by kernel_rfl)
          exact wp_value (.bool cols) (by unfold execOp; go_simp) ⟨_, rfl, rfl, Below.refl _ _⟩
        | 5, ho =>
          obtain rfl := Option.some.inj ho
          have hrv : RV wx wx.heap.size (a.tmps[65]?.getD undef) xs := hf.1 ⟨1, .data⟩ (by simp) rfl _ 65 rfl rfl
          obtain ⟨V, hV⟩ : ∃ V, a.tmps[65]?.getD undef = V := ⟨_, rfl⟩
          rw [hV] at hrv
          have e67 : a.tmps[67]?.getD undef = rect x y := hf.1 ⟨3, .data⟩ (by simp) rfl _ 67 rfl rfl
          have e68 : a.tmps[68]?.getD undef = .bool cols := hf.1 ⟨4, .data⟩ (by simp) rfl _ 68 rfl rfl
          exact wp_enterE 24 #[V, rect x y, .bool cols] (fun v w' => w'.ownsRow wx.heap.size 33 2 v ts.length (flat ts) ∧ Below wx.heap.size wx w') (by unfold execOp; go_simp) (HI.out wx V hrv) (fun v w' h => ⟨_, rfl, own_lower h.1 hb2.size, h.2⟩)
        | 6, ho =>
          obtain rfl := Option.some.inj ho
          have hrv : wx.ownsRow w11.heap.size 33 2 (a.tmps[69]?.getD undef) ts.length (flat ts) := hf.1 ⟨5, .data⟩ (by simp) rfl _ 69 rfl rfl
          obtain ⟨V, hV⟩ : ∃ V, a.tmps[69]?.getD undef = V := ⟨_, rfl⟩
          rw [hV] at hrv
          exact wp_value V (by unfold execOp; go_simp) ⟨_, rfl, hrv, Below.refl _ _⟩
        | q + 7, ho => simp at ho
      case enB =>
        intro vs w12 hb12 hall
        have hrow12 : w12.ownsRow w11.heap.size 33 2 (vs 6) ts.length (flat ts) := hall 6 _ rfl
        obtain ⟨v14, hv14⟩ : ∃ v14, vs 6 = v14 := ⟨_, rfl⟩
        have HH12 : Hid (RV w12 w12.heap.size v14 ts) := by rw [← hv14]; exact rv_own hrow12 htl
        have HP12 := Lib.hid (HP.out.later hb12)
        have HW12 := Lib.hid (HW11.out.later (by omega) hb12)
        have HR12 := Lib.hid ((HR11.out.later (Nat.le_refl _) hb12).mono hb12.size)
        have hs12 : w11.heap.size ≤ w12.heap.size := hb12.size
        simp only [fill, Act.put]
        rw [hv14]
        clear hall hrow12 hb12 HP HI hv14 HW11 HR11
        go_simp
        go_wp2_with fail
        refine (eq_rects ts _ _ _ HH12.out (HW12.out.mono (by omega))).mono ?_
        rintro e w13 ⟨rfl, hb13⟩
        have HP13 := Lib.hid (HP12.out.later hb13)
        have HR13 := Lib.hid ((HR12.out.later (Nat.le_refl _) hb13).mono hb13.size)
        clear hb13 HP12 HW12 HR12 HH12
        go_wp2_with fail
        refine (held _ ts.length htl _ HR13.out).mono ?_
        rintro e w' ⟨rfl, rfl⟩
        rw [HM.out]
        go_wp2_with fail
        go_ret
        exact ⟨rfl, HP13.out.below⟩
  · have hlb : (-1 : Int) < 0 := by omega
    rw [if_neg hfit] at HSZ
    clear hl hfit hleft wx wy
    go_enter Try.func6, Try.ntmps6
    go_wp2_with fail
    refine (HSZ.out _).mono ?_
    rintro e w' ⟨rfl, rfl⟩
    clear HSZ
    go_wp2_with fail
    go_ret
    exact ⟨rfl, HP0.out.below⟩
end Go.Proofs.Ytcafingoghoijaa.fnExactLiveRects
