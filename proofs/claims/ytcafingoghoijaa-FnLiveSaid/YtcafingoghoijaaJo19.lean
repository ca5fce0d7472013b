/-
  Texts of one seat, joined: LiveM, LiveLaw.
-/
import Derived.Test.YtcafingoghoijaaJo1
import Derived.Test.YtcafingoghoijaaJo17
import Derived.Test.YtcafingoghoijaaJo14
import Derived.Test.YtcafingoghoijaaMeet
import Derived.Test.YtcafingoghoijaaAreaI
import Derived.Test.YtcafingoghoijaaJo16
/-
  Lists of rectangles that live: their places, what is left of them. Drawing DrawLiveRects.
-/
namespace Go.Proofs.Ytcafingoghoijaa.LiveM
open Go.RowKit Go.Proofs.Ytcafingoghoijaa.Plain Go.Proofs.Ytcafingoghoijaa.Base Go.Proofs.Ytcafingoghoijaa.Rect Go.Proofs.Ytcafingoghoijaa.GuessM Go.Proofs.Ytcafingoghoijaa.Rects Go.Proofs.Ytcafingoghoijaa.Things Go.Proofs.Ytcafingoghoijaa.Accept Go.Proofs.Ytcafingoghoijaa.LiveI Go.Proofs.Ytcafingoghoijaa.Live Go.Proofs.Ytcafingoghoijaa.LiveS Go.Proofs.Ytcafingoghoijaa.Rd Go.Proofs.Ytcafingoghoijaa.Rd2 Go.Proofs.Ytcafingoghoijaa.Rd4 Go.Proofs.Ytcafingoghoijaa.Rd6 Go.Proofs.Ytcafingoghoijaa.DrawT
open Go.Proofs.Ytcafingoghoijaa.DrawQ (list_any own_apt)
open Go.Proofs.Ytcafingoghoijaa.Marks (flat rv_own)
set_option linter.unusedVariables false

theorem own_sl {w : World} {B n : Nat} {v : Value} {xs : List Value} (h : w.ownsRow B 33 2 v n xs) : ∃ p k, v = .slice p n k := by
  rcases h.2 with ⟨rfl, h0⟩ | ⟨g, cap, cur, rfl, _⟩
  · exact ⟨none, 0, by rw [h0]⟩
  · exact ⟨_, _, rfl⟩
theorem keptTo_all (xs : List (Int × Int)) (f : Nat → Bool) : kept xs f = keptTo xs f xs.length := rfl
theorem keptTo_more (xs : List (Int × Int)) (f : Nat → Bool) (j : Nat) : ∀ d, ∃ rest, keptTo xs f (j + d) = keptTo xs f j ++ rest
  | 0 => ⟨[], by simp⟩
  | d + 1 => by
    obtain ⟨r, hr⟩ := keptTo_more xs f j d
    exact ⟨r ++ (if f (j + d) then [xs.getD (j + d) (0, 0)] else []), by rw [show j + (d + 1) = (j + d) + 1 from rfl, keptTo_next, hr, List.append_assoc]⟩
/-- where the j-th lies among the kept -/
theorem kept_place (xs : List (Int × Int)) (f : Nat → Bool) (j : Nat) (hj : j < xs.length) (hf : f j = true) :
    ∃ h : (keptTo xs f j).length < (kept xs f).length, (kept xs f)[(keptTo xs f j).length] = xs[j] ∧ (keptTo xs f (j + 1)).length = (keptTo xs f j).length + 1 := by
  have hn : keptTo xs f (j + 1) = keptTo xs f j ++ [xs[j]] := by rw [keptTo_next, hf, if_pos rfl]; simp [List.getD, hj]
  obtain ⟨rest, hr⟩ := keptTo_more xs f (j + 1) (xs.length - (j + 1))
  rw [show j + 1 + (xs.length - (j + 1)) = xs.length by omega, ← keptTo_all, hn, List.append_assoc] at hr
  have hl : (keptTo xs f j).length < (kept xs f).length := by rw [hr]; simp
  refine ⟨hl, ?_, by rw [hn]; simp⟩
  have h2 : (kept xs f)[(keptTo xs f j).length]? = some xs[j] := by rw [hr]; simp
  rw [List.getElem?_eq_getElem hl] at h2
  exact Option.some.inj h2
theorem kept_skip (xs : List (Int × Int)) (f : Nat → Bool) (j : Nat) (hf : f j = false) : keptTo xs f (j + 1) = keptTo xs f j := by
  rw [keptTo_next, hf]; simp
theorem kept_mem {xs : List (Int × Int)} {f : Nat → Bool} {q : Int × Int} (h : q ∈ kept xs f) : ∃ j, ∃ hj : j < xs.length, f j = true ∧ q = xs[j] := by
  unfold kept at h
  obtain ⟨j, hj, rfl⟩ := List.mem_map.1 h
  obtain ⟨h1, h2⟩ := (mem_keep f j _).1 hj
  exact ⟨j, h1, h2, by simp [List.getD, h1]⟩
theorem kept_rects {xs : List (Int × Int)} (f : Nat → Bool) (h : allR xs = true) : allR (kept xs f) = true := by
  refine List.all_eq_true.2 fun q hq => ?_
  obtain ⟨j, hj, _, rfl⟩ := kept_mem hq
  exact allR_at h j hj
theorem keep_all (f : Nat → Bool) : ∀ n, (∀ j, j < n → f j = true) → (keep f n).length = n
  | 0, _ => rfl
  | n + 1, h => by rw [keep, List.length_append, keep_all f n (fun j hj => h j (by omega)), h n (by omega)]; rfl
/-- those that live live on -/
theorem live_again (xs : List (Int × Int)) (q : Int × Int) (cols : Bool) : (live (live xs q cols) q cols).length = (live xs q cols).length := by
  unfold live
  generalize hts : kept xs (meetsAt xs (side q cols) cols) = ts
  unfold kept
  rw [List.length_map]
  refine keep_all _ _ fun j hj => ?_
  rw [meetsAt_at ts _ cols j hj]
  have hm : ts[j] ∈ kept xs (meetsAt xs (side q cols) cols) := by rw [hts]; exact List.getElem_mem hj
  obtain ⟨i, hi, hf, he⟩ := kept_mem hm
  rw [he, ← meetsAt_at xs _ cols i hi]
  exact hf
theorem and_nat (A B : Nat) (hA : A < 256) (hB : B < 256) : Go.bits .and .i64 (A : Int) (B : Int) = ((A &&& B : Nat) : Int) :=
  (by
    show IntKind.i64.wrap ((BitVec.ofInt 64 (A : Int) &&& BitVec.ofInt 64 (B : Int)).toNat : Int) = _
    rw [BitVec.toNat_and]
    have e1 : (BitVec.ofInt 64 (A : Int)).toNat = A := by rw [BitVec.toNat_ofInt]; omega
    have e2 : (BitVec.ofInt 64 (B : Int)).toNat = B := by rw [BitVec.toNat_ofInt]; omega
    rw [e1, e2]
    have h : A &&& B ≤ A := Nat.and_le_left
    exact IntWalk.i64_in _ ⟨by omega, by omega⟩)
/-- the meeting with a full side is that of the other -/
theorem meet_full (x a b : Int) (hx : 1 ≤ x ∧ x ≤ 255) (ha : 1 ≤ a ∧ a ≤ 255) (hb : 1 ≤ b ∧ b ≤ 255) :
    someB (Go.bits .and .i64 255 x) (Go.bits .and .i64 a b) = LiveI.mt a b ∧ someB (Go.bits .and .i64 a b) (Go.bits .and .i64 255 x) = LiveI.mt a b := by
  obtain ⟨X, rfl⟩ := Int.eq_ofNat_of_zero_le (show 0 ≤ x by omega)
  obtain ⟨A, rfl⟩ := Int.eq_ofNat_of_zero_le (show 0 ≤ a by omega)
  obtain ⟨B, rfl⟩ := Int.eq_ofNat_of_zero_le (show 0 ≤ b by omega)
  have e1 : Go.bits .and .i64 255 (X : Int) = (X : Int) := by
    have h : (255 &&& X) = X := by
      have h2 : ∀ k : Fin 256, 255 &&& k.val = k.val := by decide +kernel
      exact h2 ⟨X, by omega⟩
    have := and_nat 255 X (by omega) (by omega)
    rw [h] at this
    exact this
  have e2 := and_nat A B (by omega) (by omega)
  have h3 : A &&& B ≤ A := Nat.and_le_left
  have hm : LiveI.mt (A : Int) (B : Int) = decide (A &&& B ≠ 0) := by
    unfold LiveI.mt
    rw [e2]
    by_cases h : A &&& B = 0
    · rw [h]; rfl
    · rw [decide_eq_true h, bne_iff_ne]; omega
  rw [e1, e2, hm]
  unfold someB
  by_cases h : A &&& B = 0
  · rw [h]; simp
  · rw [decide_eq_true (show A &&& B ≠ 0 from h), decide_eq_true (show 1 ≤ (X : Int) ∧ (X : Int) ≤ 255 by omega), decide_eq_true (show 1 ≤ ((A &&& B : Nat) : Int) ∧ ((A &&& B : Nat) : Int) ≤ 255 by omega)]
    exact ⟨rfl, rfl⟩

set_option maxHeartbeats 4000000 in
theorem draw_any (v : Value) (n : Nat) (w : World) (h : ByteArg w v n) :
    Calls Try.prog 35 #[v] w fun e w' => ∃ (lv : Value) (xs : List (Int × Int)) (x y : Int) (cols : Bool), e = .returned (.tuple #[lv, rect x y, .bool cols]) ∧ xs.length ≤ 300 ∧ RV w' w'.heap.size lv xs ∧ Below w.heap.size w w' := by
  have hst : Below w.heap.size w (w.alloc (.cells #[.int .i64 0, .int .i64 0] 33)) := (Below.refl _ _).alloc (Nat.le_refl _) _
  have h1 := h.later hst
  have HO := Lib.hid (open_lo v n _ h1 (lo_of h))
  have HST := Lib.hid hst
  clear h h1 hst
  go_enter Try.func35, Try.ntmps35
  go_wp2_with fail
  refine HO.out.mono ?_
  rintro e w1 ⟨g, rfl, hr, hb, hg⟩
  have hs1 : w.heap.size + 1 ≤ g := by simp at hg; omega
  have HL := Lib.hid (list_any g 0 (by omega) w1 hr)
  have r1 : w1.heap[w.heap.size]? = some (.cells #[.int .i64 0, .int .i64 0] 33 (0, 0)) := (hb.block _ (by simp)).trans (heap_alloc_new w _)
  have HB1 := Lib.hid (And.intro (HST.out.trans (hb.mono (by simp))) r1)
  have hg1 := hr.lt
  clear hr hb hg HO HST r1
  go_wp2_with fail
  refine HL.out.mono ?_
  rintro e w2 ⟨lv, xs, p2, rfl, hl, hrow, h2, h3, hr2, ha2⟩
  have HM := Lib.hid (draw_matV g p2 (by omega) 4 (by omega) (by omega) w2 hr2)
  have HO2 := Lib.hid hrow
  have HA2 := Lib.hid ha2
  clear hr2 hrow ha2 HL
  go_wp2_with fail
  refine HM.out.mono ?_
  rintro e w3 ⟨a, b, t, p3, rfl, ha, hb, hsz, hp1, hp2, hr3, ha3⟩
  have HO3 := Lib.hid (own_apt HO2.out ha3 hg1)
  have HA3 := Lib.hid (HA2.out.trans ha3)
  have HD := Lib.hid (draw_rect8 g p3 (by omega) a b ha.1 ha.2 hb.1 hb.2 t w3 hr3)
  clear hr3 ha3 HM HO2 HA2 hsz
  go_wp2_with fail
  refine HD.out.mono ?_
  rintro e w4 ⟨u, v', rfl, hu, hv, hr4, ha4⟩
  have HO4 := Lib.hid (own_apt HO3.out ha4 hg1)
  have HA4 := Lib.hid (HA3.out.trans ha4)
  have HB := Lib.hid (bad_rect g (p3 + 2) (by omega) u v' ⟨by omega, by omega⟩ ⟨by omega, by omega⟩ w4 hr4)
  clear hr4 ha4 HD HO3 HA3
  go_wp2_with fail
  refine HB.out.mono ?_
  rintro e w5 ⟨x, y, p5, rfl, _, _, hp5, hp6, hr5, ha5⟩
  have HO5 := Lib.hid (own_apt HO4.out ha5 hg1)
  have HA5 := Lib.hid (HA4.out.trans ha5)
  have HP := Lib.hid (pick_r g p5 (by omega) 2 w5 hr5)
  clear hr5 ha5 HB HO4 HA4
  go_wp2_with fail
  refine HP.out.mono ?_
  rintro e w6 ⟨z, rfl, _, _, hr6, ha6⟩
  have HO6 := Lib.hid (own_apt HO5.out ha6 hg1)
  have hA6 := HA5.out.trans ha6
  have hrw : w6.heap[w.heap.size]? = some (.cells #[.int .i64 0, .int .i64 0] 33 (0, 0)) := (hA6.block _ (by omega) (by omega)).trans HB1.out.2
  have HB6 := Lib.hid (hA6.below HB1.out.1 (by omega))
  have d0 : w6.cell? ⟨w.heap.size, 0, none⟩ = some (.int .i64 0) := cell_of_row _ _ 0 _ _ _ hrw
  have d1 : w6.cell? ⟨w.heap.size, 1, none⟩ = some (.int .i64 0) := cell_of_row _ _ 1 _ _ _ hrw
  have f0 : w6.frozen? ⟨w.heap.size, 0, none⟩ = false := frozen_of_row _ _ 0 _ _ hrw
  have f1 : w6.frozen? ⟨w.heap.size, 1, none⟩ = false := frozen_of_row _ _ 1 _ _ hrw
  have hs6 := hA6.size
  clear hr6 ha6 hA6 hrw HP HO5 HA5
  go_wp2_with fail
  have hown : ((w6.setCell ⟨w.heap.size, 0, none⟩ (.int .i64 x)).setCell ⟨w.heap.size, 1, none⟩ (.int .i64 y)).ownsRow w1.heap.size 33 2 lv xs.length (flat xs) := by
    refine own_apt (g := w.heap.size) HO6.out ((Apt.refl _ _).trans ((Apt.setCell w.heap.size w6 0 _).trans (Apt.setCell w.heap.size _ 1 _))) ?_
    have := HB1.out.1.size
    omega
  have hbz : Below w.heap.size w ((w6.setCell ⟨w.heap.size, 0, none⟩ (.int .i64 x)).setCell ⟨w.heap.size, 1, none⟩ (.int .i64 y)) := (HB6.out.setCell (p := ⟨w.heap.size, 0, none⟩) (Nat.le_refl _) _).setCell (p := ⟨w.heap.size, 1, none⟩) (Nat.le_refl _) _
  have e0 : ((w6.setCell ⟨w.heap.size, 0, none⟩ (.int .i64 x)).setCell ⟨w.heap.size, 1, none⟩ (.int .i64 y)).cell? ⟨w.heap.size, 0, none⟩ = some (.int .i64 x) := by
    rw [World.cell?_setCell_other _ _ _ _ (by simp), World.cell?_setCell_same _ _ _ d0]
  have e1 : ((w6.setCell ⟨w.heap.size, 0, none⟩ (.int .i64 x)).setCell ⟨w.heap.size, 1, none⟩ (.int .i64 y)).cell? ⟨w.heap.size, 1, none⟩ = some (.int .i64 y) := by
    rw [World.cell?_setCell_same _ _ _ (u := .int .i64 0) (by rw [World.cell?_setCell_other _ _ _ _ (by simp)]; exact d1)]
  obtain ⟨wz, hwz⟩ : ∃ wz, (w6.setCell ⟨w.heap.size, 0, none⟩ (.int .i64 x)).setCell ⟨w.heap.size, 1, none⟩ (.int .i64 y) = wz := ⟨_, rfl⟩
  rw [hwz] at hown hbz e0 e1 ⊢
  have HZ := Lib.hid (And.intro hown hbz)
  clear hown hbz d0 d1 f0 f1 hwz
  refine bodyPost_ret (v := .tuple #[lv, rect x y, .bool (z == 0)]) (by simp [results, Try.results35, go_sem, e0, e1]) rfl ⟨lv, xs, x, y, _, rfl, hl, rv_own HZ.out.1 (by omega), HZ.out.2⟩
end Go.Proofs.Ytcafingoghoijaa.LiveM

/-
  The walk of the drawn law on LiveRects.
-/
namespace Go.Proofs.Ytcafingoghoijaa.fnLive
open Go.RowKit Go.Proofs.Ytcafingoghoijaa.Plain Go.Proofs.Ytcafingoghoijaa.Pat Go.Proofs.Ytcafingoghoijaa.Rect Go.Proofs.Ytcafingoghoijaa.Rects Go.Proofs.Ytcafingoghoijaa.GuessM Go.Proofs.Ytcafingoghoijaa.Things Go.Proofs.Ytcafingoghoijaa.Accept Go.Proofs.Ytcafingoghoijaa.LiveI Go.Proofs.Ytcafingoghoijaa.Live Go.Proofs.Ytcafingoghoijaa.LiveS Go.Proofs.Ytcafingoghoijaa.LiveM Go.Proofs.Ytcafingoghoijaa.Rd
open Go.Proofs.Ytcafingoghoijaa.Marks (flat rv_own)
open Go.Proofs.Ytcafingoghoijaa.fnProofOf (at_)
open Go.Proofs.Ytcafingoghoijaa.Meet (impl_meetC orZero)
set_option linter.unusedVariables false

/-- a rectangle has an area, no rectangle has none -/
theorem area (x y : Int) : ∃ A : Int, (∀ w, Calls Try.prog 34 #[rect x y] w fun e w' => e = .returned (.int .i64 A) ∧ Below w.heap.size w w') ∧ (A < 0 ↔ someB x y = false) := by
  cases h : someB x y with
  | false => exact ⟨-1, fun w => Go.Proofs.Ytcafingoghoijaa.AreaI.impl_area_no x y h w, by simp⟩
  | true =>
    have hb := (someB_iff _ _).1 h
    obtain ⟨R, rfl⟩ := Int.eq_ofNat_of_zero_le (show 0 ≤ x by omega)
    obtain ⟨C, rfl⟩ := Int.eq_ofNat_of_zero_le (show 0 ≤ y by omega)
    exact ⟨_, fun w => Go.Proofs.Ytcafingoghoijaa.AreaI.impl_area R C (by omega) (by omega) (by omega) (by omega) w, ⟨fun h2 => by omega, fun h2 => by cases h2⟩⟩

/-- the meeting of a side made full with a rectangle -/
theorem meet_cols (x y r0 r1 : Int) (hq : someB x y = true) (hr : someB r0 r1 = true) : ∃ V, ∀ w, Calls Try.prog 36 #[rect 255 y, rect r0 r1] w fun e w' => e = .returned (.tuple #[V, .bool (LiveI.mt y r1)]) ∧ (∃ a b : Int, V = rect a b) ∧ Below w.heap.size w w' := by
  have h1 := (someB_iff _ _).1 hq
  have h2 := (someB_iff _ _).1 hr
  have h := fun w => impl_meetC 255 y r0 r1 ((someB_iff _ _).2 ⟨by omega, h1.2⟩) hr w
  rw [(meet_full r0 y r1 h2.1 h1.2 h2.2).1] at h
  refine ⟨_, fun w => (h w).mono fun e w' hh => ⟨hh.1, ?_, hh.2⟩⟩
  unfold orZero
  split <;> exact ⟨_, _, rfl⟩
theorem meet_rows (x y r0 r1 : Int) (hq : someB x y = true) (hr : someB r0 r1 = true) : ∃ V, ∀ w, Calls Try.prog 36 #[rect x 255, rect r0 r1] w fun e w' => e = .returned (.tuple #[V, .bool (LiveI.mt x r0)]) ∧ (∃ a b : Int, V = rect a b) ∧ Below w.heap.size w w' := by
  have h1 := (someB_iff _ _).1 hq
  have h2 := (someB_iff _ _).1 hr
  have h := fun w => impl_meetC x 255 r0 r1 ((someB_iff _ _).2 ⟨h1.1, by omega⟩) hr w
  rw [(meet_full r1 x r0 h2.2 h1.1 h2.1).2] at h
  refine ⟨_, fun w => (h w).mono fun e w' hh => ⟨hh.1, ?_, hh.2⟩⟩
  unfold orZero
  split <;> exact ⟨_, _, rfl⟩

/-- what lies all the time: the rectangle's box, the lists -/
structure LS (w1 : World) (p : Option Addr) (k : Nat) (xs : List (Int × Int)) (x y : Int) (R0 : Nat) (W : World) : Prop where
  list : RV W W.heap.size (.slice p xs.length k) xs
  box : W.heap[R0]? = some (.cells #[.int .i64 x, .int .i64 y] 33 (0, 0))
  below : Below w1.heap.size w1 W
theorem LS.later {w1 W W' : World} {p : Option Addr} {k : Nat} {xs : List (Int × Int)} {x y : Int} {R0 : Nat} (h : LS w1 p k xs x y R0 W) (hb : Below W.heap.size W W') : LS w1 p k xs x y R0 W' :=
  ⟨at_ h.list hb, (hb.block _ (Array.getElem?_eq_some_iff.1 h.box).1).trans h.box, h.below.trans (hb.mono h.below.size)⟩
theorem LS.cells {w1 W : World} {p : Option Addr} {k : Nat} {xs : List (Int × Int)} {x y : Int} {R0 : Nat} (h : LS w1 p k xs x y R0 W) : W.cell? ⟨R0, 0, none⟩ = some (.int .i64 x) ∧ W.cell? ⟨R0, 1, none⟩ = some (.int .i64 y) ∧ R0 < W.heap.size :=
  ⟨cell_of_row _ _ 0 _ _ _ h.box, cell_of_row _ _ 1 _ _ _ h.box, (Array.getElem?_eq_some_iff.1 h.box).1⟩

set_option maxHeartbeats 8000000 in
set_option maxRecDepth 100000 in
theorem walk (v : Value) (n : Nat) (w : World) (h : ByteArg w v n) :
    Calls Try.prog 11 #[v] w fun e w' => e = .returned (.bool true) ∧ Below w.heap.size w w' := by
  obtain ⟨hn0, a, c, rfl, hc, hb0⟩ := id h
  clear hb0
  have HD := Lib.hid (Go.Proofs.Ytcafingoghoijaa.LiveM.draw_any _ n w h)
  clear h
  by_cases hbig : 1048576 < n
  · have hbi : (1048576 : Int) < (n : Int) := by omega
    go_enter Try.func11, Try.ntmps11
    go_wp2_with fail
    go_ret
    exact ⟨rfl, Below.refl _ _⟩
  · have hbi : ¬ (1048576 : Int) < (n : Int) := by omega
    go_enter Try.func11, Try.ntmps11
    go_wp2_with fail
    refine HD.out.mono ?_
    rintro e w1 ⟨lv, xs, x, y, cols, rfl, hl, hrv, hb⟩
    obtain ⟨p, k, rfl⟩ := hrv.slice
    have hlen : xs.length ≤ 1048576 := by omega
    have HB1 := Lib.hid hb
    have hbx : Below w1.heap.size w1 (w1.alloc (.cells #[.int .i64 x, .int .i64 y] 33)) := (Below.refl _ _).alloc (Nat.le_refl _) _
    have HP1 : Hid (LS w1 p k xs x y w1.heap.size (w1.alloc (.cells #[.int .i64 x, .int .i64 y] 33))) := ⟨at_ hrv hbx, heap_alloc_new w1 _, hbx⟩
    have HXJ : Hid (∀ W, LS w1 p k xs x y w1.heap.size W → ∀ j (hj : j < xs.length), ∃ b off, p = some ⟨b, off, none⟩ ∧ b < W.heap.size ∧ W.cell? ⟨b, off + j * 2, none⟩ = some (.int .i64 xs[j].1) ∧ W.cell? ⟨b, off + j * 2 + 1, none⟩ = some (.int .i64 xs[j].2)) := fun W hW j hj => by
      obtain ⟨b, off, c, he, h1, h2, h3⟩ := rv_at hW.list j hj
      injection he with he1 he2 he3
      exact ⟨b, off, he1, h1, h2, h3⟩
    clear hrv hb HD hbig hbi hbx
    go_wp2_with fail
    obtain ⟨w2, hw2⟩ : ∃ w2, w1.alloc (.cells #[.int .i64 x, .int .i64 y] 33) = w2 := ⟨_, rfl⟩
    rw [hw2] at HP1
    first | rw [hw2] | skip
    clear hw2
    have HP2 := HP1
    clear HP1
    obtain ⟨r0, hr0⟩ : ∃ r0, w1.heap.size = r0 := ⟨_, rfl⟩
    have HR0 := Lib.hid hr0
    rw [hr0] at HP2 HXJ ⊢
    clear hr0
    cases hV : someB x y && allR xs with
    | false =>
      have HI := Lib.hid (fun W v hv => impl_no xs hlen v x y cols hV W hv)
      have HS := Lib.hid (fun W v hv => (spec_no xs hlen v x y cols hV W hv).mono (R' := fun e w' => ∃ v, e = .returned v ∧ (∃ p' k', v = .slice p' 0 k') ∧ Below W.heap.size W w') (fun e w' h => by obtain ⟨v, h1, h2, h3⟩ := h; exact ⟨v, h1, own_sl h2, h3⟩))
      have HVV := Lib.hid hV
      clear hV
      refine (HI.out _ _ HP2.out.list).mono ?_
      rintro e w3 ⟨rfl, hb3⟩
      have HP3 := Lib.hid (HP2.out.later hb3)
      obtain ⟨d0, d1, _⟩ := HP3.out.cells
      clear hb3 HP2 HI
      go_wp2_with fail
      refine (HS.out _ _ HP3.out.list).mono ?_
      rintro e w4 ⟨v4, rfl, ⟨p4, k4, rfl⟩, hb4⟩
      have HP4 := Lib.hid (HP3.out.later hb4)
      clear hb4 HP3 HS d0 d1
      go_wp2_with fail
      go_loopw [9] (fun i wr => ∃ j : Nat, j ≤ xs.length ∧ i = .int .i64 (j : Int) ∧ (∀ t (ht : t < xs.length), t < j → someB xs[t].1 xs[t].2 = true) ∧ (0 < j → someB x y = true) ∧ LS w1 p k xs x y r0 wr) (fun i _ => xs.length - (intOf i).toNat)
      case atStart => exact ⟨0, Nat.zero_le _, rfl, fun t _ h => absurd h (Nat.not_lt_zero t), fun h => absurd h (Nat.not_lt_zero 0), HP4.out⟩
      case round =>
        obtain ⟨j, hj, rfl, hno, hno2, hls⟩ := hrel
        have HLS := Lib.hid hls
        have HNO := Lib.hid (And.intro hno hno2)
        clear hls hno hno2
        by_cases hlt : j < xs.length
        · obtain ⟨b, off, rfl, hbl, c0, c1⟩ := HXJ.out _ HLS.out j hlt
          obtain ⟨d0, d1, hd⟩ := HLS.out.cells
          obtain ⟨A1, hA1, hA2⟩ := area xs[j].1 xs[j].2
          obtain ⟨A3, hA3, hA4⟩ := area x y
          have HSJ := Lib.hid hA2
          have HA1 := Lib.hid hA1
          have HA3 := Lib.hid hA3
          have HA4 := Lib.hid hA4
          obtain ⟨q0, hq0⟩ : ∃ a, xs[j].1 = a := ⟨_, rfl⟩
          obtain ⟨q1, hq1⟩ : ∃ a, xs[j].2 = a := ⟨_, rfl⟩
          have HQ := Lib.hid (And.intro hq0 hq1)
          rw [hq0] at c0 HA1
          rw [hq1] at c1 HA1
          clear hA1 hA2 hA3 hA4 hq0 hq1
          by_cases hn1 : A1 < 0
          · go_wp2_with fail
            refine (HA1.out _).mono ?_
            rintro e w5 ⟨rfl, hb5⟩
            have HL5 := Lib.hid (HLS.out.later hb5)
            clear hb5 HLS c0 c1 d0 d1
            go_wp2_with fail
            go_ret
            exact ⟨rfl, HB1.out.trans (HL5.out.below.mono HB1.out.size)⟩
          · by_cases hn3 : A3 < 0
            · go_wp2_with fail
              refine (HA1.out _).mono ?_
              rintro e w5 ⟨rfl, hb5⟩
              have HL5 := Lib.hid (HLS.out.later hb5)
              obtain ⟨d0, d1, hd⟩ := HL5.out.cells
              clear hb5 HLS c0 c1
              go_wp2_with fail
              refine (HA3.out _).mono ?_
              rintro e w6 ⟨rfl, hb6⟩
              have HL6 := Lib.hid (HL5.out.later hb6)
              clear hb6 HL5 d0 d1
              go_wp2_with fail
              go_ret
              exact ⟨rfl, HB1.out.trans (HL6.out.below.mono HB1.out.size)⟩
            · have HT : Hid (someB xs[j].1 xs[j].2 = true ∧ someB x y = true) := by
                refine ⟨?_, ?_⟩
                · cases hh : someB xs[j].1 xs[j].2 with
                  | true => rfl
                  | false => exact absurd (HSJ.out.2 hh) hn1
                · cases hh : someB x y with
                  | true => rfl
                  | false => exact absurd (HA4.out.2 hh) hn3
              go_wp2_with fail
              refine (HA1.out _).mono ?_
              rintro e w5 ⟨rfl, hb5⟩
              have HL5 := Lib.hid (HLS.out.later hb5)
              obtain ⟨d0, d1, hd⟩ := HL5.out.cells
              clear hb5 HLS c0 c1
              go_wp2_with fail
              refine (HA3.out _).mono ?_
              rintro e w6 ⟨rfl, hb6⟩
              have HL6 := Lib.hid (HL5.out.later hb6)
              clear hb6 HL5 d0 d1
              go_wp2_with fail
              go_roundw
              case rel =>
                refine ⟨j + 1, by omega, by go_num, fun t ht0 ht => ?_, fun _ => HT.out.2, HL6.out⟩
                by_cases e : t = j
                · subst e; exact HT.out.1
                · exact HNO.out.1 t ht0 (by omega)
              case measure => simp [intOf]; omega
        · obtain rfl : j = xs.length := by omega
          have hall : allR xs = true := by
            refine List.all_eq_true.2 fun q hq => ?_
            obtain ⟨t, ht, rfl⟩ := List.getElem_of_mem hq
            exact HNO.out.1 t ht ht
          have hx0 : xs.length = 0 := by
            rcases Nat.eq_zero_or_pos xs.length with h | h
            · exact h
            · have h2 := HNO.out.2 h
              have h3 := HVV.out
              rw [h2, hall] at h3
              cases h3
          obtain rfl : xs = [] := List.length_eq_zero_iff.1 hx0
          clear hall hx0 HNO HVV HXJ
          go_wp2_with fail
          have HX := Lib.hid HLS.out
          clear HLS
          go_loopw [8, 10] (fun r i wz => r = .int .i64 0 ∧ i = .int .i64 0 ∧ LS w1 p k [] x y r0 wz) (fun _ _ _ => 0)
          case atStart => exact ⟨rfl, rfl, HX.out⟩
          case round =>
            obtain ⟨rfl, rfl, hls⟩ := hrel
            have HLS := Lib.hid hls
            obtain ⟨d0, d1, _⟩ := HLS.out.cells
            have HAG : Hid (∀ W : World, Calls Try.prog 24 #[.slice none 0 0, rect x y, .bool cols] W fun e w' => (∃ v, e = .returned v ∧ (∃ p' k', v = .slice p' 0 k')) ∧ Below W.heap.size W w') := fun W => by
              have hnil : RV W W.heap.size (.slice none 0 0) [] := ⟨by simp, .inl ⟨rfl, rfl⟩⟩
              cases hs : someB x y with
              | false =>
                refine (impl_no [] (by simp) _ x y cols (by rw [hs]; rfl) W hnil).mono ?_
                rintro e w' ⟨rfl, hb⟩
                exact ⟨⟨_, rfl, none, 0, rfl⟩, hb⟩
              | true =>
                refine (impl_yes [] (by simp) _ x y cols hs rfl W hnil).mono ?_
                rintro e w' ⟨v, rfl, hrow, hb⟩
                exact ⟨⟨_, rfl, own_sl hrow⟩, hb⟩
            clear hls
            go_wp2_with fail
            refine (HAG.out _).mono ?_
            rintro e w5 ⟨⟨v5, rfl, p5, k5, rfl⟩, hb5⟩
            have HL5 := Lib.hid (HLS.out.later hb5)
            clear hb5 HLS d0 d1
            go_wp2_with fail
            go_ret
            exact ⟨rfl, HB1.out.trans (HL5.out.below.mono HB1.out.size)⟩
    | true =>
      rw [Bool.and_eq_true] at hV
      obtain ⟨hsr, hall⟩ := hV
      have HI := Lib.hid (fun W v hv => impl_yes xs hlen v x y cols hsr hall W hv)
      have HS := Lib.hid (fun W v hv => spec_yes xs hlen v x y cols hsr hall W hv)
      obtain ⟨ts, hts⟩ : ∃ ts, live xs (x, y) cols = ts := ⟨_, rfl⟩
      have htl : ts.length ≤ 300 := by rw [← hts]; exact Nat.le_trans (kept_len xs _) hl
      have hat : allR ts = true := by rw [← hts]; exact kept_rects _ hall
      have hag := live_again xs (x, y) cols
      rw [hts] at HI HS hag
      have HAG := Lib.hid (fun W v hv => (impl_yes ts (by omega) v x y cols hsr hat W hv).mono (R' := fun e w' => ∃ v, e = .returned v ∧ (∃ p' k', v = .slice p' ts.length k') ∧ Below W.heap.size W w') (fun e w' h => by obtain ⟨v, h1, h2, h3⟩ := h; rw [hag] at h2; exact ⟨v, h1, own_sl h2, h3⟩))
      obtain ⟨f, hf⟩ : ∃ f, meetsAt xs (side (x, y) cols) cols = f := ⟨_, rfl⟩
      have HKT : Hid (ts = keptTo xs f xs.length) := by rw [← hts, ← hf]; exact rfl
      have HPL := Lib.hid (fun j hj h => kept_place xs f j hj h)
      have HSK := Lib.hid (fun j h => kept_skip xs f j h)
      have HFJ : Hid (∀ j (hj : j < xs.length), f j = LiveI.mt (side xs[j] cols) (side (x, y) cols)) := fun j hj => by rw [← hf]; exact meetsAt_at xs _ cols j hj
      have HKE : Hid (kept xs f = ts) := by rw [← hts, ← hf]; exact rfl
      have HRX := Lib.hid (And.intro hsr (fun j hj => allR_at hall j hj))
      obtain ⟨A3, hA3, hA4⟩ := area x y
      have HA3 := Lib.hid hA3
      have hn3 : ¬ A3 < 0 := fun h => by rw [hA4.1 h] at hsr; cases hsr
      clear hts hat hag hf hsr hall hA3 hA4
      refine (HI.out _ _ HP2.out.list).mono ?_
      rintro e w3 ⟨v6, rfl, hrow3, hb3⟩
      obtain ⟨p6, k6, rfl⟩ := own_sl hrow3
      have HP3 := Lib.hid (HP2.out.later hb3)
      have HG3 := Lib.hid (rv_own hrow3 (by omega))
      obtain ⟨d0, d1, _⟩ := HP3.out.cells
      clear hb3 HP2 HI hrow3
      go_wp2_with fail
      refine (HS.out _ _ HP3.out.list).mono ?_
      rintro e w4 ⟨v7, rfl, hrow4, hb4⟩
      obtain ⟨p7, k7, rfl⟩ := own_sl hrow4
      have HP4 := Lib.hid (HP3.out.later hb4)
      have HG4 := Lib.hid (at_ HG3.out hb4)
      have HW4 := Lib.hid (rv_own hrow4 (by omega))
      clear hb4 HP3 HS hrow4 HG3 d0 d1
      go_wp2_with fail
      have HXX := Lib.hid (And.intro HP4.out (And.intro HG4.out HW4.out))
      clear HP4 HG4 HW4
      go_loopw [9] (fun i wr => ∃ j : Nat, j ≤ xs.length ∧ i = .int .i64 (j : Int) ∧ LS w1 p k xs x y r0 wr ∧ RV wr wr.heap.size (.slice p6 ts.length k6) ts ∧ RV wr wr.heap.size (.slice p7 ts.length k7) ts) (fun i _ => xs.length - (intOf i).toNat)
      case atStart => exact ⟨0, Nat.zero_le _, rfl, HXX.out.1, HXX.out.2.1, HXX.out.2.2⟩
      case round =>
        obtain ⟨j, hj, rfl, hls, hg, hw⟩ := hrel
        have HLS := Lib.hid hls
        have HG := Lib.hid hg
        have HW := Lib.hid hw
        clear hls hg hw HXX
        by_cases hlt : j < xs.length
        · obtain ⟨b, off, rfl, hbl, c0, c1⟩ := HXJ.out _ HLS.out j hlt
          obtain ⟨d0, d1, hd⟩ := HLS.out.cells
          obtain ⟨A1, hA1, hA2⟩ := area xs[j].1 xs[j].2
          have hn1 : ¬ A1 < 0 := fun h => by have := HRX.out.2 j hlt; rw [hA2.1 h] at this; cases this
          have HA1 := Lib.hid hA1
          obtain ⟨q0, hq0⟩ : ∃ a, xs[j].1 = a := ⟨_, rfl⟩
          obtain ⟨q1, hq1⟩ : ∃ a, xs[j].2 = a := ⟨_, rfl⟩
          rw [hq0] at c0 HA1
          rw [hq1] at c1 HA1
          clear hA1 hA2 hq0 hq1
          go_wp2_with fail
          refine (HA1.out _).mono ?_
          rintro e w5 ⟨rfl, hb5⟩
          have HL5 := Lib.hid (HLS.out.later hb5)
          have HG5 := Lib.hid (at_ HG.out hb5)
          have HW5 := Lib.hid (at_ HW.out hb5)
          obtain ⟨d0, d1, hd⟩ := HL5.out.cells
          clear hb5 HLS HG HW c0 c1
          go_wp2_with fail
          refine (HA3.out _).mono ?_
          rintro e w6 ⟨rfl, hb6⟩
          have HL6 := Lib.hid (HL5.out.later hb6)
          have HG6 := Lib.hid (at_ HG5.out hb6)
          have HW6 := Lib.hid (at_ HW5.out hb6)
          clear hb6 HL5 HG5 HW5 d0 d1
          go_wp2_with fail
          go_roundw
          case rel => exact ⟨j + 1, by omega, by go_num, HL6.out, HG6.out, HW6.out⟩
          case measure => simp [intOf]; omega
        · obtain rfl : j = xs.length := by omega
          have HXX := Lib.hid (And.intro HLS.out (And.intro HG.out HW.out))
          clear HLS HG HW hlt hj
          go_wp2_with fail
          go_loopw [8, 10] (fun kk i wr => ∃ j : Nat, j ≤ xs.length ∧ i = .int .i64 (j : Int) ∧ kk = .int .i64 (((keptTo xs f j).length : Nat) : Int) ∧ LS w1 p k xs x y r0 wr ∧ RV wr wr.heap.size (.slice p6 ts.length k6) ts ∧ RV wr wr.heap.size (.slice p7 ts.length k7) ts) (fun _ i _ => xs.length - (intOf i).toNat)
          case atStart => exact ⟨0, Nat.zero_le _, rfl, rfl, HXX.out.1, HXX.out.2.1, HXX.out.2.2⟩
          case round =>
            clear HXX
            obtain ⟨j, hj, rfl, rfl, hls, hg, hw⟩ := hrel
            have HLS := Lib.hid hls
            have HG := Lib.hid hg
            have HW := Lib.hid hw
            clear hls hg hw
            by_cases hlt : j < xs.length
            · obtain ⟨b, off, rfl, hbl, c0, c1⟩ := HXJ.out _ HLS.out j hlt
              obtain ⟨d0, d1, hd⟩ := HLS.out.cells
              have hqs := HRX.out.2 j hlt
              obtain ⟨q0, hq0⟩ : ∃ a, xs[j].1 = a := ⟨_, rfl⟩
              obtain ⟨q1, hq1⟩ : ∃ a, xs[j].2 = a := ⟨_, rfl⟩
              have hqe : xs[j] = (q0, q1) := Prod.ext hq0 hq1
              rw [hq0] at c0 hqs
              rw [hq1] at c1 hqs
              have HQE := Lib.hid hqe
              clear hq0 hq1
              cases cols with
              | true =>
                obtain ⟨V, hVV⟩ := meet_cols q0 q1 x y hqs HRX.out.1
                have HMV := Lib.hid hVV
                have hft : f j = LiveI.mt q1 y := by rw [HFJ.out j hlt, HQE.out]; rfl
                obtain ⟨bt, hbt⟩ : ∃ bt, LiveI.mt q1 y = bt := ⟨_, rfl⟩
                rw [hbt] at HMV hft
                have HFT := Lib.hid hft
                clear hVV hft hbt hqs
                go_wp2_with fail
                refine (HMV.out _).mono ?_
                rintro e w5 ⟨rfl, ⟨va, vb, hV⟩, hb5⟩
                rw [hV]
                have hbf : Below wr.heap.size wr (wr.alloc (.cells #[.int .i64 255, .int .i64 q1] 33)) := (Below.refl _ _).alloc (Nat.le_refl _) _
                have hb6 : Below wr.heap.size wr w5 := hbf.trans (hb5.mono hbf.size)
                have HL5 := Lib.hid (HLS.out.later hb6)
                have HG5 := Lib.hid (at_ HG.out hb6)
                have HW5 := Lib.hid (at_ HW.out hb6)
                clear hb5 hbf hb6 HLS HG HW c0 c1 d0 d1 hd hV HMV
                have hbv : Below w5.heap.size w5 (w5.alloc (.cells #[.int .i64 va, .int .i64 vb] 33)) := (Below.refl _ _).alloc (Nat.le_refl _) _
                have HL6 := Lib.hid (HL5.out.later hbv)
                have HG6 := Lib.hid (at_ HG5.out hbv)
                have HW6 := Lib.hid (at_ HW5.out hbv)
                clear hbv HL5 HG5 HW5
                cases bt with
                | false =>
                  have hke := HSK.out j HFT.out
                  have HKE2 : Hid ((keptTo xs f (j + 1)).length = (keptTo xs f j).length) := by rw [hke]; exact rfl
                  obtain ⟨K, hK⟩ : ∃ K, (keptTo xs f j).length = K := ⟨_, rfl⟩
                  rw [hK] at HKE2 ⊢
                  clear hke hK
                  go_wp2_with fail
                  go_roundw
                  case rel => exact ⟨j + 1, by omega, by go_num, by rw [HKE2.out], HL6.out, HG6.out, HW6.out⟩
                  case measure => simp [intOf]; omega
                | true =>
                  obtain ⟨hK1, hK2, hK3⟩ := HPL.out j hlt HFT.out
                  have HKE2 := Lib.hid hK3
                  have hk2 : ∃ h : (keptTo xs f j).length < ts.length, ts[(keptTo xs f j).length] = (q0, q1) := by
                    have he := HKE.out
                    subst he
                    exact ⟨hK1, hK2.trans HQE.out⟩
                  obtain ⟨K, hK⟩ : ∃ K, (keptTo xs f j).length = K := ⟨_, rfl⟩
                  clear hK1 hK2 hK3
                  rw [hK] at HKE2 ⊢
                  simp only [hK] at hk2
                  obtain ⟨hKl, hKe⟩ := hk2
                  obtain ⟨b6, o6, k6', he6, hl6, e0, e1⟩ := rv_at HG6.out K hKl
                  obtain ⟨b7, o7, k7', he7, hl7, g0, g1⟩ := rv_at HW6.out K hKl
                  injection he6 with he61 he62 he63
                  injection he7 with he71 he72 he73
                  subst he61 he71
                  rw [hKe] at e0 e1 g0 g1
                  simp only at e0 e1 g0 g1
                  obtain ⟨bx, ox, hpx, hblx, h0, h1⟩ := HXJ.out _ HL6.out j hlt
                  injection hpx with hpx2
                  injection hpx2 with hpb hpo
                  subst hpb hpo
                  rw [HQE.out] at h0 h1
                  simp only at h0 h1
                  have hge : ¬ (ts.length : Int) ≤ (K : Int) := by omega
                  have HKL := Lib.hid hKl
                  clear hKe he62 he63 he72 he73 hK
                  go_wp2_with fail
                  go_quiet (fail)
                  have HLd : Hid (∀ n, LS w1 (some ⟨b, off, none⟩) k xs x y r0 ((w5.alloc (.cells #[.int .i64 va, .int .i64 vb] 33)).drewN n)) := fun n => HL6.out.later (drawn_at _ n)
                  have HGd : Hid (∀ n, RV ((w5.alloc (.cells #[.int .i64 va, .int .i64 vb] 33)).drewN n) ((w5.alloc (.cells #[.int .i64 va, .int .i64 vb] 33)).drewN n).heap.size (.slice (some ⟨b6, o6, none⟩) ts.length k6) ts) := fun n => at_ HG6.out (drawn_at _ n)
                  have HWd : Hid (∀ n, RV ((w5.alloc (.cells #[.int .i64 va, .int .i64 vb] 33)).drewN n) ((w5.alloc (.cells #[.int .i64 va, .int .i64 vb] 33)).drewN n).heap.size (.slice (some ⟨b7, o7, none⟩) ts.length k7) ts) := fun n => at_ HW6.out (drawn_at _ n)
                  clear e0 e1 g0 g1 h0 h1 HL6 HG6 HW6 hge
                  go_wp2_with fail
                  go_roundw
                  case rel => exact ⟨j + 1, by omega, by go_num, by rw [HKE2.out]; go_num, HLd.out _, HGd.out _, HWd.out _⟩
                  case measure => simp [intOf]; omega
              | false =>
                obtain ⟨V, hVV⟩ := meet_rows q0 q1 x y hqs HRX.out.1
                have HMV := Lib.hid hVV
                have hft : f j = LiveI.mt q0 x := by rw [HFJ.out j hlt, HQE.out]; rfl
                obtain ⟨bt, hbt⟩ : ∃ bt, LiveI.mt q0 x = bt := ⟨_, rfl⟩
                rw [hbt] at HMV hft
                have HFT := Lib.hid hft
                clear hVV hft hbt hqs
                go_wp2_with fail
                refine (HMV.out _).mono ?_
                rintro e w5 ⟨rfl, ⟨va, vb, hV⟩, hb5⟩
                rw [hV]
                have hbf : Below wr.heap.size wr (wr.alloc (.cells #[.int .i64 q0, .int .i64 255] 33)) := (Below.refl _ _).alloc (Nat.le_refl _) _
                have hb6 : Below wr.heap.size wr w5 := hbf.trans (hb5.mono hbf.size)
                have HL5 := Lib.hid (HLS.out.later hb6)
                have HG5 := Lib.hid (at_ HG.out hb6)
                have HW5 := Lib.hid (at_ HW.out hb6)
                clear hb5 hbf hb6 HLS HG HW c0 c1 d0 d1 hd hV HMV
                have hbv : Below w5.heap.size w5 (w5.alloc (.cells #[.int .i64 va, .int .i64 vb] 33)) := (Below.refl _ _).alloc (Nat.le_refl _) _
                have HL6 := Lib.hid (HL5.out.later hbv)
                have HG6 := Lib.hid (at_ HG5.out hbv)
                have HW6 := Lib.hid (at_ HW5.out hbv)
                clear hbv HL5 HG5 HW5
                cases bt with
                | false =>
                  have hke := HSK.out j HFT.out
                  have HKE2 : Hid ((keptTo xs f (j + 1)).length = (keptTo xs f j).length) := by rw [hke]; exact rfl
                  obtain ⟨K, hK⟩ : ∃ K, (keptTo xs f j).length = K := ⟨_, rfl⟩
                  rw [hK] at HKE2 ⊢
                  clear hke hK
                  go_wp2_with fail
                  go_roundw
                  case rel => exact ⟨j + 1, by omega, by go_num, by rw [HKE2.out], HL6.out, HG6.out, HW6.out⟩
                  case measure => simp [intOf]; omega
                | true =>
                  obtain ⟨hK1, hK2, hK3⟩ := HPL.out j hlt HFT.out
                  have HKE2 := Lib.hid hK3
                  have hk2 : ∃ h : (keptTo xs f j).length < ts.length, ts[(keptTo xs f j).length] = (q0, q1) := by
                    have he := HKE.out
                    subst he
                    exact ⟨hK1, hK2.trans HQE.out⟩
                  obtain ⟨K, hK⟩ : ∃ K, (keptTo xs f j).length = K := ⟨_, rfl⟩
                  clear hK1 hK2 hK3
                  rw [hK] at HKE2 ⊢
                  simp only [hK] at hk2
                  obtain ⟨hKl, hKe⟩ := hk2
                  obtain ⟨b6, o6, k6', he6, hl6, e0, e1⟩ := rv_at HG6.out K hKl
                  obtain ⟨b7, o7, k7', he7, hl7, g0, g1⟩ := rv_at HW6.out K hKl
                  injection he6 with he61 he62 he63
                  injection he7 with he71 he72 he73
                  subst he61 he71
                  rw [hKe] at e0 e1 g0 g1
                  simp only at e0 e1 g0 g1
                  obtain ⟨bx, ox, hpx, hblx, h0, h1⟩ := HXJ.out _ HL6.out j hlt
                  injection hpx with hpx2
                  injection hpx2 with hpb hpo
                  subst hpb hpo
                  rw [HQE.out] at h0 h1
                  simp only at h0 h1
                  have hge : ¬ (ts.length : Int) ≤ (K : Int) := by omega
                  have HKL := Lib.hid hKl
                  clear hKe he62 he63 he72 he73 hK
                  go_wp2_with fail
                  go_quiet (fail)
                  have HLd : Hid (∀ n, LS w1 (some ⟨b, off, none⟩) k xs x y r0 ((w5.alloc (.cells #[.int .i64 va, .int .i64 vb] 33)).drewN n)) := fun n => HL6.out.later (drawn_at _ n)
                  have HGd : Hid (∀ n, RV ((w5.alloc (.cells #[.int .i64 va, .int .i64 vb] 33)).drewN n) ((w5.alloc (.cells #[.int .i64 va, .int .i64 vb] 33)).drewN n).heap.size (.slice (some ⟨b6, o6, none⟩) ts.length k6) ts) := fun n => at_ HG6.out (drawn_at _ n)
                  have HWd : Hid (∀ n, RV ((w5.alloc (.cells #[.int .i64 va, .int .i64 vb] 33)).drewN n) ((w5.alloc (.cells #[.int .i64 va, .int .i64 vb] 33)).drewN n).heap.size (.slice (some ⟨b7, o7, none⟩) ts.length k7) ts) := fun n => at_ HW6.out (drawn_at _ n)
                  clear e0 e1 g0 g1 h0 h1 HL6 HG6 HW6 hge
                  go_wp2_with fail
                  go_roundw
                  case rel => exact ⟨j + 1, by omega, by go_num, by rw [HKE2.out]; go_num, HLd.out _, HGd.out _, HWd.out _⟩
                  case measure => simp [intOf]; omega
            · obtain rfl : j = xs.length := by omega
              have HE : Hid ((keptTo xs f xs.length).length = ts.length) := by rw [← HKT.out]; exact rfl
              rw [HE.out]
              obtain ⟨d0, d1, hd⟩ := HLS.out.cells
              clear hlt hj
              go_wp2_with fail
              refine (HAG.out _ _ HG.out).mono ?_
              rintro e w5 ⟨v5, rfl, ⟨p5, k5, rfl⟩, hb5⟩
              have HL5 := Lib.hid (HLS.out.later hb5)
              clear hb5 HLS HG HW d0 d1
              go_wp2_with fail
              go_ret
              exact ⟨rfl, HB1.out.trans (HL5.out.below.mono HB1.out.size)⟩
end Go.Proofs.Ytcafingoghoijaa.fnLive

