/-
  The walk of the law on InRect.
-/
import Derived.Test.YtcafingoghoijaaRect
namespace Go.Proofs.Ytcafingoghoijaa.fnExactInRect
open Go.RowKit Go.Proofs.Ytcafingoghoijaa.Plain Go.Proofs.Ytcafingoghoijaa.Pat Go.Proofs.Ytcafingoghoijaa.Rect
set_option linter.unusedVariables false

set_option maxHeartbeats 1000000 in
theorem spec_yes (R C x y : Nat) (hR1 : 1 ≤ R) (hR : R < 256) (hC1 : 1 ≤ C) (hC : C < 256) (hx : x < 8) (hy : y < 8) (w : World) :
    Calls Try.prog 38 #[rect R C, .int .i64 (x : Int), .int .i64 (y : Int)] w fun e w' => e = .returned (.bool (R.testBit x && C.testBit y)) ∧ Below w.heap.size w w' := by
  have HS := Lib.hid (show someB R C = true by rw [someB_iff]; omega)
  obtain ⟨b1, h1⟩ : ∃ b, R.testBit x = b := ⟨_, rfl⟩
  obtain ⟨b2, h2⟩ : ∃ b, C.testBit y = b := ⟨_, rfl⟩
  rw [h1, h2]
  have H1 := Lib.hid h1
  have H2 := Lib.hid h2
  clear h1 h2
  go_enter Try.func38, Try.ntmps38
  go_wp2_with fail
  refine (some_any _ _ _).mono ?_
  rintro e w1 ⟨rfl, hb1⟩
  rw [HS.out]
  obtain ⟨c0, c1, hz, HB⟩ := box2 hb1
  clear hb1
  go_wp2_with fail
  refine (in_any _ _ _ _).mono ?_
  rintro e w' ⟨rfl, rfl⟩
  rw [decide_eq_true (by omega)]
  go_wp2_with fail
  refine (in_any _ _ _ _).mono ?_
  rintro e w' ⟨rfl, rfl⟩
  rw [decide_eq_true (by omega)]
  go_wp2_with fail
  refine (l2In_any R x hR hx _).mono ?_
  rintro e w' ⟨rfl, rfl⟩
  rw [H1.out]
  cases b1
  · go_wp2_with fail
    go_ret
    exact ⟨rfl, HB.out⟩
  · go_wp2_with fail
    refine (l2In_any C y hC hy _).mono ?_
    rintro e w' ⟨rfl, rfl⟩
    rw [H2.out]
    go_wp2_with fail
    go_ret
    exact ⟨rfl, HB.out⟩
set_option maxHeartbeats 1000000 in
theorem spec_none (r c x y : Int) (h : someB r c = false) (w : World) :
    Calls Try.prog 38 #[rect r c, .int .i64 x, .int .i64 y] w fun e w' => e = .returned (.bool false) ∧ Below w.heap.size w w' := by
  have HS := Lib.hid h
  clear h
  go_enter Try.func38, Try.ntmps38
  go_wp2_with fail
  refine (some_any _ _ _).mono ?_
  rintro e w1 ⟨rfl, hb1⟩
  rw [HS.out]
  obtain ⟨c0, c1, hz, HB⟩ := box2 hb1
  clear hb1
  go_wp2_with fail
  go_ret
  exact ⟨rfl, HB.out⟩
set_option maxHeartbeats 1000000 in
theorem spec_x (r c x y : Int) (h : someB r c = true) (hx : ¬ (0 ≤ x ∧ x ≤ 7)) (w : World) :
    Calls Try.prog 38 #[rect r c, .int .i64 x, .int .i64 y] w fun e w' => e = .returned (.bool false) ∧ Below w.heap.size w w' := by
  have HS := Lib.hid h
  have HX := Lib.hid hx
  clear h hx
  go_enter Try.func38, Try.ntmps38
  go_wp2_with fail
  refine (some_any _ _ _).mono ?_
  rintro e w1 ⟨rfl, hb1⟩
  rw [HS.out]
  obtain ⟨c0, c1, hz, HB⟩ := box2 hb1
  clear hb1
  go_wp2_with fail
  refine (in_any _ _ _ _).mono ?_
  rintro e w' ⟨rfl, rfl⟩
  rw [decide_eq_false HX.out]
  go_wp2_with fail
  go_ret
  exact ⟨rfl, HB.out⟩
set_option maxHeartbeats 1000000 in
theorem spec_y (r c x y : Int) (h : someB r c = true) (hx : 0 ≤ x ∧ x ≤ 7) (hy : ¬ (0 ≤ y ∧ y ≤ 7)) (w : World) :
    Calls Try.prog 38 #[rect r c, .int .i64 x, .int .i64 y] w fun e w' => e = .returned (.bool false) ∧ Below w.heap.size w w' := by
  have HS := Lib.hid h
  have HX := Lib.hid hx
  have HY := Lib.hid hy
  clear h hx hy
  go_enter Try.func38, Try.ntmps38
  go_wp2_with fail
  refine (some_any _ _ _).mono ?_
  rintro e w1 ⟨rfl, hb1⟩
  rw [HS.out]
  obtain ⟨c0, c1, hz, HB⟩ := box2 hb1
  clear hb1
  go_wp2_with fail
  refine (in_any _ _ _ _).mono ?_
  rintro e w' ⟨rfl, rfl⟩
  rw [decide_eq_true HX.out]
  go_wp2_with fail
  refine (in_any _ _ _ _).mono ?_
  rintro e w' ⟨rfl, rfl⟩
  rw [decide_eq_false HY.out]
  go_wp2_with fail
  go_ret
  exact ⟨rfl, HB.out⟩

set_option maxHeartbeats 1000000 in
/-- the program's, where each test is told -/
theorem impl_yes (r c x y : Int) (h : someB r c = true) (b1 b2 : Bool)
    (h1 : ∀ W : World, Calls Try.prog 57 #[.int .i64 r, .int .i64 x] W fun e w' => e = .returned (.bool b1) ∧ W = w')
    (h2 : ∀ W : World, Calls Try.prog 57 #[.int .i64 c, .int .i64 y] W fun e w' => e = .returned (.bool b2) ∧ W = w') (w : World) :
    Calls Try.prog 32 #[rect r c, .int .i64 x, .int .i64 y] w fun e w' => e = .returned (.bool (b1 && b2)) ∧ Below w.heap.size w w' := by
  have HS := Lib.hid h
  have H1 := Lib.hid h1
  have H2 := Lib.hid h2
  clear h h1 h2
  go_enter Try.func32, Try.ntmps32
  go_wp2_with fail
  refine (rect_any _ _ _).mono ?_
  rintro e w1 ⟨rfl, hb1⟩
  rw [HS.out]
  obtain ⟨c0, c1, hz, HB⟩ := box2 hb1
  clear hb1
  go_wp2_with fail
  refine (H1.out _).mono ?_
  rintro e w' ⟨rfl, rfl⟩
  cases b1
  · go_wp2_with fail
    go_ret
    exact ⟨rfl, HB.out⟩
  · go_wp2_with fail
    refine (H2.out _).mono ?_
    rintro e w' ⟨rfl, rfl⟩
    go_wp2_with fail
    go_ret
    exact ⟨rfl, HB.out⟩
set_option maxHeartbeats 1000000 in
theorem impl_none (r c x y : Int) (h : someB r c = false) (w : World) :
    Calls Try.prog 32 #[rect r c, .int .i64 x, .int .i64 y] w fun e w' => e = .returned (.bool false) ∧ Below w.heap.size w w' := by
  have HS := Lib.hid h
  clear h
  go_enter Try.func32, Try.ntmps32
  go_wp2_with fail
  refine (rect_any _ _ _).mono ?_
  rintro e w1 ⟨rfl, hb1⟩
  rw [HS.out]
  obtain ⟨c0, c1, hz, HB⟩ := box2 hb1
  clear hb1
  go_wp2_with fail
  go_ret
  exact ⟨rfl, HB.out⟩

/-- a set's test, whatever the number -/
theorem inSet_any (s : Nat) (hs : s < 256) (i : Int) : ∃ b : Bool, ∀ W : World, Calls Try.prog 57 #[.int .i64 (s : Int), .int .i64 i] W fun e w' => e = .returned (.bool b) ∧ W = w' := by
  by_cases h : 0 ≤ i ∧ i < 8
  · obtain ⟨k, rfl⟩ := Int.eq_ofNat_of_zero_le h.1
    exact ⟨_, fun W => inSet_yes s k hs (by omega) W⟩
  · exact ⟨false, fun W => inSet_no s i (by omega) W⟩

/-- both find one truth value -/
theorem both (r c x y : Int) : ∃ v : Bool,
    (∀ w, Calls Try.prog 38 #[rect r c, .int .i64 x, .int .i64 y] w fun e w' => e = .returned (.bool v) ∧ Below w.heap.size w w') ∧
    (∀ w, Calls Try.prog 32 #[rect r c, .int .i64 x, .int .i64 y] w fun e w' => e = .returned (.bool v) ∧ Below w.heap.size w w') := by
  by_cases h : someB r c = true
  · have hh := (someB_iff r c).1 h
    obtain ⟨R, rfl⟩ := Int.eq_ofNat_of_zero_le (show 0 ≤ r by omega)
    obtain ⟨C, rfl⟩ := Int.eq_ofNat_of_zero_le (show 0 ≤ c by omega)
    by_cases hx : 0 ≤ x ∧ x ≤ 7
    · by_cases hy : 0 ≤ y ∧ y ≤ 7
      · obtain ⟨X, rfl⟩ := Int.eq_ofNat_of_zero_le hx.1
        obtain ⟨Y, rfl⟩ := Int.eq_ofNat_of_zero_le hy.1
        exact ⟨_, fun w => spec_yes R C X Y (by omega) (by omega) (by omega) (by omega) (by omega) (by omega) w,
          fun w => impl_yes R C X Y h _ _ (fun W => inSet_yes R X (by omega) (by omega) W) (fun W => inSet_yes C Y (by omega) (by omega) W) w⟩
      · obtain ⟨b, hb⟩ := inSet_any R (by omega) x
        refine ⟨false, fun w => spec_y R C x y h hx hy w, fun w => ?_⟩
        have := impl_yes R C x y h b false hb (fun W => inSet_no C y (by omega) W) w
        rwa [Bool.and_false] at this
    · obtain ⟨b, hb⟩ := inSet_any C (by omega) y
      refine ⟨false, fun w => spec_x R C x y h hx w, fun w => ?_⟩
      have := impl_yes R C x y h false b (fun W => inSet_no R x (by omega) W) hb w
      rwa [Bool.false_and] at this
  · have h' : someB r c = false := by simpa using h
    exact ⟨false, fun w => spec_none r c x y h' w, fun w => impl_none r c x y h' w⟩

end Go.Proofs.Ytcafingoghoijaa.fnExactInRect
