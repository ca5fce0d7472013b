/-
  AcceptsRow and AcceptsCol: both sides answer alike.
-/
import Derived.Test.YtcafingoghoijaaRectsQ
import Derived.Test.YtcafingoghoijaaInRectWalk
namespace Go.Proofs.Ytcafingoghoijaa.Accept
open Go.RowKit Go.Proofs.Ytcafingoghoijaa.Plain Go.Proofs.Ytcafingoghoijaa.Rect Go.Proofs.Ytcafingoghoijaa.Rects
open Go.Proofs.Ytcafingoghoijaa.fnExactInRect (inSet_any)
set_option linter.unusedVariables false
set_option linter.unusedSimpArgs false

/-- the rows or the columns -/
def side (q : Int × Int) (cols : Bool) : Int := if cols then q.2 else q.1
theorem rv_at {w : World} {v : Value} {xs : List (Int × Int)} (h : RV w w.heap.size v xs) (j : Nat) (hj : j < xs.length) :
    ∃ b off c, v = .slice (some ⟨b, off, none⟩) xs.length c ∧ b < w.heap.size ∧ w.cell? ⟨b, off + j * 2, none⟩ = some (.int .i64 xs[j].1) ∧ w.cell? ⟨b, off + j * 2 + 1, none⟩ = some (.int .i64 xs[j].2) := by
  rcases h.2 with ⟨_, rfl⟩ | ⟨b, off, c, rfl, hlt, hc⟩
  · cases hj
  · exact ⟨b, off, c, rfl, hlt, hc j hj⟩

set_option maxHeartbeats 1000000 in
theorem inputs_any (a b : Int) (cols : Bool) (w : World) :
    Calls Try.prog 51 #[rect a b, .bool cols] w fun e w' => e = .returned (.int .i64 (side (a, b) cols)) ∧ Below w.heap.size w w' := by
  cases cols
  all_goals
    go_enter Try.func51, Try.ntmps51
    go_wp2_with fail
    go_ret
    exact ⟨rfl, by go_grown⟩

set_option maxHeartbeats 1000000 in
/-- no number of the list -/
theorem impl_out (xs : List (Int × Int)) (p : Option Addr) (k : Nat) (proof input : Int) (cols : Bool) (hp : ¬ (0 ≤ proof ∧ proof < (xs.length : Int))) (w : World) :
    Calls Try.prog 45 #[.slice p xs.length k, .int .i64 proof, .int .i64 input, .bool cols] w fun e w' => e = .returned (.bool false) ∧ Below w.heap.size w w' := by
  have HP := Lib.hid (decide_eq_false hp)
  clear hp
  go_enter Try.func45, Try.ntmps45
  go_wp2_with fail
  refine (index_any _ _ _).mono ?_
  rintro e w' ⟨rfl, rfl⟩
  rw [HP.out]
  go_wp2_with fail
  go_ret
  exact ⟨rfl, Below.refl _ _⟩

set_option maxHeartbeats 1000000 in
/-- no rectangle -/
theorem impl_none (xs : List (Int × Int)) (v : Value) (j : Nat) (hj : j < xs.length) (input : Int) (cols : Bool) (hs : someB xs[j].1 xs[j].2 = false) (w : World) (hv : RV w w.heap.size v xs) :
    Calls Try.prog 45 #[v, .int .i64 (j : Int), .int .i64 input, .bool cols] w fun e w' => e = .returned (.bool false) ∧ Below w.heap.size w w' := by
  have HP : Hid (decide (0 ≤ (j : Int) ∧ (j : Int) < (xs.length : Int)) = true) := decide_eq_true (by omega)
  obtain ⟨b, off, c, rfl, hlt, c0, c1⟩ := rv_at hv j hj
  have hx : xs.length ≤ 9223372036854775807 := hv.1
  have HS := Lib.hid hs
  obtain ⟨x, hx0⟩ : ∃ a, xs[j].1 = a := ⟨_, rfl⟩
  obtain ⟨y, hy0⟩ : ∃ a, xs[j].2 = a := ⟨_, rfl⟩
  rw [hx0] at c0 HS
  rw [hy0] at c1 HS
  clear hv hs hx0 hy0
  go_enter Try.func45, Try.ntmps45
  go_wp2_with fail
  refine (index_any _ _ _).mono ?_
  rintro e w' ⟨rfl, rfl⟩
  rw [HP.out]
  go_wp2_with fail
  refine (rect_any _ _ _).mono ?_
  rintro e w1 ⟨rfl, hb1⟩
  rw [HS.out]
  have HB := Lib.hid hb1
  clear hb1 c0 c1
  go_wp2_with fail
  go_ret
  exact ⟨rfl, HB.out⟩

set_option maxHeartbeats 1000000 in
/-- a rectangle: the test of its side -/
theorem impl_some (xs : List (Int × Int)) (v : Value) (j : Nat) (hj : j < xs.length) (input : Int) (cols bt : Bool) (hs : someB xs[j].1 xs[j].2 = true)
    (ht : ∀ W : World, Calls Try.prog 57 #[.int .i64 (side xs[j] cols), .int .i64 input] W fun e w' => e = .returned (.bool bt) ∧ W = w') (w : World) (hv : RV w w.heap.size v xs) :
    Calls Try.prog 45 #[v, .int .i64 (j : Int), .int .i64 input, .bool cols] w fun e w' => e = .returned (.bool bt) ∧ Below w.heap.size w w' := by
  have HP : Hid (decide (0 ≤ (j : Int) ∧ (j : Int) < (xs.length : Int)) = true) := decide_eq_true (by omega)
  obtain ⟨b, off, c, rfl, hlt, c0, c1⟩ := rv_at hv j hj
  have hx : xs.length ≤ 9223372036854775807 := hv.1
  have HS := Lib.hid hs
  have HT := Lib.hid ht
  have HSE : Hid (xs[j] = (xs[j].1, xs[j].2)) := rfl
  obtain ⟨x, hx0⟩ : ∃ a, xs[j].1 = a := ⟨_, rfl⟩
  obtain ⟨y, hy0⟩ : ∃ a, xs[j].2 = a := ⟨_, rfl⟩
  rw [HSE.out, hx0, hy0] at HT
  rw [hx0] at c0 HS
  rw [hy0] at c1 HS
  clear hv hs ht hx0 hy0 HSE
  go_enter Try.func45, Try.ntmps45
  go_wp2_with fail
  refine (index_any _ _ _).mono ?_
  rintro e w' ⟨rfl, rfl⟩
  rw [HP.out]
  go_wp2_with fail
  refine (rect_any _ _ _).mono ?_
  rintro e w1 ⟨rfl, hb1⟩
  rw [HS.out]
  have HB := Lib.hid hb1
  have hw1 := hb1.size
  have c0 := (hb1.cell (p := ⟨b, off + j * 2, none⟩) hlt).trans c0
  have c1 := (hb1.cell (p := ⟨b, off + j * 2 + 1, none⟩) hlt).trans c1
  clear hb1
  go_wp2_with fail
  refine (inputs_any _ _ _ _).mono ?_
  rintro e w2 ⟨rfl, hb2⟩
  have HB2 := Lib.hid (HB.out.trans (hb2.mono hw1))
  clear hb2 c0 c1 HB
  go_wp2_with fail
  refine (HT.out _).mono ?_
  rintro e w' ⟨rfl, rfl⟩
  go_wp2_with fail
  go_ret
  exact ⟨rfl, HB2.out⟩

set_option maxHeartbeats 1000000 in
theorem proof_out (xs : List (Int × Int)) (hlen : xs.length ≤ 1048576) (p : Option Addr) (k : Nat) (proof input : Int) (hp : ¬ (0 ≤ proof ∧ proof < (xs.length : Int))) (w : World) :
    Calls Try.prog 43 #[.slice p xs.length k, .int .i64 proof, .int .i64 input] w fun e w' => e = .returned (.bool false) ∧ Below w.heap.size w w' := by
  have HP : Hid (decide (0 ≤ proof ∧ proof ≤ (xs.length : Int) - 1) = false) := decide_eq_false (by omega)
  clear hp
  go_enter Try.func43, Try.ntmps43
  go_wp2_with fail
  refine (in_any _ _ _ _).mono ?_
  rintro e w' ⟨rfl, rfl⟩
  rw [HP.out]
  go_wp2_with fail
  go_ret
  exact ⟨rfl, Below.refl _ _⟩

set_option maxHeartbeats 1000000 in
theorem proof_in (xs : List (Int × Int)) (hlen : xs.length ≤ 1048576) (v : Value) (j : Nat) (hj : j < xs.length) (input : Int) (w : World) (hv : RV w w.heap.size v xs) :
    Calls Try.prog 43 #[v, .int .i64 (j : Int), .int .i64 input] w fun e w' => e = .returned (.bool (someB xs[j].1 xs[j].2 && decide (0 ≤ input ∧ input ≤ 7))) ∧ Below w.heap.size w w' := by
  have HP : Hid (decide (0 ≤ (j : Int) ∧ (j : Int) ≤ (xs.length : Int) - 1) = true) := decide_eq_true (by omega)
  obtain ⟨b, off, c, rfl, hlt, c0, c1⟩ := rv_at hv j hj
  obtain ⟨x, hx0⟩ : ∃ a, xs[j].1 = a := ⟨_, rfl⟩
  obtain ⟨y, hy0⟩ : ∃ a, xs[j].2 = a := ⟨_, rfl⟩
  rw [hx0] at c0 ⊢
  rw [hy0] at c1 ⊢
  obtain ⟨s, hs⟩ : ∃ s, someB x y = s := ⟨_, rfl⟩
  rw [hs]
  have HS := Lib.hid hs
  obtain ⟨d, hd⟩ : ∃ d, decide (0 ≤ input ∧ input ≤ 7) = d := ⟨_, rfl⟩
  rw [hd]
  have HD := Lib.hid hd
  clear hv hs hd hx0 hy0
  go_enter Try.func43, Try.ntmps43
  go_wp2_with fail
  refine (in_any _ _ _ _).mono ?_
  rintro e w' ⟨rfl, rfl⟩
  rw [HP.out]
  go_wp2_with fail
  refine (some_any _ _ _).mono ?_
  rintro e w1 ⟨rfl, hb1⟩
  rw [HS.out]
  have HB := Lib.hid hb1
  clear hb1 c0 c1
  cases s
  · go_wp2_with fail
    go_ret
    exact ⟨rfl, HB.out⟩
  · go_wp2_with fail
    refine (in_any _ _ _ _).mono ?_
    rintro e w' ⟨rfl, rfl⟩
    rw [HD.out]
    go_wp2_with fail
    go_ret
    exact ⟨rfl, HB.out⟩

set_option maxHeartbeats 1000000 in
theorem spec_acc (a b input : Int) (cols bt : Bool)
    (ht : ∀ W : World, Calls Try.prog 73 #[.int .i64 (side (a, b) cols), .int .i64 input] W fun e w' => e = .returned (.bool bt) ∧ W = w') (w : World) :
    Calls Try.prog 44 #[rect a b, .int .i64 input, .bool cols] w fun e w' => e = .returned (.bool bt) ∧ Below w.heap.size w w' := by
  have HT := Lib.hid ht
  clear ht
  cases cols
  all_goals
    simp only [side, if_true, if_false, Bool.false_eq_true] at HT
    go_enter Try.func44, Try.ntmps44
    go_wp2_with fail
    refine (HT.out _).mono ?_
    rintro e w' ⟨rfl, rfl⟩
    go_wp2_with fail
    go_ret
    exact ⟨rfl, by go_grown⟩

set_option maxHeartbeats 1000000 in
theorem wrapRow (v : Value) (proof input : Int) (bt : Bool) (w : World) (h : Calls Try.prog 45 #[v, .int .i64 proof, .int .i64 input, .bool false] w fun e w' => e = .returned (.bool bt) ∧ Below w.heap.size w w') :
    Calls Try.prog 19 #[v, .int .i64 proof, .int .i64 input] w fun e w' => e = .returned (.bool bt) ∧ Below w.heap.size w w' := by
  have H := Lib.hid h
  clear h
  go_enter Try.func19, Try.ntmps19
  go_wp2_with fail
  refine H.out.mono ?_
  rintro e w1 ⟨rfl, hb1⟩
  have HB := Lib.hid hb1
  clear hb1 H
  go_wp2_with fail
  go_ret
  exact ⟨rfl, HB.out⟩

set_option maxHeartbeats 1000000 in
theorem noRow (v : Value) (proof input : Int) (w : World) (h : Calls Try.prog 43 #[v, .int .i64 proof, .int .i64 input] w fun e w' => e = .returned (.bool false) ∧ Below w.heap.size w w') :
    Calls Try.prog 18 #[v, .int .i64 proof, .int .i64 input] w fun e w' => e = .returned (.bool false) ∧ Below w.heap.size w w' := by
  have H := Lib.hid h
  clear h
  go_enter Try.func18, Try.ntmps18
  go_wp2_with fail
  refine H.out.mono ?_
  rintro e w1 ⟨rfl, hb1⟩
  have HB := Lib.hid hb1
  clear hb1 H
  go_wp2_with fail
  go_ret
  exact ⟨rfl, HB.out⟩

set_option maxHeartbeats 1000000 in
theorem yesRow (xs : List (Int × Int)) (v : Value) (j : Nat) (hj : j < xs.length) (input : Int) (bt : Bool) (w : World) (hv : RV w w.heap.size v xs)
    (h : Calls Try.prog 43 #[v, .int .i64 (j : Int), .int .i64 input] w fun e w' => e = .returned (.bool true) ∧ Below w.heap.size w w')
    (ht : ∀ W : World, Calls Try.prog 73 #[.int .i64 (side xs[j] false), .int .i64 input] W fun e w' => e = .returned (.bool bt) ∧ W = w') :
    Calls Try.prog 18 #[v, .int .i64 (j : Int), .int .i64 input] w fun e w' => e = .returned (.bool bt) ∧ Below w.heap.size w w' := by
  obtain ⟨b, off, c, rfl, hlt, c0, c1⟩ := rv_at hv j hj
  have hx : xs.length ≤ 9223372036854775807 := hv.1
  have HSE : Hid (xs[j] = (xs[j].1, xs[j].2)) := rfl
  have HT := Lib.hid ht
  obtain ⟨x, hx0⟩ : ∃ a, xs[j].1 = a := ⟨_, rfl⟩
  obtain ⟨y, hy0⟩ : ∃ a, xs[j].2 = a := ⟨_, rfl⟩
  rw [HSE.out, hx0, hy0] at HT
  rw [hx0] at c0
  rw [hy0] at c1
  have HA := Lib.hid (fun W => spec_acc x y input false bt HT.out W)
  have H := Lib.hid h
  clear hv h ht hx0 hy0 HSE HT
  go_enter Try.func18, Try.ntmps18
  go_wp2_with fail
  refine H.out.mono ?_
  rintro e w1 ⟨rfl, hb1⟩
  have hw1 := hb1.size
  have HB := Lib.hid hb1
  have c0 := (hb1.cell (p := ⟨b, off + j * 2, none⟩) hlt).trans c0
  have c1 := (hb1.cell (p := ⟨b, off + j * 2 + 1, none⟩) hlt).trans c1
  clear hb1 H
  go_wp2_with fail
  refine (HA.out _).mono ?_
  rintro e w2 ⟨rfl, hb2⟩
  have HB2 := Lib.hid (HB.out.trans (hb2.mono hw1))
  clear hb2 c0 c1 HB
  go_wp2_with fail
  go_ret
  exact ⟨rfl, HB2.out⟩

/-- both answer alike -/
theorem bothRow (xs : List (Int × Int)) (hlen : xs.length ≤ 1048576) (proof input : Int) : ∃ bt : Bool,
    (∀ w v, RV w w.heap.size v xs → Calls Try.prog 18 #[v, .int .i64 proof, .int .i64 input] w fun e w' => e = .returned (.bool bt) ∧ Below w.heap.size w w') ∧
    (∀ w v, RV w w.heap.size v xs → Calls Try.prog 19 #[v, .int .i64 proof, .int .i64 input] w fun e w' => e = .returned (.bool bt) ∧ Below w.heap.size w w') := by
  by_cases hp : 0 ≤ proof ∧ proof < (xs.length : Int)
  · obtain ⟨j, rfl⟩ := Int.eq_ofNat_of_zero_le hp.1
    have hj : j < xs.length := by omega
    cases hs : someB xs[j].1 xs[j].2 with
    | false =>
      exact ⟨false, fun w v hv => noRow v _ _ w ((proof_in xs hlen v j hj input w hv).mono fun e w' h => by rw [hs, Bool.false_and] at h; exact h), fun w v hv => wrapRow v _ _ _ w (impl_none xs v j hj input false hs w hv)⟩
    | true =>
      have hb := (someB_iff _ _).1 hs
      obtain ⟨s, hse, hsl⟩ : ∃ s : Nat, side xs[j] false = (s : Int) ∧ s < 256 := ⟨(side xs[j] false).toNat, by simp only [side, if_true, if_false, Bool.false_eq_true]; omega, by simp only [side, if_true, if_false, Bool.false_eq_true]; omega⟩
      by_cases hi : 0 ≤ input ∧ input ≤ 7
      · obtain ⟨i, rfl⟩ := Int.eq_ofNat_of_zero_le hi.1
        have hi8 : i < 8 := by omega
        refine ⟨s.testBit i, fun w v hv => yesRow xs v j hj _ _ w hv ((proof_in xs hlen v j hj _ w hv).mono fun e w' h => by rw [hs, decide_eq_true hi] at h; exact h) (fun W => by rw [hse]; exact l2In_any s i hsl hi8 W),
          fun w v hv => wrapRow v _ _ _ w (impl_some xs v j hj _ false _ hs (fun W => by rw [hse]; exact inSet_yes s i hsl hi8 W) w hv)⟩
      · refine ⟨false, fun w v hv => noRow v _ _ w ((proof_in xs hlen v j hj input w hv).mono fun e w' h => by rw [decide_eq_false hi, Bool.and_false] at h; exact h),
          fun w v hv => wrapRow v _ _ _ w (impl_some xs v j hj _ false _ hs (fun W => by rw [hse]; exact inSet_no s input (by omega) W) w hv)⟩
  · refine ⟨false, fun w v hv => ?_, fun w v hv => ?_⟩
    · obtain ⟨p, k, rfl⟩ := hv.slice
      exact noRow _ _ _ w (proof_out xs hlen p k proof input hp w)
    · obtain ⟨p, k, rfl⟩ := hv.slice
      exact wrapRow _ _ _ _ w (impl_out xs p k proof input false hp w)

set_option maxHeartbeats 1000000 in
theorem wrapCol (v : Value) (proof input : Int) (bt : Bool) (w : World) (h : Calls Try.prog 45 #[v, .int .i64 proof, .int .i64 input, .bool true] w fun e w' => e = .returned (.bool bt) ∧ Below w.heap.size w w') :
    Calls Try.prog 21 #[v, .int .i64 proof, .int .i64 input] w fun e w' => e = .returned (.bool bt) ∧ Below w.heap.size w w' := by
  have H := Lib.hid h
  clear h
  go_enter Try.func21, Try.ntmps21
  go_wp2_with fail
  refine H.out.mono ?_
  rintro e w1 ⟨rfl, hb1⟩
  have HB := Lib.hid hb1
  clear hb1 H
  go_wp2_with fail
  go_ret
  exact ⟨rfl, HB.out⟩

set_option maxHeartbeats 1000000 in
theorem noCol (v : Value) (proof input : Int) (w : World) (h : Calls Try.prog 43 #[v, .int .i64 proof, .int .i64 input] w fun e w' => e = .returned (.bool false) ∧ Below w.heap.size w w') :
    Calls Try.prog 20 #[v, .int .i64 proof, .int .i64 input] w fun e w' => e = .returned (.bool false) ∧ Below w.heap.size w w' := by
  have H := Lib.hid h
  clear h
  go_enter Try.func20, Try.ntmps20
  go_wp2_with fail
  refine H.out.mono ?_
  rintro e w1 ⟨rfl, hb1⟩
  have HB := Lib.hid hb1
  clear hb1 H
  go_wp2_with fail
  go_ret
  exact ⟨rfl, HB.out⟩

set_option maxHeartbeats 1000000 in
theorem yesCol (xs : List (Int × Int)) (v : Value) (j : Nat) (hj : j < xs.length) (input : Int) (bt : Bool) (w : World) (hv : RV w w.heap.size v xs)
    (h : Calls Try.prog 43 #[v, .int .i64 (j : Int), .int .i64 input] w fun e w' => e = .returned (.bool true) ∧ Below w.heap.size w w')
    (ht : ∀ W : World, Calls Try.prog 73 #[.int .i64 (side xs[j] true), .int .i64 input] W fun e w' => e = .returned (.bool bt) ∧ W = w') :
    Calls Try.prog 20 #[v, .int .i64 (j : Int), .int .i64 input] w fun e w' => e = .returned (.bool bt) ∧ Below w.heap.size w w' := by
  obtain ⟨b, off, c, rfl, hlt, c0, c1⟩ := rv_at hv j hj
  have hx : xs.length ≤ 9223372036854775807 := hv.1
  have HSE : Hid (xs[j] = (xs[j].1, xs[j].2)) := rfl
  have HT := Lib.hid ht
  obtain ⟨x, hx0⟩ : ∃ a, xs[j].1 = a := ⟨_, rfl⟩
  obtain ⟨y, hy0⟩ : ∃ a, xs[j].2 = a := ⟨_, rfl⟩
  rw [HSE.out, hx0, hy0] at HT
  rw [hx0] at c0
  rw [hy0] at c1
  have HA := Lib.hid (fun W => spec_acc x y input true bt HT.out W)
  have H := Lib.hid h
  clear hv h ht hx0 hy0 HSE HT
  go_enter Try.func20, Try.ntmps20
  go_wp2_with fail
  refine H.out.mono ?_
  rintro e w1 ⟨rfl, hb1⟩
  have hw1 := hb1.size
  have HB := Lib.hid hb1
  have c0 := (hb1.cell (p := ⟨b, off + j * 2, none⟩) hlt).trans c0
  have c1 := (hb1.cell (p := ⟨b, off + j * 2 + 1, none⟩) hlt).trans c1
  clear hb1 H
  go_wp2_with fail
  refine (HA.out _).mono ?_
  rintro e w2 ⟨rfl, hb2⟩
  have HB2 := Lib.hid (HB.out.trans (hb2.mono hw1))
  clear hb2 c0 c1 HB
  go_wp2_with fail
  go_ret
  exact ⟨rfl, HB2.out⟩

/-- both answer alike -/
theorem bothCol (xs : List (Int × Int)) (hlen : xs.length ≤ 1048576) (proof input : Int) : ∃ bt : Bool,
    (∀ w v, RV w w.heap.size v xs → Calls Try.prog 20 #[v, .int .i64 proof, .int .i64 input] w fun e w' => e = .returned (.bool bt) ∧ Below w.heap.size w w') ∧
    (∀ w v, RV w w.heap.size v xs → Calls Try.prog 21 #[v, .int .i64 proof, .int .i64 input] w fun e w' => e = .returned (.bool bt) ∧ Below w.heap.size w w') := by
  by_cases hp : 0 ≤ proof ∧ proof < (xs.length : Int)
  · obtain ⟨j, rfl⟩ := Int.eq_ofNat_of_zero_le hp.1
    have hj : j < xs.length := by omega
    cases hs : someB xs[j].1 xs[j].2 with
    | false =>
      exact ⟨false, fun w v hv => noCol v _ _ w ((proof_in xs hlen v j hj input w hv).mono fun e w' h => by rw [hs, Bool.false_and] at h; exact h), fun w v hv => wrapCol v _ _ _ w (impl_none xs v j hj input true hs w hv)⟩
    | true =>
      have hb := (someB_iff _ _).1 hs
      obtain ⟨s, hse, hsl⟩ : ∃ s : Nat, side xs[j] true = (s : Int) ∧ s < 256 := ⟨(side xs[j] true).toNat, by simp only [side, if_true, if_false, Bool.false_eq_true]; omega, by simp only [side, if_true, if_false, Bool.false_eq_true]; omega⟩
      by_cases hi : 0 ≤ input ∧ input ≤ 7
      · obtain ⟨i, rfl⟩ := Int.eq_ofNat_of_zero_le hi.1
        have hi8 : i < 8 := by omega
        refine ⟨s.testBit i, fun w v hv => yesCol xs v j hj _ _ w hv ((proof_in xs hlen v j hj _ w hv).mono fun e w' h => by rw [hs, decide_eq_true hi] at h; exact h) (fun W => by rw [hse]; exact l2In_any s i hsl hi8 W),
          fun w v hv => wrapCol v _ _ _ w (impl_some xs v j hj _ true _ hs (fun W => by rw [hse]; exact inSet_yes s i hsl hi8 W) w hv)⟩
      · refine ⟨false, fun w v hv => noCol v _ _ w ((proof_in xs hlen v j hj input w hv).mono fun e w' h => by rw [decide_eq_false hi, Bool.and_false] at h; exact h),
          fun w v hv => wrapCol v _ _ _ w (impl_some xs v j hj _ true _ hs (fun W => by rw [hse]; exact inSet_no s input (by omega) W) w hv)⟩
  · refine ⟨false, fun w v hv => ?_, fun w v hv => ?_⟩
    · obtain ⟨p, k, rfl⟩ := hv.slice
      exact noCol _ _ _ w (proof_out xs hlen p k proof input hp w)
    · obtain ⟨p, k, rfl⟩ := hv.slice
      exact wrapCol _ _ _ _ w (impl_out xs p k proof input true hp w)

end Go.Proofs.Ytcafingoghoijaa.Accept
