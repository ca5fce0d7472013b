/-
  The walk of the law on LargestRect.
-/
import Derived.Test.YtalechngagkklaaDoorLargest
import Derived.Test.YtalechngagkklaaDoorKept
namespace Go.Proofs.YtalechngagkklaaDoor.fnExactLargestRect
open Go.RowKit Go.Proofs.YtalechngagkklaaDoor.Plain Go.Proofs.YtalechngagkklaaDoor.Base Go.Proofs.YtalechngagkklaaDoor.Valid Go.Proofs.YtalechngagkklaaDoor.Law Go.Proofs.YtalechngagkklaaDoor.Rect Go.Proofs.YtalechngagkklaaDoor.Largest Go.Proofs.YtalechngagkklaaDoor.MaxC Go.Proofs.YtalechngagkklaaDoor.Kept
open Go.Proofs.YtalechngagkklaaDoor.Rd5 (cells3)
set_option linter.unusedVariables false

/-- both find one rectangle -/
theorem both (r c : Int) (s : ByteArray) (hs : s.size ≤ maxLen) (bit : Int) : ∃ (x y : Int) (t : Bool),
    (∀ w, Calls Tryd.prog 35 #[mat r c s, .int .i64 bit] w fun e w' => e = .returned (.tuple #[rect x y, .bool t]) ∧ Below w.heap.size w w') ∧
    (∀ w, Calls Tryd.prog 37 #[mat r c s, .int .i64 bit] w fun e w' => e = .returned (.tuple #[rect x y, .bool t]) ∧ Below w.heap.size w w') := by
  obtain ⟨ts, h1, h2, h3, h4⟩ := both2 r c s hs bit
  exact ⟨_, _, _, fun w => spec_largest r c s bit ts h1 h2 h3 w, fun w => impl_largest r c s bit ts h1 h2 h4 w⟩

set_option maxHeartbeats 2000000 in
set_option maxRecDepth 100000 in
theorem walk (r c : Int) (s : ByteArray) (wr : (Lit.int .i64 r).wf = true) (wc : (Lit.int .i64 c).wf = true) (hs : s.size ≤ maxLen) (bit : Int) (wb : (Lit.int .i64 bit).wf = true) (w : World) :
    Calls Tryd.prog 6 #[mat r c s, .int .i64 bit] w fun e w' => e = .returned (.bool true) ∧ Below w.heap.size w w' := by
  obtain ⟨x, y, t, hspec, himpl⟩ := both r c s hs bit
  have HS := Lib.hid hspec
  have HI := Lib.hid himpl
  clear hspec himpl
  have hs2 := hs
  unfold maxLen at hs2
  obtain ⟨B, hB⟩ : ∃ B, w.heap.size = B := ⟨_, rfl⟩
  have HK1 := Lib.hid ((Kp.nil w).put (.cells #[.int .i64 r, .int .i64 c, .string s] 46) hB)
  by_cases hbig : 1048576 < s.size
  · go_enter Tryd.func6, Tryd.ntmps6
    obtain ⟨cB0, cB1, cB2, -, -, -⟩ := cells3 (HK1.out.at 0 rfl)
    go_wp2_with fail
    refine (sz_over r c s _ (by omega) (by omega) hs _).mono ?_
    rintro e w2 ⟨rfl, hb2⟩
    have HK2 := Lib.hid (HK1.out.later hb2)
    clear hb2 HK1
    clear hB cB0 cB1 cB2
    go_wp2_with fail
    go_ret
    exact ⟨rfl, HK2.out.below⟩
  · go_enter Tryd.func6, Tryd.ntmps6
    obtain ⟨cB0, cB1, cB2, -, -, -⟩ := cells3 (HK1.out.at 0 rfl)
    go_wp2_with fail
    refine (sz_fits r c s _ (by omega) (by omega) _).mono ?_
    rintro e w2 ⟨rfl, hb2⟩
    have HK2 := Lib.hid (HK1.out.later hb2)
    clear hb2 HK1
    clear hB cB0 cB1 cB2
    obtain ⟨cB0, cB1, cB2, -, -, -⟩ := cells3 (HK2.out.at 0 rfl)
    go_wp2_with fail
    refine (to_any r c s _).mono ?_
    rintro e w3 ⟨rfl, hb3⟩
    have HK3 := Lib.hid (HK2.out.later hb3)
    clear hb3 HK2
    clear cB0 cB1 cB2
    go_wp2_with fail
    refine (HS.out _).mono ?_
    rintro e w4 ⟨rfl, hb4⟩
    obtain ⟨b6, hb6⟩ : ∃ x, w4.heap.size = x := ⟨_, rfl⟩
    have HK4 := Lib.hid ((HK3.out.later hb4).put (.cells #[.int .i64 x, .int .i64 y] 26) hb6)
    clear hb4 HK3
    obtain ⟨cB0, cB1, cB2, -, -, -⟩ := cells3 (HK4.out.at 1 rfl)
    go_wp2_with fail
    refine (to_any r c s _).mono ?_
    rintro e w5 ⟨rfl, hb5⟩
    have HK5 := Lib.hid (HK4.out.later hb5)
    clear hb5 HK4
    clear hb6 cB0 cB1 cB2
    go_wp2_with fail
    refine (HI.out _).mono ?_
    rintro e w6 ⟨rfl, hb6⟩
    obtain ⟨b8, hb8⟩ : ∃ x, w6.heap.size = x := ⟨_, rfl⟩
    have HK6 := Lib.hid ((HK5.out.later hb6).put (.cells #[.int .i64 x, .int .i64 y] 26) hb8)
    clear hb6 HK5
    obtain ⟨cb60, cb61, -, -⟩ := cells2 (HK6.out.at 1 rfl)
    obtain ⟨cb80, cb81, -, -⟩ := cells2 (HK6.out.at 0 rfl)
    go_wp2_with fail
    refine (eq_rect _ _ _).mono ?_
    rintro e w7 ⟨rfl, hb7⟩
    have HK7 := Lib.hid (HK6.out.later hb7)
    clear hb7 HK6
    clear hb8 cb60 cb61 cb80 cb81
    cases t
    all_goals
      go_wp2_with fail
      go_ret
      exact ⟨rfl, HK7.out.below⟩
end Go.Proofs.YtalechngagkklaaDoor.fnExactLargestRect
