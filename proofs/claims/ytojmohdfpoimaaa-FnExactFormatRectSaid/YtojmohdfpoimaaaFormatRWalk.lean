/-
  The walk of the law on FormatRect.
-/
import Derived.Test.YtojmohdfpoimaaaFormat
namespace Go.Proofs.Ytojmohdfpoimaaa.fnExactFormatRect
open Go.RowKit Go.Proofs.Ytojmohdfpoimaaa.Plain Go.Proofs.Ytojmohdfpoimaaa.Pat Go.Proofs.Ytojmohdfpoimaaa.Rect Go.Proofs.Ytojmohdfpoimaaa.Format
set_option linter.unusedVariables false

set_option maxHeartbeats 1000000 in
theorem walk (r c : Int) (wr : (Lit.int .i64 r).wf = true) (wc : (Lit.int .i64 c).wf = true) (w : World) :
    Calls Try.prog 3 #[rect r c] w fun e w' => e = .returned (.bool true) ∧ Below w.heap.size w w' := by
  obtain ⟨v, hspec, himpl⟩ := both r c
  have HS := Lib.hid hspec
  have HI := Lib.hid himpl
  clear hspec himpl
  go_enter Try.func3, Try.ntmps3
  go_wp2_with fail
  refine (to_rect r c _).mono ?_
  rintro e w1 ⟨rfl, hb1⟩
  obtain ⟨k0, k1, hz, HB⟩ := box2 hb1
  clear hb1
  go_wp2_with fail
  refine (HS.out _).mono ?_
  rintro e w2 ⟨rfl, hb2⟩
  obtain ⟨j0, j1⟩ := two_on hb2 hz k0 k1
  have HB2 := Lib.hid (rstep HB.out hb2)
  clear hb2 k0 k1 HB
  go_wp2_with fail
  refine (to_rect r c _).mono ?_
  rintro e w3 ⟨rfl, hb3⟩
  go_wp2_with fail
  refine (HI.out _).mono ?_
  rintro e w4 ⟨rfl, hb4⟩
  have HB4 := Lib.hid (rstep (rstep HB2.out hb3) hb4)
  clear hb3 hb4 HB2 j0 j1
  go_wp2_with fail
  all_goals (go_ret; exact ⟨rfl, HB4.out⟩)
end Go.Proofs.Ytojmohdfpoimaaa.fnExactFormatRect
