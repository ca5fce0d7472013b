/-
  The program's AreaOf.
-/
import Derived.Test.YtcafingoghoijaaJo11
import Derived.WalkSmall
namespace Go.Proofs.Ytcafingoghoijaa.AreaI
open Go.RowKit Go.Proofs.Ytcafingoghoijaa.Plain Go.Proofs.Ytcafingoghoijaa.Pat Go.Proofs.Ytcafingoghoijaa.Rect Go.Proofs.Ytcafingoghoijaa.Patch
set_option linter.unusedVariables false

set_option maxHeartbeats 1000000 in
theorem impl_area (R C : Nat) (hR1 : 1 ≤ R) (hR : R < 256) (hC1 : 1 ≤ C) (hC : C < 256) (w : World) :
    Calls Try.prog 34 #[rect R C] w fun e w' => e = .returned (.int .i64 ((pop8 R * pop8 C : Nat) : Int)) ∧ Below w.heap.size w w' := by
  have HS := Lib.hid (show someB R C = true by rw [someB_iff]; omega)
  have HP := Lib.hid (patch_any R C hR hC)
  have HZ := Lib.hid (size_any (rectB R C) (rectB_lt R C hC))
  rw [area_pop R C hR] at HZ
  generalize pat (rectB R C) 8 = p at *
  go_enter Try.func34, Try.ntmps34
  go_wp2_with fail
  refine (rect_any _ _ _).mono ?_
  rintro e w1 ⟨rfl, hb1⟩
  rw [HS.out]
  obtain ⟨c0, c1, hz, HB⟩ := box2 hb1
  clear hb1
  go_wp2_with fail
  refine (HP.out _).mono ?_
  rintro e w2 ⟨rfl, hb2⟩
  have HB2 := Lib.hid (rstep HB.out hb2)
  clear hb2 HB
  go_wp2_with fail
  refine (HZ.out _).mono ?_
  rintro e w' ⟨rfl, rfl⟩
  go_wp2_with fail
  go_ret
  exact ⟨rfl, HB2.out⟩
set_option maxHeartbeats 1000000 in
theorem impl_area_no (r c : Int) (h : someB r c = false) (w : World) :
    Calls Try.prog 34 #[rect r c] w fun e w' => e = .returned (.int .i64 (-1)) ∧ Below w.heap.size w w' := by
  have HS := Lib.hid h
  clear h
  go_enter Try.func34, Try.ntmps34
  go_wp2_with fail
  refine (rect_any _ _ _).mono ?_
  rintro e w1 ⟨rfl, hb1⟩
  rw [HS.out]
  obtain ⟨c0, c1, hz, HB⟩ := box2 hb1
  clear hb1
  go_wp2_with fail
  go_ret
  exact ⟨rfl, HB.out⟩
end Go.Proofs.Ytcafingoghoijaa.AreaI
