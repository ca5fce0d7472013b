/-
  The drawing functions DrawEqualMatrix and DrawDisjointMatrix.
-/
import Derived.Test.YtgmhddceeomjbaaDoorVals
namespace Go.Proofs.YtgmhddceeomjbaaDoor.DrawEq
open Go.RowKit Go.Proofs.YtgmhddceeomjbaaDoor.Plain Go.Proofs.YtgmhddceeomjbaaDoor.Rd Go.Proofs.YtgmhddceeomjbaaDoor.Rd2 Go.Proofs.YtgmhddceeomjbaaDoor.Vals
set_option linter.unusedVariables false

set_option maxHeartbeats 1000000 in
theorem drawEqualMatrix_any (v : Value) (n : Nat) (w : World) (h : ByteArg w v n) :
    Calls Tryd.prog 40 #[v] w fun e w' => ∃ x : Int, e = .returned (.int .i64 x) ∧ -1 ≤ x ∧ x ≤ 9 ∧ Below w.heap.size w w' := by
  have HO := Lib.hid (open_any v n w h)
  clear h
  go_enter Tryd.func40, Tryd.ntmps40
  go_wp2_with fail
  refine HO.out.mono ?_
  rintro e w1 ⟨g, rfl, hr, hb, hg⟩
  have HN := Lib.hid (count_any g 0 (by omega) w1 hr)
  have HB := Lib.hid (And.intro hb hg)
  clear hr hb hg HO
  go_wp2_with fail
  refine HN.out.mono ?_
  rintro e w2 ⟨x, rfl, hx1, hx2, hr, ha⟩
  have HB2 := Lib.hid (ha.below HB.out.1 HB.out.2)
  clear hr ha HN HB
  go_wp2_with fail
  go_ret
  exact ⟨x, rfl, hx1, hx2, HB2.out⟩

set_option maxHeartbeats 1000000 in
theorem drawDisjointMatrix_any (v : Value) (n : Nat) (w : World) (h : ByteArg w v n) :
    Calls Tryd.prog 47 #[v] w fun e w' => ∃ x : Int, e = .returned (.int .i64 x) ∧ -1 ≤ x ∧ x ≤ 9 ∧ Below w.heap.size w w' := by
  have HO := Lib.hid (open_any v n w h)
  clear h
  go_enter Tryd.func47, Tryd.ntmps47
  go_wp2_with fail
  refine HO.out.mono ?_
  rintro e w1 ⟨g, rfl, hr, hb, hg⟩
  have HN := Lib.hid (count_any g 0 (by omega) w1 hr)
  have HB := Lib.hid (And.intro hb hg)
  clear hr hb hg HO
  go_wp2_with fail
  refine HN.out.mono ?_
  rintro e w2 ⟨x, rfl, hx1, hx2, hr, ha⟩
  have HB2 := Lib.hid (ha.below HB.out.1 HB.out.2)
  clear hr ha HN HB
  go_wp2_with fail
  go_ret
  exact ⟨x, rfl, hx1, hx2, HB2.out⟩
end Go.Proofs.YtgmhddceeomjbaaDoor.DrawEq
