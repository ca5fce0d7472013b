/-
  The walk of the law on BitsFor.
-/
import Derived.Test.YtmkghdhkgajieaaBits
namespace Go.Proofs.Ytmkghdhkgajieaa.fnExactBitsFor
open Go.RowKit Go.Proofs.Ytmkghdhkgajieaa.Plain Go.Proofs.Ytmkghdhkgajieaa.Rect Go.Proofs.Ytmkghdhkgajieaa.Bits
set_option linter.unusedVariables false

set_option maxHeartbeats 1000000 in
theorem walk (n : Int) (wn : (Lit.int .i64 n).wf = true) (w : World) :
    Calls Try.prog 3 #[.int .i64 n] w fun e w' => e = .returned (.bool true) ∧ Below w.heap.size w w' := by
  by_cases h : 0 ≤ n ∧ n ≤ 1000000
  · obtain ⟨k, rfl⟩ := Int.eq_ofNat_of_zero_le h.1
    have hk : k ≤ 1000000 := by omega
    have HS := Lib.hid (fun W => spec_yes k hk W)
    have HI := Lib.hid (fun W => impl_yes k hk W)
    clear h
    go_enter Try.func3, Try.ntmps3
    go_wp2_with fail
    refine (HS.out _).mono ?_
    rintro e w' ⟨a, ha, _, rfl, rfl⟩
    have HA := Lib.hid ha
    clear ha
    go_wp2_with fail
    refine (HI.out _).mono ?_
    rintro e w' ⟨b, hb, _, rfl, rfl⟩
    obtain rfl := HA.out.one hb
    clear hb HA
    go_wp2_with fail
    go_ret
    exact ⟨rfl, Below.refl _ _⟩
  · have hn : n < 0 ∨ 1000000 < n := by omega
    have HS := Lib.hid (fun W => spec_no n hn W)
    have HI := Lib.hid (fun W => impl_no n hn W)
    clear h hn
    go_enter Try.func3, Try.ntmps3
    go_wp2_with fail
    refine (HS.out _).mono ?_
    rintro e w' ⟨rfl, rfl⟩
    go_wp2_with fail
    refine (HI.out _).mono ?_
    rintro e w' ⟨rfl, rfl⟩
    go_wp2_with fail
    go_ret
    exact ⟨rfl, Below.refl _ _⟩
end Go.Proofs.Ytmkghdhkgajieaa.fnExactBitsFor
