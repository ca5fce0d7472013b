/-
  The walk of the law on ProofOf.
-/
import Derived.Test.YtcafingoghoijaaProof
import Derived.Test.YtcafingoghoijaaRectsQ
namespace Go.Proofs.Ytcafingoghoijaa.fnExactProofOf
open Go.RowKit Go.Proofs.Ytcafingoghoijaa.Plain Go.Proofs.Ytcafingoghoijaa.Rect Go.Proofs.Ytcafingoghoijaa.Rects Go.Proofs.Ytcafingoghoijaa.RectsQ Go.Proofs.Ytcafingoghoijaa.GuessI
set_option linter.unusedVariables false

set_option maxHeartbeats 2000000 in
theorem walk (v : Value) (xs : List (Int × Int)) (x : Int) (wx : (Lit.int .i64 x).wf = true) (y : Int) (wy : (Lit.int .i64 y).wf = true) (w : World) (hv : RV w w.heap.size v xs) :
    Calls Try.prog 3 #[v, .int .i64 x, .int .i64 y] w fun e w' => e = .returned (.bool true) ∧ Below w.heap.size w w' := by
  obtain ⟨p, k, rfl⟩ := hv.slice
  have hl := hv.1
  have HV := Lib.hid hv
  clear hv
  have HSZ := Lib.hid (fun W => sz_rects p xs.length k 1048576 (by omega) (by omega) hl W)
  obtain ⟨left, hleft⟩ : ∃ left : Int, (1048576 : Int) - (xs.length : Int) = left := ⟨_, rfl⟩
  by_cases hfit : (xs.length : Int) ≤ 1048576
  · have hlen : xs.length ≤ 1048576 := by omega
    have hl0 : ¬ left < 0 := by omega
    rw [if_pos hfit, hleft] at HSZ
    have HS := Lib.hid (fun w v hv => Go.Proofs.Ytcafingoghoijaa.Proof.spec_any xs hlen v x y w hv)
    have HI := Lib.hid (fun w v hv => Go.Proofs.Ytcafingoghoijaa.Proof.impl_any xs hlen v x y w hv)
    obtain ⟨r, hr⟩ : ∃ r, leastK (Go.Proofs.Ytcafingoghoijaa.Proof.has xs x y) xs.length = r := ⟨_, rfl⟩
    rw [hr] at HS HI
    clear hr
    clear hl hfit hleft
    go_enter Try.func3, Try.ntmps3
    go_wp2_with fail
    refine (HSZ.out _).mono ?_
    rintro e w' ⟨rfl, rfl⟩
    clear HSZ
    go_wp2_with fail
    refine (to_rects xs _ hlen _ HV.out).mono ?_
    rintro e w2 ⟨v2, rfl, hr2, hb2⟩
    have HR2 := Lib.hid hr2
    have HB2 := Lib.hid hb2
    clear hr2 hb2
    go_wp2_with fail
    refine (HS.out _ _ HR2.out).mono ?_
    rintro e w3 ⟨rfl, hb3⟩
    have HB3 := Lib.hid (HB2.out.trans (hb3.mono HB2.out.size))
    clear hb3 HR2 HB2 HS
    go_wp2_with fail
    refine (to_rects xs _ hlen _ ((HV.out.later (Nat.le_refl _) HB3.out).mono HB3.out.size)).mono ?_
    rintro e w4 ⟨v4, rfl, hr4, hb4⟩
    have HR4 := Lib.hid hr4
    have HB4 := Lib.hid (HB3.out.trans (hb4.mono HB3.out.size))
    clear hr4 hb4 HB3
    go_wp2_with fail
    refine (HI.out _ _ HR4.out).mono ?_
    rintro e w5 ⟨rfl, hb5⟩
    have HR5 := Lib.hid ((HR4.out.later (Nat.le_refl _) hb5).mono hb5.size)
    have HB5 := Lib.hid (HB4.out.trans (hb5.mono HB4.out.size))
    clear hb5 HR4 HB4 HI
    go_wp2_with fail
    refine (to_rects xs _ hlen _ ((HV.out.later (Nat.le_refl _) HB5.out).mono HB5.out.size)).mono ?_
    rintro e w6 ⟨v6, rfl, hr6, hb6⟩
    have HR6 := Lib.hid hr6
    have HQ6 := Lib.hid ((HR5.out.later (Nat.le_refl _) hb6).mono hb6.size)
    have HB6 := Lib.hid (HB5.out.trans (hb6.mono HB5.out.size))
    clear hr6 hb6 HR5 HB5
    go_wp2_with fail
    refine (eq_rects xs _ _ _ HQ6.out HR6.out).mono ?_
    rintro e w7 ⟨rfl, hb7⟩
    have HB7 := Lib.hid (HB6.out.trans (hb7.mono HB6.out.size))
    clear hb7 HB6 HQ6 HR6 HV
    go_wp2_with fail
    go_ret
    exact ⟨rfl, HB7.out⟩
  · have hlb : (-1 : Int) < 0 := by omega
    rw [if_neg hfit] at HSZ
    clear hl hfit hleft
    go_enter Try.func3, Try.ntmps3
    go_wp2_with fail
    refine (HSZ.out _).mono ?_
    rintro e w' ⟨rfl, rfl⟩
    clear HSZ
    go_wp2_with fail
    go_ret
    exact ⟨rfl, Below.refl _ _⟩
end Go.Proofs.Ytcafingoghoijaa.fnExactProofOf
