/-
  The walk of the law on ChoiceOf.
-/
import Derived.Test.YtcafingoghoijaaChoice
import Derived.Test.YtcafingoghoijaaRectsQ
namespace Go.Proofs.Ytcafingoghoijaa.fnExactChoiceOf
open Go.RowKit Go.Proofs.Ytcafingoghoijaa.Plain Go.Proofs.Ytcafingoghoijaa.Rect Go.Proofs.Ytcafingoghoijaa.Rects Go.Proofs.Ytcafingoghoijaa.RectsQ
set_option linter.unusedVariables false

/-- a list is opened again: what it takes -/
theorem at_ {w W : World} {v : Value} {xs : List (Int × Int)} (h : RV w w.heap.size v xs) (hb : Below w.heap.size w W) : RV W W.heap.size v xs := (h.later (Nat.le_refl _) hb).mono hb.size

set_option maxHeartbeats 4000000 in
theorem walk (v : Value) (xs : List (Int × Int)) (u : Value) (ys : List (Int × Int)) (input : Int) (wi : (Lit.int .i64 input).wf = true) (cols : Bool) (w : World) (hv : RV w w.heap.size v xs) (hu : RV w w.heap.size u ys) :
    Calls Try.prog 7 #[v, u, .int .i64 input, .bool cols] w fun e w' => e = .returned (.bool true) ∧ Below w.heap.size w w' := by
  obtain ⟨p, k, rfl⟩ := hv.slice
  obtain ⟨q, m, rfl⟩ := hu.slice
  have hl := hv.1
  have hm := hu.1
  have HV := Lib.hid hv
  have HU := Lib.hid hu
  clear hv hu wi
  have HSZ := Lib.hid (fun W => sz_rects p xs.length k 1048576 (by omega) (by omega) hl W)
  obtain ⟨left, hleft⟩ : ∃ left : Int, (1048576 : Int) - (xs.length : Int) = left := ⟨_, rfl⟩
  by_cases hfit : (xs.length : Int) ≤ 1048576
  · have hlen : xs.length ≤ 1048576 := by omega
    have hl0 : ¬ left < 0 := by omega
    have HS2 := Lib.hid (fun W => sz_rects q ys.length m left (by omega) (by omega) hm W)
    rw [if_pos hfit, hleft] at HSZ
    obtain ⟨left2, hleft2⟩ : ∃ left2 : Int, left - (ys.length : Int) = left2 := ⟨_, rfl⟩
    by_cases hfit2 : (ys.length : Int) ≤ left
    · have hlen2 : ys.length ≤ 1048576 := by omega
      have hl2 : ¬ left2 < 0 := by omega
      rw [if_pos hfit2, hleft2] at HS2
      obtain ⟨r, hspec, himpl⟩ := Go.Proofs.Ytcafingoghoijaa.Choice.both xs ys hlen hlen2 input cols
      have HS := Lib.hid hspec
      have HI := Lib.hid himpl
      clear hspec himpl hl hm hfit hfit2 hleft hleft2
      go_enter Try.func7, Try.ntmps7
      go_wp2_with fail
      refine (HSZ.out _).mono ?_
      rintro e w' ⟨rfl, rfl⟩
      clear HSZ
      go_wp2_with fail
      refine (HS2.out _).mono ?_
      rintro e w' ⟨rfl, rfl⟩
      clear HS2
      go_wp2_with fail
      refine (to_rects xs _ hlen _ HV.out).mono ?_
      rintro e w2 ⟨v2, rfl, hr2, hb2⟩
      have HR2 := Lib.hid hr2
      have HB2 := Lib.hid hb2
      clear hr2 hb2
      go_wp2_with fail
      refine (to_rects ys _ hlen2 _ (at_ HU.out HB2.out)).mono ?_
      rintro e w3 ⟨v3, rfl, hr3, hb3⟩
      have HQ3 := Lib.hid (at_ HR2.out hb3)
      have HR3 := Lib.hid hr3
      have HB3 := Lib.hid (HB2.out.trans (hb3.mono HB2.out.size))
      clear hr3 hb3 HR2 HB2
      go_wp2_with fail
      refine (HS.out _ _ _ HQ3.out HR3.out).mono ?_
      rintro e w4 ⟨rfl, hb4⟩
      have HB4 := Lib.hid (HB3.out.trans (hb4.mono HB3.out.size))
      clear hb4 HQ3 HR3 HB3 HS
      go_wp2_with fail
      refine (to_rects xs _ hlen _ (at_ HV.out HB4.out)).mono ?_
      rintro e w5 ⟨v5, rfl, hr5, hb5⟩
      have HR5 := Lib.hid hr5
      have HB5 := Lib.hid (HB4.out.trans (hb5.mono HB4.out.size))
      clear hr5 hb5 HB4
      go_wp2_with fail
      refine (to_rects ys _ hlen2 _ (at_ HU.out HB5.out)).mono ?_
      rintro e w6 ⟨v6, rfl, hr6, hb6⟩
      have HQ6 := Lib.hid (at_ HR5.out hb6)
      have HR6 := Lib.hid hr6
      have HB6 := Lib.hid (HB5.out.trans (hb6.mono HB5.out.size))
      clear hr6 hb6 HB5 HR5
      go_wp2_with fail
      refine (HI.out _ _ _ HQ6.out HR6.out).mono ?_
      rintro e w7 ⟨rfl, hb7⟩
      have HQ7 := Lib.hid (at_ HQ6.out hb7)
      have HR7 := Lib.hid (at_ HR6.out hb7)
      have HB7 := Lib.hid (HB6.out.trans (hb7.mono HB6.out.size))
      clear hb7 HB6 HQ6 HR6 HI
      go_wp2_with fail
      refine (to_rects xs _ hlen _ (at_ HV.out HB7.out)).mono ?_
      rintro e w8 ⟨v8, rfl, hr8, hb8⟩
      have HX8 := Lib.hid hr8
      have HQ8 := Lib.hid (at_ HQ7.out hb8)
      have HR8 := Lib.hid (at_ HR7.out hb8)
      have HB8 := Lib.hid (HB7.out.trans (hb8.mono HB7.out.size))
      clear hr8 hb8 HB7 HQ7 HR7
      go_wp2_with fail
      refine (eq_rects xs _ _ _ HQ8.out HX8.out).mono ?_
      rintro e w9 ⟨rfl, hb9⟩
      have HR9 := Lib.hid (at_ HR8.out hb9)
      have HB9 := Lib.hid (HB8.out.trans (hb9.mono HB8.out.size))
      clear hb9 HB8 HQ8 HR8 HX8
      go_wp2_with fail
      refine (to_rects ys _ hlen2 _ (at_ HU.out HB9.out)).mono ?_
      rintro e w10 ⟨v10, rfl, hr10, hb10⟩
      have HX10 := Lib.hid hr10
      have HR10 := Lib.hid (at_ HR9.out hb10)
      have HB10 := Lib.hid (HB9.out.trans (hb10.mono HB9.out.size))
      clear hr10 hb10 HB9 HR9
      go_wp2_with fail
      refine (eq_rects ys _ _ _ HR10.out HX10.out).mono ?_
      rintro e w11 ⟨rfl, hb11⟩
      have HB11 := Lib.hid (HB10.out.trans (hb11.mono HB10.out.size))
      clear hb11 HB10 HR10 HX10
      go_wp2_with fail
      go_ret
      exact ⟨rfl, HB11.out⟩
    · have hlb : (-1 : Int) < 0 := by omega
      rw [if_neg hfit2] at HS2
      clear hl hm hfit hfit2 hleft hleft2
      go_enter Try.func7, Try.ntmps7
      go_wp2_with fail
      refine (HSZ.out _).mono ?_
      rintro e w' ⟨rfl, rfl⟩
      clear HSZ
      go_wp2_with fail
      refine (HS2.out _).mono ?_
      rintro e w' ⟨rfl, rfl⟩
      clear HS2
      go_wp2_with fail
      go_ret
      exact ⟨rfl, Below.refl _ _⟩
  · have hlb : (-1 : Int) < 0 := by omega
    rw [if_neg hfit] at HSZ
    clear hl hm hfit hleft
    go_enter Try.func7, Try.ntmps7
    go_wp2_with fail
    refine (HSZ.out _).mono ?_
    rintro e w' ⟨rfl, rfl⟩
    clear HSZ
    go_wp2_with fail
    go_ret
    exact ⟨rfl, Below.refl _ _⟩
end Go.Proofs.Ytcafingoghoijaa.fnExactChoiceOf
