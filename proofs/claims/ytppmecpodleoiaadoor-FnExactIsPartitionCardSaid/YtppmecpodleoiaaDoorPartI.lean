/-
  The program's IsPartition.
-/
import Derived.Test.YtppmecpodleoiaaDoorCover
namespace Go.Proofs.YtppmecpodleoiaaDoor.PartI
open Go.RowKit Go.Proofs.YtppmecpodleoiaaDoor.Plain Go.Proofs.YtppmecpodleoiaaDoor.Base Go.Proofs.YtppmecpodleoiaaDoor.Valid Go.Proofs.YtppmecpodleoiaaDoor.Law Go.Proofs.YtppmecpodleoiaaDoor.Pat Go.Proofs.YtppmecpodleoiaaDoor.Rect Go.Proofs.YtppmecpodleoiaaDoor.Patch Go.Proofs.YtppmecpodleoiaaDoor.FreeL Go.Proofs.YtppmecpodleoiaaDoor.Board Go.Proofs.YtppmecpodleoiaaDoor.BoardM Go.Proofs.YtppmecpodleoiaaDoor.RValid Go.Proofs.YtppmecpodleoiaaDoor.Colour Go.Proofs.YtppmecpodleoiaaDoor.Rects Go.Proofs.YtppmecpodleoiaaDoor.Cover
set_option linter.unusedVariables false

theorem and64n (a b : Nat) (ha : a < 18446744073709551616) (hb : b < 18446744073709551616) : Go.bits .and .u64 (a : Int) (b : Int) = ((a &&& b : Nat) : Int) :=
  (bits_nat .u64 64 (by decide) (fun n h0 h1 => by rw [IntKind.wrap_u64]; omega) a b (by omega) (by omega)).1
theorem eq_pair (W : World) : (Op.equalIn 9999 74 (.agg #[.int .u64 0, .int .u64 0]) (.agg #[.int .u64 0, .int .u64 0])).run Tryd.prog W = .ok true W := by
  kernel_rfl

set_option maxHeartbeats 1000000 in
theorem all_any (R C : Int) (z o : Nat) (hz : z < 18446744073709551616) (ho : o < 18446744073709551616) (w : World) :
    Calls Tryd.prog 68 #[brd R C z o] w fun e w' => e = .returned (.int .u64 ((z ||| o : Nat) : Int)) ∧ Below w.heap.size w w' := by
  have hor := or64n z o hz ho
  generalize z ||| o = m at *
  go_enter Tryd.func68, Tryd.ntmps68
  go_wp2_with fail
  go_ret
  exact ⟨rfl, by go_grown⟩

/-- one rectangle more parts the matrix -/
def okAt (R C z o : Nat) (xs : List (Int × Int)) (k : Nat) : Bool := match xs[k]? with
  | some r => (hpB R C z r.1 r.2 || hpB R C o r.1 r.2) && (covTo xs k &&& pat (rectB r.1.toNat r.2.toNat) 8 == 0)
  | none => true
theorem okAt_some {R C z o : Nat} {xs : List (Int × Int)} {k : Nat} {r : Int × Int} (h : xs[k]? = some r) : okAt R C z o xs k = ((hpB R C z r.1 r.2 || hpB R C o r.1 r.2) && (covTo xs k &&& pat (rectB r.1.toNat r.2.toNat) 8 == 0)) := by
  unfold okAt
  rw [h]
/-- what the program finds -/
def partI (R C z o : Nat) (xs : List (Int × Int)) : Bool := decide (∀ k, k < xs.length → okAt R C z o xs k = true) && (decide (1 ≤ R) && (covTo xs xs.length == (z ||| o)))

set_option maxHeartbeats 4000000 in
set_option maxRecDepth 100000 in
theorem impl_part (R C : Nat) (hR : R ≤ 8) (hC : C ≤ 8) (z o : Nat) (hz : z < 18446744073709551616) (ho : o < 18446744073709551616) (hnz : 1 ≤ R ∨ (R = 0 ∧ C = 0 ∧ z = 0 ∧ o = 0)) (rr cc : Int) (s : ByteArray)
    (hbo : ∀ W : World, Calls Tryd.prog 51 #[mat rr cc s] W fun e w' => e = .returned (brd R C z o) ∧ Below W.heap.size W w')
    (xs : List (Int × Int)) (v : Value) (w : World) (hiv : RV w w.heap.size v xs) :
    Calls Tryd.prog 30 #[mat rr cc s, v] w fun e w' => e = .returned (.bool (partI R C z o xs)) ∧ Below w.heap.size w w' := by
  have HBO := Lib.hid hbo
  have HP0 := Lib.hid (fun r c W => has_plain R C hR hC z o z 0 (fun RS CS k5 k6 W => plain0 R C z o hz ho RS CS k5 k6 W) r c W)
  have HP1 := Lib.hid (fun r c W => has_plain R C hR hC z o o 1 (fun RS CS k5 k6 W => plain1 R C z o hz ho RS CS k5 k6 W) r c W)
  have HALL2 := Lib.hid (fun W => all_any R C z o hz ho W)
  clear hbo
  have HC : Hid (∀ j (hj : j < xs.length), ∃ b off c, v = .slice (some ⟨b, off, none⟩) xs.length c ∧ b < w.heap.size ∧ w.cell? ⟨b, off + j * 2, none⟩ = some (.int .i64 xs[j].1) ∧ w.cell? ⟨b, off + j * 2 + 1, none⟩ = some (.int .i64 xs[j].2)) := fun j hj => by
    rcases hiv.2 with ⟨_, rfl⟩ | ⟨b, off, c, e, hlt, hc⟩
    · cases hj
    · exact ⟨b, off, c, e, hlt, hc j hj⟩
  have hl := hiv.1
  obtain ⟨p, kk, rfl⟩ := hiv.slice
  clear hiv
  go_enter Tryd.func30, Tryd.ntmps30
  go_wp2_with fail
  refine (HBO.out _).mono ?_
  rintro e w1 ⟨rfl, hb1⟩
  have hbx : Below w.heap.size w w1 := rstep ((Below.refl w.heap.size w).alloc (Nat.le_refl _) _) hb1
  clear hb1 HBO
  have HV0 : Hid (VInv w (w1.alloc (.cells #[.int .i64 (R : Int), .int .i64 (C : Int), .int .u64 (z : Int), .int .u64 (o : Int)] 76)) w1.heap.size R C z o) := ⟨heap_alloc_new w1 _, hbx.alloc hbx.size _, hbx.size⟩
  clear hbx
  go_wp2_with fail
  generalize w1.alloc (.cells #[.int .i64 (R : Int), .int .i64 (C : Int), .int .u64 (z : Int), .int .u64 (o : Int)] 76) = W0 at *
  generalize w1.heap.size = g at *
  go_loopw [6, 14] (fun t i wr => ∃ (k m : Nat), k ≤ xs.length ∧ i = .int .i64 (k : Int) ∧ t = .int .u64 (m : Int) ∧ m < 18446744073709551616 ∧ Hid (m = covTo xs k) ∧ Hid (∀ j, j < k → okAt R C z o xs j = true) ∧ VInv w wr g R C z o) (fun _ i _ => xs.length - (intOf i).toNat)
  case atStart => exact ⟨0, 0, Nat.zero_le _, rfl, rfl, by omega, rfl, fun j h => absurd h (by omega), HV0.out⟩
  case round =>
    obtain ⟨k, m, hk, rfl, rfl, hm, hcov, hall, hinv⟩ := hrel
    clear HV0
    obtain ⟨q0, q1, q2, q3⟩ := bh_c hinv.b
    have hg := hinv.lt
    have HI := Lib.hid hinv
    by_cases hkl : k < xs.length
    · obtain ⟨b, off, c, e, hlt, c0, c1⟩ := HC.out k hkl
      injection e with e1 e2 e3
      subst e1 e3
      have c0 := (hinv.below.cell (p := ⟨b, off + k * 2, none⟩) hlt).trans c0
      have c1 := (hinv.below.cell (p := ⟨b, off + k * 2 + 1, none⟩) hlt).trans c1
      have HX : Hid (∃ x y, xs[k] = (x, y)) := ⟨_, _, rfl⟩
      obtain ⟨x, y, hxy⟩ := HX.out
      rw [hxy] at c0 c1
      have HXY : Hid (xs[k]? = some (x, y)) := by unfold Hid; rw [List.getElem?_eq_getElem hkl, hxy]
      have HXZ := Lib.hid hxy
      clear hinv HX hxy e2
      obtain ⟨t0, ht0⟩ : ∃ t, hpB R C z x y = t := ⟨_, rfl⟩
      have HT0 := Lib.hid ht0
      have HQ0 := Lib.hid (fun W => HP0.out x y W)
      rw [ht0] at HQ0
      obtain ⟨t1, ht1⟩ : ∃ t, hpB R C o x y = t := ⟨_, rfl⟩
      have HT1 := Lib.hid ht1
      have HQ1 := Lib.hid (fun W => HP1.out x y W)
      rw [ht1] at HQ1
      clear ht0 ht1
      go_wp2_with fail
      refine (HQ0.out _).mono ?_
      rintro e w2 ⟨rfl, hb2⟩
      obtain ⟨hinv, hbox⟩ := HI.out.box hb2
      have HI2 := Lib.hid hinv
      have HB2 : Hid (RHolds w2 wr.heap.size x y) := hbox
      clear q0 q1 q2 q3 hg c0 c1 hb2 HI hbox hinv
      cases t0
      · obtain ⟨q0, q1, q2, q3⟩ := bh_c HI2.out.b
        obtain ⟨r0, r1⟩ := rh_c (show RHolds w2 wr.heap.size x y from HB2.out)
        go_wp2_with fail
        refine (HQ1.out _).mono ?_
        rintro e w5 ⟨rfl, hb5⟩
        have HI5 := Lib.hid (HI2.out.later hb5)
        have HB5 := Lib.hid (RHolds.on HB2.out hb5)
        clear hb5 HI2 HB2 q0 q1 q2 q3 r0 r1
        cases t1
        · have HF : Hid (partI R C z o xs = false) := by
            unfold Hid partI
            rw [decide_eq_false (fun h => by have := h k hkl; rw [okAt_some HXY.out, HT0.out, HT1.out] at this; cases this), Bool.false_and]
          clear hall hcov
          go_wp2_with fail
          go_ret
          exact ⟨by rw [HF.out]; rfl, HI5.out.below⟩
        · have HI2 := HI5
          have HB2 := HB5
          clear HI5 HB5
          revert HI2 HB2
          generalize w5 = w2
          intro HI2 HB2
          have hrv : rvB R C x y = true := by
            have h := HT1.out
            unfold hpB at h
            rw [Bool.and_eq_true] at h
            exact h.1
          obtain ⟨RS, CS, ex, ey, k1, k2, k3, k4, k5, k6⟩ := rv_nat hR hC hrv
          subst ex ey
          have hp64 := pat64 (rectB RS CS) (rectB_lt RS CS k6)
          have HPA := Lib.hid (patch_any RS CS k5 k6)
          have hor := or64n m (pat (rectB RS CS) 8) hm hp64
          have hand := and64n m (pat (rectB RS CS) 8) hm hp64
          have hlt64 : m ||| pat (rectB RS CS) 8 < 18446744073709551616 := Nat.or_lt_two_pow (n := 64) hm hp64
          have HCOV : Hid (m ||| pat (rectB RS CS) 8 = covTo xs (k + 1)) := by
            unfold Hid
            rw [covTo_next xs k hkl, ← hcov.out, HXZ.out, Int.toNat_natCast, Int.toNat_natCast]
          have HOK : Hid (okAt R C z o xs k = (m &&& pat (rectB RS CS) 8 == 0)) := by
            unfold Hid
            rw [okAt_some HXY.out, ← hcov.out, HT0.out, HT1.out, Int.toNat_natCast, Int.toNat_natCast]
            rw [Bool.or_true, Bool.true_and]
          obtain ⟨d, hd⟩ : ∃ d, (((m &&& pat (rectB RS CS) 8 : Nat) : Int) == 0) = d := ⟨_, rfl⟩
          have HOK2 : Hid (okAt R C z o xs k = d) := by
            unfold Hid
            rw [HOK.out, ← hd, Bool.eq_iff_iff, beq_iff_eq, beq_iff_eq]
            omega
          clear hrv k1 k2 k3 k4 hp64 hcov HOK HQ0 HQ1
          generalize m &&& pat (rectB RS CS) 8 = ma at *
          generalize m ||| pat (rectB RS CS) 8 = m2 at *
          generalize pat (rectB RS CS) 8 = pp at *
          have hne : ((ma : Int) != 0) = !d := by rw [← hd]; rfl
          obtain ⟨r0, r1⟩ := rh_c (show RHolds w2 wr.heap.size RS CS from HB2.out)
          go_wp2_with fail
          refine (HPA.out _).mono ?_
          rintro e w3 ⟨rfl, hb3⟩
          have HI3 := Lib.hid (HI2.out.later hb3)
          have HB3 := Lib.hid (RHolds.on HB2.out hb3)
          clear hb3 HI2 HB2 r0 r1
          obtain ⟨r0, r1⟩ := rh_c (show RHolds w3 wr.heap.size RS CS from HB3.out)
          cases d
          · have HF : Hid (partI R C z o xs = false) := by
              unfold Hid partI
              rw [decide_eq_false (fun h => by have := h k hkl; rw [HOK2.out] at this; cases this), Bool.false_and]
            clear hall
            go_wp2_with fail
            go_ret
            exact ⟨by rw [HF.out]; rfl, HI3.out.below⟩
          · have HALL : Hid (∀ j, j < k + 1 → okAt R C z o xs j = true) := fun j hjk => by
              by_cases ej : j = k
              · subst ej; exact HOK2.out
              · exact hall.out j (by omega)
            clear hall
            go_wp2_with fail
            refine (HPA.out _).mono ?_
            rintro e w4 ⟨rfl, hb4⟩
            have HI4 := Lib.hid (HI3.out.later hb4)
            clear hb4 HI3 HB3 r0 r1
            go_wp2_with fail
            go_roundw
            case rel => exact ⟨k + 1, m2, by omega, by go_num, by go_num, hlt64, HCOV, HALL, HI4.out⟩
            case measure => simp [intOf]; omega
      · have hrv : rvB R C x y = true := by
          have h := HT0.out
          unfold hpB at h
          rw [Bool.and_eq_true] at h
          exact h.1
        obtain ⟨RS, CS, ex, ey, k1, k2, k3, k4, k5, k6⟩ := rv_nat hR hC hrv
        subst ex ey
        have hp64 := pat64 (rectB RS CS) (rectB_lt RS CS k6)
        have HPA := Lib.hid (patch_any RS CS k5 k6)
        have hor := or64n m (pat (rectB RS CS) 8) hm hp64
        have hand := and64n m (pat (rectB RS CS) 8) hm hp64
        have hlt64 : m ||| pat (rectB RS CS) 8 < 18446744073709551616 := Nat.or_lt_two_pow (n := 64) hm hp64
        have HCOV : Hid (m ||| pat (rectB RS CS) 8 = covTo xs (k + 1)) := by
          unfold Hid
          rw [covTo_next xs k hkl, ← hcov.out, HXZ.out, Int.toNat_natCast, Int.toNat_natCast]
        have HOK : Hid (okAt R C z o xs k = (m &&& pat (rectB RS CS) 8 == 0)) := by
          unfold Hid
          rw [okAt_some HXY.out, ← hcov.out, HT0.out, Int.toNat_natCast, Int.toNat_natCast]
          rw [Bool.true_or, Bool.true_and]
        obtain ⟨d, hd⟩ : ∃ d, (((m &&& pat (rectB RS CS) 8 : Nat) : Int) == 0) = d := ⟨_, rfl⟩
        have HOK2 : Hid (okAt R C z o xs k = d) := by
          unfold Hid
          rw [HOK.out, ← hd, Bool.eq_iff_iff, beq_iff_eq, beq_iff_eq]
          omega
        clear hrv k1 k2 k3 k4 hp64 hcov HOK HQ0 HQ1
        generalize m &&& pat (rectB RS CS) 8 = ma at *
        generalize m ||| pat (rectB RS CS) 8 = m2 at *
        generalize pat (rectB RS CS) 8 = pp at *
        have hne : ((ma : Int) != 0) = !d := by rw [← hd]; rfl
        obtain ⟨r0, r1⟩ := rh_c (show RHolds w2 wr.heap.size RS CS from HB2.out)
        go_wp2_with fail
        refine (HPA.out _).mono ?_
        rintro e w3 ⟨rfl, hb3⟩
        have HI3 := Lib.hid (HI2.out.later hb3)
        have HB3 := Lib.hid (RHolds.on HB2.out hb3)
        clear hb3 HI2 HB2 r0 r1
        obtain ⟨r0, r1⟩ := rh_c (show RHolds w3 wr.heap.size RS CS from HB3.out)
        cases d
        · have HF : Hid (partI R C z o xs = false) := by
            unfold Hid partI
            rw [decide_eq_false (fun h => by have := h k hkl; rw [HOK2.out] at this; cases this), Bool.false_and]
          clear hall
          go_wp2_with fail
          go_ret
          exact ⟨by rw [HF.out]; rfl, HI3.out.below⟩
        · have HALL : Hid (∀ j, j < k + 1 → okAt R C z o xs j = true) := fun j hjk => by
            by_cases ej : j = k
            · subst ej; exact HOK2.out
            · exact hall.out j (by omega)
          clear hall
          go_wp2_with fail
          refine (HPA.out _).mono ?_
          rintro e w4 ⟨rfl, hb4⟩
          have HI4 := Lib.hid (HI3.out.later hb4)
          clear hb4 HI3 HB3 r0 r1
          go_wp2_with fail
          go_roundw
          case rel => exact ⟨k + 1, m2, by omega, by go_num, by go_num, hlt64, HCOV, HALL, HI4.out⟩
          case measure => simp [intOf]; omega
    · obtain rfl : k = xs.length := by omega
      have HA : Hid (decide (∀ k, k < xs.length → okAt R C z o xs k = true) = true) := decide_eq_true hall.out
      have hor2 : z ||| o < 18446744073709551616 := Nat.or_lt_two_pow (n := 64) hz ho
      have HF : Hid (partI R C z o xs = (decide (1 ≤ R) && ((m : Int) == ((z ||| o : Nat) : Int)))) := by
        unfold Hid partI
        rw [HA.out, Bool.true_and, ← hcov.out]
        congr 1
        rw [Bool.eq_iff_iff, beq_iff_eq, beq_iff_eq]
        omega
      clear hinv hcov hall HA hg
      rcases hnz with hR1 | ⟨rfl, rfl, rfl, rfl⟩
      · generalize z ||| o = zo at *
        go_wp2_with fail
        refine (HALL2.out _).mono ?_
        rintro e w2 ⟨rfl, hb2⟩
        have HB2 := Lib.hid (HI.out.later hb2).below
        clear hb2 HI q0 q1 q2 q3
        go_wp2_with fail
        go_ret
        exact ⟨by rw [HF.out, decide_eq_true hR1]; rfl, HB2.out⟩
      · have heq := eq_pair
        go_wp2_with fail
        go_ret
        exact ⟨by rw [HF.out]; rfl, HI.out.below⟩
end Go.Proofs.YtppmecpodleoiaaDoor.PartI
