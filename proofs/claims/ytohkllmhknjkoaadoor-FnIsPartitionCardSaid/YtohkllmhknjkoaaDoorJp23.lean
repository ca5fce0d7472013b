/-
  Texts of one seat, joined: PartI, PartM, IsPartitionWalk.
-/
import Derived.Test.YtohkllmhknjkoaaDoorJp1
import Derived.Test.YtohkllmhknjkoaaDoorJp21
import Derived.Test.YtohkllmhknjkoaaDoorJp22
/-
  The program's IsPartition.
-/
namespace Go.Proofs.YtohkllmhknjkoaaDoor.PartI
open Go.RowKit Go.Proofs.YtohkllmhknjkoaaDoor.Plain Go.Proofs.YtohkllmhknjkoaaDoor.Base Go.Proofs.YtohkllmhknjkoaaDoor.Valid Go.Proofs.YtohkllmhknjkoaaDoor.Law Go.Proofs.YtohkllmhknjkoaaDoor.Pat Go.Proofs.YtohkllmhknjkoaaDoor.Rect Go.Proofs.YtohkllmhknjkoaaDoor.Patch Go.Proofs.YtohkllmhknjkoaaDoor.FreeL Go.Proofs.YtohkllmhknjkoaaDoor.Board Go.Proofs.YtohkllmhknjkoaaDoor.BoardM Go.Proofs.YtohkllmhknjkoaaDoor.RValid Go.Proofs.YtohkllmhknjkoaaDoor.Colour Go.Proofs.YtohkllmhknjkoaaDoor.Rects Go.Proofs.YtohkllmhknjkoaaDoor.Cover
set_option linter.unusedVariables false

theorem and64n (a b : Nat) (ha : a < 18446744073709551616) (hb : b < 18446744073709551616) : Go.bits .and .u64 (a : Int) (b : Int) = ((a &&& b : Nat) : Int) :=
  (bits_nat .u64 64 (by decide) (fun n h0 h1 => by rw [IntKind.wrap_u64]; omega) a b (by omega) (by omega)).1
theorem eq_pair (W : World) : (Op.equalIn 9999 79 (.agg #[.int .u64 0, .int .u64 0]) (.agg #[.int .u64 0, .int .u64 0])).run Tryd.prog W = .ok true W := by
  kernel_rfl

set_option maxHeartbeats 1000000 in
theorem all_any (R C : Int) (z o : Nat) (hz : z < 18446744073709551616) (ho : o < 18446744073709551616) (w : World) :
    Calls Tryd.prog 84 #[brd R C z o] w fun e w' => e = .returned (.int .u64 ((z ||| o : Nat) : Int)) ∧ Below w.heap.size w w' := by
  have hor := or64n z o hz ho
  generalize z ||| o = m at *
  go_enter Tryd.func84, Tryd.ntmps84
  go_wp2_with fail
  go_ret
  exact ⟨rfl, by go_grown⟩

/-- one rectangle more parts the matrix -/
def okAt (R C z o : Nat) (xs : List (Int × Int)) (k : Nat) : Bool := match xs[k]? with
  | some r => (hpB R C z r.1 r.2 || hpB R C o r.1 r.2) && (covTo xs k &&& pat (rectB r.1.toNat r.2.toNat) 8 == 0)
  | none => true
theorem okAt_some {R C z o : Nat} {xs : List (Int × Int)} {k : Nat} {r : Int × Int} (h : xs[k]? = some r) : okAt R C z o xs k = ((hpB R C z r.1 r.2 || hpB R C o r.1 r.2) && (covTo xs k &&& pat (rectB r.1.toNat r.2.toNat) 8 == 0)) := by
  unfold okAt
  rw [h]
/-- what the program finds -/
def partI (R C z o : Nat) (xs : List (Int × Int)) : Bool := decide (∀ k, k < xs.length → okAt R C z o xs k = true) && (decide (1 ≤ R) && (covTo xs xs.length == (z ||| o)))

set_option maxHeartbeats 4000000 in
set_option maxRecDepth 100000 in
theorem impl_part (R C : Nat) (hR : R ≤ 8) (hC : C ≤ 8) (z o : Nat) (hz : z < 18446744073709551616) (ho : o < 18446744073709551616) (hnz : 1 ≤ R ∨ (R = 0 ∧ C = 0 ∧ z = 0 ∧ o = 0)) (rr cc : Int) (s : ByteArray)
    (hbo : ∀ W : World, Calls Tryd.prog 64 #[mat rr cc s] W fun e w' => e = .returned (brd R C z o) ∧ Below W.heap.size W w')
    (xs : List (Int × Int)) (v : Value) (w : World) (hiv : RV w w.heap.size v xs) :
    Calls Tryd.prog 31 #[mat rr cc s, v] w fun e w' => e = .returned (.bool (partI R C z o xs)) ∧ Below w.heap.size w w' := by
  have HBO := Lib.hid hbo
  have HP0 := Lib.hid (fun r c W => has_plain R C hR hC z o z 0 (fun RS CS k5 k6 W => plain0 R C z o hz ho RS CS k5 k6 W) r c W)
  have HP1 := Lib.hid (fun r c W => has_plain R C hR hC z o o 1 (fun RS CS k5 k6 W => plain1 R C z o hz ho RS CS k5 k6 W) r c W)
  have HALL2 := Lib.hid (fun W => all_any R C z o hz ho W)
  clear hbo
  have HC : Hid (∀ j (hj : j < xs.length), ∃ b off c, v = .slice (some ⟨b, off, none⟩) xs.length c ∧ b < w.heap.size ∧ w.cell? ⟨b, off + j * 2, none⟩ = some (.int .i64 xs[j].1) ∧ w.cell? ⟨b, off + j * 2 + 1, none⟩ = some (.int .i64 xs[j].2)) := fun j hj => by
    rcases hiv.2 with ⟨_, rfl⟩ | ⟨b, off, c, e, hlt, hc⟩
    · cases hj
    · exact ⟨b, off, c, e, hlt, hc j hj⟩
  have hl := hiv.1
  obtain ⟨p, kk, rfl⟩ := hiv.slice
  clear hiv
  go_enter Tryd.func31, Tryd.ntmps31
  go_wp2_with fail
  refine (HBO.out _).mono ?_
  rintro e w1 ⟨rfl, hb1⟩
  have hbx : Below w.heap.size w w1 := rstep ((Below.refl w.heap.size w).alloc (Nat.le_refl _) _) hb1
  clear hb1 HBO
  have HV0 : Hid (VInv w (w1.alloc (.cells #[.int .i64 (R : Int), .int .i64 (C : Int), .int .u64 (z : Int), .int .u64 (o : Int)] 81)) w1.heap.size R C z o) := ⟨heap_alloc_new w1 _, hbx.alloc hbx.size _, hbx.size⟩
  clear hbx
  go_wp2_with fail
  generalize w1.alloc (.cells #[.int .i64 (R : Int), .int .i64 (C : Int), .int .u64 (z : Int), .int .u64 (o : Int)] 81) = W0 at *
  generalize w1.heap.size = g at *
  go_loopw [6, 14] (fun t i wr => ∃ (k m : Nat), k ≤ xs.length ∧ i = .int .i64 (k : Int) ∧ t = .int .u64 (m : Int) ∧ m < 18446744073709551616 ∧ Hid (m = covTo xs k) ∧ Hid (∀ j, j < k → okAt R C z o xs j = true) ∧ VInv w wr g R C z o) (fun _ i _ => xs.length - (intOf i).toNat)
  case atStart => exact ⟨0, 0, Nat.zero_le _, rfl, rfl, by omega, rfl, fun j h => absurd h (by omega), HV0.out⟩
  case round =>
    obtain ⟨k, m, hk, rfl, rfl, hm, hcov, hall, hinv⟩ := hrel
    clear HV0
    obtain ⟨q0, q1, q2, q3⟩ := bh_c hinv.b
    have hg := hinv.lt
    have HI := Lib.hid hinv
    by_cases hkl : k < xs.length
    · obtain ⟨b, off, c, e, hlt, c0, c1⟩ := HC.out k hkl
      injection e with e1 e2 e3
      subst e1 e3
      have c0 := (hinv.below.cell (p := ⟨b, off + k * 2, none⟩) hlt).trans c0
      have c1 := (hinv.below.cell (p := ⟨b, off + k * 2 + 1, none⟩) hlt).trans c1
      have HX : Hid (∃ x y, xs[k] = (x, y)) := ⟨_, _, rfl⟩
      obtain ⟨x, y, hxy⟩ := HX.out
      rw [hxy] at c0 c1
      have HXY : Hid (xs[k]? = some (x, y)) := by unfold Hid; rw [List.getElem?_eq_getElem hkl, hxy]
      have HXZ := Lib.hid hxy
      clear hinv HX hxy e2
      obtain ⟨t0, ht0⟩ : ∃ t, hpB R C z x y = t := ⟨_, rfl⟩
      have HT0 := Lib.hid ht0
      have HQ0 := Lib.hid (fun W => HP0.out x y W)
      rw [ht0] at HQ0
      obtain ⟨t1, ht1⟩ : ∃ t, hpB R C o x y = t := ⟨_, rfl⟩
      have HT1 := Lib.hid ht1
      have HQ1 := Lib.hid (fun W => HP1.out x y W)
      rw [ht1] at HQ1
      clear ht0 ht1
      go_wp2_with fail
      refine (HQ0.out _).mono ?_
      rintro e w2 ⟨rfl, hb2⟩
      obtain ⟨hinv, hbox⟩ := HI.out.box hb2
      have HI2 := Lib.hid hinv
      have HB2 : Hid (RHolds w2 wr.heap.size x y) := hbox
      clear q0 q1 q2 q3 hg c0 c1 hb2 HI hbox hinv
      cases t0
      · obtain ⟨q0, q1, q2, q3⟩ := bh_c HI2.out.b
        obtain ⟨r0, r1⟩ := rh_c (show RHolds w2 wr.heap.size x y from HB2.out)
        go_wp2_with fail
        refine (HQ1.out _).mono ?_
        rintro e w5 ⟨rfl, hb5⟩
        have HI5 := Lib.hid (HI2.out.later hb5)
        have HB5 := Lib.hid (RHolds.on HB2.out hb5)
        clear hb5 HI2 HB2 q0 q1 q2 q3 r0 r1
        cases t1
        · have HF : Hid (partI R C z o xs = false) := by
            unfold Hid partI
            rw [decide_eq_false (fun h => by have := h k hkl; rw [okAt_some HXY.out, HT0.out, HT1.out] at this; cases this), Bool.false_and]
          clear hall hcov
          go_wp2_with fail
          go_ret
          exact ⟨by rw [HF.out]; rfl, HI5.out.below⟩
        · have HI2 := HI5
          have HB2 := HB5
          clear HI5 HB5
          revert HI2 HB2
          generalize w5 = w2
          intro HI2 HB2
          have hrv : rvB R C x y = true := by
            have h := HT1.out
            unfold hpB at h
            rw [Bool.and_eq_true] at h
            exact h.1
          obtain ⟨RS, CS, ex, ey, k1, k2, k3, k4, k5, k6⟩ := rv_nat hR hC hrv
          subst ex ey
          have hp64 := pat64 (rectB RS CS) (rectB_lt RS CS k6)
          have HPA := Lib.hid (patch_any RS CS k5 k6)
          have hor := or64n m (pat (rectB RS CS) 8) hm hp64
          have hand := and64n m (pat (rectB RS CS) 8) hm hp64
          have hlt64 : m ||| pat (rectB RS CS) 8 < 18446744073709551616 := Nat.or_lt_two_pow (n := 64) hm hp64
          have HCOV : Hid (m ||| pat (rectB RS CS) 8 = covTo xs (k + 1)) := by
            unfold Hid
            rw [covTo_next xs k hkl, ← hcov.out, HXZ.out, Int.toNat_natCast, Int.toNat_natCast]
          have HOK : Hid (okAt R C z o xs k = (m &&& pat (rectB RS CS) 8 == 0)) := by
            unfold Hid
            rw [okAt_some HXY.out, ← hcov.out, HT0.out, HT1.out, Int.toNat_natCast, Int.toNat_natCast]
            rw [Bool.or_true, Bool.true_and]
          obtain ⟨d, hd⟩ : ∃ d, (((m &&& pat (rectB RS CS) 8 : Nat) : Int) == 0) = d := ⟨_, rfl⟩
          have HOK2 : Hid (okAt R C z o xs k = d) := by
            unfold Hid
            rw [HOK.out, ← hd, Bool.eq_iff_iff, beq_iff_eq, beq_iff_eq]
            omega
          clear hrv k1 k2 k3 k4 hp64 hcov HOK HQ0 HQ1
          generalize m &&& pat (rectB RS CS) 8 = ma at *
          generalize m ||| pat (rectB RS CS) 8 = m2 at *
          generalize pat (rectB RS CS) 8 = pp at *
          have hne : ((ma : Int) != 0) = !d := by rw [← hd]; rfl
          obtain ⟨r0, r1⟩ := rh_c (show RHolds w2 wr.heap.size RS CS from HB2.out)
          go_wp2_with fail
          refine (HPA.out _).mono ?_
          rintro e w3 ⟨rfl, hb3⟩
          have HI3 := Lib.hid (HI2.out.later hb3)
          have HB3 := Lib.hid (RHolds.on HB2.out hb3)
          clear hb3 HI2 HB2 r0 r1
          obtain ⟨r0, r1⟩ := rh_c (show RHolds w3 wr.heap.size RS CS from HB3.out)
          cases d
          · have HF : Hid (partI R C z o xs = false) := by
              unfold Hid partI
              rw [decide_eq_false (fun h => by have := h k hkl; rw [HOK2.out] at this; cases this), Bool.false_and]
            clear hall
            go_wp2_with fail
            go_ret
            exact ⟨by rw [HF.out]; rfl, HI3.out.below⟩
          · have HALL : Hid (∀ j, j < k + 1 → okAt R C z o xs j = true) := fun j hjk => by
              by_cases ej : j = k
              · subst ej; exact HOK2.out
              · exact hall.out j (by omega)
            clear hall
            go_wp2_with fail
            refine (HPA.out _).mono ?_
            rintro e w4 ⟨rfl, hb4⟩
            have HI4 := Lib.hid (HI3.out.later hb4)
            clear hb4 HI3 HB3 r0 r1
            go_wp2_with fail
            go_roundw
            case rel => exact ⟨k + 1, m2, by omega, by go_num, by go_num, hlt64, HCOV, HALL, HI4.out⟩
            case measure => simp [intOf]; omega
      · have hrv : rvB R C x y = true := by
          have h := HT0.out
          unfold hpB at h
          rw [Bool.and_eq_true] at h
          exact h.1
        obtain ⟨RS, CS, ex, ey, k1, k2, k3, k4, k5, k6⟩ := rv_nat hR hC hrv
        subst ex ey
        have hp64 := pat64 (rectB RS CS) (rectB_lt RS CS k6)
        have HPA := Lib.hid (patch_any RS CS k5 k6)
        have hor := or64n m (pat (rectB RS CS) 8) hm hp64
        have hand := and64n m (pat (rectB RS CS) 8) hm hp64
        have hlt64 : m ||| pat (rectB RS CS) 8 < 18446744073709551616 := Nat.or_lt_two_pow (n := 64) hm hp64
        have HCOV : Hid (m ||| pat (rectB RS CS) 8 = covTo xs (k + 1)) := by
          unfold Hid
          rw [covTo_next xs k hkl, ← hcov.out, HXZ.out, Int.toNat_natCast, Int.toNat_natCast]
        have HOK : Hid (okAt R C z o xs k = (m &&& pat (rectB RS CS) 8 == 0)) := by
          unfold Hid
          rw [okAt_some HXY.out, ← hcov.out, HT0.out, Int.toNat_natCast, Int.toNat_natCast]
          rw [Bool.true_or, Bool.true_and]
        obtain ⟨d, hd⟩ : ∃ d, (((m &&& pat (rectB RS CS) 8 : Nat) : Int) == 0) = d := ⟨_, rfl⟩
        have HOK2 : Hid (okAt R C z o xs k = d) := by
          unfold Hid
          rw [HOK.out, ← hd, Bool.eq_iff_iff, beq_iff_eq, beq_iff_eq]
          omega
        clear hrv k1 k2 k3 k4 hp64 hcov HOK HQ0 HQ1
        generalize m &&& pat (rectB RS CS) 8 = ma at *
        generalize m ||| pat (rectB RS CS) 8 = m2 at *
        generalize pat (rectB RS CS) 8 = pp at *
        have hne : ((ma : Int) != 0) = !d := by rw [← hd]; rfl
        obtain ⟨r0, r1⟩ := rh_c (show RHolds w2 wr.heap.size RS CS from HB2.out)
        go_wp2_with fail
        refine (HPA.out _).mono ?_
        rintro e w3 ⟨rfl, hb3⟩
        have HI3 := Lib.hid (HI2.out.later hb3)
        have HB3 := Lib.hid (RHolds.on HB2.out hb3)
        clear hb3 HI2 HB2 r0 r1
        obtain ⟨r0, r1⟩ := rh_c (show RHolds w3 wr.heap.size RS CS from HB3.out)
        cases d
        · have HF : Hid (partI R C z o xs = false) := by
            unfold Hid partI
            rw [decide_eq_false (fun h => by have := h k hkl; rw [HOK2.out] at this; cases this), Bool.false_and]
          clear hall
          go_wp2_with fail
          go_ret
          exact ⟨by rw [HF.out]; rfl, HI3.out.below⟩
        · have HALL : Hid (∀ j, j < k + 1 → okAt R C z o xs j = true) := fun j hjk => by
            by_cases ej : j = k
            · subst ej; exact HOK2.out
            · exact hall.out j (by omega)
          clear hall
          go_wp2_with fail
          refine (HPA.out _).mono ?_
          rintro e w4 ⟨rfl, hb4⟩
          have HI4 := Lib.hid (HI3.out.later hb4)
          clear hb4 HI3 HB3 r0 r1
          go_wp2_with fail
          go_roundw
          case rel => exact ⟨k + 1, m2, by omega, by go_num, by go_num, hlt64, HCOV, HALL, HI4.out⟩
          case measure => simp [intOf]; omega
    · obtain rfl : k = xs.length := by omega
      have HA : Hid (decide (∀ k, k < xs.length → okAt R C z o xs k = true) = true) := decide_eq_true hall.out
      have hor2 : z ||| o < 18446744073709551616 := Nat.or_lt_two_pow (n := 64) hz ho
      have HF : Hid (partI R C z o xs = (decide (1 ≤ R) && ((m : Int) == ((z ||| o : Nat) : Int)))) := by
        unfold Hid partI
        rw [HA.out, Bool.true_and, ← hcov.out]
        congr 1
        rw [Bool.eq_iff_iff, beq_iff_eq, beq_iff_eq]
        omega
      clear hinv hcov hall HA hg
      rcases hnz with hR1 | ⟨rfl, rfl, rfl, rfl⟩
      · generalize z ||| o = zo at *
        go_wp2_with fail
        refine (HALL2.out _).mono ?_
        rintro e w2 ⟨rfl, hb2⟩
        have HB2 := Lib.hid (HI.out.later hb2).below
        clear hb2 HI q0 q1 q2 q3
        go_wp2_with fail
        go_ret
        exact ⟨by rw [HF.out, decide_eq_true hR1]; rfl, HB2.out⟩
      · have heq := eq_pair
        go_wp2_with fail
        go_ret
        exact ⟨by rw [HF.out]; rfl, HI.out.below⟩
end Go.Proofs.YtohkllmhknjkoaaDoor.PartI

/-
  Plain facts: rectangles that part a matrix.
-/
namespace Go.Proofs.YtohkllmhknjkoaaDoor.PartM
open Go.RowKit Go.Proofs.YtohkllmhknjkoaaDoor.Plain Go.Proofs.YtohkllmhknjkoaaDoor.Base Go.Proofs.YtohkllmhknjkoaaDoor.Valid Go.Proofs.YtohkllmhknjkoaaDoor.Law Go.Proofs.YtohkllmhknjkoaaDoor.Pat Go.Proofs.YtohkllmhknjkoaaDoor.Rect Go.Proofs.YtohkllmhknjkoaaDoor.Patch Go.Proofs.YtohkllmhknjkoaaDoor.Board Go.Proofs.YtohkllmhknjkoaaDoor.BoardM Go.Proofs.YtohkllmhknjkoaaDoor.RValid Go.Proofs.YtohkllmhknjkoaaDoor.Bal Go.Proofs.YtohkllmhknjkoaaDoor.Colour Go.Proofs.YtohkllmhknjkoaaDoor.Rects Go.Proofs.YtohkllmhknjkoaaDoor.Cover Go.Proofs.YtohkllmhknjkoaaDoor.CoverS Go.Proofs.YtohkllmhknjkoaaDoor.CovM Go.Proofs.YtohkllmhknjkoaaDoor.PartS Go.Proofs.YtohkllmhknjkoaaDoor.PartI
set_option linter.unusedVariables false

theorem bit_of_pos {n : Nat} (h : n ≠ 0) : ∃ i, n.testBit i = true := by
  apply Classical.byContradiction
  intro hn
  apply h
  apply Nat.eq_of_testBit_eq
  intro i
  rw [Nat.zero_testBit]
  cases hb : n.testBit i
  · rfl
  · exact absurd ⟨i, hb⟩ hn
theorem pos_of_bit {n i : Nat} (h : n.testBit i = true) : n ≠ 0 := fun e => by
  rw [e, Nat.zero_testBit] at h
  cases h
theorem and_pos (a b : Nat) : (a &&& b != 0) = true ↔ ∃ i, a.testBit i = true ∧ b.testBit i = true := by
  rw [bne_iff_ne]
  constructor
  · intro h
    obtain ⟨i, hi⟩ := bit_of_pos h
    rw [Nat.testBit_and, Bool.and_eq_true] at hi
    exact ⟨i, hi⟩
  · rintro ⟨i, h1, h2⟩
    exact pos_of_bit (i := i) (by rw [Nat.testBit_and, h1, h2]; rfl)
theorem meet_iff (a b : Int × Int) : meetB a b = true ↔ ∃ x y, (a.1.toNat.testBit x = true ∧ a.2.toNat.testBit y = true) ∧ b.1.toNat.testBit x = true ∧ b.2.toNat.testBit y = true := by
  unfold meetB meetN
  rw [Bool.and_eq_true, and_pos, and_pos]
  constructor
  · rintro ⟨⟨x, h1, h2⟩, y, h3, h4⟩
    exact ⟨x, y, ⟨h1, h3⟩, h2, h4⟩
  · rintro ⟨x, y, ⟨h1, h3⟩, h2, h4⟩
    exact ⟨⟨x, h1, h2⟩, y, h3, h4⟩
theorem covB_bit (xs : List (Int × Int)) (x y : Nat) : ∀ k, k ≤ xs.length → ((covB xs k x).testBit y = true ↔ ∃ i, ∃ hi : i < xs.length, i < k ∧ xs[i].1.toNat.testBit x = true ∧ xs[i].2.toNat.testBit y = true)
  | 0, _ => by
    rw [show covB xs 0 x = 0 from rfl, Nat.zero_testBit]
    exact ⟨fun h => (by cases h), fun ⟨i, _, h, _⟩ => absurd h (by omega)⟩
  | k + 1, hk => by
    rw [covB_next xs k (by omega), Nat.testBit_or, Bool.or_eq_true, covB_bit xs x y k (by omega), rectB_bit, Bool.and_eq_true]
    constructor
    · rintro (⟨i, hi, h, hb⟩ | hb)
      · exact ⟨i, hi, by omega, hb⟩
      · exact ⟨k, by omega, by omega, hb⟩
    · rintro ⟨i, hi, h, hb⟩
      by_cases e : i = k
      · subst e; exact .inr hb
      · exact .inl ⟨i, hi, by omega, hb⟩
/-- the next rectangle has no entry in common with those before just if it meets none -/
theorem apart_iff (xs : List (Int × Int)) (h1 : ∀ j (hj : j < xs.length), xs[j].1.toNat < 256) (h2 : ∀ j (hj : j < xs.length), xs[j].2.toNat < 256) (k : Nat) (hk : k < xs.length) :
    covTo xs k &&& pat (rectB xs[k].1.toNat xs[k].2.toNat) 8 = 0 ↔ ∀ i (hi : i < xs.length), i < k → meetB xs[k] xs[i] = false := by
  rw [covTo_pat xs h2 k (by omega), pat_and 8 _ _ (covB_lt xs h2 k (by omega)) (rectB_lt _ _ (h2 k hk)), pat_zero]
  constructor
  · intro h i hi hik
    cases hm : meetB xs[k] xs[i]
    · rfl
    · obtain ⟨x, y, ⟨b1, b2⟩, b3, b4⟩ := (meet_iff _ _).1 hm
      have hx : x < 8 := by
        rcases Nat.lt_or_ge x 8 with h8 | h8
        · exact h8
        · rw [bit_high _ x (h1 k hk) h8] at b1; cases b1
      refine absurd (h x hx) (pos_of_bit (i := y) ?_)
      rw [Nat.testBit_and, Bool.and_eq_true]
      exact ⟨(covB_bit xs x y k (by omega)).2 ⟨i, hi, hik, b3, b4⟩, by rw [rectB_bit, b1, b2]; rfl⟩
  · intro h x hx
    apply Classical.byContradiction
    intro hne
    obtain ⟨y, hy⟩ := bit_of_pos hne
    rw [Nat.testBit_and, Bool.and_eq_true, rectB_bit, Bool.and_eq_true] at hy
    obtain ⟨i, hi, hik, b3, b4⟩ := (covB_bit xs x y k (by omega)).1 hy.1
    have := h i hi hik
    rw [(meet_iff _ _).2 ⟨x, y, hy.2, b3, b4⟩] at this
    cases this

theorem sumN_add (f g : Nat → Nat) : ∀ n, sumN (fun x => f x + g x) n = sumN f n + sumN g n
  | 0 => rfl
  | n + 1 => by
    rw [sumN, sumN, sumN, sumN_add f g n]
    omega
theorem pop8_or (a b : Nat) (ha : a < 256) (hb : b < 256) (h : a &&& b = 0) : pop8 (a ||| b) = pop8 a + pop8 b := by
  rw [pop8_bits _ (Nat.or_lt_two_pow (n := 8) ha hb), pop8_bits a ha, pop8_bits b hb, ← sumN_add]
  refine sumN_congr _ _ 8 fun i _ => ?_
  rw [Nat.testBit_or]
  have h2 : (a &&& b).testBit i = false := by rw [h, Nat.zero_testBit]
  rw [Nat.testBit_and] at h2
  cases h3 : a.testBit i <;> cases h4 : b.testBit i
  · rfl
  · rfl
  · rfl
  · rw [h3, h4] at h2; cases h2
/-- rectangles that do not meet have as many entries together as their areas -/
theorem area_cov (xs : List (Int × Int)) (h1 : ∀ j (hj : j < xs.length), xs[j].1.toNat < 256) (h2 : ∀ j (hj : j < xs.length), xs[j].2.toNat < 256)
    (hap : ∀ k (hk : k < xs.length), covTo xs k &&& pat (rectB xs[k].1.toNat xs[k].2.toNat) 8 = 0) : ∀ k, k ≤ xs.length → sumN (fun x => pop8 (covB xs k x)) 8 = areaTo xs k
  | 0, _ => by show sumN (fun _ => pop8 0) 8 = 0; decide
  | k + 1, hk => by
    have hz := hap k (by omega)
    rw [covTo_pat xs h2 k (by omega), pat_and 8 _ _ (covB_lt xs h2 k (by omega)) (rectB_lt _ _ (h2 k (by omega))), pat_zero] at hz
    rw [areaTo_next xs k (by omega), ← area_cov xs h1 h2 hap k (by omega), ← area_pop _ xs[k].2.toNat (h1 k (by omega)), ← sumN_add]
    refine sumN_congr _ _ 8 fun x hx => ?_
    rw [covB_next xs k (by omega)]
    exact pop8_or _ _ (covB_lt xs h2 k (by omega) x) (rectB_lt _ _ (h2 k (by omega)) x) (hz x hx)
theorem pop8_sub {a b : Nat} (ha : a < 256) (hb : b < 256) (h : ∀ y, a.testBit y = true → b.testBit y = true) : pop8 a ≤ pop8 b ∧ (pop8 a = pop8 b → a = b) := by
  have hle : ∀ y, y < 8 → (((a.testBit y).toNat : Nat) : Int) ≤ (((b.testBit y).toNat : Nat) : Int) := fun y _ => by
    have := h y
    cases h1 : a.testBit y
    · simp
    · rw [this h1]; simp
  have hs := sumI_eq (fun y => (((a.testBit y).toNat : Nat) : Int)) (fun y => (((b.testBit y).toNat : Nat) : Int)) 8 hle
  rw [← sumI_cast (fun y => (a.testBit y).toNat), ← sumI_cast (fun y => (b.testBit y).toNat), ← pop8_bits a ha, ← pop8_bits b hb] at hs
  refine ⟨by omega, fun he => Nat.eq_of_testBit_eq fun y => ?_⟩
  rcases Nat.lt_or_ge y 8 with h8 | h8
  · have := hs.2.1 (by omega) y h8
    cases h1 : a.testBit y <;> cases h2 : b.testBit y
    · rfl
    · rw [h1, h2] at this; simp at this
    · rw [h1, h2] at this; simp at this
    · rfl
  · rw [bit_high a y ha h8, bit_high b y hb h8]
/-- the bytes of all entries -/
def allB (R C : Nat) : Nat → Nat := fun x => if x < R then 2 ^ C - 1 else 0
theorem allB_lt (R C : Nat) (hC : C ≤ 8) (x : Nat) : allB R C x < 256 := by
  unfold allB
  have := Nat.pow_le_pow_right (n := 2) (by decide) hC
  split <;> omega
theorem allB_bit (R C x y : Nat) : (allB R C x).testBit y = (decide (x < R) && decide (y < C)) := by
  unfold allB
  by_cases h : x < R
  · rw [if_pos h, Nat.testBit_two_pow_sub_one, decide_eq_true h, Bool.true_and]
  · rw [if_neg h, decide_eq_false h, Nat.zero_testBit, Bool.false_and]
theorem allB_pop : ∀ R C : Nat, R ≤ 8 → C ≤ 8 → sumN (fun x => pop8 (allB R C x)) 8 = R * C := by
  have h : ∀ R C : Fin 9, sumN (fun x => pop8 (allB R.val C.val x)) 8 = R.val * C.val := by decide +kernel
  intro R C hR hC
  exact h ⟨R, by omega⟩ ⟨C, by omega⟩
theorem all_or (E : Nat → Nat → Bool) (R C : Nat) (hC : C ≤ 8) : pat (onB (fun x y => !E x y) R C) 8 ||| pat (onB E R C) 8 = pat (allB R C) 8 := by
  rw [pat_or 8 _ _ (onB_lt _ R C hC) (onB_lt E R C hC)]
  refine pat_congr 8 _ _ fun x _ => Nat.eq_of_testBit_eq fun y => ?_
  rw [Nat.testBit_or, onB_bit, onB_bit, allB_bit]
  cases decide (x < R) <;> cases decide (y < C) <;> cases E x y <;> rfl

theorem col_plain (E : Nat → Nat → Bool) (R C : Nat) (h2 : R ≤ 8) (h4 : C ≤ 8) (r c : Int) : 0 ≤ colR E R C r c ↔ (hpB R C (pat (onB (fun x y => !E x y) R C) 8) r c || hpB R C (pat (onB E R C) 8) r c) = true := by
  rw [← colR_zero E R C h2 h4, ← colR_one E R C h2 h4, Bool.or_eq_true, beq_iff_eq, beq_iff_eq]
  have hle : colR E R C r c ≤ 1 := by
    unfold colR colV
    split
    · split
      · omega
      · split <;> omega
    · omega
  omega
theorem hp_any {E : Nat → Nat → Bool} {R C : Nat} (h2 : R ≤ 8) (h4 : C ≤ 8) {r c : Int} (h : (hpB R C (pat (onB (fun x y => !E x y) R C) 8) r c || hpB R C (pat (onB E R C) 8) r c) = true) :
    ∃ RS CS : Nat, r = (RS : Int) ∧ c = (CS : Int) ∧ 1 ≤ RS ∧ RS < 2 ^ R ∧ 1 ≤ CS ∧ CS < 2 ^ C ∧ RS < 256 ∧ CS < 256 := by
  rw [Bool.or_eq_true] at h
  rcases h with h | h
  all_goals
    unfold hpB at h
    rw [Bool.and_eq_true] at h
    exact rv_nat h2 h4 h.1

/-- both results are one -/
theorem part_eq (E : Nat → Nat → Bool) (R C : Nat) (h1 : 1 ≤ R) (h2 : R ≤ 8) (h4 : C ≤ 8) (xs : List (Int × Int)) :
    partS (colR E R C) xs (R * C) = partI R C (pat (onB (fun x y => !E x y) R C) 8) (pat (onB E R C) 8) xs := by
  unfold partS partI
  rw [decide_eq_true h1, Bool.true_and, all_or E R C h4]
  by_cases hp : ∀ j (hj : j < xs.length), 0 ≤ colR E R C xs[j].1 xs[j].2
  · rw [decide_eq_true hp, Bool.true_and]
    have hn := fun j hj => hp_any (E := E) h2 h4 ((col_plain E R C h2 h4 _ _).1 (hp j hj))
    have hb1 : ∀ j (hj : j < xs.length), xs[j].1.toNat < 256 := fun j hj => by
      obtain ⟨RS, CS, e1, e2, _, _, _, _, k5, k6⟩ := hn j hj
      rw [e1, Int.toNat_natCast]; exact k5
    have hb2 : ∀ j (hj : j < xs.length), xs[j].2.toNat < 256 := fun j hj => by
      obtain ⟨RS, CS, e1, e2, _, _, _, _, k5, k6⟩ := hn j hj
      rw [e2, Int.toNat_natCast]; exact k6
    have hok : (∀ k, k < xs.length → okAt R C (pat (onB (fun x y => !E x y) R C) 8) (pat (onB E R C) 8) xs k = true) ↔ ∀ j (hj : j < xs.length), ∀ i (hi : i < xs.length), i < j → meetB xs[j] xs[i] = false := by
      constructor
      · intro h j hj
        have := h j hj
        rw [okAt_some (List.getElem?_eq_getElem hj), Bool.and_eq_true, beq_iff_eq] at this
        exact (apart_iff xs hb1 hb2 j hj).1 this.2
      · intro h k hk
        rw [okAt_some (List.getElem?_eq_getElem hk), Bool.and_eq_true, beq_iff_eq]
        exact ⟨(col_plain E R C h2 h4 _ _).1 (hp k hk), (apart_iff xs hb1 hb2 k hk).2 (h k hk)⟩
    by_cases ha : ∀ j (hj : j < xs.length), ∀ i (hi : i < xs.length), i < j → meetB xs[j] xs[i] = false
    · rw [decide_eq_true ha, decide_eq_true (hok.2 ha), Bool.true_and, Bool.true_and]
      have hap := fun k hk => (apart_iff xs hb1 hb2 k hk).2 (ha k hk)
      have har := area_cov xs hb1 hb2 hap _ (Nat.le_refl _)
      have hlt := covB_lt xs hb2 _ (Nat.le_refl _)
      have hsub : ∀ x y, (covB xs xs.length x).testBit y = true → (allB R C x).testBit y = true := fun x y hb => by
        obtain ⟨i, hi, _, b1, b2⟩ := (covB_bit xs x y _ (Nat.le_refl _)).1 hb
        obtain ⟨RS, CS, e1, e2, _, k2, _, k4, _, _⟩ := hn i hi
        rw [e1, Int.toNat_natCast] at b1
        rw [e2, Int.toNat_natCast] at b2
        rw [allB_bit, Bool.and_eq_true, decide_eq_true_iff, decide_eq_true_iff]
        constructor
        · rcases Nat.lt_or_ge x R with h | h
          · exact h
          · rw [bit_beyond RS x R k2 h] at b1; cases b1
        · rcases Nat.lt_or_ge y C with h | h
          · exact h
          · rw [bit_beyond CS y C k4 h] at b2; cases b2
      rw [covTo_pat xs hb2 _ (Nat.le_refl _), ← har, ← allB_pop R C h2 h4, Bool.eq_iff_iff, beq_iff_eq, beq_iff_eq]
      have hs := sumI_eq (fun x => ((pop8 (covB xs xs.length x) : Nat) : Int)) (fun x => ((pop8 (allB R C x) : Nat) : Int)) 8 (fun x _ => by
        have := (pop8_sub (hlt x) (allB_lt R C h4 x) (hsub x)).1
        omega)
      rw [← sumI_cast (fun x => pop8 (covB xs xs.length x)), ← sumI_cast (fun x => pop8 (allB R C x))] at hs
      constructor
      · intro he
        refine pat_congr 8 _ _ fun x hx => (pop8_sub (hlt x) (allB_lt R C h4 x) (hsub x)).2 ?_
        have := hs.2.1 (by rw [he]) x hx
        omega
      · intro he
        have := pat_inj 8 _ _ hlt (allB_lt R C h4) he
        exact sumN_congr _ _ 8 fun x hx => by rw [this x hx]
    · rw [decide_eq_false ha, decide_eq_false (fun h => ha (hok.1 h)), Bool.false_and, Bool.false_and]
  · rw [decide_eq_false hp, Bool.false_and, decide_eq_false, Bool.false_and]
    intro h
    refine hp fun j hj => (col_plain E R C h2 h4 _ _).2 ?_
    have := h j hj
    rw [okAt_some (List.getElem?_eq_getElem hj), Bool.and_eq_true] at this
    exact this.1
end Go.Proofs.YtohkllmhknjkoaaDoor.PartM

/-
  The walk of the law on IsPartition.
-/
namespace Go.Proofs.YtohkllmhknjkoaaDoor.fnExactIsPartition
open Go.RowKit Go.Proofs.YtohkllmhknjkoaaDoor.Plain Go.Proofs.YtohkllmhknjkoaaDoor.Base Go.Proofs.YtohkllmhknjkoaaDoor.Valid Go.Proofs.YtohkllmhknjkoaaDoor.Law Go.Proofs.YtohkllmhknjkoaaDoor.GridPlain Go.Proofs.YtohkllmhknjkoaaDoor.Entry Go.Proofs.YtohkllmhknjkoaaDoor.Pat Go.Proofs.YtohkllmhknjkoaaDoor.Rect Go.Proofs.YtohkllmhknjkoaaDoor.Patch Go.Proofs.YtohkllmhknjkoaaDoor.FreeL Go.Proofs.YtohkllmhknjkoaaDoor.Board Go.Proofs.YtohkllmhknjkoaaDoor.BoardM Go.Proofs.YtohkllmhknjkoaaDoor.RValid Go.Proofs.YtohkllmhknjkoaaDoor.Area Go.Proofs.YtohkllmhknjkoaaDoor.Bal Go.Proofs.YtohkllmhknjkoaaDoor.Colour Go.Proofs.YtohkllmhknjkoaaDoor.Rects Go.Proofs.YtohkllmhknjkoaaDoor.Cover Go.Proofs.YtohkllmhknjkoaaDoor.CoverS Go.Proofs.YtohkllmhknjkoaaDoor.CovM Go.Proofs.YtohkllmhknjkoaaDoor.PartS Go.Proofs.YtohkllmhknjkoaaDoor.PartI Go.Proofs.YtohkllmhknjkoaaDoor.PartM
set_option linter.unusedVariables false

/-- both find one truth value -/
theorem both (r c : Int) (s : ByteArray) (hs : s.size ≤ maxLen) (xs : List (Int × Int)) : ∃ t : Bool,
    (xs.length ≤ 1048576 → ∀ v w, RV w w.heap.size v xs → Calls Tryd.prog 32 #[mat r c s, v] w fun e w' => e = .returned (.bool t) ∧ Below w.heap.size w w') ∧
    (∀ v w, RV w w.heap.size v xs → Calls Tryd.prog 31 #[mat r c s, v] w fun e w' => e = .returned (.bool t) ∧ Below w.heap.size w w') := by
  by_cases hv : validB r c s = true
  · obtain ⟨R, C, E, rfl, rfl, h1, h2, h3, h4, rfl⟩ := valid_form hv
    have hbd := fun W => board_yes R C E h1 h2 h3 h4 hs hv W
    have z64 := pat64 (onB (fun x y => !E x y) R C) (onB_lt _ R C h4)
    have o64 := pat64 (onB E R C) (onB_lt _ R C h4)
    have hcv : ∀ r c, 0 ≤ colR E R C r c → ∃ RS CS : Nat, r = (RS : Int) ∧ c = (CS : Int) ∧ 1 ≤ RS ∧ RS < 256 ∧ 1 ≤ CS ∧ CS < 256 := fun r c h => by
      obtain ⟨RS, CS, e1, e2, k1, k2, k3, k4, k5, k6⟩ := hp_any (E := E) h2 h4 ((col_plain E R C h2 h4 r c).1 h)
      exact ⟨RS, CS, e1, e2, k1, k5, k3, k6⟩
    refine ⟨_, fun hn v w hiv => spec_part R C (R * C) (prod_le h2 h4) _ hs true hv (fun _ => wrap_prod R C h2 h4) _ (fun r c W => colR_any E R C h1 h2 h3 h4 hs hv r c W) hcv xs hn v w hiv, fun v w hiv => ?_⟩
    rw [Bool.true_and, part_eq E R C h1 h2 h4 xs]
    exact impl_part R C h2 h4 _ _ z64 o64 (.inl h1) _ _ _ hbd xs v w hiv
  · have hv' : validB r c s = false := by simpa using hv
    refine ⟨false, fun hn v w hiv => ?_, fun v w hiv => ?_⟩
    · have h := spec_part r c 0 (by omega) s hs false hv' (fun h => by cases h) (fun _ _ => -2) (fun x y W => ?_) (fun _ _ h => absurd h (by decide)) xs hn v w hiv
      · exact h
      · have h := spec_col r c s x y false 0 (fun W => spec_rv_no r c s hs hv' x y W) (fun h => by cases h) W
        rw [if_neg (by decide)] at h
        exact h
    · have h := impl_part 0 0 (by omega) (by omega) 0 0 (by omega) (by omega) (.inr ⟨rfl, rfl, rfl, rfl⟩) r c s (fun W => ?_) xs v w hiv
      · rw [show partI 0 0 0 0 xs = false from ?_] at h
        · exact h
        · unfold partI
          rw [decide_eq_false (show ¬ (1 ≤ 0) by omega), Bool.false_and, Bool.and_false]
      · have h := board_no r c s hs hv' W
        rw [show pat (onB (fun _ _ => true) 0 0) 8 = 0 from (pat_zero 8 _).2 fun x _ => by unfold onB; rw [if_neg (by omega)], show pat (onB (fun _ _ => false) 0 0) 8 = 0 from (pat_zero 8 _).2 fun x _ => by unfold onB; rw [if_neg (by omega)]] at h
        exact h

/-- the law's own copy of the matrix -/
def LBox (w : World) (b : Nat) (r c : Int) (s : ByteArray) : Prop := MHolds w b 23 r c s
theorem LBox.on {w w1 : World} {b : Nat} {r c : Int} {s : ByteArray} (h : LBox w b r c s) (hb : Below w.heap.size w w1) : LBox w1 b r c s := mh_on h hb

end Go.Proofs.YtohkllmhknjkoaaDoor.fnExactIsPartition

