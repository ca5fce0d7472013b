/-
  The walk of the drawn law on AcceptsRow and AcceptsCol.
-/
import Derived.Test.YtcafingoghoijaaDrawAc
import Derived.Test.YtcafingoghoijaaAccV
import Derived.Test.YtcafingoghoijaaAreaI
namespace Go.Proofs.Ytcafingoghoijaa.fnAccepts
open Go.RowKit Go.Proofs.Ytcafingoghoijaa.Plain Go.Proofs.Ytcafingoghoijaa.Pat Go.Proofs.Ytcafingoghoijaa.Rect Go.Proofs.Ytcafingoghoijaa.Rects Go.Proofs.Ytcafingoghoijaa.Proof Go.Proofs.Ytcafingoghoijaa.Accept Go.Proofs.Ytcafingoghoijaa.AccV Go.Proofs.Ytcafingoghoijaa.Rd
set_option linter.unusedVariables false

theorem at_ {w W : World} {v : Value} {xs : List (Int × Int)} (h : RV w w.heap.size v xs) (hb : Below w.heap.size w W) : RV W W.heap.size v xs := (h.later (Nat.le_refl _) hb).mono hb.size
/-- so many of the first k are accepted -/
def cnt (q : Int × Int) (cols : Bool) (k : Nat) : Nat := sumN (fun t => (acc q (t : Int) cols).toNat) k
theorem cnt_next (q : Int × Int) (cols : Bool) (k : Nat) : cnt q cols (k + 1) = cnt q cols k + (acc q (k : Int) cols).toNat := rfl
theorem cnt_le (q : Int × Int) (cols : Bool) : ∀ k, cnt q cols k ≤ k
  | 0 => Nat.le_refl _
  | k + 1 => by
    have := cnt_le q cols k
    rw [cnt_next]
    cases acc q (k : Int) cols <;> simp <;> omega
theorem cnt_no {q : Int × Int} (h : someB q.1 q.2 = false) (cols : Bool) : ∀ k, cnt q cols k = 0
  | 0 => rfl
  | k + 1 => by
    rw [cnt_next, cnt_no h cols k]
    unfold acc
    rw [h]
    rfl
theorem cnt_yes {q : Int × Int} (h : someB q.1 q.2 = true) (cols : Bool) (S : Nat) (hs : side q cols = (S : Int)) (hl : S < 256) : cnt q cols 8 = pop8 S := by
  rw [pop8_bits S hl]
  unfold cnt
  refine sumN_congr _ _ 8 fun t ht => ?_
  unfold acc tb
  rw [h, hs, if_pos (by omega)]
  rfl

set_option maxHeartbeats 8000000 in
theorem walk (v : Value) (n : Nat) (w : World) (h : ByteArg w v n) :
    Calls Try.prog 10 #[v] w fun e w' => e = .returned (.bool true) ∧ Below w.heap.size w w' := by
  obtain ⟨hn0, a, c, rfl, hc, hb0⟩ := id h
  clear hb0
  have HD := Lib.hid (Go.Proofs.Ytcafingoghoijaa.DrawAc.draw_any _ n w h)
  clear h
  by_cases hbig : 1048576 < n
  · have hbi : (1048576 : Int) < (n : Int) := by omega
    go_enter Try.func10, Try.ntmps10
    go_wp2_with fail
    go_ret
    exact ⟨rfl, Below.refl _ _⟩
  · have hbi : ¬ (1048576 : Int) < (n : Int) := by omega
    go_enter Try.func10, Try.ntmps10
    go_wp2_with fail
    refine HD.out.mono ?_
    rintro e w1 ⟨lv, xs, pf, x, rfl, hl, hrv, hb⟩
    obtain ⟨p, k, rfl⟩ := hrv.slice
    have hlen : xs.length ≤ 1048576 := by omega
    have HV1 := Lib.hid hrv
    have HB1 := Lib.hid hb
    clear hrv hb HD hbig hbi
    by_cases hp : 0 ≤ pf ∧ pf < (xs.length : Int)
    · obtain ⟨j, rfl⟩ := Int.eq_ofNat_of_zero_le hp.1
      have hj : j < xs.length := by omega
      have hp1 : decide ((j : Int) < 0) = false := decide_eq_false (by omega)
      have hp2 : decide ((xs.length : Int) ≤ (j : Int)) = false := decide_eq_false (by omega)
      have hp3 : decide (xs.length ≤ j) = false := decide_eq_false (by omega)
      have HA := Lib.hid (fun i W hv => accRow xs (.slice p xs.length k) j hj i W hv)
      have HC := Lib.hid (fun i W hv => accCol xs (.slice p xs.length k) j hj i W hv)
      have HSA := Lib.hid (fun W hv => specRow xs hlen (.slice p xs.length k) j hj x W hv)
      have HSC := Lib.hid (fun W hv => specCol xs hlen (.slice p xs.length k) j hj x W hv)
      have HXJ : Hid (∀ W, RV W W.heap.size (.slice p xs.length k) xs → ∃ b off, p = some ⟨b, off, none⟩ ∧ b < W.heap.size ∧ W.cell? ⟨b, off + j * 2, none⟩ = some (.int .i64 xs[j].1) ∧ W.cell? ⟨b, off + j * 2 + 1, none⟩ = some (.int .i64 xs[j].2)) := fun W hW => by
        obtain ⟨b, off, c, he, h1, h2, h3⟩ := rv_at hW j hj
        injection he with he1 he2 he3
        exact ⟨b, off, he1, h1, h2, h3⟩
      obtain ⟨q, hq⟩ : ∃ q, xs[j] = q := ⟨_, rfl⟩
      rw [hq] at HA HC HSA HSC HXJ
      clear hq hp
      obtain ⟨a1, ha1⟩ : ∃ b, acc q x false = b := ⟨_, rfl⟩
      obtain ⟨a2, ha2⟩ : ∃ b, acc q x true = b := ⟨_, rfl⟩
      have HA1 := Lib.hid (HA.out x)
      have HC1 := Lib.hid (HC.out x)
      rw [ha1] at HA1 HSA
      rw [ha2] at HC1 HSC
      clear ha1 ha2
      go_wp2_with fail
      refine (HA1.out _ HV1.out).mono ?_
      rintro e w2 ⟨rfl, hb2⟩
      have HV2 := Lib.hid (at_ HV1.out hb2)
      have HB2 := Lib.hid (HB1.out.trans (hb2.mono HB1.out.size))
      clear hb2 HV1 HB1 HA1
      go_wp2_with fail
      refine (HC1.out _ HV2.out).mono ?_
      rintro e w3 ⟨rfl, hb3⟩
      have HV3 := Lib.hid (at_ HV2.out hb3)
      have HB3 := Lib.hid (HB2.out.trans (hb3.mono HB2.out.size))
      clear hb3 HV2 HB2 HC1
      go_wp2_with fail
      refine (HSA.out _ HV3.out).mono ?_
      rintro e w4 ⟨rfl, hb4⟩
      have HV4 := Lib.hid (at_ HV3.out hb4)
      have HB4 := Lib.hid (HB3.out.trans (hb4.mono HB3.out.size))
      clear hb4 HV3 HB3 HSA
      have hna : (a1 != a1) = false := by simp
      have hnb : (a2 != a2) = false := by simp
      go_wp2_with fail
      refine (HSC.out _ HV4.out).mono ?_
      rintro e w5 ⟨rfl, hb5⟩
      have HV5 := Lib.hid (at_ HV4.out hb5)
      have HB5 := Lib.hid (HB4.out.trans (hb5.mono HB4.out.size))
      clear hb5 HV4 HB4 HSC
      go_wp2_with fail
      clear hna hnb
      go_loopw [8, 9, 10] (fun r c i wr => ∃ t : Nat, t ≤ 8 ∧ r = .int .i64 (cnt q false t : Nat) ∧ c = .int .i64 (cnt q true t : Nat) ∧ i = .int .i64 (t : Int) ∧ Below w5.heap.size w5 wr) (fun _ _ i _ => 8 - (intOf i).toNat)
      case atStart => exact ⟨0, Nat.zero_le _, rfl, rfl, rfl, Below.refl _ _⟩
      case round =>
        obtain ⟨t, ht, rfl, rfl, rfl, hbr⟩ := hrel
        have HVR := Lib.hid (at_ HV5.out hbr)
        have HBR := Lib.hid hbr
        clear hbr
        by_cases hlt : t < 8
        · have hti : (t : Int) < 8 := by omega
          have HAT := Lib.hid (HA.out (t : Int))
          have HCT := Lib.hid (HC.out (t : Int))
          have hn1 := cnt_next q false t
          have hn2 := cnt_next q true t
          have l1 := cnt_le q false t
          have l2 := cnt_le q true t
          obtain ⟨b1, h1⟩ : ∃ b, acc q (t : Int) false = b := ⟨_, rfl⟩
          obtain ⟨b2, h2⟩ : ∃ b, acc q (t : Int) true = b := ⟨_, rfl⟩
          rw [h1] at HAT hn1
          rw [h2] at HCT hn2
          have HN := Lib.hid (And.intro hn1 hn2)
          obtain ⟨m1, hm1⟩ : ∃ m, cnt q false t = m := ⟨_, rfl⟩
          obtain ⟨m2, hm2⟩ : ∃ m, cnt q true t = m := ⟨_, rfl⟩
          rw [hm1] at l1 HN ⊢
          rw [hm2] at l2 HN ⊢
          clear hn1 hn2 h1 h2 hm1 hm2
          go_wp2_with fail
          refine (HAT.out _ HVR.out).mono ?_
          rintro e w6 ⟨rfl, hb6⟩
          have HV6 := Lib.hid (at_ HVR.out hb6)
          have HB6 := Lib.hid (HBR.out.trans (hb6.mono HBR.out.size))
          clear hb6 HVR HBR HAT
          cases b1 <;> cases b2
          all_goals
            go_wp2_with fail
            refine (HCT.out _ HV6.out).mono ?_
            rintro e w7 ⟨rfl, hb7⟩
            have HB7 := Lib.hid (HB6.out.trans (hb7.mono HB6.out.size))
            clear hb7 HV6 HB6 HCT
            go_wp2_with fail
            go_roundw
            case rel =>
              first
                | exact ⟨t + 1, by omega, by rw [HN.out.1]; first | rfl | go_num, by rw [HN.out.2]; first | rfl | go_num, by go_num, HB7.out⟩
                | ((repeat apply Exists.intro)
                   refine ⟨?x, rfl⟩
                   exact ⟨t + 1, by omega, by rw [HN.out.1]; first | rfl | go_num, by rw [HN.out.2]; first | rfl | go_num, by go_num, HB7.out⟩)
            case measure => simp [intOf]; omega
        · obtain rfl : t = 8 := by omega
          obtain ⟨b, off, rfl, hbl, c0, c1⟩ := HXJ.out _ HVR.out
          cases hs : someB q.1 q.2 with
          | false =>
            have HAR := Lib.hid (fun W => Go.Proofs.Ytcafingoghoijaa.AreaI.impl_area_no q.1 q.2 hs W)
            have e1 := cnt_no hs false 8
            have e2 := cnt_no hs true 8
            rw [e1, e2]
            obtain ⟨x0, hx0⟩ : ∃ a, q.1 = a := ⟨_, rfl⟩
            obtain ⟨y0, hy0⟩ : ∃ a, q.2 = a := ⟨_, rfl⟩
            rw [hx0, hy0] at HAR
            rw [hx0] at c0
            rw [hy0] at c1
            clear e1 e2 hx0 hy0 hs
            go_wp2_with fail
            refine (HAR.out _).mono ?_
            rintro e w6 ⟨rfl, hb6⟩
            have HB6 := Lib.hid (HBR.out.trans (hb6.mono HBR.out.size))
            clear hb6 HBR HAR c0 c1
            go_wp2_with fail
            go_ret
            exact ⟨rfl, HB5.out.trans (HB6.out.mono HB5.out.size)⟩
          | true =>
            have hb := (someB_iff _ _).1 hs
            obtain ⟨R, hR⟩ := Int.eq_ofNat_of_zero_le (show 0 ≤ q.1 by omega)
            obtain ⟨C, hC⟩ := Int.eq_ofNat_of_zero_le (show 0 ≤ q.2 by omega)
            have e1 := cnt_yes hs false R (by simp only [side]; exact hR) (by omega)
            have e2 := cnt_yes hs true C (by simp only [side]; exact hC) (by omega)
            have HAR := Lib.hid (fun W => Go.Proofs.Ytcafingoghoijaa.AreaI.impl_area R C (by omega) (by omega) (by omega) (by omega) W)
            rw [hR] at c0
            rw [hC] at c1
            rw [e1, e2]
            have p1 := pop8_le R
            have p2 := pop8_le C
            obtain ⟨A, hA⟩ : ∃ A, pop8 R = A := ⟨_, rfl⟩
            obtain ⟨B, hB⟩ : ∃ B, pop8 C = B := ⟨_, rfl⟩
            rw [hA] at HAR p1 ⊢
            rw [hB] at HAR p2 ⊢
            have hAB : A * B ≤ 8 * 8 := Nat.mul_le_mul p1 p2
            have hw : IntKind.i64.wrap ((A : Int) * (B : Int)) = ((A * B : Nat) : Int) := by
              rw [show ((A : Int) * (B : Int)) = ((A * B : Nat) : Int) by simp]
              exact IntWalk.i64_in _ ⟨by omega, by omega⟩
            obtain ⟨D, hDD⟩ : ∃ D : Nat, A * B = D := ⟨_, rfl⟩
            rw [hDD] at HAR hw hAB
            have hneg : ((D : Int) == -1) = false := by rw [beq_eq_false_iff_ne]; omega
            clear e1 e2 hs hb hR hC hA hB hDD
            go_wp2_with fail
            refine (HAR.out _).mono ?_
            rintro e w6 ⟨rfl, hb6⟩
            have HB6 := Lib.hid (HBR.out.trans (hb6.mono HBR.out.size))
            clear hb6 HBR HAR c0 c1
            go_wp2_with fail
            go_ret
            exact ⟨by first | rfl | (simp; done), HB5.out.trans (HB6.out.mono HB5.out.size)⟩
    · have HA := Lib.hid (fun W hv => outRow xs (.slice p xs.length k) pf x hp W hv)
      have HC := Lib.hid (fun W hv => outCol xs (.slice p xs.length k) pf x hp W hv)
      have HSA := Lib.hid (fun W hv => soutRow xs hlen (.slice p xs.length k) pf x hp W hv)
      have HSC := Lib.hid (fun W hv => soutCol xs hlen (.slice p xs.length k) pf x hp W hv)
      have HP := Lib.hid hp
      clear hp
      go_wp2_with fail
      refine (HA.out _ HV1.out).mono ?_
      rintro e w2 ⟨rfl, hb2⟩
      have HV2 := Lib.hid (at_ HV1.out hb2)
      have HB2 := Lib.hid (HB1.out.trans (hb2.mono HB1.out.size))
      clear hb2 HV1 HB1 HA
      go_wp2_with fail
      refine (HC.out _ HV2.out).mono ?_
      rintro e w3 ⟨rfl, hb3⟩
      have HV3 := Lib.hid (at_ HV2.out hb3)
      have HB3 := Lib.hid (HB2.out.trans (hb3.mono HB2.out.size))
      clear hb3 HV2 HB2 HC
      go_wp2_with fail
      refine (HSA.out _ HV3.out).mono ?_
      rintro e w4 ⟨rfl, hb4⟩
      have HV4 := Lib.hid (at_ HV3.out hb4)
      have HB4 := Lib.hid (HB3.out.trans (hb4.mono HB3.out.size))
      clear hb4 HV3 HB3 HSA
      go_wp2_with fail
      refine (HSC.out _ HV4.out).mono ?_
      rintro e w5 ⟨rfl, hb5⟩
      have HB5 := Lib.hid (HB4.out.trans (hb5.mono HB4.out.size))
      clear hb5 HV4 HB4 HSC
      by_cases hneg : pf < 0
      · go_wp2_with fail
        go_ret
        exact ⟨rfl, HB5.out⟩
      · have hge : (xs.length : Int) ≤ pf := by have := HP.out; omega
        go_wp2_with fail
        go_ret
        exact ⟨rfl, HB5.out⟩
end Go.Proofs.Ytcafingoghoijaa.fnAccepts
