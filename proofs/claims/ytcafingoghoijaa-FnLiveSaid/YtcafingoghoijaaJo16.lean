/-
  Texts of one seat, joined: DrawPf, ProofLaw.
-/
import Derived.Test.YtcafingoghoijaaJo1
import Derived.Test.YtcafingoghoijaaJo14
import Derived.Test.YtcafingoghoijaaAccV
/-
  The drawing function DrawProofOf.
-/
namespace Go.Proofs.Ytcafingoghoijaa.DrawPf
open Go Go.RowKit Go.Proofs.Ytcafingoghoijaa.Plain Go.Proofs.Ytcafingoghoijaa.Base Go.Proofs.Ytcafingoghoijaa.Rd Go.Proofs.Ytcafingoghoijaa.Rd2 Go.Proofs.Ytcafingoghoijaa.DrawQ
open Go.Proofs.Ytcafingoghoijaa.Rects (RV)
open Go.Proofs.Ytcafingoghoijaa.Marks (flat rv_own)
set_option linter.unusedVariables false

set_option maxHeartbeats 2000000 in
theorem draw_any (v : Value) (n : Nat) (w : World) (h : ByteArg w v n) :
    Calls Try.prog 31 #[v] w fun e w' => ∃ (lv : Value) (xs : List (Int × Int)) (x y : Int), e = .returned (.tuple #[lv, .int .i64 x, .int .i64 y]) ∧ xs.length ≤ 300 ∧ RV w' w'.heap.size lv xs ∧ Below w.heap.size w w' := by
  have HO := Lib.hid (open_any v n w h)
  clear h
  go_enter Try.func31, Try.ntmps31
  go_wp2_with fail
  refine HO.out.mono ?_
  rintro e w1 ⟨g, rfl, hr, hb, hg⟩
  have HL := Lib.hid (list_any g 0 (by omega) w1 hr)
  have HB1 := Lib.hid (And.intro hb hg)
  have hg1 := hr.lt
  clear hr hb hg HO
  go_wp2_with fail
  refine HL.out.mono ?_
  rintro e w2 ⟨lv, xs, p2, rfl, hl, hrow, h2, h3, hr2, ha2⟩
  have HS := Lib.hid (side_any g p2 (by omega) w2 hr2)
  have HO2 := Lib.hid hrow
  have HA2 := Lib.hid ha2
  clear hr2 hrow ha2 HL
  go_wp2_with fail
  refine HS.out.mono ?_
  rintro e w3 ⟨x, rfl, _, _, hr3, ha3⟩
  have HT := Lib.hid (side_any g (p2 + 2) (by omega) w3 hr3)
  have HO3 := Lib.hid (own_apt HO2.out ha3 hg1)
  have HA3 := Lib.hid (HA2.out.trans ha3)
  clear hr3 ha3 HS HO2 HA2
  go_wp2_with fail
  refine HT.out.mono ?_
  rintro e w4 ⟨y, rfl, _, _, hr4, ha4⟩
  have HO4 := Lib.hid (own_apt HO3.out ha4 hg1)
  have HA4 := Lib.hid (HA3.out.trans ha4)
  clear hr4 ha4 HT HO3 HA3
  go_wp2_with fail
  go_returns
  exact ⟨lv, xs, x, y, rfl, hl, rv_own HO4.out (by omega), HA4.out.below HB1.out.1 HB1.out.2⟩
end Go.Proofs.Ytcafingoghoijaa.DrawPf

/-
  The walk of the drawn law on ProofOf.
-/
namespace Go.Proofs.Ytcafingoghoijaa.fnProofOf
open Go.RowKit Go.Proofs.Ytcafingoghoijaa.Plain Go.Proofs.Ytcafingoghoijaa.Rect Go.Proofs.Ytcafingoghoijaa.Rects Go.Proofs.Ytcafingoghoijaa.GuessM Go.Proofs.Ytcafingoghoijaa.GuessI Go.Proofs.Ytcafingoghoijaa.Proof Go.Proofs.Ytcafingoghoijaa.Accept Go.Proofs.Ytcafingoghoijaa.AccV Go.Proofs.Ytcafingoghoijaa.Rd
set_option linter.unusedVariables false

theorem least_in {f : Nat → Bool} {n : Nat} {j : Nat} (hj : j < n) (h : f j = true) : 0 ≤ leastK f n ∧ leastK f n ≤ (j : Int) := by
  have hm : j ∈ keep f n := (mem_keep f j n).2 ⟨hj, h⟩
  have hr := keep_rises f n
  unfold leastK
  cases hk : keep f n with
  | nil => rw [hk] at hm; cases hm
  | cons a t =>
    rw [hk] at hm hr
    simp only
    rcases List.mem_cons.1 hm with rfl | h2
    · omega
    · have := (List.pairwise_cons.1 hr).1 j h2
      omega
theorem least_is (f : Nat → Bool) (n : Nat) : leastK f n = -1 ∨ ∃ j : Nat, leastK f n = (j : Int) ∧ j < n ∧ f j = true := by
  unfold leastK
  cases hk : keep f n with
  | nil => exact .inl rfl
  | cons a t =>
    have ha := (mem_keep f a n).1 (by rw [hk]; exact List.mem_cons_self)
    exact .inr ⟨a, rfl, ha.1, ha.2⟩
theorem at_ {w W : World} {v : Value} {xs : List (Int × Int)} (h : RV w w.heap.size v xs) (hb : Below w.heap.size w W) : RV W W.heap.size v xs := (h.later (Nat.le_refl _) hb).mono hb.size

set_option maxHeartbeats 4000000 in
theorem walk (v : Value) (n : Nat) (w : World) (h : ByteArg w v n) :
    Calls Try.prog 9 #[v] w fun e w' => e = .returned (.bool true) ∧ Below w.heap.size w w' := by
  obtain ⟨hn0, a, c, rfl, hc, hb0⟩ := id h
  clear hb0
  have HD := Lib.hid (Go.Proofs.Ytcafingoghoijaa.DrawPf.draw_any _ n w h)
  clear h
  by_cases hbig : 1048576 < n
  · have hbi : (1048576 : Int) < (n : Int) := by omega
    go_enter Try.func9, Try.ntmps9
    go_wp2_with fail
    go_ret
    exact ⟨rfl, Below.refl _ _⟩
  · have hbi : ¬ (1048576 : Int) < (n : Int) := by omega
    go_enter Try.func9, Try.ntmps9
    go_wp2_with fail
    refine HD.out.mono ?_
    rintro e w1 ⟨lv, xs, x, y, rfl, hl, hrv, hb⟩
    obtain ⟨p, k, rfl⟩ := hrv.slice
    have hlen : xs.length ≤ 1048576 := by omega
    have HI := Lib.hid (fun w v hv => impl_any xs hlen v x y w hv)
    have HS := Lib.hid (fun w v hv => spec_any xs hlen v x y w hv)
    have HR1 := Lib.hid (fun j hj hh => least_in (f := has xs x y) (n := xs.length) (j := j) hj hh)
    have HR2 := Lib.hid (least_is (has xs x y) xs.length)
    obtain ⟨r, hr⟩ : ∃ r, leastK (has xs x y) xs.length = r := ⟨_, rfl⟩
    rw [hr] at HI HS HR1 HR2
    have HV1 := Lib.hid hrv
    have HB1 := Lib.hid hb
    clear hr hrv hb HD hbig hbi
    go_wp2_with fail
    refine (HI.out _ _ HV1.out).mono ?_
    rintro e w2 ⟨rfl, hb2⟩
    have HV2 := Lib.hid (at_ HV1.out hb2)
    have HB2 := Lib.hid (HB1.out.trans (hb2.mono HB1.out.size))
    clear hb2 HV1 HB1 HI
    go_wp2_with fail
    refine (HS.out _ _ HV2.out).mono ?_
    rintro e w3 ⟨rfl, hb3⟩
    have HV3 := Lib.hid (at_ HV2.out hb3)
    have HB3 := Lib.hid (HB2.out.trans (hb3.mono HB2.out.size))
    clear hb3 HV2 HB2 HS
    go_wp2_with fail
    go_loopw [7] (fun i wr => ∃ j : Nat, j ≤ xs.length ∧ i = .int .i64 (j : Int) ∧ Below w3.heap.size w3 wr) (fun i _ => xs.length - (intOf i).toNat)
    case atStart => exact ⟨0, Nat.zero_le _, rfl, Below.refl _ _⟩
    case round =>
      obtain ⟨j, hj, rfl, hbr⟩ := hrel
      have HVR := Lib.hid (at_ HV3.out hbr)
      have HBR := Lib.hid hbr
      clear hbr
      by_cases hlt : j < xs.length
      · obtain ⟨b, off, cc, he, hbl, c0, c1⟩ := rv_at HVR.out j hlt
        injection he with he1 he2 he3
        subst he1 he3
        have HA := Lib.hid (fun W hv => accRow xs (.slice (some ⟨b, off, none⟩) xs.length k) j hlt x W hv)
        have HC := Lib.hid (fun W hv => accCol xs (.slice (some ⟨b, off, none⟩) xs.length k) j hlt y W hv)
        have HN := Lib.hid (fun W => inR_impl xs[j] x y W)
        have hab := acc_both xs[j] x y
        have hat := has_at xs x y j hlt
        have HQ := Lib.hid (HR1.out j hlt)
        rw [hat] at HQ
        obtain ⟨b1, h1⟩ : ∃ b, acc xs[j] x false = b := ⟨_, rfl⟩
        obtain ⟨b2, h2⟩ : ∃ b, acc xs[j] y true = b := ⟨_, rfl⟩
        rw [← hab] at HN HQ
        rw [h1] at HA HN HQ
        rw [h2] at HC HN HQ
        obtain ⟨q0, hq0⟩ : ∃ a, xs[j].1 = a := ⟨_, rfl⟩
        obtain ⟨q1, hq1⟩ : ∃ b, xs[j].2 = b := ⟨_, rfl⟩
        rw [hq0, hq1] at HN
        rw [hq0] at c0
        rw [hq1] at c1
        clear hab hat h1 h2 hq0 hq1
        go_wp2_with fail
        refine (HA.out _ HVR.out).mono ?_
        rintro e w4 ⟨rfl, hb4⟩
        have c0 := (hb4.cell (p := ⟨b, off + j * 2, none⟩) hbl).trans c0
        have c1 := (hb4.cell (p := ⟨b, off + j * 2 + 1, none⟩) hbl).trans c1
        have hs4 := hb4.size
        have HV4 := Lib.hid (at_ HVR.out hb4)
        have HB4 := Lib.hid (HBR.out.trans (hb4.mono HBR.out.size))
        clear hb4 HVR HBR HA
        cases b1 with
        | false =>
          rw [Bool.false_and] at HN
          clear HC HQ
          go_wp2_with fail
          refine (HN.out _).mono ?_
          rintro e w5 ⟨rfl, hb5⟩
          have HB5 := Lib.hid (HB4.out.trans (hb5.mono HB4.out.size))
          clear hb5 HB4 HN c0 c1
          go_wp2_with fail
          go_roundw
          case rel => exact ⟨j + 1, by omega, by go_num, HB5.out⟩
          case measure => simp [intOf]; omega
        | true =>
          go_wp2_with fail
          refine (HC.out _ HV4.out).mono ?_
          rintro e w5 ⟨rfl, hb5⟩
          have c0 := (hb5.cell (p := ⟨b, off + j * 2, none⟩) (by show b < _; omega)).trans c0
          have c1 := (hb5.cell (p := ⟨b, off + j * 2 + 1, none⟩) (by show b < _; omega)).trans c1
          have HB5 := Lib.hid (HB4.out.trans (hb5.mono HB4.out.size))
          clear hb5 HB4 HV4 HC
          cases b2 with
          | false =>
            rw [Bool.and_false] at HN
            clear HQ
            go_wp2_with fail
            refine (HN.out _).mono ?_
            rintro e w6 ⟨rfl, hb6⟩
            have HB6 := Lib.hid (HB5.out.trans (hb6.mono HB5.out.size))
            clear hb6 HB5 HN c0 c1
            go_wp2_with fail
            go_roundw
            case rel => exact ⟨j + 1, by omega, by go_num, HB6.out⟩
            case measure => simp [intOf]; omega
          | true =>
            rw [Bool.and_true] at HN HQ
            have hq := HQ.out rfl
            have hq1 : ¬ r < 0 := by omega
            have hq2 : ¬ (j : Int) < r := by omega
            clear hq HQ
            go_wp2_with fail
            refine (HN.out _).mono ?_
            rintro e w6 ⟨rfl, hb6⟩
            have HB6 := Lib.hid (HB5.out.trans (hb6.mono HB5.out.size))
            clear hb6 HB5 HN c0 c1
            go_wp2_with fail
            go_roundw
            case rel => exact ⟨j + 1, by omega, by go_num, HB6.out⟩
            case measure => simp [intOf]; omega
      · obtain rfl : j = xs.length := by omega
        rcases HR2.out with rfl | ⟨t, rfl, ht, hh⟩
        · go_wp2_with fail
          go_ret
          exact ⟨rfl, HB3.out.trans (HBR.out.mono HB3.out.size)⟩
        · have hat := has_at xs x y t ht
          rw [hh, ← acc_both] at hat
          have hb := hat.symm
          rw [Bool.and_eq_true] at hb
          have HA := Lib.hid (fun W hv => accRow xs (.slice p xs.length k) t ht x W hv)
          have HC := Lib.hid (fun W hv => accCol xs (.slice p xs.length k) t ht y W hv)
          rw [hb.1] at HA
          rw [hb.2] at HC
          have htm : ((t : Int) == -1) = false := by rw [beq_eq_false_iff_ne]; omega
          clear hat hb hh HR1 HR2
          go_wp2_with fail
          refine (HA.out _ HVR.out).mono ?_
          rintro e w4 ⟨rfl, hb4⟩
          have HV4 := Lib.hid (at_ HVR.out hb4)
          have HB4 := Lib.hid (HBR.out.trans (hb4.mono HBR.out.size))
          clear hb4 HVR HBR HA
          go_wp2_with fail
          refine (HC.out _ HV4.out).mono ?_
          rintro e w5 ⟨rfl, hb5⟩
          have HB5 := Lib.hid (HB4.out.trans (hb5.mono HB4.out.size))
          clear hb5 HB4 HV4 HC
          go_wp2_with fail
          go_ret
          exact ⟨rfl, HB3.out.trans (HB5.out.mono HB3.out.size)⟩
end Go.Proofs.Ytcafingoghoijaa.fnProofOf

